/- Plain facts: the bytes of a state. -/
import Derived.Test.YtndnbkgejdindaaMeldPlain
namespace Go.Proofs.Ytndnbkgejdindaa

def OkC (p : Int) (c : Cel) : Prop := 1 ≤ c.key.length ∧ c.key.length ≤ 1200 ∧ c.val.length ≤ 4000 ∧ (c.gone = true → c.val = []) ∧ 1 ≤ c.since ∧ c.since ≤ p
def OkD (p : Int) (d : Dn) : Prop := (1 ≤ d.client ∧ d.client ≤ 1048576) ∧ (1 ≤ d.number ∧ d.number ≤ 1048576) ∧ 1 ≤ d.pos ∧ d.pos ≤ p

/-- it may be -/
structure MayS (s : Sta) : Prop where
  pos : 0 ≤ s.pos ∧ s.pos ≤ 1048576
  cells : ∀ c ∈ s.cells, OkC s.pos c
  asc : AscC s.cells
  dones : ∀ d ∈ s.dones, OkD s.pos d
  ascD : s.dones.Pairwise (fun a b => dnAhead a b = true)

def encC (c : Cel) : List Int := txt4 c.key ++ (flagB c.gone :: (txt4 c.val ++ le4 c.since.toNat))
def encD (d : Dn) : List Int := le4 d.client.toNat ++ (le4 d.number.toNat ++ (le4 d.pos.toNat ++ [flagB d.kept]))

/-- the bytes of a state -/
def encS (s : Sta) : List Int := le4 s.pos.toNat ++ (le4 s.cells.length ++ (s.cells.flatMap encC ++ (le4 s.dones.length ++ s.dones.flatMap encD)))

def cutC (b : List Int) : Option (Cel × List Int) := match cutT b with
  | some (k, r) => match cutB r with
    | some (g, r) => match cutT r with
      | some (v, r) => match cut4 r with
        | some (n, r) => some (⟨k, v, g, n⟩, r)
        | none => none
      | none => none
    | none => none
  | none => none

def cutD (b : List Int) : Option (Dn × List Int) := match cut4 b with
  | some (c, r) => match cut4 r with
    | some (n, r) => match cut4 r with
      | some (p, r) => match cutB r with
        | some (g, r) => some (⟨c, n, p, g⟩, r)
        | none => none
      | none => none
    | none => none
  | none => none

theorem cutC_enc {p : Int} (hp : p ≤ 1048576) {c : Cel} (h : OkC p c) (r : List Int) : cutC (encC c ++ r) = some (c, r) := by
  have h1 : c.key.length < 4294967296 := by have := h.2.1; omega
  have h2 : c.val.length < 4294967296 := by have := h.2.2.1; omega
  have h3 : c.since.toNat < 4294967296 := by have := h.2.2.2.2; omega
  have h4 : ((c.since.toNat : Nat) : Int) = c.since := by have := h.2.2.2.2; omega
  simp only [cutC, encC, List.append_assoc, List.cons_append, cutT_txt4 h1, cutB_flag, cutT_txt4 h2, cut4_le4 h3, h4]

theorem cutC_inv {b r : List Int} {c : Cel} (hb : Bytes8 b) (h : cutC b = some (c, r)) : b = encC c ++ r := by
  unfold cutC at h
  cases h1 : cutT b with
  | none => rw [h1] at h; cases h
  | some p =>
    obtain ⟨k, r1⟩ := p
    rw [h1] at h
    obtain ⟨e1, -⟩ := cutT_inv hb h1
    have hb1 : Bytes8 r1 := by rw [e1] at hb; exact hb.tail
    cases h2 : cutB r1 with
    | none => simp only [h2] at h; cases h
    | some p =>
      obtain ⟨g, r2⟩ := p
      have e2 := cutB_inv h2
      have hb2 : Bytes8 r2 := by rw [e2] at hb1; exact fun y hy => hb1 y (List.mem_cons_of_mem _ hy)
      cases h3 : cutT r2 with
      | none => simp only [h2, h3] at h; cases h
      | some p =>
        obtain ⟨v, r3⟩ := p
        obtain ⟨e3, -⟩ := cutT_inv hb2 h3
        have hb3 : Bytes8 r3 := by rw [e3] at hb2; exact hb2.tail
        cases h4 : cut4 r3 with
        | none => simp only [h2, h3, h4] at h; cases h
        | some p =>
          obtain ⟨n, r4⟩ := p
          simp only [h2, h3, h4, Option.some.injEq, Prod.mk.injEq] at h
          obtain ⟨rfl, rfl⟩ := h
          obtain ⟨e4, -⟩ := cut4_inv hb3 h4
          rw [e1, e2, e3, e4]
          simp [encC]

theorem cutD_enc {p : Int} (hp : p ≤ 1048576) {d : Dn} (h : OkD p d) (r : List Int) : cutD (encD d ++ r) = some (d, r) := by
  obtain ⟨h1, h2, h3, h4⟩ := h
  have e1 : ((d.client.toNat : Nat) : Int) = d.client := by omega
  have e2 : ((d.number.toNat : Nat) : Int) = d.number := by omega
  have e3 : ((d.pos.toNat : Nat) : Int) = d.pos := by omega
  have f1 : d.client.toNat < 4294967296 := by omega
  have f2 : d.number.toNat < 4294967296 := by omega
  have f3 : d.pos.toNat < 4294967296 := by omega
  simp only [cutD, encD, List.append_assoc, List.cons_append, List.nil_append, cut4_le4 f1, cut4_le4 f2, cut4_le4 f3, cutB_flag, e1, e2, e3]

theorem cutD_inv {b r : List Int} {d : Dn} (hb : Bytes8 b) (h : cutD b = some (d, r)) : b = encD d ++ r := by
  unfold cutD at h
  cases h1 : cut4 b with
  | none => rw [h1] at h; cases h
  | some p =>
    obtain ⟨c, r1⟩ := p
    rw [h1] at h
    obtain ⟨e1, -⟩ := cut4_inv hb h1
    have hb1 : Bytes8 r1 := by rw [e1] at hb; exact hb.tail
    cases h2 : cut4 r1 with
    | none => simp only [h2] at h; cases h
    | some p =>
      obtain ⟨n, r2⟩ := p
      obtain ⟨e2, -⟩ := cut4_inv hb1 h2
      have hb2 : Bytes8 r2 := by rw [e2] at hb1; exact hb1.tail
      cases h3 : cut4 r2 with
      | none => simp only [h2, h3] at h; cases h
      | some p =>
        obtain ⟨q, r3⟩ := p
        obtain ⟨e3, -⟩ := cut4_inv hb2 h3
        cases h4 : cutB r3 with
        | none => simp only [h2, h3, h4] at h; cases h
        | some p =>
          obtain ⟨g, r4⟩ := p
          simp only [h2, h3, h4, Option.some.injEq, Prod.mk.injEq] at h
          obtain ⟨rfl, rfl⟩ := h
          have e4 := cutB_inv h4
          rw [e1, e2, e3, e4]
          simp [encD]

/-- how a state's bytes are cut -/
theorem encS_cut {s : Sta} (h : MayS s) (hc : s.cells.length < 4294967296) (hd : s.dones.length < 4294967296) : ∃ r1 r2 r3, cut4 (encS s) = some (s.pos.toNat, r1) ∧ cut4 r1 = some (s.cells.length, r2) ∧
    cutN cutC s.cells.length r2 = some (s.cells, le4 s.dones.length ++ r3) ∧ cut4 (le4 s.dones.length ++ r3) = some (s.dones.length, r3) ∧ cutN cutD s.dones.length r3 = some (s.dones, []) := by
  have h1 := h.pos
  refine ⟨_, _, s.dones.flatMap encD, cut4_le4 (by omega) _, cut4_le4 hc _, cutN_enc (P := OkC s.pos) (fun x hx r => cutC_enc h1.2 hx r) s.cells h.cells _, cut4_le4 hd _, ?_⟩
  have := cutN_enc (P := OkD s.pos) (fun x hx r => cutD_enc h1.2 hx r) s.dones h.dones []
  rwa [List.append_nil] at this

/-- what is cut so has these bytes -/
theorem encS_inv {b : List Int} (hb : Bytes8 b) {p k m : Nat} {r1 r2 r3 r4 : List Int} {cs : List Cel} {ds : List Dn} (h1 : cut4 b = some (p, r1)) (h2 : cut4 r1 = some (k, r2)) (h3 : cutN cutC k r2 = some (cs, r3)) (h4 : cut4 r3 = some (m, r4)) (h5 : cutN cutD m r4 = some (ds, [])) :
    encS ⟨p, cs, ds⟩ = b := by
  obtain ⟨e1, -⟩ := cut4_inv hb h1
  have b1 : Bytes8 r1 := by rw [e1] at hb; exact hb.tail
  obtain ⟨e2, -⟩ := cut4_inv b1 h2
  have b2 : Bytes8 r2 := by rw [e2] at b1; exact b1.tail
  obtain ⟨e3, l3⟩ := cutN_inv (fun b x r hb h => cutC_inv hb h) k b2 h3
  have b3 : Bytes8 r3 := by rw [e3] at b2; exact b2.tail
  obtain ⟨e4, -⟩ := cut4_inv b3 h4
  have b4 : Bytes8 r4 := by rw [e4] at b3; exact b3.tail
  obtain ⟨e5, l5⟩ := cutN_inv (fun b x r hb h => cutD_inv hb h) m b4 h5
  subst l3 l5
  rw [List.append_nil] at e5
  simp only [encS, Int.toNat_natCast]
  rw [e1, e2, e3, e4, e5]

/-- no two states have the same bytes -/
theorem encS_one {s t : Sta} (hs : MayS s) (ht : MayS t) (l1 : s.cells.length < 4294967296) (l2 : s.dones.length < 4294967296) (l3 : t.cells.length < 4294967296) (l4 : t.dones.length < 4294967296) (h : encS s = encS t) : s = t := by
  obtain ⟨r1, r2, r3, a1, a2, a3, a4, a5⟩ := encS_cut hs l1 l2
  obtain ⟨q1, q2, q3, c1, c2, c3, c4, c5⟩ := encS_cut ht l3 l4
  rw [h, c1] at a1
  simp only [Option.some.injEq, Prod.mk.injEq] at a1
  obtain ⟨p1, rfl⟩ := a1
  rw [c2] at a2
  simp only [Option.some.injEq, Prod.mk.injEq] at a2
  obtain ⟨p2, rfl⟩ := a2
  rw [← p2, c3] at a3
  simp only [Option.some.injEq, Prod.mk.injEq] at a3
  obtain ⟨p3, p4⟩ := a3
  rw [← p4, c4] at a4
  simp only [Option.some.injEq, Prod.mk.injEq] at a4
  obtain ⟨p5, rfl⟩ := a4
  rw [← p5, c5] at a5
  simp only [Option.some.injEq, Prod.mk.injEq, and_true] at a5
  have q1 := hs.pos
  have q2 := ht.pos
  cases s
  cases t
  simp only at p1 p3 a5 q1 q2
  subst p3 a5
  congr 1
  omega

theorem dnAhead_trans {a b c : Dn} (h1 : dnAhead a b = true) (h2 : dnAhead b c = true) : dnAhead a c = true := by
  simp only [dnAhead, decide_eq_true_eq] at h1 h2 ⊢
  omega

end Go.Proofs.Ytndnbkgejdindaa
