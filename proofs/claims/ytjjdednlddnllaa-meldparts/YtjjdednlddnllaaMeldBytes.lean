/- Plain facts: what was read and not touched is as it was. -/
import Derived.Test.YtjjdednlddnllaaMeldPlain
import Derived.Test.YtjjdednlddnllaaTreePlain
namespace Go.Proofs.Ytjjdednlddnllaa

theorem putC_ascC {l : List Cel} (h : AscC l) (c : Cel) : AscC (putC l c) := putC_asc h c ahead_trans

theorem putsK_ascC {p : Int} : ∀ (ws : List Wt) {l : List Cel}, AscC l → AscC (putsK p l ws)
  | [], _, h => h
  | y :: ws, _, h => putsK_ascC ws (putC_ascC h (cellOf p y))

theorem AscC.step {s : Sta} (h : AscC s.cells) (e : Option Itt) : AscC (stepM s e).cells := by
  rcases stepM_cells s e with ⟨e1, -⟩ | ⟨x, -, -, e1⟩
  · rw [e1]; exact h
  · rw [e1]; exact putsK_ascC _ h

theorem AscC.play : ∀ (l : List (Option Itt)) {s : Sta}, AscC s.cells → AscC (playM s l).1.cells
  | [], _, h => h
  | e :: l, _, h => by simp only [playM]; exact AscC.play l (h.step e)

/-- all that stand behind a key -/
theorem all_behind {l : List Cel} {k : List Int} (h : ∀ y ∈ l, ahead k y.key = true) : l.filter (fun x => ahead x.key k) = [] ∧ l.filter (fun x => ahead k x.key) = l := by
  refine ⟨List.filter_eq_nil_iff.2 (fun y hy => ?_), List.filter_eq_self.2 h⟩
  rw [ahead_asymm (h y hy)]
  simp

/-- a cell that does not lie in a range changes nothing there -/
theorem putC_filter (p : List Int → Bool) {c : Cel} (hc : p c.key = false) : ∀ {l : List Cel}, AscC l → (putC l c).filter (fun x => p x.key) = l.filter (fun x => p x.key)
  | [], _ => by simp [putC, hc]
  | x :: l, h => by
    obtain ⟨h1, h2⟩ := List.pairwise_cons.1 h
    cases e1 : ahead x.key c.key with
    | true =>
      have e2 := ahead_asymm e1
      have ih := putC_filter p hc h2
      simp only [putC] at ih ⊢
      simp only [List.filter_cons, e1, e2, if_true, Bool.false_eq_true, if_false, List.cons_append]
      split
      · rw [ih]
      · exact ih
    | false =>
      cases e2 : ahead c.key x.key with
      | true =>
        obtain ⟨a1, a2⟩ := all_behind (l := l) (k := c.key) (fun y hy => ahead_trans e2 (h1 y hy))
        simp only [putC, List.filter_cons, e1, e2, if_true, Bool.false_eq_true, if_false, a1, a2, List.nil_append, hc]
      | false =>
        have ek := ahead_total e1 e2
        obtain ⟨a1, a2⟩ := all_behind (l := l) (k := c.key) (fun y hy => by rw [← ek]; exact h1 y hy)
        have hx : p x.key = false := by rw [ek]; exact hc
        simp only [putC, List.filter_cons, e1, e2, Bool.false_eq_true, if_false, a1, a2, List.nil_append, hc, hx]

/-- touched, or as it was -/
def Same (B : Int) (p : List Int → Bool) (m l : List Cel) : Prop := (∃ c ∈ l, p c.key = true ∧ B < c.since) ∨ l.filter (fun x => p x.key) = m.filter (fun x => p x.key)

theorem Same.put {B : Int} {p : List Int → Bool} {m l : List Cel} (h : Same B p m l) (ha : AscC l) {c : Cel} (hc : B < c.since) : Same B p m (putC l c) := by
  have hself : c ∈ putC l c := List.mem_append.2 (.inr List.mem_cons_self)
  cases hp : p c.key with
  | true => exact .inl ⟨c, hself, hp, hc⟩
  | false =>
    rcases h with ⟨d, hd, hpd, hs⟩ | h
    · have hm : d ∈ (putC l c).filter (fun x => p x.key) := by
        rw [putC_filter p hp ha]
        exact List.mem_filter.2 ⟨hd, hpd⟩
      exact .inl ⟨d, (List.mem_filter.1 hm).1, hpd, hs⟩
    · exact .inr (by rw [putC_filter p hp ha]; exact h)

theorem Same.puts {B q : Int} {p : List Int → Bool} {m : List Cel} (hq : B < q) : ∀ (ws : List Wt) {l : List Cel}, Same B p m l → AscC l → Same B p m (putsK q l ws)
  | [], _, h, _ => h
  | y :: ws, _, h, ha => Same.puts hq ws (h.put ha (c := cellOf q y) hq) (putC_ascC ha _)

theorem Same.play {B : Int} {p : List Int → Bool} {m : List Cel} : ∀ (l : List (Option Itt)) {s : Sta}, Same B p m s.cells → AscC s.cells → B ≤ s.pos → Same B p m (playM s l).1.cells
  | [], _, h, _, _ => h
  | e :: l, s, h, ha, hb => by
    simp only [playM]
    refine Same.play l ?_ (ha.step e) (by rw [stepM_pos]; omega)
    rcases stepM_cells s e with ⟨e1, -⟩ | ⟨x, -, -, e1⟩
    · rw [e1]; exact h
    · rw [e1]; exact h.puts (by omega) _ ha

/-- what was read at a base, and was not touched since, is what stands there -/
theorem reads_same (l m : List (Option Itt)) {x : Itt} (hb : x.base = l.length) (h : codeM (playM noSta (l ++ m)).1 ((playM noSta (l ++ m)).1.pos + 1) (some x) = 0) {r : List Int × List Int} (hr : r ∈ x.reads) :
    (playM noSta l).1.cells.filter (fun c => inRng c.key r) = (playM noSta (l ++ m)).1.cells.filter (fun c => inRng c.key r) := by
  have ha : AscC (playM noSta l).1.cells := AscC.play l List.Pairwise.nil
  have hp : (playM noSta l).1.pos = x.base := by rw [playM_pos, hb]; simp [noSta]
  have hs : Same x.base (fun k => inRng k r) (playM noSta l).1.cells (playM noSta (l ++ m)).1.cells := by
    rw [playM_append]
    exact Same.play m (.inr rfl) ha (by omega)
  have hnt : touchedK (playM noSta (l ++ m)).1.cells x = false := by
    simp only [codeM] at h
    split at h
    · cases h
    · split at h
      · cases h
      · split at h
        · cases h
        · rename_i hh
          simpa using hh
  rcases hs with ⟨c, hc, hpc, hlt⟩ | hs
  · exfalso
    simp only [touchedK, List.any_eq_false, Bool.and_eq_true, decide_eq_true_eq, not_and] at hnt
    exact hnt c hc hlt (List.any_eq_true.2 ⟨r, hr, hpc⟩)
  · exact hs.symm

/-- what lies in a range of a state's entries -/
def pieceK (l : List (List Int × List Int)) (r : List Int × List Int) : List (List Int × List Int) := l.filter (fun e => inRng e.1 r)

theorem piece_cells (l : List Cel) (r : List Int × List Int) : pieceK (snapK l) r = snapK (l.filter (fun c => inRng c.key r)) := by
  simp only [pieceK, snapK, List.filter_map, List.filter_filter]
  congr 1
  congr 1
  funext c
  simp [Bool.and_comm]

end Go.Proofs.Ytjjdednlddnllaa

/- Plain facts: the bytes of a state. -/
namespace Go.Proofs.Ytjjdednlddnllaa

def OkC (p : Int) (c : Cel) : Prop := 1 ≤ c.key.length ∧ c.key.length ≤ 1200 ∧ c.val.length ≤ 4000 ∧ (c.gone = true → c.val = []) ∧ 1 ≤ c.since ∧ c.since ≤ p
def OkD (p : Int) (d : Dn) : Prop := (1 ≤ d.client ∧ d.client ≤ 1048576) ∧ (1 ≤ d.number ∧ d.number ≤ 1048576) ∧ 1 ≤ d.pos ∧ d.pos ≤ p

/-- it may be -/
structure MayS (s : Sta) : Prop where
  pos : 0 ≤ s.pos ∧ s.pos ≤ 1048576
  cells : ∀ c ∈ s.cells, OkC s.pos c
  asc : AscC s.cells
  dones : ∀ d ∈ s.dones, OkD s.pos d
  ascD : s.dones.Pairwise (fun a b => dnAhead a b = true)

def encC (c : Cel) : List Int := txt4 c.key ++ (flagB c.gone :: (txt4 c.val ++ le4 c.since.toNat))
def encD (d : Dn) : List Int := le4 d.client.toNat ++ (le4 d.number.toNat ++ (le4 d.pos.toNat ++ [flagB d.kept]))

/-- the bytes of a state -/
def encS (s : Sta) : List Int := le4 s.pos.toNat ++ (le4 s.cells.length ++ (s.cells.flatMap encC ++ (le4 s.dones.length ++ s.dones.flatMap encD)))

def cutC (b : List Int) : Option (Cel × List Int) := match cutT b with
  | some (k, r) => match cutB r with
    | some (g, r) => match cutT r with
      | some (v, r) => match cut4 r with
        | some (n, r) => some (⟨k, v, g, n⟩, r)
        | none => none
      | none => none
    | none => none
  | none => none

def cutD (b : List Int) : Option (Dn × List Int) := match cut4 b with
  | some (c, r) => match cut4 r with
    | some (n, r) => match cut4 r with
      | some (p, r) => match cutB r with
        | some (g, r) => some (⟨c, n, p, g⟩, r)
        | none => none
      | none => none
    | none => none
  | none => none

theorem cutC_enc {p : Int} (hp : p ≤ 1048576) {c : Cel} (h : OkC p c) (r : List Int) : cutC (encC c ++ r) = some (c, r) := by
  have h1 : c.key.length < 4294967296 := by have := h.2.1; omega
  have h2 : c.val.length < 4294967296 := by have := h.2.2.1; omega
  have h3 : c.since.toNat < 4294967296 := by have := h.2.2.2.2; omega
  have h4 : ((c.since.toNat : Nat) : Int) = c.since := by have := h.2.2.2.2; omega
  simp only [cutC, encC, List.append_assoc, List.cons_append, cutT_txt4 h1, cutB_flag, cutT_txt4 h2, cut4_le4 h3, h4]

theorem cutC_inv {b r : List Int} {c : Cel} (hb : Bytes8 b) (h : cutC b = some (c, r)) : b = encC c ++ r := by
  unfold cutC at h
  cases h1 : cutT b with
  | none => rw [h1] at h; cases h
  | some p =>
    obtain ⟨k, r1⟩ := p
    rw [h1] at h
    obtain ⟨e1, -⟩ := cutT_inv hb h1
    have hb1 : Bytes8 r1 := by rw [e1] at hb; exact hb.tail
    cases h2 : cutB r1 with
    | none => simp only [h2] at h; cases h
    | some p =>
      obtain ⟨g, r2⟩ := p
      have e2 := cutB_inv h2
      have hb2 : Bytes8 r2 := by rw [e2] at hb1; exact fun y hy => hb1 y (List.mem_cons_of_mem _ hy)
      cases h3 : cutT r2 with
      | none => simp only [h2, h3] at h; cases h
      | some p =>
        obtain ⟨v, r3⟩ := p
        obtain ⟨e3, -⟩ := cutT_inv hb2 h3
        have hb3 : Bytes8 r3 := by rw [e3] at hb2; exact hb2.tail
        cases h4 : cut4 r3 with
        | none => simp only [h2, h3, h4] at h; cases h
        | some p =>
          obtain ⟨n, r4⟩ := p
          simp only [h2, h3, h4, Option.some.injEq, Prod.mk.injEq] at h
          obtain ⟨rfl, rfl⟩ := h
          obtain ⟨e4, -⟩ := cut4_inv hb3 h4
          rw [e1, e2, e3, e4]
          simp [encC]

theorem cutD_enc {p : Int} (hp : p ≤ 1048576) {d : Dn} (h : OkD p d) (r : List Int) : cutD (encD d ++ r) = some (d, r) := by
  obtain ⟨h1, h2, h3, h4⟩ := h
  have e1 : ((d.client.toNat : Nat) : Int) = d.client := by omega
  have e2 : ((d.number.toNat : Nat) : Int) = d.number := by omega
  have e3 : ((d.pos.toNat : Nat) : Int) = d.pos := by omega
  have f1 : d.client.toNat < 4294967296 := by omega
  have f2 : d.number.toNat < 4294967296 := by omega
  have f3 : d.pos.toNat < 4294967296 := by omega
  simp only [cutD, encD, List.append_assoc, List.cons_append, List.nil_append, cut4_le4 f1, cut4_le4 f2, cut4_le4 f3, cutB_flag, e1, e2, e3]

theorem cutD_inv {b r : List Int} {d : Dn} (hb : Bytes8 b) (h : cutD b = some (d, r)) : b = encD d ++ r := by
  unfold cutD at h
  cases h1 : cut4 b with
  | none => rw [h1] at h; cases h
  | some p =>
    obtain ⟨c, r1⟩ := p
    rw [h1] at h
    obtain ⟨e1, -⟩ := cut4_inv hb h1
    have hb1 : Bytes8 r1 := by rw [e1] at hb; exact hb.tail
    cases h2 : cut4 r1 with
    | none => simp only [h2] at h; cases h
    | some p =>
      obtain ⟨n, r2⟩ := p
      obtain ⟨e2, -⟩ := cut4_inv hb1 h2
      have hb2 : Bytes8 r2 := by rw [e2] at hb1; exact hb1.tail
      cases h3 : cut4 r2 with
      | none => simp only [h2, h3] at h; cases h
      | some p =>
        obtain ⟨q, r3⟩ := p
        obtain ⟨e3, -⟩ := cut4_inv hb2 h3
        cases h4 : cutB r3 with
        | none => simp only [h2, h3, h4] at h; cases h
        | some p =>
          obtain ⟨g, r4⟩ := p
          simp only [h2, h3, h4, Option.some.injEq, Prod.mk.injEq] at h
          obtain ⟨rfl, rfl⟩ := h
          have e4 := cutB_inv h4
          rw [e1, e2, e3, e4]
          simp [encD]

/-- how a state's bytes are cut -/
theorem encS_cut {s : Sta} (h : MayS s) (hc : s.cells.length < 4294967296) (hd : s.dones.length < 4294967296) : ∃ r1 r2 r3, cut4 (encS s) = some (s.pos.toNat, r1) ∧ cut4 r1 = some (s.cells.length, r2) ∧
    cutN cutC s.cells.length r2 = some (s.cells, le4 s.dones.length ++ r3) ∧ cut4 (le4 s.dones.length ++ r3) = some (s.dones.length, r3) ∧ cutN cutD s.dones.length r3 = some (s.dones, []) := by
  have h1 := h.pos
  refine ⟨_, _, s.dones.flatMap encD, cut4_le4 (by omega) _, cut4_le4 hc _, cutN_enc (P := OkC s.pos) (fun x hx r => cutC_enc h1.2 hx r) s.cells h.cells _, cut4_le4 hd _, ?_⟩
  have := cutN_enc (P := OkD s.pos) (fun x hx r => cutD_enc h1.2 hx r) s.dones h.dones []
  rwa [List.append_nil] at this

/-- what is cut so has these bytes -/
theorem encS_inv {b : List Int} (hb : Bytes8 b) {p k m : Nat} {r1 r2 r3 r4 : List Int} {cs : List Cel} {ds : List Dn} (h1 : cut4 b = some (p, r1)) (h2 : cut4 r1 = some (k, r2)) (h3 : cutN cutC k r2 = some (cs, r3)) (h4 : cut4 r3 = some (m, r4)) (h5 : cutN cutD m r4 = some (ds, [])) :
    encS ⟨p, cs, ds⟩ = b := by
  obtain ⟨e1, -⟩ := cut4_inv hb h1
  have b1 : Bytes8 r1 := by rw [e1] at hb; exact hb.tail
  obtain ⟨e2, -⟩ := cut4_inv b1 h2
  have b2 : Bytes8 r2 := by rw [e2] at b1; exact b1.tail
  obtain ⟨e3, l3⟩ := cutN_inv (fun b x r hb h => cutC_inv hb h) k b2 h3
  have b3 : Bytes8 r3 := by rw [e3] at b2; exact b2.tail
  obtain ⟨e4, -⟩ := cut4_inv b3 h4
  have b4 : Bytes8 r4 := by rw [e4] at b3; exact b3.tail
  obtain ⟨e5, l5⟩ := cutN_inv (fun b x r hb h => cutD_inv hb h) m b4 h5
  subst l3 l5
  rw [List.append_nil] at e5
  simp only [encS, Int.toNat_natCast]
  rw [e1, e2, e3, e4, e5]

/-- no two states have the same bytes -/
theorem encS_one {s t : Sta} (hs : MayS s) (ht : MayS t) (l1 : s.cells.length < 4294967296) (l2 : s.dones.length < 4294967296) (l3 : t.cells.length < 4294967296) (l4 : t.dones.length < 4294967296) (h : encS s = encS t) : s = t := by
  obtain ⟨r1, r2, r3, a1, a2, a3, a4, a5⟩ := encS_cut hs l1 l2
  obtain ⟨q1, q2, q3, c1, c2, c3, c4, c5⟩ := encS_cut ht l3 l4
  rw [h, c1] at a1
  simp only [Option.some.injEq, Prod.mk.injEq] at a1
  obtain ⟨p1, rfl⟩ := a1
  rw [c2] at a2
  simp only [Option.some.injEq, Prod.mk.injEq] at a2
  obtain ⟨p2, rfl⟩ := a2
  rw [← p2, c3] at a3
  simp only [Option.some.injEq, Prod.mk.injEq] at a3
  obtain ⟨p3, p4⟩ := a3
  rw [← p4, c4] at a4
  simp only [Option.some.injEq, Prod.mk.injEq] at a4
  obtain ⟨p5, rfl⟩ := a4
  rw [← p5, c5] at a5
  simp only [Option.some.injEq, Prod.mk.injEq, and_true] at a5
  have q1 := hs.pos
  have q2 := ht.pos
  cases s
  cases t
  simp only at p1 p3 a5 q1 q2
  subst p3 a5
  congr 1
  omega

theorem dnAhead_trans {a b c : Dn} (h1 : dnAhead a b = true) (h2 : dnAhead b c = true) : dnAhead a c = true := by
  simp only [dnAhead, decide_eq_true_eq] at h1 h2 ⊢
  omega

end Go.Proofs.Ytjjdednlddnllaa
