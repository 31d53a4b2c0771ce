/- Plain facts: intents, their bytes, and how bytes are read. -/
import Derived.Test.YtndnbkgejdindaaFourPlain
namespace Go.Proofs.Ytndnbkgejdindaa

/-- a write: a key, what it has from then on, or that it is gone -/
structure Wt where
  key : List Int
  val : List Int
  gone : Bool

/-- an intent: its reads are pairs of bytes -/
structure Itt where
  client : Int
  number : Int
  base : Int
  reads : List (List Int × List Int)
  writes : List Wt

theorem Wt.ext' {a b : Wt} (h1 : a.key = b.key) (h2 : a.val = b.val) (h3 : a.gone = b.gone) : a = b := by
  cases a; cases b; simp only at h1 h2 h3; subst h1 h2 h3; rfl

def OkRd (r : List Int × List Int) : Prop := r.1.length ≤ 1201 ∧ r.2.length ≤ 1201
def OkWt (x : Wt) : Prop := 1 ≤ x.key.length ∧ x.key.length ≤ 1200 ∧ x.val.length ≤ 4000 ∧ (x.gone = true → x.val = [])
def AscW (l : List Wt) : Prop := l.Pairwise (fun a b => ahead a.key b.key = true)

/-- it may be -/
structure MayI (x : Itt) : Prop where
  client : 1 ≤ x.client ∧ x.client ≤ 1048576
  number : 1 ≤ x.number ∧ x.number ≤ 1048576
  base : 0 ≤ x.base ∧ x.base ≤ 1048576
  few : x.reads.length ≤ 400 ∧ x.writes.length ≤ 400
  reads : ∀ r ∈ x.reads, OkRd r
  writes : ∀ y ∈ x.writes, OkWt y
  asc : AscW x.writes

/-- a text: its length and its bytes -/
def txt4 (b : List Int) : List Int := le4 b.length ++ b
def encRd (r : List Int × List Int) : List Int := txt4 r.1 ++ txt4 r.2
def flagB (g : Bool) : Int := if g then 1 else 0
def encWt (x : Wt) : List Int := txt4 x.key ++ (flagB x.gone :: txt4 x.val)

/-- the bytes of an intent -/
def encI (x : Itt) : List Int :=
  le4 x.client.toNat ++ (le4 x.number.toNat ++ (le4 x.base.toNat ++ (le4 x.reads.length ++ (x.reads.flatMap encRd ++ (le4 x.writes.length ++ x.writes.flatMap encWt)))))

/-- a number ahead of bytes -/
def cut4 (b : List Int) : Option (Nat × List Int) := if 4 ≤ b.length then some ((num4 b).toNat, b.drop 4) else none

/-- a text ahead of bytes -/
def cutT (b : List Int) : Option (List Int × List Int) := match cut4 b with
  | some (n, r) => if n ≤ r.length then some (r.take n, r.drop n) else none
  | none => none

def cutRd (b : List Int) : Option ((List Int × List Int) × List Int) := match cutT b with
  | some (lo, r) => match cutT r with
    | some (hi, r) => some ((lo, hi), r)
    | none => none
  | none => none

/-- a byte that is 0 or 1 -/
def cutB (b : List Int) : Option (Bool × List Int) := match b with
  | [] => none
  | y :: r => if y = 0 then some (false, r) else if y = 1 then some (true, r) else none

def cutWt (b : List Int) : Option (Wt × List Int) := match cutT b with
  | some (k, r) => match cutB r with
    | some (g, r) => match cutT r with
      | some (v, r) => some (⟨k, v, g⟩, r)
      | none => none
    | none => none
  | none => none

/-- so many things -/
def cutN {α : Type} (f : List Int → Option (α × List Int)) : Nat → List Int → Option (List α × List Int)
  | 0, b => some ([], b)
  | n + 1, b => match f b with
    | some (x, r) => match cutN f n r with
      | some (l, r) => some (x :: l, r)
      | none => none
    | none => none

def Bytes8 (b : List Int) : Prop := ∀ y ∈ b, 0 ≤ y ∧ y ≤ 255

theorem Bytes8.tail {a b : List Int} (h : Bytes8 (a ++ b)) : Bytes8 b := fun y hy => h y (List.mem_append.2 (.inr hy))
theorem Bytes8.head {a b : List Int} (h : Bytes8 (a ++ b)) : Bytes8 a := fun y hy => h y (List.mem_append.2 (.inl hy))

theorem cut4_le4 {n : Nat} (h : n < 4294967296) (r : List Int) : cut4 (le4 n ++ r) = some (n, r) := by
  have hl : 4 ≤ (le4 n ++ r).length := by rw [List.length_append, le4_length]; omega
  rw [cut4, if_pos hl, num4_le4 n h r]
  simp [le4]

theorem cut4_inv {b r : List Int} {n : Nat} (hb : Bytes8 b) (h : cut4 b = some (n, r)) : b = le4 n ++ r ∧ n < 4294967296 := by
  unfold cut4 at h
  split at h
  · rename_i hl
    simp only [Option.some.injEq, Prod.mk.injEq] at h
    obtain ⟨rfl, rfl⟩ := h
    have := num4_bounds hl hb
    refine ⟨?_, by omega⟩
    rw [le4_num4 hl hb, List.take_append_drop]
  · cases h

theorem cutT_txt4 {b : List Int} (h : b.length < 4294967296) (r : List Int) : cutT (txt4 b ++ r) = some (b, r) := by
  unfold cutT txt4
  rw [List.append_assoc, cut4_le4 h]
  have hl : b.length ≤ (b ++ r).length := by rw [List.length_append]; omega
  simp only [hl, if_true, List.take_left', List.drop_left']

theorem cutT_inv {b x r : List Int} (hb : Bytes8 b) (h : cutT b = some (x, r)) : b = txt4 x ++ r ∧ x.length < 4294967296 := by
  unfold cutT at h
  cases hc : cut4 b with
  | none => rw [hc] at h; cases h
  | some p =>
    obtain ⟨n, q⟩ := p
    rw [hc] at h
    simp only at h
    obtain ⟨e, hn⟩ := cut4_inv hb hc
    split at h
    · rename_i hl
      simp only [Option.some.injEq, Prod.mk.injEq] at h
      obtain ⟨rfl, rfl⟩ := h
      have hlen : (q.take n).length = n := by rw [List.length_take]; omega
      refine ⟨?_, by omega⟩
      rw [e, txt4, hlen, List.append_assoc, List.take_append_drop]
    · cases h

theorem cutRd_enc {x : List Int × List Int} (h : OkRd x) (r : List Int) : cutRd (encRd x ++ r) = some (x, r) := by
  have h1 : x.1.length < 4294967296 := by have := h.1; omega
  have h2 : x.2.length < 4294967296 := by have := h.2; omega
  simp only [cutRd, encRd, List.append_assoc, cutT_txt4 h1, cutT_txt4 h2]

theorem cutRd_inv {b r : List Int} {x : List Int × List Int} (hb : Bytes8 b) (h : cutRd b = some (x, r)) : b = encRd x ++ r := by
  unfold cutRd at h
  cases h1 : cutT b with
  | none => rw [h1] at h; cases h
  | some p =>
    obtain ⟨lo, r1⟩ := p
    rw [h1] at h
    obtain ⟨e1, -⟩ := cutT_inv hb h1
    have hb1 : Bytes8 r1 := by rw [e1] at hb; exact hb.tail
    cases h2 : cutT r1 with
    | none => simp only [h2] at h; cases h
    | some p =>
      obtain ⟨hi, r2⟩ := p
      simp only [h2, Option.some.injEq, Prod.mk.injEq] at h
      obtain ⟨rfl, rfl⟩ := h
      obtain ⟨e2, -⟩ := cutT_inv hb1 h2
      rw [e1, e2, encRd, List.append_assoc]

theorem cutB_flag (g : Bool) (r : List Int) : cutB (flagB g :: r) = some (g, r) := by cases g <;> simp [cutB, flagB]

theorem cutB_inv {b r : List Int} {g : Bool} (h : cutB b = some (g, r)) : b = flagB g :: r := by
  unfold cutB at h
  cases b with
  | nil => cases h
  | cons y t =>
    simp only at h
    by_cases h0 : y = 0
    · rw [if_pos h0] at h
      simp only [Option.some.injEq, Prod.mk.injEq] at h
      obtain ⟨rfl, rfl⟩ := h
      rw [h0]; rfl
    · rw [if_neg h0] at h
      by_cases h1 : y = 1
      · rw [if_pos h1] at h
        simp only [Option.some.injEq, Prod.mk.injEq] at h
        obtain ⟨rfl, rfl⟩ := h
        rw [h1]; rfl
      · rw [if_neg h1] at h
        cases h

theorem cutWt_enc {x : Wt} (h : OkWt x) (r : List Int) : cutWt (encWt x ++ r) = some (x, r) := by
  have h1 : x.key.length < 4294967296 := by have := h.2.1; omega
  have h2 : x.val.length < 4294967296 := by have := h.2.2.1; omega
  simp only [cutWt, encWt, List.append_assoc, List.cons_append, cutT_txt4 h1, cutB_flag, cutT_txt4 h2]

theorem cutWt_inv {b r : List Int} {x : Wt} (hb : Bytes8 b) (h : cutWt b = some (x, r)) : b = encWt x ++ r := by
  unfold cutWt at h
  cases h1 : cutT b with
  | none => rw [h1] at h; cases h
  | some p =>
    obtain ⟨k, r1⟩ := p
    rw [h1] at h
    obtain ⟨e1, -⟩ := cutT_inv hb h1
    have hb1 : Bytes8 r1 := by rw [e1] at hb; exact hb.tail
    cases h2 : cutB r1 with
    | none => simp only [h2] at h; cases h
    | some p =>
      obtain ⟨g, r2⟩ := p
      have e2 := cutB_inv h2
      have hb2 : Bytes8 r2 := by rw [e2] at hb1; exact fun y hy => hb1 y (List.mem_cons_of_mem _ hy)
      cases h3 : cutT r2 with
      | none => simp only [h2, h3] at h; cases h
      | some p =>
        obtain ⟨v, r3⟩ := p
        simp only [h2, h3, Option.some.injEq, Prod.mk.injEq] at h
        obtain ⟨rfl, rfl⟩ := h
        obtain ⟨e3, -⟩ := cutT_inv hb2 h3
        rw [e1, e2, e3]
        simp [encWt]

theorem cutN_enc {α : Type} {f : List Int → Option (α × List Int)} {g : α → List Int} {P : α → Prop} (hf : ∀ x, P x → ∀ r, f (g x ++ r) = some (x, r)) : ∀ (l : List α), (∀ x ∈ l, P x) → ∀ r, cutN f l.length (l.flatMap g ++ r) = some (l, r)
  | [], _, r => rfl
  | x :: l, h, r => by
    simp only [List.length_cons, List.flatMap_cons, List.append_assoc, cutN, hf x (h x List.mem_cons_self), cutN_enc hf l (fun y hy => h y (List.mem_cons_of_mem _ hy)) r]

theorem cutN_inv {α : Type} {f : List Int → Option (α × List Int)} {g : α → List Int} (hf : ∀ b x r, Bytes8 b → f b = some (x, r) → b = g x ++ r) : ∀ (n : Nat) {b r : List Int} {l : List α}, Bytes8 b → cutN f n b = some (l, r) → b = l.flatMap g ++ r ∧ l.length = n
  | 0, b, r, l, _, h => by
    simp only [cutN, Option.some.injEq, Prod.mk.injEq] at h
    obtain ⟨rfl, rfl⟩ := h
    exact ⟨rfl, rfl⟩
  | n + 1, b, r, l, hb, h => by
    unfold cutN at h
    cases h1 : f b with
    | none => rw [h1] at h; cases h
    | some p =>
      obtain ⟨x, r1⟩ := p
      rw [h1] at h
      have e1 := hf b x r1 hb h1
      have hb1 : Bytes8 r1 := by rw [e1] at hb; exact hb.tail
      cases h2 : cutN f n r1 with
      | none => simp only [h2] at h; cases h
      | some p =>
        obtain ⟨l2, r2⟩ := p
        simp only [h2, Option.some.injEq, Prod.mk.injEq] at h
        obtain ⟨rfl, rfl⟩ := h
        obtain ⟨e2, e3⟩ := cutN_inv hf n hb1 h2
        refine ⟨?_, by simp [e3]⟩
        rw [e1, e2, List.flatMap_cons, List.append_assoc]

/-- bytes that are an intent's -/
def DecIs (b : List Int) (x : Itt) : Prop := MayI x ∧ encI x = b ∧ b.length ≤ 4000

/-- how an intent's bytes are cut -/
theorem encI_cut {x : Itt} (h : MayI x) : ∃ r1 r2 r3 r4 r5, cut4 (encI x) = some (x.client.toNat, r1) ∧ cut4 r1 = some (x.number.toNat, r2) ∧ cut4 r2 = some (x.base.toNat, r3) ∧ cut4 r3 = some (x.reads.length, r4) ∧
    cutN cutRd x.reads.length r4 = some (x.reads, le4 x.writes.length ++ r5) ∧ cut4 (le4 x.writes.length ++ r5) = some (x.writes.length, r5) ∧ cutN cutWt x.writes.length r5 = some (x.writes, []) := by
  have h1 := h.client
  have h2 := h.number
  have h3 := h.base
  have h4 := h.few
  refine ⟨_, _, _, _, x.writes.flatMap encWt, cut4_le4 (by omega) _, cut4_le4 (by omega) _, cut4_le4 (by omega) _, cut4_le4 (by omega) _, cutN_enc (P := OkRd) (fun x hx r => cutRd_enc hx r) x.reads h.reads _, cut4_le4 (by omega) _, ?_⟩
  have := cutN_enc (P := OkWt) (fun x hx r => cutWt_enc hx r) x.writes h.writes []
  rwa [List.append_nil] at this

/-- what is cut so has these bytes -/
theorem encI_inv {b : List Int} (hb : Bytes8 b) {c n s k m : Nat} {r1 r2 r3 r4 r5 r6 : List Int} {rs : List (List Int × List Int)} {ws : List Wt} (h1 : cut4 b = some (c, r1)) (h2 : cut4 r1 = some (n, r2)) (h3 : cut4 r2 = some (s, r3)) (h4 : cut4 r3 = some (k, r4)) (h5 : cutN cutRd k r4 = some (rs, r5)) (h6 : cut4 r5 = some (m, r6)) (h7 : cutN cutWt m r6 = some (ws, [])) :
    encI ⟨c, n, s, rs, ws⟩ = b := by
  obtain ⟨e1, -⟩ := cut4_inv hb h1
  have b1 : Bytes8 r1 := by rw [e1] at hb; exact hb.tail
  obtain ⟨e2, -⟩ := cut4_inv b1 h2
  have b2 : Bytes8 r2 := by rw [e2] at b1; exact b1.tail
  obtain ⟨e3, -⟩ := cut4_inv b2 h3
  have b3 : Bytes8 r3 := by rw [e3] at b2; exact b2.tail
  obtain ⟨e4, -⟩ := cut4_inv b3 h4
  have b4 : Bytes8 r4 := by rw [e4] at b3; exact b3.tail
  obtain ⟨e5, l5⟩ := cutN_inv (fun b x r hb h => cutRd_inv hb h) k b4 h5
  have b5 : Bytes8 r5 := by rw [e5] at b4; exact b4.tail
  obtain ⟨e6, -⟩ := cut4_inv b5 h6
  have b6 : Bytes8 r6 := by rw [e6] at b5; exact b5.tail
  obtain ⟨e7, l7⟩ := cutN_inv (fun b x r hb h => cutWt_inv hb h) m b6 h7
  subst l5 l7
  rw [List.append_nil] at e7
  simp only [encI, Int.toNat_natCast]
  rw [e1, e2, e3, e4, e5, e6, e7]

/-- no two intents have the same bytes -/
theorem encI_one {x y : Itt} (hx : MayI x) (hy : MayI y) (h : encI x = encI y) : x = y := by
  obtain ⟨r1, r2, r3, r4, r5, a1, a2, a3, a4, a5, a6, a7⟩ := encI_cut hx
  obtain ⟨s1, s2, s3, s4, s5, c1, c2, c3, c4, c5, c6, c7⟩ := encI_cut hy
  rw [h, c1] at a1
  simp only [Option.some.injEq, Prod.mk.injEq] at a1
  obtain ⟨p1, rfl⟩ := a1
  rw [c2] at a2
  simp only [Option.some.injEq, Prod.mk.injEq] at a2
  obtain ⟨p2, rfl⟩ := a2
  rw [c3] at a3
  simp only [Option.some.injEq, Prod.mk.injEq] at a3
  obtain ⟨p3, rfl⟩ := a3
  rw [c4] at a4
  simp only [Option.some.injEq, Prod.mk.injEq] at a4
  obtain ⟨p4, rfl⟩ := a4
  rw [← p4, c5] at a5
  simp only [Option.some.injEq, Prod.mk.injEq] at a5
  obtain ⟨p5, p6⟩ := a5
  rw [← p6, c6] at a6
  simp only [Option.some.injEq, Prod.mk.injEq] at a6
  obtain ⟨p7, rfl⟩ := a6
  rw [← p7, c7] at a7
  simp only [Option.some.injEq, Prod.mk.injEq, and_true] at a7
  have q1 := hx.client
  have q2 := hy.client
  have q3 := hx.number
  have q4 := hy.number
  have q5 := hx.base
  have q6 := hy.base
  cases x
  cases y
  simp only at p1 p2 p3 p5 a7 q1 q2 q3 q4 q5 q6
  subst p5 a7
  congr 1 <;> omega

theorem DecIs.one {b : List Int} {x y : Itt} (hx : DecIs b x) (hy : DecIs b y) : x = y := encI_one hx.1 hy.1 (hx.2.1.trans hy.2.1.symm)

/-- one byte more behind an intent's bytes, or some cut off: none's -/
theorem encI_cut_off {x y : Itt} (hx : MayI x) (hy : MayI y) {k : Nat} (hk : k < (encI x).length) : encI y ≠ (encI x).take k := by
  intro h
  obtain ⟨r1, r2, r3, r4, r5, a1, a2, a3, a4, a5, a6, a7⟩ := encI_cut hy
  have e : encI x = encI y ++ (encI x).drop k := by rw [h, List.take_append_drop]
  have h1 := hy.client
  have h2 := hy.number
  have h3 := hy.base
  have h4 := hy.few
  obtain ⟨s1, s2, s3, s4, s5, c1, c2, c3, c4, c5, c6, c7⟩ := encI_cut hx
  generalize hd : (encI x).drop k = d at e
  have hd0 : 0 < d.length := by rw [← hd, List.length_drop]; omega
  rw [e] at c1
  simp only [encI, List.append_assoc] at c1
  rw [cut4_le4 (by omega)] at c1
  simp only [Option.some.injEq, Prod.mk.injEq] at c1
  obtain ⟨p1, rfl⟩ := c1
  rw [cut4_le4 (by omega)] at c2
  simp only [Option.some.injEq, Prod.mk.injEq] at c2
  obtain ⟨p2, rfl⟩ := c2
  rw [cut4_le4 (by omega)] at c3
  simp only [Option.some.injEq, Prod.mk.injEq] at c3
  obtain ⟨p3, rfl⟩ := c3
  rw [cut4_le4 (by omega)] at c4
  simp only [Option.some.injEq, Prod.mk.injEq] at c4
  obtain ⟨p4, rfl⟩ := c4
  rw [← p4, cutN_enc (P := OkRd) (fun x hx r => cutRd_enc hx r) y.reads hy.reads] at c5
  simp only [Option.some.injEq, Prod.mk.injEq] at c5
  obtain ⟨p5, p6⟩ := c5
  rw [← p6, cut4_le4 (by omega)] at c6
  simp only [Option.some.injEq, Prod.mk.injEq] at c6
  obtain ⟨p7, rfl⟩ := c6
  rw [← p7, cutN_enc (P := OkWt) (fun x hx r => cutWt_enc hx r) y.writes hy.writes] at c7
  simp only [Option.some.injEq, Prod.mk.injEq] at c7
  rw [c7.2] at hd0
  simp at hd0

end Go.Proofs.Ytndnbkgejdindaa
