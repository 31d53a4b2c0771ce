/- Plain facts: a state's bytes, cut place by place as the reference cuts them. -/
import Derived.Test.YtndnbkgejdindaaLdLoadA
import Derived.Test.YtndnbkgejdindaaRfCutB
import Derived.Test.YtndnbkgejdindaaRfStMay
import Derived.Test.YtndnbkgejdindaaRfStTell
import Derived.Test.YtndnbkgejdindaaRtBytes
namespace Go.Proofs.Ytndnbkgejdindaa

/-- a state that may be, of these bytes -/
def LGood (xs : List Int) (s : Sta) : Prop := MayS s ∧ FewS s ∧ encS s = xs

/-- so many cells have been read -/
def LCells (xs : List Int) (p : Nat) (l : List Cel) (q k : Nat) : Prop := (k = 8 + (l.flatMap encC).length ∧ l.length + q ≤ 4294967295) ∧ ∀ s, LGood xs s → s.pos = (p : Int) ∧ ∃ tl, s.cells = l ++ tl ∧ tl.length = q ∧ xs.drop k = tl.flatMap encC ++ (le4 s.dones.length ++ s.dones.flatMap encD)

/-- so many dones have been read -/
def LDones (xs : List Int) (p : Nat) (cs : List Cel) (l : List Dn) (q k : Nat) : Prop := (k = 12 + (cs.flatMap encC).length + (l.flatMap encD).length ∧ l.length + q ≤ 4294967295) ∧ ∀ s, LGood xs s → s.pos = (p : Int) ∧ s.cells = cs ∧ ∃ tl, s.dones = l ++ tl ∧ tl.length = q ∧ xs.drop k = tl.flatMap encD

theorem good_few {xs : List Int} {s : Sta} (h : LGood xs s) : s.cells.length < 4294967296 ∧ s.dones.length < 4294967296 := by
  exact h.2.1

theorem lcells_start {xs : List Int} {p n : Nat} (hn : n ≤ 4294967295) (h1 : cut4 xs = some (p, xs.drop 4)) (h2 : cut4 (xs.drop 4) = some (n, xs.drop 8)) : LCells xs p [] n 8 := by
  refine ⟨⟨rfl, by simpa using hn⟩, fun s hs => ?_⟩
  obtain ⟨f1, f2⟩ := good_few hs
  have hp := hs.1.pos
  have e := hs.2.2
  rw [encS] at e
  rw [← e, cut4_le4 (by omega)] at h1
  have e1 := Option.some.inj h1
  rw [e] at e1
  have e2 := (Prod.mk.inj e1).2
  rw [← e2, cut4_le4 f1] at h2
  have e3 := Prod.mk.inj (Option.some.inj h2)
  refine ⟨?_, s.cells, rfl, e3.1, e3.2.symm⟩
  have e4 := (Prod.mk.inj e1).1
  omega

/-- no state has these bytes: too short -/
theorem lbad_short {xs : List Int} (h : xs.length < 12) : LoadBad xs := by
  rintro ⟨s, -, -, hs⟩
  have h1 := congrArg List.length hs
  simp only [encS, List.length_append, le4_length] at h1
  omega

/-- what stands ahead of a cell that is to be read -/
theorem lcells_head {xs : List Int} {p : Nat} {l : List Cel} {q k : Nat} (h : LCells xs p l (q + 1) k) (s : Sta) (hs : LGood xs s) : s.pos = (p : Int) ∧ ∃ c tl, s.cells = l ++ c :: tl ∧ tl.length = q ∧ OkC s.pos c ∧ xs.drop k = txt4 c.key ++ (flagB c.gone :: (txt4 c.val ++ (le4 c.since.toNat ++ (tl.flatMap encC ++ (le4 s.dones.length ++ s.dones.flatMap encD))))) := by
  obtain ⟨h1, tl, h2, h3, h4⟩ := h.2 s hs
  cases tl with
  | nil => cases h3
  | cons c tl =>
    refine ⟨h1, c, tl, h2, by simpa using h3, hs.1.cells c (by rw [h2]; simp), ?_⟩
    rw [h4]
    simp [encC]

theorem okC_few {p : Int} (hp : p ≤ 1048576) {c : Cel} (h : OkC p c) : c.key.length < 4294967296 ∧ c.val.length < 4294967296 ∧ c.since.toNat < 4294967296 ∧ ((c.since.toNat : Nat) : Int) = c.since := by
  obtain ⟨h1, h2, h3, h4, h5, h6⟩ := h
  omega

theorem lc_fall1 {xs : List Int} {p : Nat} {l : List Cel} {q k : Nat} (h : LCells xs p l (q + 1) k) (hc : cutT (xs.drop k) = none) : LoadBad xs := by
  rintro ⟨s, hs⟩
  obtain ⟨h1, c, tl, h2, h3, h4, h5⟩ := lcells_head h s hs
  rw [h5, cutT_txt4 (okC_few hs.1.pos.2 h4).1] at hc
  cases hc

theorem lc_step1 {xs : List Int} {p : Nat} {l : List Cel} {q k k1 : Nat} {t1 : List Int} (h : LCells xs p l (q + 1) k) (hc : cutT (xs.drop k) = some (t1, xs.drop k1)) (s : Sta) (hs : LGood xs s) : s.pos = (p : Int) ∧ ∃ c tl, s.cells = l ++ c :: tl ∧ tl.length = q ∧ OkC s.pos c ∧ c.key = t1 ∧ xs.drop k1 = flagB c.gone :: (txt4 c.val ++ (le4 c.since.toNat ++ (tl.flatMap encC ++ (le4 s.dones.length ++ s.dones.flatMap encD)))) := by
  obtain ⟨h1, c, tl, h2, h3, h4, h5⟩ := lcells_head h s hs
  rw [h5, cutT_txt4 (okC_few hs.1.pos.2 h4).1] at hc
  have e := Prod.mk.inj (Option.some.inj hc)
  exact ⟨h1, c, tl, h2, h3, h4, e.1, e.2.symm⟩

theorem lc_fall2 {xs : List Int} {p : Nat} {l : List Cel} {q k k1 : Nat} {t1 : List Int} (h : LCells xs p l (q + 1) k) (hc : cutT (xs.drop k) = some (t1, xs.drop k1)) (hk : xs.length ≤ k1) : LoadBad xs := by
  rintro ⟨s, hs⟩
  obtain ⟨h1, c, tl, h2, h3, h4, h5, h6⟩ := lc_step1 h hc s hs
  rw [List.drop_of_length_le hk] at h6
  cases h6

theorem lc_step2 {xs : List Int} {p : Nat} {l : List Cel} {q k k1 : Nat} {t1 : List Int} (h : LCells xs p l (q + 1) k) (hc : cutT (xs.drop k) = some (t1, xs.drop k1)) (s : Sta) (hs : LGood xs s) : s.pos = (p : Int) ∧ ∃ c tl, s.cells = l ++ c :: tl ∧ tl.length = q ∧ OkC s.pos c ∧ c.key = t1 ∧ c.gone = (xs.getD k1 0 == 1) ∧ xs.drop (k1 + 1) = txt4 c.val ++ (le4 c.since.toNat ++ (tl.flatMap encC ++ (le4 s.dones.length ++ s.dones.flatMap encD))) := by
  obtain ⟨h1, c, tl, h2, h3, h4, h5, h6⟩ := lc_step1 h hc s hs
  refine ⟨h1, c, tl, h2, h3, h4, h5, ?_, ?_⟩
  · have e : xs.getD k1 0 = flagB c.gone := by
      have e1 : (xs.drop k1).getD 0 0 = flagB c.gone := by rw [h6]; rfl
      rw [← e1]
      simp [List.getD]
    rw [e]
    cases c.gone <;> rfl
  · rw [← List.drop_drop, h6]
    rfl

theorem lc_fall3 {xs : List Int} {p : Nat} {l : List Cel} {q k k1 : Nat} {t1 : List Int} (h : LCells xs p l (q + 1) k) (hc : cutT (xs.drop k) = some (t1, xs.drop k1)) (hd : cutT (xs.drop (k1 + 1)) = none) : LoadBad xs := by
  rintro ⟨s, hs⟩
  obtain ⟨h1, c, tl, h2, h3, h4, h5, h6, h7⟩ := lc_step2 h hc s hs
  rw [h7, cutT_txt4 (okC_few hs.1.pos.2 h4).2.1] at hd
  cases hd

theorem lc_step3 {xs : List Int} {p : Nat} {l : List Cel} {q k k1 k2 : Nat} {t1 t2 : List Int} (h : LCells xs p l (q + 1) k) (hc : cutT (xs.drop k) = some (t1, xs.drop k1)) (hd : cutT (xs.drop (k1 + 1)) = some (t2, xs.drop k2)) (s : Sta) (hs : LGood xs s) : s.pos = (p : Int) ∧ ∃ c tl, s.cells = l ++ c :: tl ∧ tl.length = q ∧ OkC s.pos c ∧ c.key = t1 ∧ c.gone = (xs.getD k1 0 == 1) ∧ c.val = t2 ∧ xs.drop k2 = le4 c.since.toNat ++ (tl.flatMap encC ++ (le4 s.dones.length ++ s.dones.flatMap encD)) := by
  obtain ⟨h1, c, tl, h2, h3, h4, h5, h6, h7⟩ := lc_step2 h hc s hs
  rw [h7, cutT_txt4 (okC_few hs.1.pos.2 h4).2.1] at hd
  have e := Prod.mk.inj (Option.some.inj hd)
  exact ⟨h1, c, tl, h2, h3, h4, h5, h6, e.1, e.2.symm⟩

theorem lc_fall4 {xs : List Int} {p : Nat} {l : List Cel} {q k k1 k2 : Nat} {t1 t2 : List Int} (h : LCells xs p l (q + 1) k) (hc : cutT (xs.drop k) = some (t1, xs.drop k1)) (hd : cutT (xs.drop (k1 + 1)) = some (t2, xs.drop k2)) (hk : xs.length < k2 + 4) : LoadBad xs := by
  rintro ⟨s, hs⟩
  obtain ⟨h1, c, tl, h2, h3, h4, h5, h6, h7, h8⟩ := lc_step3 h hc hd s hs
  have e := congrArg List.length h8
  rw [List.length_drop, List.length_append, le4_length] at e
  omega

theorem lc_step4 {xs : List Int} {p : Nat} {l : List Cel} {q k k1 k2 v : Nat} {t1 t2 : List Int} (h : LCells xs p l (q + 1) k) (hc : cutT (xs.drop k) = some (t1, xs.drop k1)) (hd : cutT (xs.drop (k1 + 1)) = some (t2, xs.drop k2)) (hv : cut4 (xs.drop k2) = some (v, xs.drop (k2 + 4))) (e1 : k1 = k + 4 + t1.length) (e2 : k2 = k1 + 1 + 4 + t2.length) : LCells xs p (l ++ [⟨t1, t2, xs.getD k1 0 == 1, (v : Int)⟩]) q (k2 + 4) := by
  refine ⟨?_, fun s hs => ?_⟩
  · have h0 := h.1
    rw [List.flatMap_append, List.length_append, List.flatMap_cons, List.flatMap_nil, List.append_nil]
    simp only [encC, txt4, List.length_append, List.length_cons, List.length_nil, le4_length]
    omega
  · obtain ⟨h1, c, tl, h2, h3, h4, h5, h6, h7, h8⟩ := lc_step3 h hc hd s hs
    obtain ⟨f1, f2, f3, f4⟩ := okC_few hs.1.pos.2 h4
    rw [h8, cut4_le4 f3] at hv
    have e := Prod.mk.inj (Option.some.inj hv)
    refine ⟨h1, tl, ?_, h3, e.2.symm⟩
    obtain ⟨ck, cv, cg, cs⟩ := c
    simp only at h5 h6 h7 f4 e
    rw [h2, ← h5, ← h6, ← h7, ← e.1, f4]
    simp

theorem ld_fall0 {xs : List Int} {p : Nat} {l : List Cel} {k : Nat} (h : LCells xs p l 0 k) (hk : xs.length < k + 4) : LoadBad xs := by
  rintro ⟨s, hs⟩
  obtain ⟨h1, tl, h2, h3, h4⟩ := h.2 s hs
  rw [List.length_eq_zero_iff.1 h3] at h4
  have e := congrArg List.length h4
  simp only [List.flatMap_nil, List.nil_append, List.length_drop, List.length_append, le4_length] at e
  omega

theorem ldones_start {xs : List Int} {p m : Nat} (hm : m ≤ 4294967295) {l : List Cel} {k : Nat} (h : LCells xs p l 0 k) (hc : cut4 (xs.drop k) = some (m, xs.drop (k + 4))) : LDones xs p l [] m (k + 4) := by
  refine ⟨⟨by have := h.1; simp only [List.flatMap_nil, List.length_nil]; omega, by simpa using hm⟩, fun s hs => ?_⟩
  obtain ⟨h1, tl, h2, h3, h4⟩ := h.2 s hs
  rw [List.length_eq_zero_iff.1 h3] at h2 h4
  rw [h4, List.flatMap_nil, List.nil_append, cut4_le4 (good_few hs).2] at hc
  have e := Prod.mk.inj (Option.some.inj hc)
  exact ⟨h1, by simpa using h2, s.dones, rfl, e.1, e.2.symm⟩

theorem ld_head {xs : List Int} {p : Nat} {cs : List Cel} {l : List Dn} {q k : Nat} (h : LDones xs p cs l (q + 1) k) (s : Sta) (hs : LGood xs s) : s.pos = (p : Int) ∧ s.cells = cs ∧ ∃ d tl, s.dones = l ++ d :: tl ∧ tl.length = q ∧ OkD s.pos d ∧ xs.drop k = le4 d.client.toNat ++ (le4 d.number.toNat ++ (le4 d.pos.toNat ++ (flagB d.kept :: tl.flatMap encD))) := by
  obtain ⟨h1, h0, tl, h2, h3, h4⟩ := h.2 s hs
  cases tl with
  | nil => cases h3
  | cons d tl =>
    refine ⟨h1, h0, d, tl, h2, by simpa using h3, hs.1.dones d (by rw [h2]; simp), ?_⟩
    rw [h4]
    simp [encD]

theorem ld_fall1 {xs : List Int} {p : Nat} {cs : List Cel} {l : List Dn} {q k : Nat} (h : LDones xs p cs l (q + 1) k) (hk : xs.length < k + 13) : LoadBad xs := by
  rintro ⟨s, hs⟩
  obtain ⟨h1, h0, d, tl, h2, h3, h4, h5⟩ := ld_head h s hs
  have e := congrArg List.length h5
  simp only [List.length_drop, List.length_append, List.length_cons, le4_length] at e
  omega

theorem ld_step {xs : List Int} {p : Nat} {cs : List Cel} {l : List Dn} {q k v1 v2 v3 : Nat} (h : LDones xs p cs l (q + 1) k) (c1 : cut4 (xs.drop k) = some (v1, xs.drop (k + 4))) (c2 : cut4 (xs.drop (k + 4)) = some (v2, xs.drop (k + 8))) (c3 : cut4 (xs.drop (k + 8)) = some (v3, xs.drop (k + 12))) : LDones xs p cs (l ++ [⟨(v1 : Int), (v2 : Int), (v3 : Int), xs.getD (k + 12) 0 == 1⟩]) q (k + 13) := by
  refine ⟨?_, fun s hs => ?_⟩
  · have h0 := h.1
    rw [List.flatMap_append, List.length_append, List.flatMap_cons, List.flatMap_nil, List.append_nil]
    simp only [encD, List.length_append, List.length_cons, List.length_nil, le4_length]
    omega
  · obtain ⟨h1, h0, d, tl, h2, h3, h4, h5⟩ := ld_head h s hs
    obtain ⟨o1, o2, o3, o4⟩ := h4
    have hp := hs.1.pos
    rw [h5, cut4_le4 (by omega)] at c1
    have e1 := Prod.mk.inj (Option.some.inj c1)
    rw [← e1.2, cut4_le4 (by omega)] at c2
    have e2 := Prod.mk.inj (Option.some.inj c2)
    rw [← e2.2, cut4_le4 (by omega)] at c3
    have e3 := Prod.mk.inj (Option.some.inj c3)
    have ey : xs.getD (k + 12) 0 = flagB d.kept := by
      have e4 : (xs.drop (k + 12)).getD 0 0 = flagB d.kept := by rw [← e3.2]; rfl
      rw [← e4]
      simp [List.getD]
    refine ⟨h1, h0, tl, ?_, h3, ?_⟩
    · obtain ⟨d1, d2, d3, d4⟩ := d
      simp only at e1 e2 e3 ey o1 o2 o3
      have q1 : (v1 : Int) = d1 := by omega
      have q2 : (v2 : Int) = d2 := by omega
      have q3 : (v3 : Int) = d3 := by omega
      have q4 : (xs.getD (k + 12) 0 == 1) = d4 := by rw [ey]; cases d4 <;> rfl
      rw [h2, q1, q2, q3, q4]
      simp
    · rw [show k + 13 = (k + 12) + 1 by omega, ← List.drop_drop, ← e3.2]
      rfl

/-- what stands there when all is read -/
theorem ld_end {xs : List Int} {p : Nat} {cs : List Cel} {l : List Dn} {k : Nat} (h : LDones xs p cs l 0 k) (s : Sta) (hs : LGood xs s) : s = ⟨(p : Int), cs, l⟩ ∧ xs.length ≤ k := by
  obtain ⟨h1, h0, tl, h2, h3, h4⟩ := h.2 s hs
  rw [List.length_eq_zero_iff.1 h3] at h2 h4
  obtain ⟨s1, s2, s3⟩ := s
  simp only at h1 h0 h2
  subst h1 h0 h2
  refine ⟨by simp, ?_⟩
  have e := congrArg List.length h4
  simp only [List.flatMap_nil, List.length_nil, List.length_drop] at e
  omega

theorem ld_len {xs : List Int} {p : Nat} {cs : List Cel} {l : List Dn} {q k : Nat} (h : LDones xs p cs l q k) : (encS ⟨(p : Int), cs, l⟩).length = k := by
  rw [h.1.1]
  simp only [encS, List.length_append, le4_length]
  omega

end Go.Proofs.Ytndnbkgejdindaa

/- The reference's variables while it reads a state's bytes. -/
namespace Go.Proofs.Ytndnbkgejdindaa
open Go.ChangeShapes Go.WideShapes Go.ChangeAt Go.RowKit

/-- what it answers at first, the state so far, its cells' row -/
structure LfI (w : World) (p : Nat) (v : Value) (l : List Cel) (V : World) : Prop where
  hv : Cls V w.heap.size [.int .i64 0, .slice none 0 0, .slice none 0 0]
  sv : Cls V (w.heap.size + 1) [.int .i64 (p : Int), v, .slice none 0 0]
  rows : Rows kCel (fun b => w.heap.size + 1 < b) V (w.heap.size + 2) 51 v l
  below : Below w.heap.size w V
  size : w.heap.size + 1 < V.heap.size

/-- a cell's variable besides -/
structure LxI (w : World) (p : Nat) (v : Value) (l : List Cel) (X : Nat) (vs : List Value) (V : World) : Prop where
  var : Cls V X vs
  hv : Cls V w.heap.size [.int .i64 0, .slice none 0 0, .slice none 0 0]
  sv : Cls V (w.heap.size + 1) [.int .i64 (p : Int), v, .slice none 0 0]
  rows : Rows kCel (fun b => w.heap.size + 1 < b ∧ b ≠ X) V (w.heap.size + 2) 51 v l
  below : Below w.heap.size w V
  ord : w.heap.size + 1 < X ∧ X < V.heap.size
  own : ∀ g, v.ownBlock = some g → g < X

section
variable {w V V' : World} {p X : Nat} {v : Value} {l : List Cel} {vs : List Value}

theorem LfI.later (h : LfI w p v l V) (hb : Below V.heap.size V V') : LfI w p v l V' :=
  ⟨h.hv.later hb, h.sv.later hb, h.rows.later hb, h.below.trans (hb.mono h.below.size), Nat.lt_of_lt_of_le h.size hb.size⟩

theorem LxI.start (h : LfI w p v l V) (cs : List Value) (ty : TypeId) : LxI w p v l V.heap.size cs (V.alloc (.cells cs.toArray ty)) := by
  have hb : Below V.heap.size V (V.alloc (.cells cs.toArray ty)) := (Below.refl _ V).alloc (Nat.le_refl _) _
  exact ⟨Cls.new V cs ty, h.hv.later hb, h.sv.later hb, (h.rows.turned (fun b hb2 ho => ⟨ho, by omega⟩)).later hb, h.below.trans (hb.mono h.below.size), ⟨h.size, by simp⟩, fun g e => (rows_lt h.rows g e).2⟩

theorem LxI.later (h : LxI w p v l X vs V) (hb : Below V.heap.size V V') : LxI w p v l X vs V' :=
  ⟨h.var.later hb, h.hv.later hb, h.sv.later hb, h.rows.later hb, h.below.trans (hb.mono h.below.size), ⟨h.ord.1, Nat.lt_of_lt_of_le h.ord.2 hb.size⟩, h.own⟩

theorem LxI.store (h : LxI w p v l X vs V) {k : Nat} (u : Value) : LxI w p v l X (vs.set k u) (V.setCell ⟨X, k, none⟩ u) := by
  have ho := h.ord
  have hg : V.grownBy (V.setCell ⟨X, k, none⟩ u) (some X) := grown_set u
  have hb : ∀ b, b ≠ X → (V.setCell ⟨X, k, none⟩ u).heap[b]? = V.heap[b]? := fun b hne => Below.heap_setCell _ _ _ _ hne
  exact ⟨h.var.set u, h.hv.grown hg (by omega), h.sv.grown hg (by omega), h.rows.move ⟨hg.size, fun b _ hb2 => hb b hb2.2⟩ (fun g e => hb g (by have := h.own g e; omega)), h.below.setCell (by show w.heap.size ≤ X; omega) u, ⟨ho.1, Nat.lt_of_lt_of_le ho.2 hg.size⟩, h.own⟩

/-- behind the append, and the row stored -/
theorem LxI.more {c : Cel} {v' : Value} (h : LxI w p v l X vs V) (hr : Rows kCel (fun b => w.heap.size + 1 < b ∧ b ≠ X) V' (w.heap.size + 2) 51 v' (l ++ [c])) (hg : V.grownBy V' v.ownBlock) : Cls V' (w.heap.size + 1) [.int .i64 (p : Int), v, .slice none 0 0] ∧ LfI w p v' (l ++ [c]) (V'.setCell ⟨w.heap.size + 1, 1, none⟩ v') := by
  have ho := h.ord
  have hne : ∀ b, b ≤ w.heap.size + 1 → V'.heap[b]? = V.heap[b]? := fun b hb => hg.block b (by omega) (fun e => by have := (rows_lt h.rows b e.symm).1; omega)
  have h1 : Cls V' (w.heap.size + 1) [.int .i64 (p : Int), v, .slice none 0 0] := h.sv.block (fun _ => hne _ (Nat.le_refl _))
  have h2 : Cls V' w.heap.size [.int .i64 0, .slice none 0 0, .slice none 0 0] := h.hv.block (fun _ => hne _ (by omega))
  have h3 : Below w.heap.size w V' := below_grown h.below h.below.size hg (fun r e => by have := (rows_lt h.rows r e).1; omega)
  have hb : ∀ b, b ≠ w.heap.size + 1 → (V'.setCell ⟨w.heap.size + 1, 1, none⟩ v').heap[b]? = V'.heap[b]? := fun b hne => Below.heap_setCell _ _ _ _ hne
  have hs : V'.heap.size ≤ (V'.setCell ⟨w.heap.size + 1, 1, none⟩ v').heap.size := (grown_set (R := w.heap.size + 1) (j := 1) v').size
  refine ⟨h1, h2.grown (grown_set (R := w.heap.size + 1) (j := 1) v') (by omega), h1.set (k := 1) v', ?_, h3.setCell (by show w.heap.size ≤ w.heap.size + 1; omega) v', Nat.lt_of_lt_of_le (Nat.lt_of_lt_of_le (Nat.lt_trans ho.1 ho.2) hg.size) hs⟩
  exact (hr.turned (ok2 := fun b => w.heap.size + 1 < b) (fun b _ h => h.1)).move ⟨hs, fun b _ hb2 => hb b (by have h4 : w.heap.size + 1 < b := hb2; omega)⟩ (fun g e => hb g (by have := (rows_lt hr g e).1; omega))

end

/-- the dones' row besides the cells, which stand -/
structure LgI (w : World) (p M : Nat) (cs : List Cel) (ca : Option Addr) (n cc : Nat) (v : Value) (l : List Dn) (V : World) : Prop where
  hv : Cls V w.heap.size [.int .i64 0, .slice none 0 0, .slice none 0 0]
  sv : Cls V (w.heap.size + 1) [.int .i64 (p : Int), .slice ca n cc, v]
  cells : Lies kCel (fun b => w.heap.size + 1 < b ∧ b < M) V ca cc cs
  rows : Rows kDn (fun b => M ≤ b) V M 53 v l
  below : Below w.heap.size w V
  ord : w.heap.size + 1 < M ∧ M ≤ V.heap.size

section
variable {w V V' : World} {p M : Nat} {cs : List Cel} {ca : Option Addr} {n cc : Nat} {v : Value} {l : List Dn}

theorem LgI.start (h : LfI w p (.slice ca n cc) cs V) : n = cs.length ∧ LgI w p V.heap.size cs ca n cc (.slice none 0 0) [] V := by
  obtain ⟨hn, hl, -, -⟩ := rows_lies h.rows (fun b hb => by show w.heap.size + 1 < b; omega)
  exact ⟨hn, h.hv, h.sv, hl.move (Kept.of_below (Below.refl _ _)) (fun b hb ho => ⟨ho, hb⟩), Rows.nil _ _ _ _ _, h.below, h.size, Nat.le_refl _⟩

theorem LgI.later (h : LgI w p M cs ca n cc v l V) (hb : Below V.heap.size V V') : LgI w p M cs ca n cc v l V' :=
  ⟨h.hv.later hb, h.sv.later hb, h.cells.later hb, h.rows.later hb, h.below.trans (hb.mono h.below.size), h.ord.1, Nat.le_trans h.ord.2 hb.size⟩

theorem LgI.more {c : Dn} {v' : Value} (h : LgI w p M cs ca n cc v l V) (hr : Rows kDn (fun b => M ≤ b) V' M 53 v' (l ++ [c])) (hg : V.grownBy V' v.ownBlock) : Cls V' (w.heap.size + 1) [.int .i64 (p : Int), .slice ca n cc, v] ∧ LgI w p M cs ca n cc v' (l ++ [c]) (V'.setCell ⟨w.heap.size + 1, 2, none⟩ v') := by
  have ho := h.ord
  have hne : ∀ b, b < M → V'.heap[b]? = V.heap[b]? := fun b hb => hg.block b (by omega) (fun e => by have := (rows_lt h.rows b e.symm).1; omega)
  have h1 : Cls V' (w.heap.size + 1) [.int .i64 (p : Int), .slice ca n cc, v] := h.sv.block (fun _ => hne _ (by omega))
  have h2 : Cls V' w.heap.size [.int .i64 0, .slice none 0 0, .slice none 0 0] := h.hv.block (fun _ => hne _ (by omega))
  have h3 : Below w.heap.size w V' := below_grown h.below h.below.size hg (fun r e => by have := (rows_lt h.rows r e).1; omega)
  have h4 : Lies kCel (fun b => w.heap.size + 1 < b ∧ b < M) V' ca cc cs := h.cells.move ⟨hg.size, fun b _ hb => hne b hb.2⟩ (fun _ _ h => h)
  have hb : ∀ b, b ≠ w.heap.size + 1 → (V'.setCell ⟨w.heap.size + 1, 2, none⟩ v').heap[b]? = V'.heap[b]? := fun b hne => Below.heap_setCell _ _ _ _ hne
  have hs : V'.heap.size ≤ (V'.setCell ⟨w.heap.size + 1, 2, none⟩ v').heap.size := (grown_set (R := w.heap.size + 1) (j := 2) v').size
  refine ⟨h1, h2.grown (grown_set (R := w.heap.size + 1) (j := 2) v') (by omega), h1.set (k := 2) v', ?_, ?_, h3.setCell (by show w.heap.size ≤ w.heap.size + 1; omega) v', ho.1, Nat.le_trans ho.2 (Nat.le_trans hg.size hs)⟩
  · exact h4.move ⟨hs, fun b _ hb2 => hb b (by have h5 := hb2.1; omega)⟩ (fun _ _ h => h)
  · exact hr.move ⟨hs, fun b _ hb2 => hb b (by have h5 : M ≤ b := hb2; omega)⟩ (fun g e => hb g (by have := (rows_lt hr g e).1; omega))

/-- it is answered -/
theorem LgI.ends (h : LgI w p M cs ca n cc v l V) {da : Option Addr} {m dc : Nat} (hv : v = .slice da m dc) (hc : cs.length ≤ 4294967295) (hd : l.length ≤ 4294967295) : m = l.length ∧ StIs (fun b => w.heap.size + 1 < b) V cs l ca cc da dc := by
  subst hv
  obtain ⟨hm, hl, -, -⟩ := rows_lies h.rows (fun b hb => hb)
  have ho := h.ord
  exact ⟨hm, h.cells.move (Kept.of_below (Below.refl _ _)) (fun b _ hb => hb.1), hl.move (Kept.of_below (Below.refl _ _)) (fun b _ hb => by have h5 : M ≤ b := hb; show w.heap.size + 1 < b; omega), by constructor <;> omega⟩

end

end Go.Proofs.Ytndnbkgejdindaa
