/- The layout of raw numbers. -/
import Derived.Test.YtcffikfjbpeggabLyDuo
import Derived.Test.YtcffikfjbpeggabPicked
import Derived.Deep.Cut
namespace Go.Proofs.Ytcffikfjbpeggab
open Go.ChangeShapes Go.WideShapes Go.ChangeAt Go.RowKit

/-- the layout, as far as it was built -/
structure ForI (w : World) (ep t : Int) (cs : List (List Int)) (a : Option Addr) (n c : Nat) (W : World) : Prop where
  len : n = cs.length
  flat : cs.flatten = shiftL t cs.flatten.length
  few : cs.flatten.length ≤ 5
  each : ∀ c ∈ cs, 1 ≤ c.length ∧ c.length ≤ 3
  rows : Rows (kRow kInt) (fun b => w.heap.size + 2 ≤ b) W (w.heap.size + 2) 22 (.slice a n c) cs
  var : Duo W (w.heap.size + 1) (.int .i64 ep) (.slice a n c)
  res : Duo W w.heap.size (.int .i64 0) (.slice none 0 0)
  below : Below w.heap.size w W

theorem ForI.size {w : World} {ep t : Int} {cs : List (List Int)} {a : Option Addr} {n c : Nat} {W : World} (h : ForI w ep t cs a n c W) : w.heap.size + 2 ≤ W.heap.size := by
  have := h.var.lt
  omega

theorem ForI.start (w : World) (ep t : Int) (ty : TypeId) : ForI w ep t [] none 0 0 ((w.alloc (.cells #[.int .i64 0, .slice none 0 0] ty)).alloc (.cells #[.int .i64 ep, .slice none 0 0] ty)) := by
  have d1 := Duo.new (w.alloc (.cells #[.int .i64 0, .slice none 0 0] ty)) (.int .i64 ep) (.slice none 0 0) ty
  rw [World.size_alloc] at d1
  have d0 := Duo.new w (.int .i64 0) (.slice none 0 0) ty
  have hb : Below w.heap.size w ((w.alloc (.cells #[.int .i64 0, .slice none 0 0] ty)).alloc (.cells #[.int .i64 ep, .slice none 0 0] ty)) := ((Below.refl _ w).alloc (Nat.le_refl _) _).alloc (by simp) _
  exact ⟨rfl, rfl, by simp, by simp, Rows.nil _ _ _ _ _, d1, d0.later ((Below.refl _ _).alloc (Nat.le_refl _) _), hb⟩

theorem ForI.own {w : World} {ep t : Int} {cs : List (List Int)} {a : Option Addr} {n c : Nat} {W : World} (h : ForI w ep t cs a n c W) : ∀ g, (Value.slice a n c).ownBlock = some g → w.heap.size + 2 ≤ g ∧ g < W.heap.size := rows_lt h.rows

theorem ForI.vars {w : World} {ep t : Int} {cs : List (List Int)} {a : Option Addr} {n c : Nat} {W ws w5 : World} (h : ForI w ep t cs a n c W) (hb : Below W.heap.size W ws) (hg : ws.grownBy w5 (Value.slice a n c).ownBlock) :
    Duo w5 (w.heap.size + 1) (.int .i64 ep) (.slice a n c) ∧ Duo w5 w.heap.size (.int .i64 0) (.slice none 0 0) ∧ Below w.heap.size w w5 :=
  ⟨(h.var.later hb).grown hg (fun e => by have := (h.own _ e).1; omega), (h.res.later hb).grown hg (fun e => by have := (h.own _ e).1; omega),
    (h.below.trans (hb.mono (by have := h.size; omega))).grown hg (by have := h.size; have := hb.size; omega) (fun g e => by have := (h.own _ e).1; omega)⟩

/-- one chain more -/
theorem ForI.more {w : World} {ep t : Int} {cs : List (List Int)} {a a2 : Option Addr} {n c n2 c2 m : Nat} {W ws w5 : World} {xs : List Int}
    (h : ForI w ep t cs a n c W) (hx : xs = (List.range m).map (fun (j : Nat) => ((cs.flatten.length : Int) + j + t) % 6)) (hm : 1 ≤ m ∧ m ≤ 3 ∧ cs.flatten.length + m ≤ 5)
    (hb : Below W.heap.size W ws) (hg : ws.grownBy w5 (Value.slice a n c).ownBlock) (hr : Rows (kRow kInt) (fun b => w.heap.size + 2 ≤ b) w5 (w.heap.size + 2) 22 (.slice a2 n2 c2) (cs ++ [xs])) :
    ForI w ep t (cs ++ [xs]) a2 n2 c2 (w5.setCell ⟨w.heap.size + 1, 1, none⟩ (.slice a2 n2 c2)) := by
  obtain ⟨d1, d0, hB⟩ := h.vars hb hg
  have hl : xs.length = m := by rw [hx]; simp
  obtain ⟨q1, -, -, -⟩ := rows_lies hr (fun _ h => h)
  have hfl : (cs ++ [xs]).flatten = cs.flatten ++ xs := by simp
  refine ⟨q1, ?_, ?_, ?_, hr.far (by omega) (by omega) _, d1.set1 _, d0.move (heap_far _ _ _ _ (by omega)), hB.setCell (p := ⟨w.heap.size + 1, 1, none⟩) (by simp) _⟩
  · rw [hfl, List.length_append, hl, shiftL_add, ← h.flat, ← hx]
  · rw [hfl, List.length_append, hl]
    exact hm.2.2
  · intro d hd
    rcases List.mem_append.1 hd with hd | hd
    · exact h.each d hd
    · rw [List.mem_singleton.1 hd, hl]
      exact ⟨hm.1, hm.2.1⟩

/-- a layout that was built -/
def ForPost (w : World) (ep : Int) (e : Ending) (w' : World) : Prop :=
  ∃ (cs : List (List Int)) (a : Option Addr) (c : Nat), e = .returned (.agg #[.int .i64 ep, .slice a cs.length c]) ∧ ForL cs ∧ Lies (kRow kInt) (fun b => b < w'.heap.size) w' a c cs ∧ Below w.heap.size w w'

/-- told as it is -/
theorem ForI.post {w : World} {ep t : Int} {cs : List (List Int)} {a : Option Addr} {n c : Nat} {W : World} (h : ForI w ep t cs a n c W) (hn : n ≠ 0) : ForPost w ep (.returned (.agg #[.int .i64 ep, .slice a n c])) (set2 W w.heap.size (.int .i64 ep) (.slice a n c)) := by
  have hl := h.len
  subst hl
  obtain ⟨-, h1, -, -⟩ := rows_lies h.rows (fun _ h => h)
  have hk : Kept (fun b => w.heap.size + 2 ≤ b) W (set2 W w.heap.size (.int .i64 ep) (.slice a cs.length c)) := kept_set2 (by omega) _ _
  refine ⟨cs, a, c, rfl, forL_of h.flat h.few h.each (by omega), ?_, below_set2 h.below (Nat.le_refl _) _ _⟩
  exact (h1.move hk (fun _ _ h => h)).move (Kept.of_below (Below.refl _ _)) (fun b hb _ => hb)

/-- none was built: one chain of one unit -/
theorem ForI.only {w : World} {ep t : Int} {cs : List (List Int)} {a : Option Addr} {n c : Nat} {W : World} (h : ForI w ep t cs a n c W) (h0 : 0 ≤ t) (h5 : t ≤ 5) (ty ty2 : TypeId) :
    ForPost w ep (.returned (.agg #[.int .i64 ep, .slice (some ⟨W.heap.size + 1, 0, none⟩) 1 1])) (set2 (((W.alloc (.cells #[.int .i64 t] ty)).alloc (.cells #[.slice (some ⟨W.heap.size, 0, none⟩) 1 1] ty2)).setCell ⟨w.heap.size + 1, 1, none⟩ (.slice (some ⟨W.heap.size + 1, 0, none⟩) 1 1)) w.heap.size (.int .i64 ep) (.slice (some ⟨W.heap.size + 1, 0, none⟩) 1 1)) := by
  have hs := h.size
  have l1 : Lies kInt (fun b => w.heap.size + 2 ≤ b) (W.alloc (.cells #[.int .i64 t] ty)) (some ⟨W.heap.size, 0, none⟩) 1 [t] := lies_one _ rfl ty rfl hs
  have l2 : Lies (kRow kInt) (fun b => w.heap.size + 2 ≤ b) ((W.alloc (.cells #[.int .i64 t] ty)).alloc (.cells #[.slice (some ⟨W.heap.size, 0, none⟩) 1 1] ty2)) (some ⟨(W.alloc (.cells #[.int .i64 t] ty)).heap.size, 0, none⟩) 1 [[t]] := lies_one (K := kRow kInt) _ rfl ty2 ⟨_, _, rfl, l1⟩ (by simp; omega)
  rw [World.size_alloc] at l2
  have k1 : Kept (fun b => w.heap.size + 2 ≤ b) ((W.alloc (.cells #[.int .i64 t] ty)).alloc (.cells #[.slice (some ⟨W.heap.size, 0, none⟩) 1 1] ty2)) _ := Kept.trans (kept_far (B := w.heap.size + 1) (o := 1) (by omega) (.slice (some ⟨W.heap.size + 1, 0, none⟩) 1 1)) (kept_set2 (B := w.heap.size) (by omega) (.int .i64 ep) (.slice (some ⟨W.heap.size + 1, 0, none⟩) 1 1))
  have hB : Below w.heap.size w ((W.alloc (.cells #[.int .i64 t] ty)).alloc (.cells #[.slice (some ⟨W.heap.size, 0, none⟩) 1 1] ty2)) := (h.below.alloc (by omega) _).alloc (by simp; omega) _
  exact ⟨[[t]], _, _, rfl, forL_one h0 h5, (l2.move k1 (fun _ _ h => h)).move (Kept.of_below (Below.refl _ _)) (fun b hb _ => hb), below_set2 (hB.setCell (p := ⟨w.heap.size + 1, 1, none⟩) (by simp) _) (Nat.le_refl _) _ _⟩

end Go.Proofs.Ytcffikfjbpeggab
