/- Small functions of trees: copies of bytes, whether a node is a leaf, how much it has, what was refused. -/
import Derived.Test.YtcegkgobkpakiaaTrNode
import Derived.Deep.RegionWith
namespace Go.Proofs.Ytcegkgobkpakiaa
open Go.ChangeShapes Go.WideShapes Go.ChangeAt Go.RowKit

/-- new blocks will do -/
def Fresh (ok : Nat → Prop) (w : World) : Prop := ∀ b, w.heap.size ≤ b → ok b

theorem Fresh.later {ok : Nat → Prop} {w w' : World} (h : Fresh ok w) (hs : w.heap.size ≤ w'.heap.size) : Fresh ok w' := fun b hb => h b (Nat.le_trans hs hb)

/-- a variable of two cells that was just set -/
structure Two (W : World) (B : Nat) (u v : Value) : Prop where
  c0 : W.cell? ⟨B, 0, none⟩ = some u
  c1 : W.cell? ⟨B, 1, none⟩ = some v
  f0 : W.frozen? ⟨B, 0, none⟩ = false
  f1 : W.frozen? ⟨B, 1, none⟩ = false

theorem Two.set {W : World} {B : Nat} {x y : Value} (h : Two W B x y) (u v : Value) : Two ((W.setCell ⟨B, 0, none⟩ u).setCell ⟨B, 1, none⟩ v) B u v := by
  refine ⟨?_, ?_, ?_, ?_⟩
  · rw [World.cell?_setCell_other _ _ _ _ (by simp)]
    exact World.cell?_setCell_same' _ _ _ (by rw [h.c0]; rfl)
  · exact World.cell?_setCell_same' _ _ _ (by rw [World.cell?_setCell_other _ _ _ _ (by simp), h.c1]; rfl)
  · rw [World.frozen?_setCell, World.frozen?_setCell]
    exact h.f0
  · rw [World.frozen?_setCell, World.frozen?_setCell]
    exact h.f1

theorem Two.later {W W' : World} {B : Nat} {x y : Value} (h : Two W B x y) (hb : Below W.heap.size W W') : Two W' B x y := by
  have hB : B < W.heap.size := World.block_lt_of_cell? _ _ h.c0
  exact ⟨(hb.cell (p := ⟨B, 0, none⟩) hB).trans h.c0, (hb.cell (p := ⟨B, 1, none⟩) hB).trans h.c1, (hb.frozen (p := ⟨B, 0, none⟩) hB).trans h.f0, (hb.frozen (p := ⟨B, 1, none⟩) hB).trans h.f1⟩

theorem Two.new (W : World) (u v : Value) (ty : TypeId) : Two (W.alloc (.cells #[u, v] ty)) W.heap.size u v := ⟨by simp, by simp, by simp, by simp⟩

theorem below_two {n : Nat} {w W : World} {B : Nat} (h : Below n w W) (hn : n ≤ B) (u v : Value) : Below n w ((W.setCell ⟨B, 0, none⟩ u).setCell ⟨B, 1, none⟩ v) :=
  (h.setCell (p := ⟨B, 0, none⟩) hn u).setCell (p := ⟨B, 1, none⟩) hn v

set_option maxHeartbeats 1000000 in
theorem copied_any (ao : Option Addr) (cap : Nat) (xs : List Int) (w : World) (he : Octs w ao cap xs) :
    Calls Try.prog 24 #[.slice ao xs.length cap] w fun e w' => ∃ ao' cap', e = .returned (.slice ao' xs.length cap') ∧ Octs w' ao' cap' xs ∧ (∀ a, ao' = some a → w.heap.size ≤ a.block) ∧ Below w.heap.size w w' := by
  have hb := he.2.2.2.1
  have hl := he.2.1
  obtain ⟨n, hn⟩ : ∃ n, n = xs.length := ⟨_, rfl⟩
  rw [← hn] at hl ⊢
  have HN : Hid (n = xs.length) := hn
  clear hn
  go_enter Try.func24, Try.ntmps24
  go_wp2_with (at_builtin; refine wpList_append_oct rfl (.const (.slice none 0 0)) (.tmp 3) rfl w.heap.size (.slice none 0 0) 0 [] rfl (World.ownsRow_nil _ _ _ _) ao cap n xs rfl HN.out he (by omega) (Nat.le_refl _) ?_; intro v' w' hown hg)
  rw [Nat.zero_add, List.nil_append] at hown
  obtain ⟨ao', cap', rfl, ho⟩ := own_octs HN.out rfl (by rw [← HN.out]; exact hl) hb hown
  have hnew := own_new hown
  rw [← HN.out]
  go_wp2
  go_ret
  exact ⟨_, _, rfl, ho, hnew, (Below.refl _ w).grown hg (Nat.le_refl _) (fun g h => by cases h)⟩

theorem isLeaf_any (a b : Option Addr) (n m c d : Nat) (w : World) :
    Calls Try.prog 33 #[.agg #[.slice a n c, .slice b m d]] w fun e w' => e = .returned (.bool (decide (m = 0))) ∧ Below w.heap.size w w' := by
  have hm : ((m : Int) == 0) = decide (m = 0) := by
    by_cases h : m = 0
    · simp [h]
    · rw [decide_eq_false h, beq_eq_false_iff_ne]; omega
  go_enter Try.func33, Try.ntmps33
  go_wp2
  go_ret
  exact ⟨rfl, (Below.refl _ w).alloc (Nat.le_refl _) _⟩

theorem size_any (a b : Option Addr) (n m c d : Nat) (hn : n ≤ 1000) (hm : m ≤ 1000) (w : World) :
    Calls Try.prog 39 #[.agg #[.slice a n c, .slice b m d]] w fun e w' => e = .returned (.int .i64 (n + m : Nat)) ∧ Below w.heap.size w w' := by
  go_enter Try.func39, Try.ntmps39
  go_wp2
  go_ret
  refine ⟨?_, (Below.refl _ w).alloc (Nat.le_refl _) _⟩
  go_num

theorem refused_any (c : Int) (w : World) :
    Calls Try.prog 18 #[.int .i64 c] w fun e w' => e = .returned (.agg #[.int .i64 c, .int .i64 0, .slice none 0 0, .slice none 0 0]) ∧ Below w.heap.size w w' := by
  go_enter Try.func18, Try.ntmps18
  go_wp2
  refine bodyPost_ret (v := .agg #[.int .i64 c, .int .i64 0, .slice none 0 0, .slice none 0 0]) (by simp [results, Try.results18, go_sem]) rfl ⟨rfl, ?_⟩
  exact (Below.refl _ w).alloc (Nat.le_refl _) _

theorem has_any (ao : Option Addr) (n cap : Nat) (v : Int) (w : World) :
    Calls Try.prog 14 #[.slice ao n cap, .int .i64 v] w fun e w' => e = .returned (.bool (decide (0 ≤ v ∧ v < n))) ∧ w' = w := by
  by_cases h0 : 0 ≤ v
  · by_cases h1 : v < n
    · have hr : decide (0 ≤ v ∧ v < (n : Int)) = true := decide_eq_true ⟨h0, h1⟩
      go_enter Try.func14, Try.ntmps14
      go_wp2
      go_ret
      exact ⟨by rw [hr]; rfl, rfl⟩
    · have hr : decide (0 ≤ v ∧ v < (n : Int)) = false := decide_eq_false (fun h => h1 h.2)
      have hd : decide (v < (n : Int)) = false := decide_eq_false h1
      go_enter Try.func14, Try.ntmps14
      go_wp2
      go_ret
      exact ⟨rfl, rfl⟩
  · have hr : decide (0 ≤ v ∧ v < (n : Int)) = false := decide_eq_false (fun h => h0 h.1)
    have hd : decide (0 ≤ v) = false := decide_eq_false h0
    go_enter Try.func14, Try.ntmps14
    go_wp2
    go_ret
    exact ⟨rfl, rfl⟩

end Go.Proofs.Ytcegkgobkpakiaa
