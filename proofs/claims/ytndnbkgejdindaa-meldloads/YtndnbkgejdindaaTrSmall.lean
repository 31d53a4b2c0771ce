/- Small functions of trees: copies of bytes, whether a node is a leaf, how much it has, what was refused. -/
import Derived.Test.YtndnbkgejdindaaTrNode
import Derived.Deep.RegionWith
namespace Go.Proofs.Ytndnbkgejdindaa
open Go.ChangeShapes Go.WideShapes Go.ChangeAt Go.RowKit

/-- new blocks will do -/
def Fresh (ok : Nat → Prop) (w : World) : Prop := ∀ b, w.heap.size ≤ b → ok b

theorem Fresh.later {ok : Nat → Prop} {w w' : World} (h : Fresh ok w) (hs : w.heap.size ≤ w'.heap.size) : Fresh ok w' := fun b hb => h b (Nat.le_trans hs hb)

/-- a variable of two cells that was just set -/
structure Two (W : World) (B : Nat) (u v : Value) : Prop where
  c0 : W.cell? ⟨B, 0, none⟩ = some u
  c1 : W.cell? ⟨B, 1, none⟩ = some v
  f0 : W.frozen? ⟨B, 0, none⟩ = false
  f1 : W.frozen? ⟨B, 1, none⟩ = false

theorem Two.set {W : World} {B : Nat} {x y : Value} (h : Two W B x y) (u v : Value) : Two ((W.setCell ⟨B, 0, none⟩ u).setCell ⟨B, 1, none⟩ v) B u v := by
  refine ⟨?_, ?_, ?_, ?_⟩
  · rw [World.cell?_setCell_other _ _ _ _ (by simp)]
    exact World.cell?_setCell_same' _ _ _ (by rw [h.c0]; rfl)
  · exact World.cell?_setCell_same' _ _ _ (by rw [World.cell?_setCell_other _ _ _ _ (by simp), h.c1]; rfl)
  · rw [World.frozen?_setCell, World.frozen?_setCell]
    exact h.f0
  · rw [World.frozen?_setCell, World.frozen?_setCell]
    exact h.f1

theorem Two.later {W W' : World} {B : Nat} {x y : Value} (h : Two W B x y) (hb : Below W.heap.size W W') : Two W' B x y := by
  have hB : B < W.heap.size := World.block_lt_of_cell? _ _ h.c0
  exact ⟨(hb.cell (p := ⟨B, 0, none⟩) hB).trans h.c0, (hb.cell (p := ⟨B, 1, none⟩) hB).trans h.c1, (hb.frozen (p := ⟨B, 0, none⟩) hB).trans h.f0, (hb.frozen (p := ⟨B, 1, none⟩) hB).trans h.f1⟩

theorem Two.new (W : World) (u v : Value) (ty : TypeId) : Two (W.alloc (.cells #[u, v] ty)) W.heap.size u v := ⟨by simp, by simp, by simp, by simp⟩

theorem below_two {n : Nat} {w W : World} {B : Nat} (h : Below n w W) (hn : n ≤ B) (u v : Value) : Below n w ((W.setCell ⟨B, 0, none⟩ u).setCell ⟨B, 1, none⟩ v) :=
  (h.setCell (p := ⟨B, 0, none⟩) hn u).setCell (p := ⟨B, 1, none⟩) hn v

set_option maxHeartbeats 1000000 in
theorem ownBytes_any (ao : Option Addr) (cap : Nat) (xs : List Int) (w : World) (he : Octs w ao cap xs) :
    Calls Try.prog 51 #[.slice ao xs.length cap] w fun e w' => ∃ ao' cap', e = .returned (.slice ao' xs.length cap') ∧ Octs w' ao' cap' xs ∧ (∀ a, ao' = some a → w.heap.size ≤ a.block) ∧ Below w.heap.size w w' := by
  have hb := he.2.2.2.1
  have hl := he.2.1
  obtain ⟨n, hn⟩ : ∃ n, n = xs.length := ⟨_, rfl⟩
  rw [← hn] at hl ⊢
  have HN : Hid (n = xs.length) := hn
  clear hn
  go_enter Try.func51, Try.ntmps51
  go_wp2_with (at_builtin; refine wpList_append_oct rfl (.const (.slice none 0 0)) (.tmp 3) rfl w.heap.size (.slice none 0 0) 0 [] rfl (World.ownsRow_nil _ _ _ _) ao cap n xs rfl HN.out he (by omega) (Nat.le_refl _) ?_; intro v' w' hown hg)
  rw [Nat.zero_add, List.nil_append] at hown
  obtain ⟨ao', cap', rfl, ho⟩ := own_octs HN.out rfl (by rw [← HN.out]; exact hl) hb hown
  have hnew := own_new hown
  rw [← HN.out]
  go_wp2
  go_ret
  exact ⟨_, _, rfl, ho, hnew, (Below.refl _ w).grown hg (Nat.le_refl _) (fun g h => by cases h)⟩

end Go.Proofs.Ytndnbkgejdindaa
