/- What octets comes to at every slice of bytes: a copy. -/
import Derived.Test.YtjjencnnmpefbaaDoorOctPlain
import Derived.LoopTactic
import Derived.Handy
namespace Go.Proofs.YtjjencnnmpefbaaDoor
open Go.ChangeShapes Go.WideShapes Go.ChangeAt Go.RowKit

theorem Tryd.infoOct : (Tryd.prog.info? 5).map (fun i => (i.zero, i.size, i.bytes)) = some (some (.int .u8 0), 1, 1) := by kernel_rfl

theorem octets_any (ao : Option Addr) (cap : Nat) (xs : List Int) (w : World) (he : Octs w ao cap xs) :
    Calls Tryd.prog 10 #[.slice ao xs.length cap] w fun e w' => ∃ ao' cap', e = .returned (.slice ao' xs.length cap') ∧ Octs w' ao' cap' xs ∧ Below w.heap.size w w' := by
  obtain ⟨i0, hi, hz0, hz1, hz2⟩ := info_parts Tryd.infoOct
  cases ao with
  | none =>
    have h0 : cap = 0 := he.2.2.1 rfl
    have h1 : xs = [] := List.length_eq_zero_iff.1 (by have := he.1; omega)
    subst h0 h1
    clear he
    go_enter Tryd.func10, Tryd.ntmps10
    go_wp2_with (at_builtin; refine wpList_append_own_none rfl _ _ 22 rfl w.heap.size 5 i0 1 Tryd.underlying22 hi _ _ _ rfl (World.ownsRow_nil _ _ _ _) rfl ?_)
    go_ret
    exact ⟨none, 0, rfl, Octs.nil _ _ _ (fun _ => rfl), Below.refl _ _⟩
  | some x =>
    have hnews := he.news
    have hl := he.2.1
    have HB : Hid (∀ y ∈ xs, 0 ≤ y ∧ y ≤ 255) := he.2.2.2.1
    clear he
    go_enter Tryd.func10, Tryd.ntmps10
    go_wp2_with (at_builtin; refine wpList_append_own _ rfl _ _ 22 rfl w.heap.size 5 i0 (.int .u8 0) 1 1 Tryd.underlying22 hi hz0 hz1 hz2 rfl (by decide) _ _ _ rfl (World.ownsRow_nil _ _ _ _) x xs.length cap (xs.map (Value.int .u8)) rfl (by simp) hnews (octs_oneCells xs) (by unfold maxLen; omega) (by omega) (Nat.le_refl _) ?_; intro v' w1 hown hgrow _; have hb1 : Below w.heap.size w w1 := (Below.refl _ w).grown hgrow (Nat.le_refl _) (by intro k hk; cases hk); obtain ⟨ao', cap', rfl, he1⟩ := own_octs (xs := xs) (by simp) (by simp) hl HB.out hown)
    go_ret
    exact ⟨ao', cap', rfl, he1, hb1⟩

end Go.Proofs.YtjjencnnmpefbaaDoor
