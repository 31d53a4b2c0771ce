/- What Octets comes to at every slice of bytes: a copy of its first ones. -/
import Derived.Test.YtfaejcdbjcklpaaOctAppend
import Derived.LoopTactic
import Derived.Handy
namespace Go.Proofs.Ytfaejcdbjcklpaa
open Go.ChangeShapes Go.WideShapes Go.ChangeAt Go.RowKit

theorem Octets_new (ao : Option Addr) (cap : Nat) (xs : List Int) (k : Nat) (hk : k ≤ 140737488351232) (w : World) (he : Octs w ao cap xs) :
    Calls Try.prog 6 #[.slice ao xs.length cap, .int .i64 k] w fun e w' => ∃ ao' cap', e = .returned (.slice ao' (xs.take k).length cap') ∧ Octs w' ao' cap' (xs.take k) ∧ (∀ a, ao' = some a → w.heap.size ≤ a.block) ∧ Below w.heap.size w w' := by
  have hcap := he.1
  have hl := he.2.1
  have HE : Hid (Octs w ao cap xs) := he
  clear he
  obtain ⟨n, hn⟩ : ∃ n, n = xs.length := ⟨_, rfl⟩
  rw [← hn] at hcap hl
  rw [← hn]
  by_cases hlt : k < n
  · have hm : k = (xs.take k).length := by simp; omega
    obtain ⟨ys, hys⟩ : ∃ ys, ys = xs.take k := ⟨_, rfl⟩
    have HT : Hid (Octs w ao cap ys) := by rw [hys]; exact HE.out.take k
    rw [← hys] at hm
    rw [← hys]
    have HM : Hid (k = ys.length) := hm
    have hkc : k ≤ cap := by omega
    clear hys hm hn HE
    go_enter Try.func6, Try.ntmps6
    go_wp2_with (at_builtin; refine wpList_append_oct rfl _ _ rfl w.heap.size _ _ _ rfl (World.ownsRow_nil _ _ _ _) ao cap k ys rfl HM.out HT.out (by omega) (Nat.le_refl _) ?_; intro v' w1 hown hgrow; have hb1 : Below w.heap.size w w1 := (Below.refl _ w).grown hgrow (Nat.le_refl _) (by intro k hk; cases hk); obtain ⟨ao', cap', rfl, he1⟩ := own_octs (xs := ys) (by rw [Nat.zero_add]; exact HM.out) (by simp) HT.out.2.1 HT.out.2.2.2.1 hown)
    go_ret
    exact ⟨ao', cap', rfl, he1, own_new hown, hb1⟩
  · rw [List.take_of_length_le (by omega)]
    have HN : Hid (n = xs.length) := hn
    clear hn
    go_enter Try.func6, Try.ntmps6
    go_wp2_with (at_builtin; refine wpList_append_oct rfl _ _ rfl w.heap.size _ _ _ rfl (World.ownsRow_nil _ _ _ _) ao cap n xs rfl HN.out HE.out (by omega) (Nat.le_refl _) ?_; intro v' w1 hown hgrow; have hb1 : Below w.heap.size w w1 := (Below.refl _ w).grown hgrow (Nat.le_refl _) (by intro k hk; cases hk); obtain ⟨ao', cap', rfl, he1⟩ := own_octs (xs := xs) (by rw [Nat.zero_add]; exact HN.out) (by simp) HE.out.2.1 HE.out.2.2.2.1 hown)
    go_ret
    exact ⟨ao', cap', rfl, he1, own_new hown, hb1⟩

theorem Octets_any (ao : Option Addr) (cap : Nat) (xs : List Int) (k : Nat) (hk : k ≤ 140737488351232) (w : World) (he : Octs w ao cap xs) :
    Calls Try.prog 6 #[.slice ao xs.length cap, .int .i64 k] w fun e w' => ∃ ao' cap', e = .returned (.slice ao' (xs.take k).length cap') ∧ Octs w' ao' cap' (xs.take k) ∧ Below w.heap.size w w' :=
  (Octets_new ao cap xs k hk w he).mono fun _ _ ⟨a, c, h1, h2, _, h4⟩ => ⟨a, c, h1, h2, h4⟩

end Go.Proofs.Ytfaejcdbjcklpaa
