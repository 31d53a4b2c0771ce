/- Lists of nodes, halved where they are too long for one node. -/
import Derived.Test.YtcegkgobkpakiaaTrGrowN
import Derived.Test.YtcegkgobkpakiaaTrHalfE
namespace Go.Proofs.Ytcegkgobkpakiaa
open Go.ChangeShapes Go.WideShapes Go.ChangeAt Go.RowKit

set_option maxHeartbeats 2000000 in
theorem halvesN_any {α : Type} (K : Kd α 2) (ok : Nat → Prop) (l : List α) (hl : l.length ≤ 5) (ao : Option Addr) (cap : Nat) (w : World) (hok : Fresh ok w) (he : Lies K ok w ao cap l) (hp : Ples ao cap) :
    Calls Try.prog 47 #[.slice ao l.length cap] w fun e w' => ∃ a c, e = .returned (.slice a (halvesL l).length c) ∧ Lies (kRow K) ok w' a c (halvesL l) ∧ Below w.heap.size w w' := by
  have hcap := he.1
  by_cases h4 : l.length ≤ 4
  · have H1 : Hid (halvesL l = [l]) := if_pos h4
    have H2 : Hid (Lies (kRow K) ok (w.alloc (.cells #[.slice ao l.length cap] 51)) (some ⟨w.heap.size, 0, none⟩) 1 [l]) := lies_one _ rfl _ ⟨ao, cap, rfl, he, hp⟩ (hok _ (Nat.le_refl _))
    generalize l.length = n at H2 h4 hl hcap ⊢
    clear he hok
    go_enter Try.func47, Try.ntmps47
    go_wp2
    go_ret
    rw [H1.out]
    exact ⟨_, _, rfl, H2.out, (Below.refl _ w).alloc (Nat.le_refl _) _⟩
  · have h5 : l.length = 5 := by omega
    have H1 : Hid (halvesL l = [l.take 2, l.drop 2]) := if_neg h4
    have l1 : (l.take 2).length = 2 := by rw [List.length_take]; omega
    have l2 : (l.drop 2).length = 3 := by rw [List.length_drop]; omega
    rcases lies_fromN he hp 2 (by omega) with ⟨hc, _, _⟩ | ⟨hc, b, off, rfl, h3⟩
    · omega
    · have H2 : Hid (Lies (kRow K) ok (w.alloc (.cells #[.slice (some ⟨b, off, none⟩) 2 cap, .slice (some ⟨b, off + 2 * 2, none⟩) 3 (cap - 2)] 51)) (some ⟨w.heap.size, 0, none⟩) 2 [l.take 2, l.drop 2]) := by
        have := lies_twoN (ty := 51) hok (he.take 2) hp h3 (Ples.some _ _ _)
        rw [l1, l2] at this
        exact this
      have hb : Below w.heap.size w (w.alloc (.cells #[.slice (some ⟨b, off, none⟩) 2 cap, .slice (some ⟨b, off + 2 * 2, none⟩) 3 (cap - 2)] 51)) := (Below.refl _ w).alloc (Nat.le_refl _) _
      have HB : Hid (Below w.heap.size w (w.alloc (.cells #[.slice (some ⟨b, off, none⟩) 2 cap, .slice (some ⟨b, off + 2 * 2, none⟩) 3 (cap - 2)] 51)).drew) := hb.drew
      have H3 : Hid (Lies (kRow K) ok (w.alloc (.cells #[.slice (some ⟨b, off, none⟩) 2 cap, .slice (some ⟨b, off + 2 * 2, none⟩) 3 (cap - 2)] 51)).drew (some ⟨w.heap.size, 0, none⟩) 2 [l.take 2, l.drop 2]) := H2.out.later (Below.refl _ _).drew
      rw [h5] at hcap ⊢
      clear he hok h4 h5 l1 l2 h3 hl hp hb H2
      go_enter Try.func47, Try.ntmps47
      go_wp2_with (go_region)
      all_goals
        go_ret
        rw [H1.out]
        exact ⟨_, _, rfl, H3.out, HB.out⟩

end Go.Proofs.Ytcegkgobkpakiaa
