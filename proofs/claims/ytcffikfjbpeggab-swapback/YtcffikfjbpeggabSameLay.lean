/- Two layouts that are the same. -/
import Derived.Test.YtcffikfjbpeggabLyTail
import Derived.Deep.RegionHeld3
namespace Go.Proofs.Ytcffikfjbpeggab
open Go.ChangeShapes Go.WideShapes Go.ChangeAt Go.RowKit

set_option maxHeartbeats 2000000 in
theorem sameInts_yes {ok ok2 : Nat → Prop} (a b : Option Addr) (n m c d : Nat) (xs : List Int) (hn : n = xs.length) (hm : m = xs.length) (hr : xs.length ≤ 140737488351232) (w : World) (h1 : Lies kInt ok w a c xs) (h2 : Lies kInt ok2 w b d xs) :
    Calls Try.prog 12 #[.slice a n c, .slice b m d] w fun e w' => e = .returned (.bool true) ∧ Below w.heap.size w w' := by
  have hmn : m = n := by omega
  subst hmn
  rw [← hn] at hr
  have HL := put_by (And.intro h1 (And.intro h2 hn))
  clear h1 h2 hn hm
  go_enter Try.func12, Try.ntmps12
  go_wp2
  go_loopw [5] (fun iv wr => ∃ k : Nat, k ≤ m ∧ iv = .int .i64 k ∧ Hid (Below w.heap.size w wr)) (fun iv _ => m - (intOf iv).toNat)
  case atStart => exact ⟨0, Nat.zero_le _, rfl, put_by (Below.refl _ _)⟩
  case round =>
    obtain ⟨k, hk, rfl, HB⟩ := hrel
    by_cases hlt : k < m
    · have hkc : k < xs.length := by have := HL.out.2.2; omega
      obtain ⟨b1, o1, rfl, -, -, e1⟩ := int_at' (HL.out.1.later HB.out) hkc
      obtain ⟨b2, o2, rfl, -, -, e2⟩ := int_at' (HL.out.2.1.later HB.out) hkc
      generalize xs.getD k 0 = x at e1 e2
      have HB2 := put_by HB.out.drew
      go_wp2
      go_region
      all_goals
        go_wp2
        go_roundw
        case rel => exact ⟨k + 1, by omega, by simp, HB2⟩
        case measure => simp [intOf]; omega
    · obtain rfl : k = m := by omega
      go_wp2
      go_ret
      exact ⟨rfl, HB.out⟩


end Go.Proofs.Ytcffikfjbpeggab
