/- What sameBytes and sameEntries come to: they only read. -/
import Derived.Test.YtfaejcdbjcklpaaRtSameP
import Derived.BigQuiet
import Derived.Deep.QuietTactic
import Derived.LoopTactic
import Derived.Handy
namespace Go.Proofs.Ytfaejcdbjcklpaa
open Go.ChangeShapes Go.WideShapes Go.ChangeAt Go.RowKit

set_option maxHeartbeats 4000000 in
theorem sameBytesK_q (ao bo : Option Addr) (cap cbp : Nat) (xs ys : List Int) (w : World) (he : Octs w ao cap xs) (hf : Octs w bo cbp ys) :
    Calls Try.prog 15 #[.slice ao xs.length cap, .slice bo ys.length cbp] w fun e w' => e = .returned (.bool (decide (xs = ys))) ∧ ∃ j, w' = w.drewN j := by
  have hl1 := he.2.1
  have HE := put_by (And.intro he hf)
  clear he hf
  obtain ⟨n, hn⟩ : ∃ n, n = xs.length := ⟨_, rfl⟩
  obtain ⟨m, hm⟩ : ∃ m, m = ys.length := ⟨_, rfl⟩
  rw [← hn] at hl1
  rw [← hn, ← hm]
  have HN := put_by (And.intro hn hm)
  obtain ⟨R, hR⟩ : ∃ R, R = decide (xs = ys) := ⟨_, rfl⟩
  rw [← hR]
  have HR := put_by hR
  clear hR
  by_cases hnm : n = m
  · clear hn hm
    subst hnm
    go_enter Try.func15, Try.ntmps15
    go_wp2
    go_loopw [5] (fun i wr => ∃ k j : Nat, k ≤ n ∧ i = .int .i64 k ∧ wr = w.drewN j ∧ Hid (xs.take k = ys.take k)) (fun i _ => n - (intOf i).toNat)
    case atStart => exact ⟨0, 0, Nat.zero_le _, rfl, rfl, rfl⟩
    case round =>
      obtain ⟨k, j, hk, rfl, rfl, HT⟩ := hrel
      by_cases hlt : k < n
      · have hx : k < xs.length := by rw [← HN.out.1]; exact hlt
        have hy : k < ys.length := by rw [← HN.out.2]; exact hlt
        obtain ⟨b, off, rfl, hc1⟩ := octs_cell HE.out.1 hx
        obtain ⟨b', off', rfl, hc2⟩ := octs_cell HE.out.2 hy
        have ik : (k : Int) < (n : Int) := by omega
        by_cases hxy : xs[k] = ys[k]
        · have RT : Hid (xs.take (k + 1) = ys.take (k + 1)) := takeX_ext hx hy HT.out hxy
          rw [← hxy] at hc2
          clear hxy HE
          generalize xs[k] = x at hc1 hc2
          clear hx hy
          go_wp2
          go_quiet (fail)
          go_wp2
          go_roundw
          case rel => exact ⟨k + 1, _, by omega, by go_num, rfl, RT⟩
          case measure => simp [intOf]; omega
        · have RF : Hid (R = false) := by
            show R = false
            rw [HR.out]
            refine decide_eq_false (fun e => hxy ?_)
            subst e
            rfl
          clear HE
          generalize xs[k] = x at hc1 hxy
          generalize ys[k] = y at hc2 hxy
          clear hx hy
          go_wp2
          go_quiet (fail)
          go_wp2
          go_ret
          rw [RF.out]
          exact ⟨rfl, _, by rw [World.drewN_drewN]⟩
      · have hkn : k = n := by omega
        subst hkn
        have RF : Hid (R = true) := by
          show R = true
          rw [HR.out]
          refine decide_eq_true ?_
          have := HT.out
          rw [List.take_of_length_le (by rw [← HN.out.1]; exact Nat.le_refl _), List.take_of_length_le (by rw [← HN.out.2]; exact Nat.le_refl _)] at this
          exact this
        go_wp2
        go_ret
        rw [RF.out]
        exact ⟨rfl, j, rfl⟩
  · have RF : Hid (R = false) := by
      show R = false
      rw [HR.out]
      refine decide_eq_false (fun e => hnm ?_)
      rw [hn, hm, e]
    clear hn hm
    go_enter Try.func15, Try.ntmps15
    go_wp2
    go_ret
    rw [RF.out]
    exact ⟨rfl, 0, rfl⟩


end Go.Proofs.Ytfaejcdbjcklpaa
