/- The reference's word on whether a layout may be. -/
import Derived.Test.YtcffikfjbpeggaaLyMay
import Derived.Test.YtcffikfjbpeggaaLyBaseB
namespace Go.Proofs.Ytcffikfjbpeggaa
open Go.ChangeShapes Go.WideShapes Go.ChangeAt Go.RowKit

set_option maxHeartbeats 2000000 in
theorem RefHas_any {ok : Nat → Prop} (a : Option Addr) (n cap : Nat) (l : List Int) (x : Int) (hn : n = l.length) (hr1 : l.length ≤ 140737488351232) (w : World) (hL : Lies kInt ok w a cap l) :
    Calls Try.prog 24 #[.slice a n cap, .int .i64 x] w fun e w' => e = .returned (.bool (decide (x ∈ l))) ∧ w' = w := by
  obtain ⟨r, hr⟩ : ∃ r, r = decide (x ∈ l) := ⟨_, rfl⟩
  rw [← hn] at hr1
  rw [← hr]
  have HL := put_by (And.intro hL (And.intro hn hr))
  clear hL hn hr
  go_enter Try.func24, Try.ntmps24
  go_wp2
  go_loopw [9] (fun i wr => wr = w ∧ ∃ k : Nat, k ≤ n ∧ i = .int .i64 k ∧ Hid (x ∉ l.take k)) (fun i _ => n - (intOf i).toNat)
  case atStart => exact ⟨rfl, 0, Nat.zero_le _, rfl, put_by (by simp)⟩
  case round =>
    obtain ⟨rfl, k, hk, rfl, hh⟩ := hrel
    by_cases hlt : k < n
    · have hkc : k < l.length := by have := HL.out.2.1; omega
      obtain ⟨b, off, rfl, hb, hbo, hc⟩ := int_at HL.out.1 hkc
      have HY : Hid (x = l[k] → r = true) := put_by (fun e => by rw [HL.out.2.2]; exact decide_eq_true (e ▸ List.getElem_mem _))
      have HZ : Hid (¬ x = l[k] → x ∉ l.take (k + 1)) := put_by (fun e h => by
        rw [List.take_succ_eq_append_getElem hkc, List.mem_append] at h
        rcases h with h | h
        · exact hh.out h
        · exact e (List.mem_singleton.1 h))
      generalize l[k] = y at hc HY HZ
      by_cases e : y = x
      · subst e
        obtain rfl : r = true := HY.out rfl
        go_wp2
        go_ret
        exact ⟨rfl, rfl⟩
      · have HS2 := put_by (HZ.out (fun q => e q.symm))
        go_wp2
        go_roundw
        case rel => exact ⟨trivial, k + 1, by omega, by simp, HS2⟩
        case measure => simp [intOf]; omega
    · obtain rfl : k = n := by omega
      obtain rfl : r = false := by
        rw [HL.out.2.2]
        have h3 := hh.out
        rw [HL.out.2.1, List.take_length] at h3
        exact decide_eq_false h3
      go_wp2
      go_ret
      exact ⟨rfl, rfl⟩

end Go.Proofs.Ytcffikfjbpeggaa
