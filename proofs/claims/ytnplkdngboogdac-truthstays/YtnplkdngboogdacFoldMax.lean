/- What fold comes to with the closure that picks the greater one, and Or with it, at every slice of whole numbers. -/
import Derived.Test.YtnplkdngboogdacIsTruth
import Derived.Test.YtnplkdngboogdacFoldPlain
import Derived.LoopTactic
namespace Go.Proofs.Ytnplkdngboogdac
open Go.ChangeShapes Go.WideShapes Go.ChangeAt Go.RowKit

theorem pickMax_any (a b : Int) (w : World) :
    Calls Try.prog 9 #[.int .i64 a, .int .i64 b] w fun e w' => e = .returned (.int .i64 (max a b)) ∧ w = w' := by
  by_cases h : a < b
  · have hm : max a b = b := by omega
    rw [hm]
    go_enter Try.func9, Try.ntmps9
    go_wp2
    go_ret
    exact ⟨rfl, rfl⟩
  · have hm : max a b = a := by omega
    rw [hm]
    go_enter Try.func9, Try.ntmps9
    go_wp2
    go_ret
    exact ⟨rfl, rfl⟩

theorem foldMax_any (m : Int) (ao : Option Addr) (cap : Nat) (xs : List Int) (w : World) (he : Elems w ao xs) :
    Calls Try.prog 7 #[.int .i64 m, .slice ao xs.length cap, .func (.func 9) #[] #[]] w fun e w' =>
      e = .returned (.tuple #[.int .i64 (pickVal max m xs), .int .i64 (pickErr xs)]) ∧ w = w' := by
  have hlen := he.1
  have HE : Hid (Elems w ao xs) := he
  clear he
  obtain ⟨n, hn⟩ : ∃ n, n = xs.length := ⟨_, rfl⟩
  rw [← hn] at hlen
  rw [← hn]
  have HN : Hid (n = xs.length) := hn
  clear hn
  obtain ⟨v, hv⟩ : ∃ v, v = pickVal max m xs := ⟨_, rfl⟩
  obtain ⟨c, hc⟩ : ∃ c, c = pickErr xs := ⟨_, rfl⟩
  rw [← hv, ← hc]
  have HV : Hid (v = pickVal max m xs ∧ c = pickErr xs) := ⟨hv, hc⟩
  clear hv hc
  go_enter Try.func7, Try.ntmps7
  go_wp2
  go_loop [8, 14] (fun v i => ∃ (k : Nat) (acc : Int), k ≤ n ∧ i = .int .i64 k ∧ v = .int .i64 acc ∧ Hid (acc = (xs.take k).foldl max m ∧ (xs.take k).all truthy = true))
    (fun _ i => n - (intOf i).toNat)
  case atStart => exact ⟨0, m, Nat.zero_le _, rfl, rfl, by simp [Hid]⟩
  case round =>
    obtain ⟨k, acc, hk, rfl, rfl, H⟩ := hrel
    by_cases hlt : k < n
    · obtain ⟨b, off, rfl, hcell⟩ := HE.out.at (k := k) (by rw [← HN.out]; exact hlt)
      obtain ⟨x, hx⟩ : ∃ x, x = xs.getD k 0 := ⟨_, rfl⟩
      rw [← hx] at hcell
      have HX : Hid (x = xs.getD k 0) := hx
      clear hx
      have hi := isTruth_any x
      by_cases ht : 0 ≤ x ∧ x ≤ 2
      · have e : decide (0 ≤ x ∧ x ≤ 2) = true := by simp [ht]
        rw [e] at hi
        have R : Hid (max acc x = (xs.take (k + 1)).foldl max m ∧ (xs.take (k + 1)).all truthy = true) := by
          have hkl : k < xs.length := by rw [← HN.out]; exact hlt
          refine ⟨?_, all_take_step xs k hkl H.out.2 (by rw [← HX.out, truthy_iff]; exact ht)⟩
          rw [foldl_step max m xs k hkl, ← H.out.1, ← HX.out]
        clear e ht
        go_wp2_with (first
          | (go_at_call 10; refine (hi _).mono ?_; rintro e w' ⟨rfl, rfl⟩)
          | (go_at_call 9; refine (pickMax_any _ _ _).mono ?_; rintro e w' ⟨rfl, rfl⟩))
        go_round
        case rel => exact ⟨k + 1, max acc x, by omega, by go_num, rfl, R⟩
        case measure => simp [intOf]; omega
      · have e : decide (0 ≤ x ∧ x ≤ 2) = false := by simp [ht]
        rw [e] at hi
        have hb : xs.all truthy = false := by
          have hkl : k < xs.length := by rw [← HN.out]; exact hlt
          refine all_bad xs k hkl ?_
          rw [← HX.out]
          cases hy : truthy x
          · rfl
          · exact absurd ((truthy_iff x).1 hy) ht
        have ev : v = 0 := by rw [HV.out.1]; simp [pickVal, hb]
        have ec : c = 2 := by rw [HV.out.2]; simp [pickErr, hb]
        subst ev ec
        clear e ht hb
        go_wp2_with (first
          | (go_at_call 10; refine (hi _).mono ?_; rintro e w' ⟨rfl, rfl⟩))
        go_ret2
        exact ⟨rfl, rfl⟩
    · have hkn : k = n := by omega
      subst hkn
      have ht : xs.take k = xs := by rw [HN.out]; exact List.take_length
      have hv2 : acc = v ∧ c = 0 := by
        have h := H.out
        rw [ht] at h
        refine ⟨?_, ?_⟩
        · rw [HV.out.1, h.1]; simp only [pickVal, h.2]; rfl
        · rw [HV.out.2]; simp only [pickErr, h.2]; rfl
      obtain ⟨rfl, rfl⟩ := hv2
      clear ht
      go_wp2
      go_ret2
      exact ⟨rfl, rfl⟩

theorem Or_any (ao : Option Addr) (cap : Nat) (xs : List Int) (w : World) (he : Elems w ao xs) :
    Calls Try.prog 6 #[.slice ao xs.length cap] w fun e w' =>
      e = .returned (.tuple #[.int .i64 (pickVal max 0 xs), .int .i64 (pickErr xs)]) ∧ w = w' := by
  have h := foldMax_any 0 ao cap xs w he
  go_enter Try.func6, Try.ntmps6
  go_wp2_with (go_at_call 7; refine h.mono ?_; rintro e w' ⟨rfl, rfl⟩)
  go_ret2
  exact ⟨rfl, rfl⟩

end Go.Proofs.Ytnplkdngboogdac
