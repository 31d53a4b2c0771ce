/- The document's own way to read one token (oneToken): numbers. -/
import Derived.Test.YtjeniabnokcbnaaDoorLexRefWord
namespace Go.Proofs.YtjeniabnokcbnaaDoor
open Go.ChangeShapes Go.WideShapes Go.ChangeAt Go.RowKit

theorem one_is_num {s : ByteArray} {k : Nat} (hk : k < (bts s).length) (hl : letter (low (bts s)[k]) = false) (hd : digit (bts s)[k] = true) :
    one ((bts s).drop k) = if 9223372036854775807 < num (((bts s).drop k).take (on digit (bts s) (k + 1) - k)) then .bad 10 else .tok ⟨2, num (((bts s).drop k).take (on digit (bts s) (k + 1) - k)), []⟩ (on digit (bts s) (k + 1) - k) := by
  have hn : ((bts s).drop k |>.takeWhile digit).length = on digit (bts s) (k + 1) - k := by
    rw [← on_step digit (bts s) k hk hd]
    unfold on
    omega
  rw [drop_cons hk] at hn ⊢
  simp only [one, hl, hd, if_true, hn]
  rfl

theorem num_take_le (l : List UInt8) (d n : Nat) (h : d ≤ n) : num (l.take d) ≤ num (l.take n) := by
  have e : l.take n = l.take d ++ (l.take n).drop d := by
    have := (List.take_append_drop d (l.take n)).symm
    rw [List.take_take, Nat.min_eq_left h] at this
    exact this
  rw [e, num_append]
  exact numFrom_ge _ _

theorem quo_fact (g : Nat) (hg : g ≤ 9) : ∃ q : Nat, q ≤ 922337203685477580 ∧ ((9223372036854775807 : Int) - (g : Int)).tdiv 10 = (q : Int) ∧ ∀ a : Nat, q < a ↔ 9223372036854775807 < a * 10 + g := by
  rcases (show g ≤ 7 ∨ g = 8 ∨ g = 9 by omega) with h | rfl | rfl
  · refine ⟨922337203685477580, Nat.le_refl _, ?_, fun a => by omega⟩
    rw [Int.tdiv_eq_ediv_of_nonneg (by omega)]
    omega
  · exact ⟨922337203685477579, by omega, by decide, fun a => by omega⟩
  · exact ⟨922337203685477579, by omega, by decide, fun a => by omega⟩

set_option maxRecDepth 100000 in
set_option maxHeartbeats 8000000 in
theorem oneToken_num (s : ByteArray) (hs : s.size ≤ 2000) (k : Nat) (hk : k < s.size) (hl : letter (low (s[k]'hk)) = false) (hd : digit (s[k]'hk) = true) (w : World) :
    Calls Tryd.prog 13 #[.string s, .int .i64 (k : Int)] w fun e w' => OnePost s k w e w' := by
  obtain ⟨x, hx⟩ : ∃ x, (s[k]'hk).toNat = x := ⟨_, rfl⟩
  have hkl : k < (bts s).length := by rw [← size_bytes]; exact hk
  have hk1 : (k : Int) < (s.size : Int) := by omega
  have cL := isLetter_any x (s[k]'hk) hx
  have cD := isDigit_any x (s[k]'hk) hx
  rw [hl] at cL
  rw [hd] at cD
  obtain ⟨N, hN⟩ : ∃ N, N = on digit (bts s) (k + 1) := ⟨_, rfl⟩
  have hN1 : k + 1 ≤ N := by rw [hN]; exact on_ge _ _ _
  have hN2 : N ≤ s.size := by rw [hN, size_bytes]; exact on_le _ _ _ hkl
  have HW : Hid (∀ j (hj : j < s.size), k ≤ j → j < N → digit (s[j]'hj) = true) := by
    intro j hj h1 h2
    by_cases he : j = k
    · subst he
      exact hd
    · exact on_lt digit (bts s) (k + 1) j (by omega) (by rw [← hN]; exact h2) (by rw [← size_bytes]; exact hj)
  have HE : Hid (∀ hj : N < s.size, digit (s[N]'hj) = false) := fun hj => on_end digit (bts s) (k + 1) N hN.symm (by rw [← size_bytes]; exact hj)
  have HO := hidden (one_is_num hkl hl hd)
  rw [← hN] at HO
  clear hN hl hd
  go_enter Tryd.func13, Tryd.ntmps13
  go_wp2_with (first
    | (go_at_call 37; refine (cL _).mono ?_; rintro e w1 ⟨rfl, rfl⟩)
    | (go_at_call 38; refine (cD _).mono ?_; rintro e w1 ⟨rfl, rfl⟩))
  go_loopw [8] (fun v wr => ∃ j : Nat, k + 1 ≤ j ∧ j ≤ N ∧ v = .int .i64 (j : Int) ∧ wr = w.alloc (.cells #[.int .i64 0, .int .i64 0, .string ⟨#[]⟩] 44)) (fun v _ => N - (intOf v).toNat)
  case atStart => exact ⟨k + 1, Nat.le_refl _, hN1, by go_num, rfl⟩
  case round =>
    obtain ⟨j, hj1, hj2, rfl, rfl⟩ := hrel
    clear cL cD
    by_cases hjN : j < N
    · have hjs : j < s.size := by omega
      have hjs1 : (j : Int) < (s.size : Int) := by omega
      have hw := HW.out j hjs (by omega) hjN
      obtain ⟨y, hy⟩ : ∃ y, (s[j]'hjs).toNat = y := ⟨_, rfl⟩
      have cD := isDigit_any y (s[j]'hjs) hy
      rw [hw] at cD
      clear hw
      go_wp2_with (go_at_call 38; refine (cD _).mono ?_; rintro e w2 ⟨rfl, rfl⟩)
      go_roundw
      case rel => exact ⟨j + 1, by omega, by omega, by go_num, trivial⟩
      case measure => simp [intOf]; omega
    · obtain rfl : j = N := by omega
      have hcond : ¬ (j : Int) < (s.size : Int) ∨ ((j : Int) < (s.size : Int) ∧ ∃ hj : j < s.size, digit (s[j]'hj) = false) := by
        by_cases h : j < s.size
        · exact .inr ⟨by omega, h, HE.out h⟩
        · exact .inl (by omega)
      have hb : Below w.heap.size w (w.alloc (.cells #[.int .i64 0, .int .i64 0, .string ⟨#[]⟩] 44)) := (Below.refl _ w).alloc (Nat.le_refl _) _
      rcases hcond with h1 | ⟨h1, hj, hw⟩
      · go_wp2
        go_loopw [11, 12] (fun v i wr => ∃ (m d a : Nat), k ≤ m ∧ m ≤ j ∧ v = .int .i64 (a : Int) ∧ i = .int .i64 (m : Int) ∧ a ≤ 9223372036854775807 ∧ Hid (m = k + d) ∧ wr = w.alloc (.cells #[.int .i64 0, .int .i64 0, .string ⟨#[]⟩] 44) ∧ Hid (a = num (((bts s).drop k).take d))) (fun _ i _ => j - (intOf i).toNat)
        case atStart => exact ⟨k, 0, 0, Nat.le_refl _, by omega, rfl, rfl, by omega, rfl, by trivial, by simp [Hid, num]⟩
        case round =>
          obtain ⟨m, d, a, hm1, hm2, rfl, rfl, ha, HMD, rfl, HA⟩ := hrel
          by_cases hmj : m < j
          · have hmj1 : (m : Int) < (j : Int) := by omega
            have hms : m < s.size := by omega
            have hms1 : (m : Int) < (s.size : Int) := by omega
            have hw := HW.out m hms hm1 hmj
            obtain ⟨y, hy⟩ : ∃ y, (s[m]'hms).toNat = y := ⟨_, rfl⟩
            have hy2 : 48 ≤ y ∧ y ≤ 57 := by
              unfold digit at hw
              simp only [Bool.and_eq_true, decide_eq_true_eq] at hw
              omega
            obtain ⟨g, hg⟩ : ∃ g : Nat, y = 48 + g := ⟨y - 48, by omega⟩
            have hg9 : g ≤ 9 := by omega
            have hyg : (y : Int) - 48 = (g : Int) := by omega
            obtain ⟨q, hqm, hq1, hq⟩ := quo_fact g hg9
            have HQ := hidden (hq a)
            clear hq
            have R : Hid (a * 10 + g = num (((bts s).drop k).take (d + 1))) := by
              have hdl : d < ((bts s).drop k).length := by rw [List.length_drop, ← size_bytes]; have := HMD.out; omega
              have e : ((bts s).drop k)[d] = s[m]'hms := by
                rw [List.getElem_drop]
                have h2 := HMD.out
                subst h2
                rfl
              show _ = _
              rw [List.take_succ_eq_append_getElem hdl, e, num_push, ← HA.out, hy]
              omega
            have HM2 : Hid (m + 1 = k + (d + 1)) := by have := HMD.out; show _ = _; omega
            by_cases hov : q < a
            · have hov1 : (q : Int) < (a : Int) := by omega
              have R2 : Hid (one ((bts s).drop k) = .bad 10) := by
                have h1 := HO.out
                have h2 := num_take_le ((bts s).drop k) (d + 1) (j - k) (by have := HMD.out; omega)
                rw [← R.out] at h2
                rw [if_pos (Nat.lt_of_lt_of_le (HQ.out.1 hov) h2)] at h1
                exact h1
              clear HO HW HE HA HMD R HM2 hw HQ hov hg hy2
              go_wp2
              refine bodyPost_ret (v := .tuple #[tokv zeroTok, .int .i64 0, .int .i64 10]) (by simp [results, Tryd.results13, go_sem, asAddr, tokv, zeroTok, str]) rfl ⟨hb, .inl ⟨10, R2.out, rfl⟩⟩
            · have hov1 : ¬ (q : Int) < (a : Int) := by omega
              have hnew : a * 10 + g ≤ 9223372036854775807 := Nat.le_of_not_lt (fun h => hov (HQ.out.2 h))
              clear HO HE HA HMD hw HQ hov hg hy2
              go_wp2
              go_roundw
              case rel => exact ⟨m + 1, d + 1, a * 10 + g, by omega, by omega, by go_num, by go_num, hnew, HM2, trivial, R⟩
              case measure => simp [intOf]; omega
          · have hmj1 : ¬ (m : Int) < (j : Int) := by omega
            have R2 : Hid (one ((bts s).drop k) = .tok ⟨2, (a : Int), []⟩ d ∧ (j : Int) = ((k + d : Nat) : Int)) := by
              have h1 := HO.out
              have h2 := HMD.out
              rw [show j - k = d by omega, ← HA.out, if_neg (by omega)] at h1
              exact ⟨h1, by omega⟩
            clear HO HW HE HA HMD
            go_wp2
            refine bodyPost_ret (v := .tuple #[tokv ⟨2, (a : Int), []⟩, .int .i64 (j : Int), .int .i64 0]) (by simp [results, Tryd.results13, go_sem, asAddr, tokv, str]) rfl ⟨?_, .inr ⟨⟨2, (a : Int), []⟩, d, R2.out.1, by rw [← R2.out.2]⟩⟩
            exact (Below.refl _ w).alloc (Nat.le_refl _) _
      · obtain ⟨y, hy⟩ : ∃ y, (s[j]'hj).toNat = y := ⟨_, rfl⟩
        have cD := isDigit_any y (s[j]'hj) hy
        rw [hw] at cD
        clear hw
        go_wp2_with (go_at_call 38; refine (cD _).mono ?_; rintro e w2 ⟨rfl, rfl⟩)
        clear cD hy
        go_loopw [11, 12] (fun v i wr => ∃ (m d a : Nat), k ≤ m ∧ m ≤ j ∧ v = .int .i64 (a : Int) ∧ i = .int .i64 (m : Int) ∧ a ≤ 9223372036854775807 ∧ Hid (m = k + d) ∧ wr = w.alloc (.cells #[.int .i64 0, .int .i64 0, .string ⟨#[]⟩] 44) ∧ Hid (a = num (((bts s).drop k).take d))) (fun _ i _ => j - (intOf i).toNat)
        case atStart => exact ⟨k, 0, 0, Nat.le_refl _, by omega, rfl, rfl, by omega, rfl, by trivial, by simp [Hid, num]⟩
        case round =>
          obtain ⟨m, d, a, hm1, hm2, rfl, rfl, ha, HMD, rfl, HA⟩ := hrel
          by_cases hmj : m < j
          · have hmj1 : (m : Int) < (j : Int) := by omega
            have hms : m < s.size := by omega
            have hms1 : (m : Int) < (s.size : Int) := by omega
            have hw := HW.out m hms hm1 hmj
            obtain ⟨y, hy⟩ : ∃ y, (s[m]'hms).toNat = y := ⟨_, rfl⟩
            have hy2 : 48 ≤ y ∧ y ≤ 57 := by
              unfold digit at hw
              simp only [Bool.and_eq_true, decide_eq_true_eq] at hw
              omega
            obtain ⟨g, hg⟩ : ∃ g : Nat, y = 48 + g := ⟨y - 48, by omega⟩
            have hg9 : g ≤ 9 := by omega
            have hyg : (y : Int) - 48 = (g : Int) := by omega
            obtain ⟨q, hqm, hq1, hq⟩ := quo_fact g hg9
            have HQ := hidden (hq a)
            clear hq
            have R : Hid (a * 10 + g = num (((bts s).drop k).take (d + 1))) := by
              have hdl : d < ((bts s).drop k).length := by rw [List.length_drop, ← size_bytes]; have := HMD.out; omega
              have e : ((bts s).drop k)[d] = s[m]'hms := by
                rw [List.getElem_drop]
                have h2 := HMD.out
                subst h2
                rfl
              show _ = _
              rw [List.take_succ_eq_append_getElem hdl, e, num_push, ← HA.out, hy]
              omega
            have HM2 : Hid (m + 1 = k + (d + 1)) := by have := HMD.out; show _ = _; omega
            by_cases hov : q < a
            · have hov1 : (q : Int) < (a : Int) := by omega
              have R2 : Hid (one ((bts s).drop k) = .bad 10) := by
                have h1 := HO.out
                have h2 := num_take_le ((bts s).drop k) (d + 1) (j - k) (by have := HMD.out; omega)
                rw [← R.out] at h2
                rw [if_pos (Nat.lt_of_lt_of_le (HQ.out.1 hov) h2)] at h1
                exact h1
              clear HO HW HE HA HMD R HM2 hw HQ hov hg hy2
              go_wp2
              refine bodyPost_ret (v := .tuple #[tokv zeroTok, .int .i64 0, .int .i64 10]) (by simp [results, Tryd.results13, go_sem, asAddr, tokv, zeroTok, str]) rfl ⟨hb, .inl ⟨10, R2.out, rfl⟩⟩
            · have hov1 : ¬ (q : Int) < (a : Int) := by omega
              have hnew : a * 10 + g ≤ 9223372036854775807 := Nat.le_of_not_lt (fun h => hov (HQ.out.2 h))
              clear HO HE HA HMD hw HQ hov hg hy2
              go_wp2
              go_roundw
              case rel => exact ⟨m + 1, d + 1, a * 10 + g, by omega, by omega, by go_num, by go_num, hnew, HM2, trivial, R⟩
              case measure => simp [intOf]; omega
          · have hmj1 : ¬ (m : Int) < (j : Int) := by omega
            have R2 : Hid (one ((bts s).drop k) = .tok ⟨2, (a : Int), []⟩ d ∧ (j : Int) = ((k + d : Nat) : Int)) := by
              have h1 := HO.out
              have h2 := HMD.out
              rw [show j - k = d by omega, ← HA.out, if_neg (by omega)] at h1
              exact ⟨h1, by omega⟩
            clear HO HW HE HA HMD
            go_wp2
            refine bodyPost_ret (v := .tuple #[tokv ⟨2, (a : Int), []⟩, .int .i64 (j : Int), .int .i64 0]) (by simp [results, Tryd.results13, go_sem, asAddr, tokv, str]) rfl ⟨?_, .inr ⟨⟨2, (a : Int), []⟩, d, R2.out.1, by rw [← R2.out.2]⟩⟩
            exact (Below.refl _ w).alloc (Nat.le_refl _) _

end Go.Proofs.YtjeniabnokcbnaaDoor
