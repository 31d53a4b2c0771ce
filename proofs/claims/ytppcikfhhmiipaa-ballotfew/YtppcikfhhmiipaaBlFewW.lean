/- Half of them decide nothing. -/
import Derived.Test.YtppcikfhhmiipaaBlTs
import Derived.Test.YtppcikfhhmiipaaBlFewP
namespace Go.Proofs.Ytppcikfhhmiipaa
open Go.ChangeShapes Go.WideShapes Go.ChangeAt Go.RowKit Go.Maps

theorem few_facts (n : Nat) (hn : 1 ≤ n ∧ n ≤ 5) (v : Int) (hv : 1 ≤ v ∧ v ≤ 9) (R : Nat) (hR : 1 ≤ R ∧ R ≤ 3) : (∀ o ∈ (playB (bl0 n) (few n v R)).1, o.dec = 0) ∧ ∀ (h : 0 < (playB (bl0 n) (few n v R)).1.length), ((playB (bl0 n) (few n v R)).1[0]).len = n := by
  have h := few_all ⟨n - 1, by omega⟩ ⟨(v - 1).toNat, by omega⟩ ⟨R - 1, by omega⟩
  simp only at h
  rw [show n - 1 + 1 = n by omega, show (((v - 1).toNat : Nat) : Int) + 1 = v by omega, show R - 1 + 1 = R by omega] at h
  simp only [fewOk, Bool.and_eq_true, List.all_eq_true, decide_eq_true_eq] at h
  refine ⟨h.1, fun hl => ?_⟩
  have h2 := h.2
  rw [List.head?_eq_getElem?, List.getElem?_eq_getElem hl] at h2
  simpa using h2

theorem lastLen_at (os : List Oc) (h : 0 < os.length) : lastLen os = (os[os.length - 1]).len := by
  unfold lastLen
  rw [List.getLast?_eq_getElem?, List.getElem?_eq_getElem (by omega)]

theorem lastLen_le (n : Nat) (hn : 1 ≤ n ∧ n ≤ 5) (ts : List Tn) : 0 ≤ lastLen (playB (bl0 n) ts).1 ∧ lastLen (playB (bl0 n) ts).1 ≤ 200 := by
  unfold lastLen
  split
  · rename_i o ho
    exact playB_len n hn ts o (List.mem_of_getLast? ho)
  · omega

set_option maxRecDepth 20000 in
set_option maxHeartbeats 8000000 in
theorem BallotFew_any (vo va ag : Int) (w : World) :
    Calls Try.prog 6 #[.int .i64 vo, .int .i64 va, .int .i64 ag] w fun e w' => e = .returned (.bool true) ∧ Below w.heap.size w w' := by
  have cK : Hid (∀ a k : Int, 0 < k → k ≤ 9223372036854775807 → ∀ W, Calls Try.prog 9 #[.int .i64 a, .int .i64 k] W fun e w' => e = .returned (.int .i64 (a % k)) ∧ W = w') := put_by fun a k h1 h2 W => Picked_any a k h1 h2 W
  obtain ⟨n, hn⟩ : ∃ n : Nat, vo % 5 + 1 = (n : Int) := ⟨(vo % 5 + 1).toNat, by omega⟩
  have hn1 : 1 ≤ n ∧ n ≤ 5 := by omega
  obtain ⟨v, hv⟩ : ∃ v : Int, v = va % 9 + 1 := ⟨_, rfl⟩
  have hv1 : 1 ≤ v ∧ v ≤ 9 := by omega
  obtain ⟨R, hR⟩ : ∃ R : Nat, ag % 3 + 1 = (R : Int) := ⟨(ag % 3 + 1).toNat, by omega⟩
  have hR1 : 1 ≤ R ∧ R ≤ 3 := by omega
  have e1 : IntKind.i64.wrap (1 + vo % 5) = (n : Int) := by rw [IntKind.wrap_i64]; omega
  have e2 : IntKind.i64.wrap (1 + va % 9) = v := by rw [IntKind.wrap_i64]; omega
  have e3 : IntKind.i64.wrap (1 + ag % 3) = (R : Int) := by rw [IntKind.wrap_i64]; omega
  have HN := put_by hn1
  have HV := put_by hv1
  have HR := put_by hR1
  have HFF := put_by (few_facts n hn1 v hv1 R hR1)
  have HLE := put_by (lastLen_le n hn1)
  have n5 : (n : Int) ≤ 5 := by omega
  have n3 : IntKind.i64.wrap (3 * (n : Int)) = ((3 * n : Nat) : Int) := by rw [IntKind.wrap_i64]; omega
  have H0 : Hid (TsI w [] (.slice none 0 0) w) := put_by ⟨Rows.nil _ _ _ _ _, Below.refl _ _⟩
  clear hn hv hR hn1 hv1 hR1
  go_enter Try.func6, Try.ntmps6
  go_upto_region 4 with (go_at_call 9; (with_reducible refine (cK.out _ _ ?_ ?_ _).mono ?_); decide; decide; rintro e w' ⟨rfl, rfl⟩)
  go_loopw [8, 9] (fun f r wr => ∃ (k : Nat) (a : Option Addr) (m c : Nat), k ≤ R ∧ r = .int .i64 ((k : Int) + 1) ∧ f = .slice a m c ∧ Hid (m = (few n v k).length ∧ TsI w (few n v k) (.slice a m c) wr)) (fun _ r _ => R + 1 - (intOf r).toNat)
  case atStart => exact ⟨0, none, 0, 0, Nat.zero_le _, rfl, rfl, rfl, H0.out⟩
  case round =>
    obtain ⟨k, a, m, c, hk, rfl, rfl, HT⟩ := hrel
    by_cases hlt : k < R
    · have hml : m ≤ 63 := by
        rw [HT.out.1, few_length]
        have := HR.out
        have := HN.out
        have h3 : k * (1 + 4 * n) ≤ 3 * 21 := Nat.mul_le_mul (by omega) (by omega)
        omega
      obtain ⟨fr, hfr⟩ : ∃ fr : Int, fr = lastLen (playB (bl0 n) (few n v k)).1 := ⟨_, rfl⟩
      have hfb := HLE.out (few n v k)
      rw [← hfr] at hfb
      obtain ⟨hf0, hf1⟩ := hfb
      have HFR := put_by hfr
      clear hfr
      have ik : (k : Int) + 1 ≤ (R : Int) := by omega
      have k3 : (k : Int) ≤ 3 := by have := HR.out; omega
      have m63 : (m : Int) ≤ 63 := by omega
      go_upto_region 7 with (first
        | (go_at_call 9; (with_reducible refine (cK.out _ _ ?_ ?_ _).mono ?_); decide; decide; rintro e w' ⟨rfl, rfl⟩)
        | (at_builtin; refine wpList_append_rows (ok := fun _ => True) (ok2 := fun _ => True) eltTn rfl (.const (.slice none 0 0)) (.tmp 30) rfl w.heap.size (.slice none 0 0) ([] : List Tn) rfl (Rows.nil kTn (fun _ => True) _ _ _) a c m (few n v k) rfl HT.out.1 HT.out.2.lies (fun _ _ _ _ => trivial) (fun _ _ _ e => by cases e) (by simp only [List.length_nil]; omega) (by decide) HT.out.2.below.size ?_; intro v2 w2 r1 r2 r3; have HB2 := put_by (below_nil r2); have HC2 := put_by (TsI.mk (w := w) (ts := [] ++ few n v k) (f := v2) r1 (HT.out.2.later HB2.out).below); clear r1 r2 r3; obtain ⟨a2, c2, e2⟩ := HC2.out.form; rw [List.nil_append, ← HT.out.1] at e2; subst e2)
        | (go_at_call 7; (with_reducible refine (Play_law n HN.out ([] ++ few n v k) m (by rw [List.nil_append]; exact HT.out.1) (by omega) a2 c2 _ HC2.out.lies).mono ?_); rintro e w3 ⟨a3, c3, rfl, HO, HB3⟩))
      have HT3 : Hid (m = (few n v k).length ∧ TsI w (few n v k) (.slice a m c) w3) := put_by ⟨HT.out.1, (HT.out.2.later HB2.out).later HB3.out⟩
      rw [List.nil_append] at HO
      clear HB2 HC2 HB3 HT
      have HOL : Hid ((playB (bl0 n) (few n v k)).1.length = m) := put_by (by rw [playB_length, HT3.out.1])
      go_upto_if 46 with (fail)
      go_cut [12] from 44 to 99 (fun s W => s = .int .i64 fr ∧ W = w3)
      case first =>
        by_cases hm0 : m = 0
        · have hfz : fr = 0 := by
            rw [HFR.out]
            have : (playB (bl0 n) (few n v k)).1 = [] := List.length_eq_zero_iff.1 (by rw [HOL.out, hm0])
            rw [this]
            rfl
          subst hm0
          subst hfz
          go_wp2
          go_meet
          exact ⟨rfl, rfl⟩
        · have hpos : (0 : Int) < (m : Int) := by omega
          have hlt2 : m - 1 < (playB (bl0 n) (few n v k)).1.length := by rw [HOL.out]; omega
          obtain ⟨b, off, rfl, -, -, hc⟩ := HO.out.cell hlt2
          have hfe : ((playB (bl0 n) (few n v k)).1[m - 1]).len = fr := by
            rw [HFR.out, lastLen_at _ (by omega)]
            simp only [HOL.out]
          rw [hfe] at hc
          have iw : IntKind.i64.wrap ((m : Int) - 1) = ((m - 1 : Nat) : Int) := by rw [IntKind.wrap_i64]; omega
          have il : ((m - 1 : Nat) : Int) < (m : Int) := by omega
          clear hfe hlt2
          go_wp2
          go_meet
          exact ⟨rfl, rfl⟩
      case rest =>
        obtain ⟨rfl, rfl⟩ := hcut
        clear HO HOL
        go_upto_region 13 with (first
          | (go_at_call 9; (with_reducible refine (cK.out _ _ ?_ ?_ _).mono ?_); decide; decide; rintro e w' ⟨rfl, rfl⟩)
          | (at_builtin; refine wpList_append_one eltTn rfl (.tmp 54) (.tmp 60) rfl w.heap.size (.slice a m c) (few n v k) rfl HT3.out.2.rows ⟨1, 0, (k : Int) + 1, v⟩ [.int .i64 1, .int .i64 0, .int .i64 ((k : Int) + 1), .int .i64 v] _ _ rfl rfl (tn_rel _ _ _ _ _ _ (by omega)) (fun _ _ => trivial) (by rw [← HT3.out.1]; omega) (by decide) HT3.out.2.below.size ?_; intro v4 w4 r1 r2 r3; have HT4 := put_by (HT3.out.2.put r1 r2); clear r1 r2 r3; obtain ⟨a4, c4, e4⟩ := HT4.out.form; rw [List.length_append, List.length_singleton, ← HT3.out.1] at e4; subst e4))
        obtain ⟨t1, ht1⟩ : ∃ t1, t1 = few n v k ++ [fewAsk ((k : Int) + 1) v] := ⟨_, rfl⟩
        have HT5 : Hid (m + 1 = t1.length ∧ TsI w t1 (.slice a4 (m + 1) c4) w4) := put_by ⟨by rw [ht1, List.length_append, List.length_singleton, ← HT3.out.1], by rw [ht1]; exact HT4.out⟩
        have HT1 := put_by ht1
        clear ht1 HT3 HT4
        go_upto_region 14 with (fail)
        go_loopw [8, 13] (fun f q wr => ∃ (j : Nat) (a m1 c : _), j ≤ n ∧ q = .int .i64 (j : Int) ∧ f = .slice a m1 c ∧ Hid (m1 = m + 1 + j ∧ m1 = (t1 ++ fewA n fr j).length ∧ TsI w (t1 ++ fewA n fr j) (.slice a m1 c) wr)) (fun _ q _ => n - (intOf q).toNat)
        case atStart => exact ⟨0, _, _, _, Nat.zero_le _, rfl, rfl, rfl, by simp [fewA, ← HT5.out.1], by simpa [fewA] using HT5.out.2⟩
        case round =>
          obtain ⟨j, a6, m6, c6, hj, rfl, rfl, HT6⟩ := hrel
          by_cases hjl : j < n
          · have ij : (j : Int) < (n : Int) := by omega
            have iw : IntKind.i64.wrap (fr + (j : Int)) = fr + (j : Int) := by rw [IntKind.wrap_i64]; omega
            have im : IntKind.i64.wrap (2 * (j : Int)) = 2 * (j : Int) := by rw [IntKind.wrap_i64]; omega
            have hm6 : m6 ≤ 100 := by have := HT6.out.1; omega
            by_cases h2 : 2 * j < n
            · have ih2 : 2 * (j : Int) < (n : Int) := by omega
              have HFK : Hid (fewK n fr j = ⟨3, fr + j, 0, 0⟩) := put_by (if_pos h2)
              clear h2
              go_wp2_with (at_builtin; refine wpList_append_one eltTn rfl (.tmp 71) (.tmp 76) rfl w.heap.size (.slice a6 m6 c6) (t1 ++ fewA n fr j) rfl HT6.out.2.2.rows ⟨3, fr + j, 0, 0⟩ [.int .i64 3, .int .i64 (fr + (j : Int)), .int .i64 0, .int .i64 0] _ _ rfl rfl (tn_rel _ _ _ _ _ _ (by omega)) (fun _ _ => trivial) (by rw [← HT6.out.2.1]; omega) (by decide) HT6.out.2.2.below.size ?_; intro v7 w7 r1 r2 r3; have HT7 := put_by (HT6.out.2.2.put r1 r2); clear r1 r2 r3; obtain ⟨a7, c7, e7⟩ := HT7.out.form; rw [List.length_append, List.length_singleton, ← HT6.out.2.1] at e7; subst e7)
              go_roundw
              case rel => exact ⟨j + 1, _, _, _, by omega, by go_num, rfl, by have := HT6.out.1; omega, by rw [fewA, HFK.out, ← List.append_assoc, List.length_append, List.length_singleton, ← HT6.out.2.1], by rw [fewA, HFK.out, ← List.append_assoc]; exact HT7.out⟩
              case measure => simp [intOf]; omega
            · have ih2 : ¬ 2 * (j : Int) < (n : Int) := by omega
              have HFK : Hid (fewK n fr j = ⟨2, fr + j, 0, 0⟩) := put_by (if_neg h2)
              clear h2
              go_wp2_with (at_builtin; refine wpList_append_one eltTn rfl (.tmp 78) (.tmp 83) rfl w.heap.size (.slice a6 m6 c6) (t1 ++ fewA n fr j) rfl HT6.out.2.2.rows ⟨2, fr + j, 0, 0⟩ [.int .i64 2, .int .i64 (fr + (j : Int)), .int .i64 0, .int .i64 0] _ _ rfl rfl (tn_rel _ _ _ _ _ _ (by omega)) (fun _ _ => trivial) (by rw [← HT6.out.2.1]; omega) (by decide) HT6.out.2.2.below.size ?_; intro v7 w7 r1 r2 r3; have HT7 := put_by (HT6.out.2.2.put r1 r2); clear r1 r2 r3; obtain ⟨a7, c7, e7⟩ := HT7.out.form; rw [List.length_append, List.length_singleton, ← HT6.out.2.1] at e7; subst e7)
              go_roundw
              case rel => exact ⟨j + 1, _, _, _, by omega, by go_num, rfl, by have := HT6.out.1; omega, by rw [fewA, HFK.out, ← List.append_assoc, List.length_append, List.length_singleton, ← HT6.out.2.1], by rw [fewA, HFK.out, ← List.append_assoc]; exact HT7.out⟩
              case measure => simp [intOf]; omega
          · have ij : ¬ (j : Int) < (n : Int) := by omega
            have hjn : j = n := by omega
            obtain ⟨t2, ht2⟩ : ∃ t2, t2 = t1 ++ fewA n fr n := ⟨_, rfl⟩
            have HT8 : Hid (m6 = m + 1 + n ∧ m6 = t2.length ∧ TsI w t2 (.slice a6 m6 c6) wr) := put_by (by rw [ht2]; have := HT6.out; rw [hjn] at this; exact this)
            have HT2 := put_by ht2
            clear HT6 HT5 ht2 hjn
            go_wp2
            go_loopw [8, 14] (fun f q wr => ∃ (j : Nat) (a m1 c : _), j ≤ 3 * n ∧ q = .int .i64 (j : Int) ∧ f = .slice a m1 c ∧ Hid (m1 = m + 1 + n + j ∧ m1 = (t2 ++ fewB n fr j).length ∧ TsI w (t2 ++ fewB n fr j) (.slice a m1 c) wr)) (fun _ q _ => 3 * n - (intOf q).toNat)
            case atStart => exact ⟨0, _, _, _, Nat.zero_le _, rfl, rfl, by have := HT8.out.1; omega, by simp [fewB, ← HT8.out.2.1], by simpa [fewB] using HT8.out.2.2⟩
            case round =>
              obtain ⟨i, a9, m9, c9, hi, rfl, rfl, HT9⟩ := hrel
              by_cases hil : i < 3 * n
              · have ii : (i : Int) < ((3 * n : Nat) : Int) := by omega
                have iw : IntKind.i64.wrap (fr + (n : Int)) = fr + (n : Int) := by rw [IntKind.wrap_i64]; omega
                have iw2 : IntKind.i64.wrap (fr + (n : Int) + (i : Int)) = fr + (n : Int) + (i : Int) := by rw [IntKind.wrap_i64]; omega
                have hm9 : m9 ≤ 100 := by have := HT9.out.1; omega
                go_wp2_with (at_builtin; refine wpList_append_one eltTn rfl (.tmp 91) (.tmp 98) rfl w.heap.size (.slice a9 m9 c9) (t2 ++ fewB n fr i) rfl HT9.out.2.2.rows ⟨2, fr + n + i, 0, 0⟩ [.int .i64 2, .int .i64 (fr + (n : Int) + (i : Int)), .int .i64 0, .int .i64 0] _ _ rfl rfl (tn_rel _ _ _ _ _ _ (by omega)) (fun _ _ => trivial) (by rw [← HT9.out.2.1]; omega) (by decide) HT9.out.2.2.below.size ?_; intro v7 w7 r1 r2 r3; have HT7 := put_by (HT9.out.2.2.put r1 r2); clear r1 r2 r3; obtain ⟨a7, c7, e7⟩ := HT7.out.form; rw [List.length_append, List.length_singleton, ← HT9.out.2.1] at e7; subst e7)
                go_roundw
                case rel => exact ⟨i + 1, _, _, _, by omega, by go_num, rfl, by have := HT9.out.1; omega, by rw [fewB, ← List.append_assoc, List.length_append, List.length_singleton, ← HT9.out.2.1], by rw [fewB, ← List.append_assoc]; exact HT7.out⟩
                case measure => simp [intOf]; omega
              · have ii : ¬ (i : Int) < ((3 * n : Nat) : Int) := by omega
                have hin : i = 3 * n := by omega
                have HTZ : Hid (m9 = (few n v (k + 1)).length ∧ TsI w (few n v (k + 1)) (.slice a9 m9 c9) wr) := put_by (by
                  have h9 := HT9.out.2
                  rw [hin, HT2.out, HT1.out, HFR.out] at h9
                  exact h9)
                clear HT9 HT8 hin
                go_wp2
                go_roundw
                case rel => exact ⟨k + 1, _, _, _, by omega, by go_num, rfl, HTZ.out⟩
                case measure => simp [intOf]; omega
    · have hkR : k = R := by omega
      have ik : ¬ (k : Int) + 1 ≤ (R : Int) := by omega
      subst hkR
      have hml : m ≤ 63 := by
        rw [HT.out.1, few_length]
        have := HR.out
        have := HN.out
        have h3 : k * (1 + 4 * n) ≤ 3 * 21 := Nat.mul_le_mul (by omega) (by omega)
        omega
      have hm1 : 1 ≤ m := by
        rw [HT.out.1, few_length]
        have := HR.out
        have h3 : 1 * 1 ≤ k * (1 + 4 * n) := Nat.mul_le_mul (by omega) (by omega)
        omega
      go_upto_region 24 with (first
        | (go_at_call 9; (with_reducible refine (cK.out _ _ ?_ ?_ _).mono ?_); decide; decide; rintro e w' ⟨rfl, rfl⟩)
        | (at_builtin; refine wpList_append_rows (ok := fun _ => True) (ok2 := fun _ => True) eltTn rfl (.const (.slice none 0 0)) (.tmp 102) rfl w.heap.size (.slice none 0 0) ([] : List Tn) rfl (Rows.nil kTn (fun _ => True) _ _ _) a c m (few n v k) rfl HT.out.1 HT.out.2.lies (fun _ _ _ _ => trivial) (fun _ _ _ e => by cases e) (by simp only [List.length_nil]; omega) (by decide) HT.out.2.below.size ?_; intro v2 w2 r1 r2 r3; have HB2 := put_by (below_nil r2); have HC2 := put_by (TsI.mk (w := w) (ts := [] ++ few n v k) (f := v2) r1 (HT.out.2.later HB2.out).below); clear r1 r2 r3; obtain ⟨a2, c2, e2⟩ := HC2.out.form; rw [List.nil_append, ← HT.out.1] at e2; subst e2)
        | (go_at_call 7; (with_reducible refine (Play_law n HN.out ([] ++ few n v k) m (by rw [List.nil_append]; exact HT.out.1) (by omega) a2 c2 _ HC2.out.lies).mono ?_); rintro e w3 ⟨a3, c3, rfl, HO, HB3⟩))
      rw [List.nil_append] at HO
      have HBW := put_by ((HT.out.2.later HB2.out).later HB3.out).below
      have HOL : Hid ((playB (bl0 n) (few n v k)).1.length = m) := put_by (by rw [playB_length, HT.out.1])
      clear HB2 HC2 HB3 HT
      have m63 : (m : Int) ≤ 63 := by omega
      go_wp2
      go_loopw [17] (fun q wr => wr = w3 ∧ ∃ j : Nat, j ≤ m ∧ q = .int .i64 (j : Int)) (fun q _ => m - (intOf q).toNat)
      case atStart => exact ⟨rfl, 0, Nat.zero_le _, rfl⟩
      case round =>
        obtain ⟨rfl, j, hj, rfl⟩ := hrel
        by_cases hjl : j < m
        · have ij : (j : Int) < (m : Int) := by omega
          have hlt2 : j < (playB (bl0 n) (few n v k)).1.length := by rw [HOL.out]; exact hjl
          obtain ⟨b, off, rfl, -, hc, -⟩ := HO.out.cell hlt2
          rw [HFF.out.1 _ (List.getElem_mem hlt2)] at hc
          clear hlt2
          go_wp2
          go_roundw
          case rel => exact ⟨trivial, j + 1, by omega, by go_num⟩
          case measure => simp [intOf]; omega
        · have ij : ¬ (j : Int) < (m : Int) := by omega
          have hlt2 : 0 < (playB (bl0 n) (few n v k)).1.length := by rw [HOL.out]; omega
          obtain ⟨b, off, rfl, -, -, hc⟩ := HO.out.cell hlt2
          rw [HFF.out.2 hlt2] at hc
          simp only [Nat.zero_mul, Nat.add_zero] at hc
          have ipos : (0 : Int) < (m : Int) := by omega
          clear hlt2
          go_wp2
          go_ret
          exact ⟨rfl, HBW.out⟩

end Go.Proofs.Ytppcikfhhmiipaa
