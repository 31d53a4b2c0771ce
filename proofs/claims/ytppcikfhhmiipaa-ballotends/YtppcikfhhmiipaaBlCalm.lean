/- A round in whose way nothing gets: the keep side's calm. -/
import Derived.Test.YtppcikfhhmiipaaBlTs
import Derived.Test.YtppcikfhhmiipaaBlCalmP
namespace Go.Proofs.Ytppcikfhhmiipaa
open Go.ChangeShapes Go.WideShapes Go.ChangeAt Go.RowKit Go.Maps

set_option maxRecDepth 20000 in
set_option maxHeartbeats 8000000 in
theorem calm_any (ok : Nat → Prop) (n : Nat) (hn : 1 ≤ n ∧ n ≤ 5) (before : List Tn) (R v nx : Int) (K : Nat) (hR : -9223372036854775808 ≤ R ∧ R ≤ 9223372036854775807) (hC : CalmOk n before R v nx K) (ba : Option Addr) (bm bc : Nat) (hbm : bm = before.length) (w : World) (hB : Lies kTn ok w ba bc before) :
    Calls Try.prog 11 #[.int .i64 (n : Int), .slice ba bm bc, .int .i64 R, .int .i64 v] w fun e w' => ∃ (a : Option Addr) (m c : Nat), e = .returned (.tuple #[.int .i64 (calmD n before R v nx K), .slice a m c, .bool true]) ∧ Below w.heap.size w w' := by
  have HN := put_by hn
  have HC := put_by hC
  have HB := put_by (And.intro hB hbm)
  have hbl : bm < 400 := by have := hC.few; omega
  have hn5 : (n : Int) ≤ 5 := by omega
  have HRR := put_by hR
  have h200 := put_by (fun k => playB_last n hn before R v nx k)
  clear hn hC hB hbm hR
  go_enter Try.func11, Try.ntmps11
  go_upto_region 4 with (first
    | (at_builtin; refine wpList_append_rows (ok := fun _ => True) (ok2 := ok) eltTn rfl (.const (.slice none 0 0)) (.tmp 17) rfl w.heap.size (.slice none 0 0) ([] : List Tn) rfl (Rows.nil kTn (fun _ => True) _ _ _) ba bc bm before rfl HB.out.2 HB.out.1 (fun _ _ _ _ => trivial) (fun _ _ _ e => by cases e) (by simp only [List.length_nil]; omega) (by decide) (Nat.le_refl _) ?_; intro v2 w2 r1 r2 r3; have HT2 := put_by (TsI.mk (w := w) (ts := [] ++ before) (f := v2) r1 (below_nil r2)); clear r1 r2 r3; obtain ⟨a2, c2, e2⟩ := HT2.out.form; rw [List.nil_append, ← HB.out.2] at e2; subst e2)
    | (at_builtin; refine wpList_append_one eltTn rfl (.tmp 18) (.tmp 22) rfl w.heap.size (.slice a2 bm c2) ([] ++ before) rfl HT2.out.rows ⟨1, 0, R, v⟩ [.int .i64 1, .int .i64 0, .int .i64 R, .int .i64 v] _ _ rfl rfl (tn_rel _ _ _ _ _ _ HRR.out) (fun _ _ => trivial) (by rw [List.nil_append, ← HB.out.2]; omega) (by decide) HT2.out.below.size ?_; intro v4 w4 r1 r2 r3; have HT4 := put_by (HT2.out.put r1 r2); clear r1 r2 r3; obtain ⟨a4, c4, e4⟩ := HT4.out.form; rw [List.nil_append, List.length_append, List.length_singleton, ← HB.out.2] at e4; subst e4))
  rw [List.nil_append] at HT4
  have H0 : Hid (bm + 1 = (calmS before R v nx 0).length ∧ TsI w (calmS before R v nx 0) (.slice a4 (bm + 1) c4) w4) := put_by ⟨by rw [calmS_length, HB.out.2], HT4.out⟩
  clear HT2 HT4
  go_loopw [11, 12, 13] (fun f d q wr => ∃ (k : Nat) (a : Option Addr) (m c : Nat), k ≤ K ∧ f = .slice a m c ∧ d = .int .i64 (calmE n before R v nx k) ∧ q = .int .i64 (calmN nx k) ∧ Hid (m = (calmS before R v nx k).length ∧ TsI w (calmS before R v nx k) (.slice a m c) wr)) (fun f _ _ _ => 400 - (match f with | .slice _ m _ => m | _ => 0))
  case atStart => exact ⟨0, _, _, _, Nat.zero_le _, rfl, rfl, rfl, H0.out⟩
  case round =>
    obtain ⟨k, a, m, c, hk, rfl, rfl, rfl, HT⟩ := hrel
    obtain ⟨q, hq⟩ : ∃ q, q = calmN nx k := ⟨_, rfl⟩
    obtain ⟨d0, hd0⟩ : ∃ d0, d0 = calmE n before R v nx k := ⟨_, rfl⟩
    rw [← hq, ← hd0]
    have HQ := put_by hq
    have HD0 := put_by hd0
    clear hq hd0
    have hm : m < 400 ∧ 1 ≤ m := by have := HT.out.1; have := HC.out.few; rw [calmS_length] at *; omega
    have hm4 : (m : Int) < 400 := by omega
    have hpos : (0 : Int) < (m : Int) := by omega
    obtain ⟨tk, htk⟩ : ∃ tk, tk = calmS before R v nx k := ⟨_, rfl⟩
    rw [← htk] at HT
    have HTK := put_by htk
    have HOL : Hid ((playB (bl0 n) tk).1.length = m) := put_by (by rw [playB_length, HT.out.1])
    have HOE : Hid (calmO n before R v nx k = lastO (playB (bl0 n) tk).1) := put_by (by rw [htk]; rfl)
    clear htk
    go_upto_region 8 with (first
        | (at_builtin; refine wpList_append_rows (ok := fun _ => True) (ok2 := fun _ => True) eltTn rfl (.const (.slice none 0 0)) (.tmp 29) rfl w.heap.size (.slice none 0 0) ([] : List Tn) rfl (Rows.nil kTn (fun _ => True) _ _ _) a c m tk rfl HT.out.1 HT.out.2.lies (fun _ _ _ _ => trivial) (fun _ _ _ e => by cases e) (by simp only [List.length_nil]; omega) (by decide) HT.out.2.below.size ?_; intro v2 w2 r1 r2 r3; have HB2 := put_by (below_nil r2); have HC2 := put_by (TsI.mk (w := w) (ts := [] ++ tk) (f := v2) r1 (HT.out.2.later HB2.out).below); clear r1 r2 r3; obtain ⟨a2, c2, e2⟩ := HC2.out.form; rw [List.nil_append, ← HT.out.1] at e2; subst e2)
        | (go_at_call 7; (with_reducible refine (Play_law n HN.out ([] ++ tk) m (by rw [List.nil_append]; exact HT.out.1) (by omega) a2 c2 _ HC2.out.lies).mono ?_); rintro e w3 ⟨a3, c3, rfl, HO, HB3⟩))
    have HT3 : Hid (m = tk.length ∧ TsI w tk (.slice a m c) w3) := put_by ⟨HT.out.1, (HT.out.2.later HB2.out).later HB3.out⟩
    rw [List.nil_append] at HO
    clear HB2 HC2 HB3 HT
    have hlt2 : m - 1 < (playB (bl0 n) tk).1.length := by rw [HOL.out]; omega
    obtain ⟨b, off, rfl, hc0, hc1, hc2⟩ := HO.out.cell hlt2
    have hfe : (playB (bl0 n) tk).1[m - 1] = calmO n before R v nx k := by
      rw [HOE.out, lastO_at _ (by omega)]
      simp only [HOL.out]
    rw [hfe] at hc0 hc1 hc2
    have iw : IntKind.i64.wrap ((m : Int) - 1) = ((m - 1 : Nat) : Int) := by rw [IntKind.wrap_i64]; omega
    have il : ((m - 1 : Nat) : Int) < (m : Int) := by omega
    have HO2 := h200.out k
    have HD : Hid (calmD n before R v nx k = if (calmO n before R v nx k).dec ≠ 0 then (calmO n before R v nx k).dec else d0) := put_by (by rw [HD0.out]; exact calmD_eq n before R v nx k)
    have HNX : Hid (k = 0 → (calmO n before R v nx k).code = 0 ∧ (calmO n before R v nx k).len = nx + n) := put_by (fun e => by rw [e]; exact ⟨HC.out.o0.1, HC.out.o0.2.1⟩)
    have hnx := HC.out.o0.2.2
    have HGO : Hid (k < K → nx + k < (calmO n before R v nx k).len) := put_by (HC.out.more k)
    have HST : Hid (k = K → (calmO n before R v nx k).len ≤ nx + k) := put_by (fun e => by rw [e]; exact HC.out.stop)
    clear hfe hlt2 HOL HOE
    generalize calmO n before R v nx k = o at *
    obtain ⟨oc, od, ol⟩ := o
    simp only at hc0 hc1 hc2 HO2 HD HNX HGO HST
    cases k with
    | zero =>
      obtain ⟨rfl, rfl⟩ := HNX.out rfl
      have hnn := HN.out
      have hK : 0 < K := by
        by_cases h : 0 < K
        · exact h
        · have := HST.out (by omega)
          omega
      have iw2 : IntKind.i64.wrap (nx + (n : Int) - (n : Int)) = nx := by rw [IntKind.wrap_i64]; omega
      have iw3 : IntKind.i64.wrap (nx + 1) = nx + 1 := by rw [IntKind.wrap_i64]; omega
      have hlt : nx < nx + (n : Int) := by omega
      have hn0 : ¬ nx < 0 := by omega
      obtain rfl : q = -1 := HQ.out
      by_cases hd : od = 0
      · subst hd
        go_wp2_with (at_builtin; refine wpList_append_one eltTn rfl (.tmp 71) (.tmp 74) rfl w.heap.size (.slice a m c) tk rfl (HT3.out.2.later ((Below.refl _ _).alloc (Nat.le_refl _) _)).rows ⟨2, nx, 0, 0⟩ [.int .i64 2, .int .i64 (nx), .int .i64 0, .int .i64 0] _ _ (by simp [Act.eval]) rfl (tn_rel _ _ _ _ _ _ (by omega)) (fun _ _ => trivial) (by rw [← HT3.out.1]; omega) (by decide) (HT3.out.2.later ((Below.refl _ _).alloc (Nat.le_refl _) _)).below.size ?_; intro v7 w7 r1 r2 r3; have HT7 := put_by ((HT3.out.2.later ((Below.refl _ _).alloc (Nat.le_refl _) _)).put r1 r2); clear r1 r2 r3; obtain ⟨a7, c7, e7⟩ := HT7.out.form; rw [List.length_append, List.length_singleton, ← HT3.out.1] at e7; subst e7)
        go_roundw
        case rel => exact ⟨0 + 1, _, _, _, by omega, rfl, by rw [show calmE n before R v nx (0 + 1) = calmD n before R v nx (0) from rfl, HD.out]; simp, by simp [calmN], by rw [calmS, ← HTK.out, List.length_append, List.length_singleton, ← HT3.out.1], by rw [calmS, ← HTK.out]; simpa using HT7.out⟩
        case measure => simp only; omega
      · have hd2 : (od == 0) = false := by simp [hd]
        have hd3 : (od != 0) = true := by simp [hd]
        go_wp2_with (at_builtin; refine wpList_append_one eltTn rfl (.tmp 71) (.tmp 74) rfl w.heap.size (.slice a m c) tk rfl (HT3.out.2.later ((Below.refl _ _).alloc (Nat.le_refl _) _)).rows ⟨2, nx, 0, 0⟩ [.int .i64 2, .int .i64 (nx), .int .i64 0, .int .i64 0] _ _ (by simp [Act.eval]) rfl (tn_rel _ _ _ _ _ _ (by omega)) (fun _ _ => trivial) (by rw [← HT3.out.1]; omega) (by decide) (HT3.out.2.later ((Below.refl _ _).alloc (Nat.le_refl _) _)).below.size ?_; intro v7 w7 r1 r2 r3; have HT7 := put_by ((HT3.out.2.later ((Below.refl _ _).alloc (Nat.le_refl _) _)).put r1 r2); clear r1 r2 r3; obtain ⟨a7, c7, e7⟩ := HT7.out.form; rw [List.length_append, List.length_singleton, ← HT3.out.1] at e7; subst e7)
        go_roundw
        case rel => exact ⟨0 + 1, _, _, _, by omega, rfl, by rw [show calmE n before R v nx (0 + 1) = calmD n before R v nx (0) from rfl, HD.out]; simp [hd], by simp [calmN], by rw [calmS, ← HTK.out, List.length_append, List.length_singleton, ← HT3.out.1], by rw [calmS, ← HTK.out]; simpa using HT7.out⟩
        case measure => simp only; omega
    | succ k =>
      have hq : q = nx + ((k + 1 : Nat) : Int) := HQ.out
      have hk400 : k < 400 := by have := HC.out.few; omega
      have HQ := put_by hq
      rw [← hq] at HGO HST
      have hq0 : ¬ q < 0 := by omega
      have hqb : q ≤ 1000 ∨ ¬ q ≤ 1000 := by omega
      have hnx2 : nx ≤ 200 := by have h0 := (h200.out 0).2; have h1 := HC.out.o0.2.1; omega
      have hqq : q ≤ 601 := by omega
      clear hq hqb
      by_cases hK : k + 1 = K
      · have hge : ol ≤ q := HST.out hK
        have HBW := put_by HT3.out.2.below
        by_cases hd : od = 0
        · subst hd
          go_wp2
          exact bodyPost_ret (v := .tuple #[.int .i64 d0, .slice a m c, .bool true]) (by simp [results, Try.results11, go_sem]) rfl ⟨⟨a, m, c, by rw [← hK, HD.out]; simp⟩, HBW.out.trans (((Below.refl _ _).alloc (Nat.le_refl _) _).mono HBW.out.size)⟩
        · have hd2 : (od == 0) = false := by simp [hd]
          have hd3 : (od != 0) = true := by simp [hd]
          go_wp2
          exact bodyPost_ret (v := .tuple #[.int .i64 (od), .slice a m c, .bool true]) (by simp [results, Try.results11, go_sem]) rfl ⟨⟨a, m, c, by rw [← hK, HD.out]; simp [hd]⟩, HBW.out.trans (((Below.refl _ _).alloc (Nat.le_refl _) _).mono HBW.out.size)⟩
      · have hlt : q < ol := HGO.out (by omega)
        have iw3 : IntKind.i64.wrap (q + 1) = q + 1 := by rw [IntKind.wrap_i64]; omega
        by_cases hd : od = 0
        · subst hd
          go_wp2_with (at_builtin; refine wpList_append_one eltTn rfl (.tmp 71) (.tmp 74) rfl w.heap.size (.slice a m c) tk rfl (HT3.out.2.later ((Below.refl _ _).alloc (Nat.le_refl _) _)).rows ⟨2, q, 0, 0⟩ [.int .i64 2, .int .i64 (q), .int .i64 0, .int .i64 0] _ _ (by simp [Act.eval]) rfl (tn_rel _ _ _ _ _ _ (by omega)) (fun _ _ => trivial) (by rw [← HT3.out.1]; omega) (by decide) (HT3.out.2.later ((Below.refl _ _).alloc (Nat.le_refl _) _)).below.size ?_; intro v7 w7 r1 r2 r3; have HT7 := put_by ((HT3.out.2.later ((Below.refl _ _).alloc (Nat.le_refl _) _)).put r1 r2); clear r1 r2 r3; obtain ⟨a7, c7, e7⟩ := HT7.out.form; rw [List.length_append, List.length_singleton, ← HT3.out.1] at e7; subst e7)
          go_roundw
          case rel => exact ⟨(k + 1) + 1, _, _, _, by omega, rfl, by rw [show calmE n before R v nx ((k + 1) + 1) = calmD n before R v nx ((k + 1)) from rfl, HD.out]; simp, by (have := HQ.out; simp only [calmN]; congr 1; omega), by rw [calmS, ← HTK.out, List.length_append, List.length_singleton, ← HT3.out.1], by rw [calmS, ← HTK.out]; rw [← HQ.out]; exact HT7.out⟩
          case measure => simp only; omega
        · have hd2 : (od == 0) = false := by simp [hd]
          have hd3 : (od != 0) = true := by simp [hd]
          go_wp2_with (at_builtin; refine wpList_append_one eltTn rfl (.tmp 71) (.tmp 74) rfl w.heap.size (.slice a m c) tk rfl (HT3.out.2.later ((Below.refl _ _).alloc (Nat.le_refl _) _)).rows ⟨2, q, 0, 0⟩ [.int .i64 2, .int .i64 (q), .int .i64 0, .int .i64 0] _ _ (by simp [Act.eval]) rfl (tn_rel _ _ _ _ _ _ (by omega)) (fun _ _ => trivial) (by rw [← HT3.out.1]; omega) (by decide) (HT3.out.2.later ((Below.refl _ _).alloc (Nat.le_refl _) _)).below.size ?_; intro v7 w7 r1 r2 r3; have HT7 := put_by ((HT3.out.2.later ((Below.refl _ _).alloc (Nat.le_refl _) _)).put r1 r2); clear r1 r2 r3; obtain ⟨a7, c7, e7⟩ := HT7.out.form; rw [List.length_append, List.length_singleton, ← HT3.out.1] at e7; subst e7)
          go_roundw
          case rel => exact ⟨(k + 1) + 1, _, _, _, by omega, rfl, by rw [show calmE n before R v nx ((k + 1) + 1) = calmD n before R v nx ((k + 1)) from rfl, HD.out]; simp [hd], by (have := HQ.out; simp only [calmN]; congr 1; omega), by rw [calmS, ← HTK.out, List.length_append, List.length_singleton, ← HT3.out.1], by rw [calmS, ← HTK.out]; rw [← HQ.out]; exact HT7.out⟩
          case measure => simp only; omega

end Go.Proofs.Ytppcikfhhmiipaa
