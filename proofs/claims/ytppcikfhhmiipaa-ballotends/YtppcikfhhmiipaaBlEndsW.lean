/- A round above all others decides: the law, as far as the plain facts (Ends) bear it. -/
import Derived.Test.YtppcikfhhmiipaaBlPush
import Derived.Test.YtppcikfhhmiipaaBlCalm
import Derived.Test.YtppcikfhhmiipaaBlOneP
namespace Go.Proofs.Ytppcikfhhmiipaa
open Go.ChangeShapes Go.WideShapes Go.ChangeAt Go.RowKit Go.Maps

/-- what a round above all others comes to, in plain words -/
def Ends : Prop := ∀ (n : Nat), 1 ≤ n ∧ n ≤ 5 → ∀ (l : List Tn) (M : Nat), M ≤ 24 → M ≤ l.length → ∀ own : Int, 10 ≤ own ∧ own ≤ 14 → ∃ nx K, CalmOk n (pushS l M) 100 own nx K ∧ calmD n (pushS l M) 100 own nx K ≠ 0 ∧ (∀ o ∈ (playB (bl0 n) (pushS l M)).1, o.dec ≠ 0 → calmD n (pushS l M) 100 own nx K = o.dec) ∧ (M = 0 → calmD n (pushS l M) 100 own nx K = own)

set_option maxRecDepth 20000 in
set_option maxHeartbeats 8000000 in
theorem BallotEnds_any (hE : Ends) (ok : Nat → Prop) (vo va : Int) (l : List Tn) (a : Option Addr) (m c : Nat) (hm : m = l.length) (w : World) (hL : Lies kPu ok w a c l) :
    Calls Try.prog 5 #[.int .i64 vo, .slice a m c, .int .i64 va] w fun e w' => e = .returned (.bool true) ∧ Below w.heap.size w w' := by
  have cK : Hid (∀ a k : Int, 0 < k → k ≤ 9223372036854775807 → ∀ W, Calls Try.prog 9 #[.int .i64 a, .int .i64 k] W fun e w' => e = .returned (.int .i64 (a % k)) ∧ W = w') := put_by fun a k h1 h2 W => Picked_any a k h1 h2 W
  obtain ⟨n, hn⟩ : ∃ n : Nat, vo % 5 + 1 = (n : Int) := ⟨(vo % 5 + 1).toNat, by omega⟩
  have hn1 : 1 ≤ n ∧ n ≤ 5 := by omega
  have e1 : IntKind.i64.wrap (1 + vo % 5) = (n : Int) := by rw [IntKind.wrap_i64]; omega
  obtain ⟨own, how⟩ : ∃ own, own = 10 + va % 5 := ⟨_, rfl⟩
  have e2 : IntKind.i64.wrap (10 + va % 5) = own := by rw [IntKind.wrap_i64]; omega
  obtain ⟨M, hM⟩ : ∃ M, M = min m 24 := ⟨_, rfl⟩
  obtain ⟨ts, hts⟩ : ∃ ts, ts = pushS l M := ⟨_, rfl⟩
  have htl : M = ts.length := by rw [hts, pushS_length l M (by omega)]
  have hM1 : M ≤ 24 := by omega
  obtain ⟨nx, K, hC, hd0, hd1, hd2⟩ := hE n hn1 l M hM1 (by omega) own (by omega)
  rw [← hts] at hC hd0 hd1 hd2
  have cT : Hid (Calls Try.prog 10 #[.slice a m c, .int .i64 24] w fun e w' => ∃ (a' : Option Addr) (c' : Nat), e = .returned (.slice a' M c') ∧ Hid (TsI w ts (.slice a' M c') w')) := put_by (by
    have h := Turns_any ok l 24 (by omega) a m c hm w hL
    rw [← hM, ← hts] at h
    exact h.mono fun e w' ⟨a', c', h1, h2⟩ => ⟨a', c', h1, put_by h2⟩)
  obtain ⟨os, hos⟩ : ∃ os, os = (playB (bl0 n) ts).1 := ⟨_, rfl⟩
  rw [← hos] at hd1
  have hol : os.length = M := by rw [hos, playB_length, ← htl]
  obtain ⟨d, hd⟩ : ∃ d, d = calmD n ts 100 own nx K := ⟨_, rfl⟩
  rw [← hd] at hd0 hd1 hd2
  have HD1 := put_by hd1
  have HTL := put_by htl
  have HOL := put_by hol
  have HN := put_by hn1
  have HOS := put_by hos
  have cC : Hid (∀ W a1 c1, TsI w ts (.slice a1 M c1) W → Calls Try.prog 11 #[.int .i64 (n : Int), .slice a1 M c1, .int .i64 100, .int .i64 own] W fun e w' => ∃ (a : Option Addr) (m c : Nat), e = .returned (.tuple #[.int .i64 d, .slice a m c, .bool true]) ∧ Hid (Below W.heap.size W w')) := put_by fun W a1 c1 hW => by
    have h := calm_any (fun _ => True) n hn1 ts 100 own nx K (by omega) hC a1 M c1 htl W hW.lies
    rw [← hd] at h
    exact h.mono fun e w' ⟨a, m, c, h3, h4⟩ => ⟨a, m, c, h3, put_by h4⟩
  have m24 : (M : Int) ≤ 24 := by omega
  have HD2 := put_by hd2
  clear hn hn1 how hM hts htl hol hos hL hm hC hd1 hd2 hd hE
  go_enter Try.func5, Try.ntmps5
  go_upto_region 8 with (first
    | (go_at_call 9; (with_reducible refine (cK.out _ _ ?_ ?_ _).mono ?_); decide; decide; rintro e w' ⟨rfl, rfl⟩)
    | (go_at_call 10; (with_reducible refine cT.out.mono ?_); rintro e w1 ⟨a1, c1, rfl, HT1⟩)
    | (at_builtin; refine wpList_append_rows (ok := fun _ => True) (ok2 := fun _ => True) eltTn rfl (.const (.slice none 0 0)) (.tmp 24) rfl w.heap.size (.slice none 0 0) ([] : List Tn) rfl (Rows.nil kTn (fun _ => True) _ _ _) a1 c1 M ts rfl HTL.out HT1.out.lies (fun _ _ _ _ => trivial) (fun _ _ _ e => by cases e) (by simp only [List.length_nil]; omega) (by decide) HT1.out.below.size ?_; intro v2 w2 r1 r2 r3; have HB2 := put_by (below_nil r2); have HC2 := put_by (TsI.mk (w := w) (ts := [] ++ ts) (f := v2) r1 (HT1.out.later HB2.out).below); clear r1 r2 r3; obtain ⟨a2, c2, e2⟩ := HC2.out.form; rw [List.nil_append, ← HTL.out] at e2; subst e2)
    | (go_at_call 7; (with_reducible refine (Play_law n HN.out ([] ++ ts) M (by rw [List.nil_append]; exact HTL.out) (by omega) a2 c2 _ HC2.out.lies).mono ?_); rintro e w3 ⟨a3, c3, rfl, HO, HB3⟩))
  have HT3 : Hid (TsI w ts (.slice a1 M c1) w3) := put_by ((HT1.out.later HB2.out).later HB3.out)
  rw [List.nil_append, ← HOS.out] at HO
  clear HB2 HC2 HB3 HT1 HOS cT
  go_loopw [11, 12] (fun s i wr => wr = w3 ∧ ∃ (k : Nat) (v : Int), k ≤ M ∧ i = .int .i64 (k : Int) ∧ s = .int .i64 v ∧ Hid (v ≠ 0 → d = v)) (fun _ i _ => M - (intOf i).toNat)
  case atStart => exact ⟨rfl, 0, 0, Nat.zero_le _, rfl, rfl, fun h => absurd rfl h⟩
  case round =>
    obtain ⟨rfl, k, v, hk, rfl, rfl, HV⟩ := hrel
    by_cases hlt : k < M
    · have ik : (k : Int) < (M : Int) := by omega
      have hx : k < os.length := by rw [HOL.out]; exact hlt
      obtain ⟨ob, ooff, rfl, -, hc1, -⟩ := HO.out.cell hx
      have HOX : Hid (os[k].dec ≠ 0 → d = os[k].dec) := put_by (fun h => HD1.out _ (List.getElem_mem hx) h)
      generalize os[k].dec = q at *
      clear hx
      by_cases hq : q = 0
      · subst hq
        go_wp2
        go_roundw
        case rel => exact ⟨trivial, k + 1, v, by omega, by go_num, rfl, HV.out⟩
        case measure => simp [intOf]; omega
      · have hq1 : (q == 0) = false := by simp [hq]
        have hq2 : (q != 0) = true := by simp [hq]
        go_wp2
        go_roundw
        case rel => exact ⟨trivial, k + 1, q, by omega, by go_num, rfl, HOX.out⟩
        case measure => simp [intOf]; omega
    · have hkM : k = M := by omega
      subst hkM
      have ik : ¬ (k : Int) < (k : Int) := by omega
      have HBW := put_by HT3.out.below
      have d1 : (d == 0) = false := by simp [hd0]
      have d2 : (d != 0) = true := by simp [hd0]
      by_cases hv : v = 0
      · subst hv
        by_cases hk0 : k = 0
        · subst hk0
          obtain rfl : d = own := HD2.out rfl
          go_wp2_with (first
            | (go_at_call 9; (with_reducible refine (cK.out _ _ ?_ ?_ _).mono ?_); decide; decide; rintro e w' ⟨rfl, rfl⟩)
            | (go_at_call 11; (with_reducible refine (cC.out _ _ _ HT3.out).mono ?_); rintro e w9 ⟨a9, m9, c9, rfl, HB9⟩))
          go_ret
          exact ⟨rfl, HBW.out.trans (HB9.out.mono HBW.out.size)⟩
        · have kpos : (0 : Int) < (k : Int) := by omega
          go_wp2_with (first
            | (go_at_call 9; (with_reducible refine (cK.out _ _ ?_ ?_ _).mono ?_); decide; decide; rintro e w' ⟨rfl, rfl⟩)
            | (go_at_call 11; (with_reducible refine (cC.out _ _ _ HT3.out).mono ?_); rintro e w9 ⟨a9, m9, c9, rfl, HB9⟩))
          go_ret
          exact ⟨rfl, HBW.out.trans (HB9.out.mono HBW.out.size)⟩
      · obtain rfl : d = v := HV.out hv
        by_cases hk0 : k = 0
        · subst hk0
          obtain rfl : d = own := HD2.out rfl
          go_wp2_with (first
            | (go_at_call 9; (with_reducible refine (cK.out _ _ ?_ ?_ _).mono ?_); decide; decide; rintro e w' ⟨rfl, rfl⟩)
            | (go_at_call 11; (with_reducible refine (cC.out _ _ _ HT3.out).mono ?_); rintro e w9 ⟨a9, m9, c9, rfl, HB9⟩))
          go_ret
          exact ⟨rfl, HBW.out.trans (HB9.out.mono HBW.out.size)⟩
        · have kpos : (0 : Int) < (k : Int) := by omega
          go_wp2_with (first
            | (go_at_call 9; (with_reducible refine (cK.out _ _ ?_ ?_ _).mono ?_); decide; decide; rintro e w' ⟨rfl, rfl⟩)
            | (go_at_call 11; (with_reducible refine (cC.out _ _ _ HT3.out).mono ?_); rintro e w9 ⟨a9, m9, c9, rfl, HB9⟩))
          go_ret
          exact ⟨rfl, HBW.out.trans (HB9.out.mono HBW.out.size)⟩

end Go.Proofs.Ytppcikfhhmiipaa
