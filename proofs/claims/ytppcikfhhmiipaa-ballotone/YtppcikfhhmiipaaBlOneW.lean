/- One value is decided: the law. -/
import Derived.Test.YtppcikfhhmiipaaBlPush
import Derived.Test.YtppcikfhhmiipaaBlCalm
import Derived.Test.YtppcikfhhmiipaaBlOneP
namespace Go.Proofs.Ytppcikfhhmiipaa
open Go.ChangeShapes Go.WideShapes Go.ChangeAt Go.RowKit Go.Maps

set_option maxRecDepth 20000 in
set_option maxHeartbeats 8000000 in
theorem BallotOne_any (ok : Nat → Prop) (vo : Int) (l : List Tn) (a : Option Addr) (m c : Nat) (hm : m = l.length) (w : World) (hL : Lies kPu ok w a c l) :
    Calls Try.prog 4 #[.int .i64 vo, .slice a m c] w fun e w' => e = .returned (.bool true) ∧ Below w.heap.size w w' := by
  have cK : Hid (∀ a k : Int, 0 < k → k ≤ 9223372036854775807 → ∀ W, Calls Try.prog 9 #[.int .i64 a, .int .i64 k] W fun e w' => e = .returned (.int .i64 (a % k)) ∧ W = w') := put_by fun a k h1 h2 W => Picked_any a k h1 h2 W
  obtain ⟨n, hn⟩ : ∃ n : Nat, vo % 5 + 1 = (n : Int) := ⟨(vo % 5 + 1).toNat, by omega⟩
  have hn1 : 1 ≤ n ∧ n ≤ 5 := by omega
  have e1 : IntKind.i64.wrap (1 + vo % 5) = (n : Int) := by rw [IntKind.wrap_i64]; omega
  obtain ⟨M, hM⟩ : ∃ M, M = min m 120 := ⟨_, rfl⟩
  obtain ⟨ts, hts⟩ : ∃ ts, ts = pushS l M := ⟨_, rfl⟩
  have htl : M = ts.length := by rw [hts, pushS_length l M (by omega)]
  have hM1 : M ≤ 120 := by omega
  have cT : Hid (Calls Try.prog 10 #[.slice a m c, .int .i64 120] w fun e w' => ∃ (a' : Option Addr) (c' : Nat), e = .returned (.slice a' M c') ∧ Hid (TsI w ts (.slice a' M c') w')) := put_by (by
    have h := Turns_any ok l 120 (by omega) a m c hm w hL
    rw [← hM, ← hts] at h
    exact h.mono fun e w' ⟨a', c', h1, h2⟩ => ⟨a', c', h1, put_by h2⟩)
  obtain ⟨os, hos⟩ : ∃ os, os = (playB (bl0 n) ts).1 := ⟨_, rfl⟩
  have hol : os.length = M := by rw [hos, playB_length, ← htl]
  have HONE : Hid (∀ o ∈ os, ∀ q ∈ os, o.dec ≠ 0 → q.dec ≠ 0 → o.dec = q.dec) := put_by (by rw [hos]; exact fun o ho q hq h1 h2 => one_value n hn1 ts o q ho hq h1 h2)
  have HASK : Hid (∀ (i : Nat) (o : Oc), os[i]? = some o → o.dec ≠ 0 → ∃ (k : Nat) (t : Tn) (q : Oc), k < i ∧ ts[k]? = some t ∧ os[k]? = some q ∧ t.kind = 1 ∧ q.code = 0 ∧ t.value = o.dec) := put_by (by rw [hos]; exact fun i o ho hd => one_asked n hn1 ts i o ho hd)
  have HTL := put_by htl
  have HOL := put_by hol
  have HN := put_by hn1
  have HOS := put_by hos
  have cC : Hid (∀ W, Calls Try.prog 11 #[.int .i64 (n : Int), .slice none 0 0, .int .i64 1, .int .i64 3] W fun e w' => ∃ (a : Option Addr) (m c : Nat), e = .returned (.tuple #[.int .i64 3, .slice a m c, .bool true]) ∧ Hid (Below W.heap.size W w')) := put_by fun W => by
    obtain ⟨h1, h2⟩ := calm_one n hn1
    have h := calm_any (fun _ => True) n hn1 [] 1 3 0 (4 * n) (by omega) h1 none 0 0 rfl W (Lies.nil _ _ _ (fun _ => rfl))
    rw [h2] at h
    exact h.mono fun e w' ⟨a, m, c, h3, h4⟩ => ⟨a, m, c, h3, put_by h4⟩
  have m120 : (M : Int) ≤ 120 := by omega
  clear hn hn1 hM hts htl hol hos hL hm
  go_enter Try.func4, Try.ntmps4
  go_upto_region 8 with (first
    | (go_at_call 9; (with_reducible refine (cK.out _ _ ?_ ?_ _).mono ?_); decide; decide; rintro e w' ⟨rfl, rfl⟩)
    | (go_at_call 10; (with_reducible refine cT.out.mono ?_); rintro e w1 ⟨a1, c1, rfl, HT1⟩)
    | (at_builtin; refine wpList_append_rows (ok := fun _ => True) (ok2 := fun _ => True) eltTn rfl (.const (.slice none 0 0)) (.tmp 24) rfl w.heap.size (.slice none 0 0) ([] : List Tn) rfl (Rows.nil kTn (fun _ => True) _ _ _) a1 c1 M ts rfl HTL.out HT1.out.lies (fun _ _ _ _ => trivial) (fun _ _ _ e => by cases e) (by simp only [List.length_nil]; omega) (by decide) HT1.out.below.size ?_; intro v2 w2 r1 r2 r3; have HB2 := put_by (below_nil r2); have HC2 := put_by (TsI.mk (w := w) (ts := [] ++ ts) (f := v2) r1 (HT1.out.later HB2.out).below); clear r1 r2 r3; obtain ⟨a2, c2, e2⟩ := HC2.out.form; rw [List.nil_append, ← HTL.out] at e2; subst e2)
    | (go_at_call 7; (with_reducible refine (Play_law n HN.out ([] ++ ts) M (by rw [List.nil_append]; exact HTL.out) (by omega) a2 c2 _ HC2.out.lies).mono ?_); rintro e w3 ⟨a3, c3, rfl, HO, HB3⟩))
  have HT3 : Hid (TsI w ts (.slice a1 M c1) w3) := put_by ((HT1.out.later HB2.out).later HB3.out)
  rw [List.nil_append, ← HOS.out] at HO
  clear HB2 HC2 HB3 HT1 HOS cT cK
  go_loopw [9, 10] (fun s i wr => wr = w3 ∧ ∃ (k : Nat) (v : Int), k ≤ M ∧ i = .int .i64 (k : Int) ∧ s = .int .i64 v ∧ Hid (v ≠ 0 → ∃ o ∈ os, o.dec = v)) (fun _ i _ => M - (intOf i).toNat)
  case atStart => exact ⟨rfl, 0, 0, Nat.zero_le _, rfl, rfl, fun h => absurd rfl h⟩
  case round =>
    obtain ⟨rfl, k, v, hk, rfl, rfl, HV⟩ := hrel
    by_cases hlt : k < M
    · have ik : (k : Int) < (M : Int) := by omega
      have hx : k < os.length := by rw [HOL.out]; exact hlt
      obtain ⟨ob, ooff, rfl, -, hc1, -⟩ := HO.out.cell hx
      have HOX : Hid (os[k]? = some os[k] ∧ os[k] ∈ os) := put_by ⟨List.getElem?_eq_getElem hx, List.getElem_mem hx⟩
      obtain ⟨o, ho⟩ : ∃ o, o = os[k] := ⟨_, rfl⟩
      rw [← ho] at hc1 HOX
      clear ho hx
      obtain ⟨d, hd⟩ : ∃ d, d = o.dec := ⟨_, rfl⟩
      rw [← hd] at hc1
      by_cases hd0 : d = 0
      · subst hd0
        clear hd
        go_wp2
        go_roundw
        case rel => exact ⟨trivial, k + 1, v, by omega, by go_num, rfl, HV.out⟩
        case measure => simp [intOf]; omega
      · have hd1 : (d == 0) = false := by simp [hd0]
        have HVD : Hid (v ≠ 0 → d = v) := put_by (fun hv => by
          obtain ⟨q, hq, e⟩ := HV.out hv
          have := HONE.out o HOX.out.2 q hq (by rw [← hd]; exact hd0) (by rw [e]; exact hv)
          rw [hd, this, e])
        have HV2 : Hid (d ≠ 0 → ∃ o ∈ os, o.dec = d) := put_by (fun _ => ⟨o, HOX.out.2, hd.symm⟩)
        obtain ⟨k0, t0, q0, hk0, ht0, hq0, t1, t2, t3⟩ := HASK.out k o HOX.out.1 (by rw [← hd]; exact hd0)
        rw [← hd] at t3
        have HK0 := put_by (And.intro ht0 (And.intro hq0 (And.intro t1 (And.intro t2 t3))))
        clear ht0 hq0 t1 t2 t3 hd
        by_cases hv0 : v = 0
        · subst hv0
          go_upto_region 16 with (fail)
          go_wp2
          go_loopw [12, 13] (fun s i W => W = wr ∧ ∃ (j : Nat) (hb : Bool), j ≤ k ∧ i = .int .i64 (j : Int) ∧ s = .bool hb ∧ Hid (k0 < j → hb = true)) (fun _ i _ => k - (intOf i).toNat)
          case atStart => exact ⟨rfl, 0, false, Nat.zero_le _, rfl, rfl, fun h => absurd h (Nat.not_lt_zero _)⟩
          case round =>
            obtain ⟨rfl, j, hb, hj, rfl, rfl, HB⟩ := hrel
            by_cases hjl : j < k
            · have ij : (j : Int) < (k : Int) := by omega
              have ijM : (j : Int) < (M : Int) := by omega
              cases hb with
              | true =>
                go_wp2
                go_roundw
                case rel => exact ⟨trivial, j + 1, true, by omega, by go_num, rfl, fun _ => rfl⟩
                case measure => simp [intOf]; omega
              | false =>
                have hjt : j < ts.length := by rw [← HTL.out]; omega
                have hjo : j < os.length := by rw [HOL.out]; omega
                obtain ⟨tb, toff, rfl, -, -, cs, ⟨rfl, -⟩, htc⟩ := HT3.out.lies.at hjt
                have u0 := htc 0 _ rfl
                have u3 := htc 3 _ rfl
                simp only [Nat.add_zero] at u0
                obtain ⟨ob2, oo2, eo, hcc, -, -⟩ := HO.out.cell hjo
                simp only [Option.some.injEq, Addr.mk.injEq, and_true] at eo
                obtain ⟨rfl, rfl⟩ := eo
                have HJ : Hid (k0 = j → ts[j].kind = 1 ∧ os[j].code = 0 ∧ ts[j].value = d) := put_by (fun e => by
                  subst e
                  obtain ⟨g1, g2, g3, g4, g5⟩ := HK0.out
                  rw [List.getElem?_eq_getElem hjt] at g1
                  rw [List.getElem?_eq_getElem hjo] at g2
                  cases g1
                  cases g2
                  exact ⟨g3, g4, g5⟩)
                have HNJ : Hid (¬ k0 < j) := put_by (fun h => by have := HB.out h; cases this)
                clear htc
                generalize ts[j].kind = tk at *
                generalize ts[j].value = tv at *
                generalize os[j].code = qc at *
                by_cases hA : tk = 1
                · by_cases hB : qc = 0
                  · by_cases hC : tv = d
                    · subst hA hB hC
                      go_wp2
                      go_roundw
                      case rel => exact ⟨trivial, j + 1, true, by omega, by go_num, rfl, fun _ => rfl⟩
                      case measure => simp [intOf]; omega
                    · have hC2 : (tv == d) = false := by simp [hC]
                      subst hA hB
                      go_wp2
                      go_roundw
                      case rel => exact ⟨trivial, j + 1, false, by omega, by go_num, rfl, fun h => by have h1 := HNJ.out; have h2 := HJ.out (by omega); exact absurd h2.2.2 hC⟩
                      case measure => simp [intOf]; omega
                  · have hB2 : (qc == 0) = false := by simp [hB]
                    subst hA
                    go_wp2
                    go_roundw
                    case rel => exact ⟨trivial, j + 1, false, by omega, by go_num, rfl, fun h => by have h1 := HNJ.out; have h2 := HJ.out (by omega); exact absurd h2.2.1 hB⟩
                    case measure => simp [intOf]; omega
                · have hA2 : (tk == 1) = false := by simp [hA]
                  go_wp2
                  go_roundw
                  case rel => exact ⟨trivial, j + 1, false, by omega, by go_num, rfl, fun h => by have h1 := HNJ.out; have h2 := HJ.out (by omega); exact absurd h2.1 hA⟩
                  case measure => simp [intOf]; omega
            · have hjk : j = k := by omega
              obtain rfl : hb = true := HB.out (by omega)
              subst hjk
              go_wp2
              go_roundw
              case rel => exact ⟨trivial, j + 1, d, by omega, by go_num, rfl, HV2.out⟩
              case measure => simp [intOf]; omega
        · obtain rfl : d = v := HVD.out hv0
          go_upto_region 16 with (fail)
          go_wp2
          go_loopw [12, 13] (fun s i W => W = wr ∧ ∃ (j : Nat) (hb : Bool), j ≤ k ∧ i = .int .i64 (j : Int) ∧ s = .bool hb ∧ Hid (k0 < j → hb = true)) (fun _ i _ => k - (intOf i).toNat)
          case atStart => exact ⟨rfl, 0, false, Nat.zero_le _, rfl, rfl, fun h => absurd h (Nat.not_lt_zero _)⟩
          case round =>
            obtain ⟨rfl, j, hb, hj, rfl, rfl, HB⟩ := hrel
            by_cases hjl : j < k
            · have ij : (j : Int) < (k : Int) := by omega
              have ijM : (j : Int) < (M : Int) := by omega
              cases hb with
              | true =>
                go_wp2
                go_roundw
                case rel => exact ⟨trivial, j + 1, true, by omega, by go_num, rfl, fun _ => rfl⟩
                case measure => simp [intOf]; omega
              | false =>
                have hjt : j < ts.length := by rw [← HTL.out]; omega
                have hjo : j < os.length := by rw [HOL.out]; omega
                obtain ⟨tb, toff, rfl, -, -, cs, ⟨rfl, -⟩, htc⟩ := HT3.out.lies.at hjt
                have u0 := htc 0 _ rfl
                have u3 := htc 3 _ rfl
                simp only [Nat.add_zero] at u0
                obtain ⟨ob2, oo2, eo, hcc, -, -⟩ := HO.out.cell hjo
                simp only [Option.some.injEq, Addr.mk.injEq, and_true] at eo
                obtain ⟨rfl, rfl⟩ := eo
                have HJ : Hid (k0 = j → ts[j].kind = 1 ∧ os[j].code = 0 ∧ ts[j].value = d) := put_by (fun e => by
                  subst e
                  obtain ⟨g1, g2, g3, g4, g5⟩ := HK0.out
                  rw [List.getElem?_eq_getElem hjt] at g1
                  rw [List.getElem?_eq_getElem hjo] at g2
                  cases g1
                  cases g2
                  exact ⟨g3, g4, g5⟩)
                have HNJ : Hid (¬ k0 < j) := put_by (fun h => by have := HB.out h; cases this)
                clear htc
                generalize ts[j].kind = tk at *
                generalize ts[j].value = tv at *
                generalize os[j].code = qc at *
                by_cases hA : tk = 1
                · by_cases hB : qc = 0
                  · by_cases hC : tv = d
                    · subst hA hB hC
                      go_wp2
                      go_roundw
                      case rel => exact ⟨trivial, j + 1, true, by omega, by go_num, rfl, fun _ => rfl⟩
                      case measure => simp [intOf]; omega
                    · have hC2 : (tv == d) = false := by simp [hC]
                      subst hA hB
                      go_wp2
                      go_roundw
                      case rel => exact ⟨trivial, j + 1, false, by omega, by go_num, rfl, fun h => by have h1 := HNJ.out; have h2 := HJ.out (by omega); exact absurd h2.2.2 hC⟩
                      case measure => simp [intOf]; omega
                  · have hB2 : (qc == 0) = false := by simp [hB]
                    subst hA
                    go_wp2
                    go_roundw
                    case rel => exact ⟨trivial, j + 1, false, by omega, by go_num, rfl, fun h => by have h1 := HNJ.out; have h2 := HJ.out (by omega); exact absurd h2.2.1 hB⟩
                    case measure => simp [intOf]; omega
                · have hA2 : (tk == 1) = false := by simp [hA]
                  go_wp2
                  go_roundw
                  case rel => exact ⟨trivial, j + 1, false, by omega, by go_num, rfl, fun h => by have h1 := HNJ.out; have h2 := HJ.out (by omega); exact absurd h2.1 hA⟩
                  case measure => simp [intOf]; omega
            · have hjk : j = k := by omega
              obtain rfl : hb = true := HB.out (by omega)
              subst hjk
              go_wp2
              go_roundw
              case rel => exact ⟨trivial, j + 1, d, by omega, by go_num, rfl, HV2.out⟩
              case measure => simp [intOf]; omega
    · have hkM : k = M := by omega
      subst hkM
      have ik : ¬ (k : Int) < (k : Int) := by omega
      have HBW := put_by HT3.out.below
      go_wp2_with (go_at_call 11; (with_reducible refine (cC.out _).mono ?_); rintro e w9 ⟨a9, m9, c9, rfl, HB9⟩)
      go_ret
      exact ⟨rfl, HBW.out.trans (HB9.out.mono HBW.out.size)⟩

end Go.Proofs.Ytppcikfhhmiipaa
