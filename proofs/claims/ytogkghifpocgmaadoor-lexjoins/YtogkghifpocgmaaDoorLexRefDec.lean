/- The document's own way to write a number (decimal): its digits. -/
import Derived.Test.YtogkghifpocgmaaDoorLexJoin
import Derived.Test.YtogkghifpocgmaaDoorOverTabs
import Derived.Deep.QuietTactic
import Derived.Deep.RegionWith
namespace Go.Proofs.YtogkghifpocgmaaDoor
open Go.ChangeShapes Go.WideShapes Go.ChangeAt Go.RowKit

theorem digit_enc : ∀ x : Fin 10, bts (Utf8.encode (48 + ((x.val : Nat) : Int))) = [UInt8.ofNat (48 + x.val)] := by decide +kernel

set_option maxRecDepth 100000 in
set_option maxHeartbeats 4000000 in
theorem decimal_any (n : Nat) : n ≤ 9223372036854775807 → ∀ w : World,
    Calls Tryd.prog 30 #[.int .i64 (n : Int)] w fun e w' => ∃ z : ByteArray, e = .returned (.string z) ∧ z.size ≤ 19 ∧ Hid (bts z = Lib.decDigits n) ∧ Below w.heap.size w w' := by
  induction n using Nat.strongRecOn with
  | ind n ih =>
    intro hn w
    by_cases h10 : n < 10
    · have h1 : (n : Int) < 10 := by omega
      obtain ⟨r, hr⟩ : ∃ r, Utf8.encode (48 + (n : Int)) = r := ⟨_, rfl⟩
      have hb : bts r = Lib.decDigits n := by
        rw [← hr, Lib.decDigits, dif_pos h10]
        exact digit_enc ⟨n, h10⟩
      have hrs : r.size ≤ 19 := by
        rw [size_bytes, hb]
        exact Nat.le_trans (decDigits_len 0 n (by omega)) (by omega)
      have HB := hidden hb
      clear hb ih
      go_enter Tryd.func30, Tryd.ntmps30
      go_wp2
      go_ret
      exact ⟨r, rfl, hrs, HB, Below.refl _ _⟩
    · have h1 : ¬ (n : Int) < 10 := by omega
      obtain ⟨m, hm⟩ : ∃ m, n / 10 = m := ⟨_, rfl⟩
      obtain ⟨j, hj⟩ : ∃ j, n % 10 = j := ⟨_, rfl⟩
      have hq : (n : Int).tdiv 10 = (m : Int) := by rw [Int.tdiv_eq_ediv_of_nonneg (by omega)]; omega
      have hr : (n : Int).tmod 10 = (j : Int) := by rw [Int.tmod_eq_emod_of_nonneg (by omega)]; omega
      have hw : wrap64 (m : Int) = (m : Int) := by unfold wrap64; omega
      have c1 := hidden (ih m (by omega) (by omega))
      have c2 := hidden (ih j (by omega) (by omega))
      have hd : Hid (Lib.decDigits n = Lib.decDigits m ++ Lib.decDigits j ∧ (Lib.decDigits n).length ≤ 19) := by
        refine ⟨?_, decDigits_len 18 n (by omega)⟩
        rw [Lib.decDigits, dif_neg h10, hm, hj]
        congr 1
        rw [Lib.decDigits, dif_pos (by omega)]
      clear ih hm hj
      go_enter Tryd.func30, Tryd.ntmps30
      go_wp2_with (first
        | (go_at_call 30; with_reducible refine (c1.out _).mono ?_; rintro e w1 ⟨y, rfl, hy, HY, b1⟩)
        | (go_at_call 30; with_reducible refine (c2.out _).mono ?_; rintro e w2 ⟨z, rfl, hz, HZ, b2⟩))
      go_ret
      have e : bts (y ++ z) = Lib.decDigits n := by rw [bts_append, HY.out, HZ.out, hd.out.1]
      exact ⟨y ++ z, rfl, by rw [size_bytes, e]; exact hd.out.2, e, b1.trans (b2.mono b1.size)⟩

end Go.Proofs.YtogkghifpocgmaaDoor
