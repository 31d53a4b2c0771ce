/- The document's words on UTF-8, as the reference reckons them: a sign of two bytes. -/
import Derived.Test.YtojfcafdegbkjaaDoorLexSigns
namespace Go.Proofs.YtojfcafdegbkjaaDoor
open Go.ChangeShapes Go.WideShapes Go.ChangeAt Go.RowKit

set_option maxRecDepth 100000 in
set_option maxHeartbeats 4000000 in
theorem runeSize_two (s : ByteArray) (hs : s.size ≤ 9223372036854775806) (w : World) (hl0 : 0 < s.size) (h1 : 194 ≤ s[0].toNat) (h2 : s[0].toNat < 224) :
    Calls Tryd.prog 45 #[.string s] w fun e w' => e = .returned (.int .i64 (sz (bts s) : Int)) ∧ w = w' := by
  have hz := size_bytes s
  have hcs := sz_cases (bts s) (fun h => by have := (empty_iff s).2 h; omega) 2 194 224 32 (by omega) (by rw [getD_at s 0 hl0]; exact h1) (by rw [getD_at s 0 hl0]; exact h2)
  rw [getD_at s 0 hl0, ← hz] at hcs
  obtain ⟨N, hN⟩ : ∃ N, sz (bts s) = N := ⟨_, rfl⟩
  rw [hN] at hcs ⊢
  clear hN hz
  obtain ⟨k1, k2, k3⟩ := hcs
  have h01 : ¬ (s.size : Int) = 0 := by omega
  have hl1 : (0 : Int) < (s.size : Int) := by omega
  obtain ⟨x0, hx0⟩ : ∃ x, s[0].toNat = x := ⟨_, rfl⟩
  have b0 : x0 < 256 := by rw [← hx0]; exact s[0].toNat_lt
  rw [hx0] at h1 h2 k3
  have h11 : ¬ (x0 : Int) < 128 := by omega
  have g1 : (194 : Int) ≤ (x0 : Int) := by omega
  have g2 : (x0 : Int) < 224 := by omega
  have hA : bits .and .i64 (x0 : Int) 31 = ((x0 % 32 : Nat) : Int) := and_low 31 (by omega) x0 b0
  obtain ⟨y0, hy0⟩ : ∃ y, x0 % 32 = y := ⟨_, rfl⟩
  have c0 : y0 < 32 := by omega
  rw [hy0] at hA k3
  clear hy0
  by_cases n2 : s.size < 2
  · have R := k1 n2
    subst R
    have n21 : (s.size : Int) < 2 := by omega
    clear k1 k2 k3 h1 h2
    go_enter Tryd.func45, Tryd.ntmps45
    go_wp2
    go_ret
    exact ⟨rfl, rfl⟩
  have n21 : ¬ (s.size : Int) < 2 := by omega
  have K2 : Hid (∀ k, 1 ≤ k → k < 2 → goes (bts s) k = false → N = 0) := k2
  have K3 := k3 (by omega)
  have K3 : Hid ((∀ k, 1 ≤ k → k < 2 → goes (bts s) k = true) → N = if 2 = 3 ∧ (codeTo y0 (bts s) (2 - 1) < 2048 ∨ 55296 ≤ codeTo y0 (bts s) (2 - 1) ∧ codeTo y0 (bts s) (2 - 1) ≤ 57343) ∨
      2 = 4 ∧ (codeTo y0 (bts s) (2 - 1) < 65536 ∨ 1114111 < codeTo y0 (bts s) (2 - 1)) then 0 else 2) := K3
  clear k1 k2 k3 h1 h2
  go_enter Tryd.func45, Tryd.ntmps45
  go_wp2
  go_loopw [5, 6] (fun c x wr => ∃ k q : Nat, k < 2 ∧ c = .int .i64 (q : Int) ∧ x = .int .i64 (k + 1 : Nat) ∧ wr = w ∧ Hid (q = codeTo y0 (bts s) k ∧ ∀ j, 1 ≤ j → j ≤ k → goes (bts s) j = true)) (fun _ x _ => 2 - (intOf x).toNat)
  case atStart => exact ⟨0, y0, by omega, rfl, rfl, rfl, rfl, fun j h1 h2 => by omega⟩
  case round =>
    obtain ⟨k, q, hk, rfl, rfl, rfl, H⟩ := hrel
    have hq := codeTo_lt (show y0 < 32 by omega) (bts s) (show k ≤ 3 by omega)
    rw [← H.out.1] at hq
    by_cases hlt : k + 1 < 2
    · have hq2 := hq.2 (by omega)
      have hlt1 : ((k + 1 : Nat) : Int) < 2 := by omega
      have hl2 : ((k + 1 : Nat) : Int) < (s.size : Int) := by omega
      have hl3 : k + 1 < s.size := by omega
      obtain ⟨x1, hx1⟩ : ∃ x, s[k + 1].toNat = x := ⟨_, rfl⟩
      have b1 : x1 < 256 := by rw [← hx1]; exact s[k + 1].toNat_lt
      have hB := and_63 x1 b1
      have hG : goes (bts s) (k + 1) = (decide (128 ≤ x1) && decide (x1 ≤ 191)) := by unfold goes; rw [getD_at s (k + 1) hl3, hx1]
      have hC : codeTo y0 (bts s) (k + 1) = q * 64 + x1 % 64 := by
        show codeTo y0 (bts s) k * 64 + ((bts s).getD (k + 1) 0).toNat % 64 = _
        rw [← H.out.1, getD_at s (k + 1) hl3, hx1]
      obtain ⟨y1, hy1⟩ : ∃ y, x1 % 64 = y := ⟨_, rfl⟩
      have c1 : y1 < 64 := by omega
      rw [hy1] at hB hC
      clear hy1 hq
      by_cases p1 : x1 < 128
      · have R : N = 0 := K2.out (k + 1) (by omega) hlt (by rw [hG, decide_eq_false (by omega)]; rfl)
        subst R
        have p11 : (x1 : Int) < 128 := by omega
        clear hG hC
        go_wp2
        go_ret
        exact ⟨rfl, rfl⟩
      have p11 : ¬ (x1 : Int) < 128 := by omega
      by_cases p2 : 191 < x1
      · have R : N = 0 := K2.out (k + 1) (by omega) hlt (by rw [hG, decide_eq_false (show ¬ x1 ≤ 191 by omega)]; simp)
        subst R
        have p21 : (191 : Int) < (x1 : Int) := by omega
        clear hG hC
        go_wp2
        go_ret
        exact ⟨rfl, rfl⟩
      · have p21 : ¬ (191 : Int) < (x1 : Int) := by omega
        have R : Hid (q * 64 + y1 = codeTo y0 (bts s) (k + 1) ∧ ∀ j, 1 ≤ j → j ≤ k + 1 → goes (bts s) j = true) := by
          refine ⟨hC.symm, fun j h1 h2 => ?_⟩
          by_cases hj : j = k + 1
          · subst hj
            rw [hG, decide_eq_true (show 128 ≤ x1 by omega), decide_eq_true (show x1 ≤ 191 by omega)]
            rfl
          · exact H.out.2 j h1 (by omega)
        clear hG hC
        go_wp2
        go_roundw
        case rel => exact ⟨k + 1, q * 64 + y1, by omega, by go_num, by go_num, by trivial, R⟩
        case measure => simp [intOf]; omega
    · have hk1 : k + 1 = 2 := by omega
      have hk2 : k = 1 := by omega
      subst hk2
      have R := K3.out (fun j h1 h2 => H.out.2 j h1 (by omega))
      have e : codeTo y0 (bts s) (2 - 1) = q := H.out.1.symm
      rw [e] at R
      have hlt1 : ¬ ((2 : Nat) : Int) < 2 := by omega
      clear K2 K3 e hk1 hlt hk
      rw [if_neg (by omega)] at R
      subst R
      go_wp2
      go_ret
      exact ⟨rfl, rfl⟩

end Go.Proofs.YtojfcafdegbkjaaDoor
