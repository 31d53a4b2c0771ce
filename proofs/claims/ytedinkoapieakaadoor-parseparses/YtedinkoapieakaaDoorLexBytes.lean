/- What package lex says of a byte, how far bytes of a kind go ('readOn'), whether a text begins with another: contracts, at every argument. -/
import Derived.Test.YtedinkoapieakaaDoorChecked
import Derived.WalkKit
import Derived.WalkMore
import Derived.ProofKit
import Derived.OwnWalk
import Derived.OpenShut
import Derived.Below
import Derived.Shelf.Abstract
import Derived.Laws.Strings3
import Derived.Laws.DeepStrings4
import Derived.Test.YtedinkoapieakaaDoorLexMore
namespace Go.Proofs.YtedinkoapieakaaDoor
open Go.ChangeShapes Go.WideShapes Go.ChangeAt Go.RowKit

/-- function g says of a byte what p says, and turns nothing -/
def Says (g : Nat) (p : UInt8 → Bool) : Prop := ∀ (c : UInt8) (w : World), Calls Tryd.prog g #[.int .u8 (c.toNat : Int)] w fun e w' => e = .returned (.bool (p c)) ∧ w = w'

theorem isLetter_says : Says 30 letter := by
  intro c w
  unfold letter
  generalize c.toNat = n
  by_cases h1 : 97 ≤ n <;> by_cases h2 : n ≤ 122 <;> by_cases h3 : n = 95
  all_goals
    have z1 : (97 : Int) ≤ (n : Int) ↔ 97 ≤ n := by omega
    have z2 : (n : Int) ≤ 122 ↔ n ≤ 122 := by omega
    have z3 : (n : Int) = 95 ↔ n = 95 := by omega
    first
    | (exfalso; omega)
    | (go_enter Tryd.func30, Tryd.ntmps30
       go_wp2
       all_goals first | (exfalso; omega) | (go_ret; exact ⟨by simp [h1, h2, h3, z3], rfl⟩))

theorem isDigit_says : Says 33 digit := by
  intro c w
  unfold digit
  generalize c.toNat = n
  by_cases h1 : 48 ≤ n <;> by_cases h2 : n ≤ 57
  all_goals
    have z1 : (48 : Int) ≤ (n : Int) ↔ 48 ≤ n := by omega
    have z2 : (n : Int) ≤ 57 ↔ n ≤ 57 := by omega
    first
    | (exfalso; omega)
    | (go_enter Tryd.func33, Tryd.ntmps33
       go_wp2
       all_goals first | (exfalso; omega) | (go_ret; exact ⟨by simp [h1, h2], rfl⟩))

theorem isBlank_says : Says 27 blank := by
  intro c w
  unfold blank
  generalize c.toNat = n
  by_cases h1 : n = 9 <;> by_cases h2 : n = 10 <;> by_cases h3 : n = 13 <;> by_cases h4 : n = 32
  all_goals
    have z1 : (n : Int) = 9 ↔ n = 9 := by omega
    have z2 : (n : Int) = 10 ↔ n = 10 := by omega
    have z3 : (n : Int) = 13 ↔ n = 13 := by omega
    have z4 : (n : Int) = 32 ↔ n = 32 := by omega
    first
    | (exfalso; omega)
    | (go_enter Tryd.func27, Tryd.ntmps27
       go_wp2
       all_goals first | (exfalso; omega) | (go_ret; exact ⟨by simp [h1, h2, h3, h4, z1, z2, z3, z4], rfl⟩))

theorem noLine_says : Says 29 noLine := by
  intro c w
  unfold noLine
  generalize c.toNat = n
  by_cases h1 : n = 10
  all_goals
    have z1 : (n : Int) = 10 ↔ n = 10 := by omega
    go_enter Tryd.func29, Tryd.ntmps29
    go_wp2
    all_goals first | (exfalso; omega) | (go_ret; exact ⟨by simp [h1, z1], rfl⟩)

theorem noQuote_says : Says 92 noQuote := by
  intro c w
  unfold noQuote
  generalize c.toNat = n
  by_cases h1 : n = 39
  all_goals
    have z1 : (n : Int) = 39 ↔ n = 39 := by omega
    go_enter Tryd.func92, Tryd.ntmps92
    go_wp2
    all_goals first | (exfalso; omega) | (go_ret; exact ⟨by simp [h1, z1], rfl⟩)

theorem low_toNat (c : UInt8) : (low c).toNat = if 65 ≤ c.toNat ∧ c.toNat ≤ 90 then c.toNat + 32 else c.toNat := by
  unfold low
  split
  · rw [UInt8.toNat_add]
    show (c.toNat + 32) % 256 = _
    omega
  · rfl

theorem small_any (c : UInt8) (w : World) : Calls Tryd.prog 31 #[.int .u8 (c.toNat : Int)] w fun e w' => e = .returned (.int .u8 ((low c).toNat : Int)) ∧ w = w' := by
  rw [low_toNat]
  have hb := c.toNat_lt
  generalize c.toNat = n at hb ⊢
  by_cases h1 : 65 ≤ n <;> by_cases h2 : n ≤ 90
  all_goals
    have z1 : (65 : Int) ≤ (n : Int) ↔ 65 ≤ n := by omega
    have z2 : (n : Int) ≤ 90 ↔ n ≤ 90 := by omega
    first
    | (exfalso; omega)
    | (go_enter Tryd.func31, Tryd.ntmps31
       go_wp2
       all_goals first | (exfalso; omega) | (go_ret; refine ⟨?_, rfl⟩; simp; try omega))

theorem wordly_says : Says 64 wordly := by
  intro c w
  unfold wordly
  have c1 := isLetter_says c
  have c2 := isDigit_says c
  cases h1 : letter c <;> cases h2 : digit c <;> rw [h1] at c1 <;> rw [h2] at c2
  all_goals
    go_enter Tryd.func64, Tryd.ntmps64
    go_wp2_with (first
      | (go_at_call 30; refine (c1 _).mono ?_; rintro e w' ⟨rfl, rfl⟩)
      | (go_at_call 33; refine (c2 _).mono ?_; rintro e w' ⟨rfl, rfl⟩))
    go_ret
    exact ⟨rfl, rfl⟩

theorem wordy_says : Says 59 wordy := by
  intro c w
  unfold wordy
  have c0 := small_any c
  have c1 := isLetter_says (low c)
  have c2 := isDigit_says c
  cases h1 : letter (low c) <;> cases h2 : digit c <;> rw [h1] at c1 <;> rw [h2] at c2
  all_goals
    go_enter Tryd.func59, Tryd.ntmps59
    go_wp2_with (first
      | (go_at_call 31; refine (c0 _).mono ?_; rintro e w' ⟨rfl, rfl⟩)
      | (go_at_call 30; refine (c1 _).mono ?_; rintro e w' ⟨rfl, rfl⟩)
      | (go_at_call 33; refine (c2 _).mono ?_; rintro e w' ⟨rfl, rfl⟩))
    go_ret
    exact ⟨rfl, rfl⟩

theorem size_bytes (s : ByteArray) : s.size = (bts s).length := by
  show s.data.size = s.data.toList.length
  simp

theorem byte_at (s : ByteArray) (k : Nat) (hk : k < s.size) (hk2 : k < (bts s).length) : s[k]'hk = (bts s)[k]'hk2 := by
  have h : s.data[k]? = (bts s)[k]? := by simp [bts]
  rw [List.getElem?_eq_getElem hk2] at h
  have h2 : s.data[k]? = some (s[k]'hk) := Array.getElem?_eq_getElem (show k < s.data.size from hk)
  exact Option.some.inj (h2.symm.trans h)

set_option maxHeartbeats 1000000 in
theorem readOn_any (g : Nat) (eg : ∀ args w, (callFunc g args).run Tryd.prog w = .ok (.enter g args) w) (p : UInt8 → Bool) (hp : Says g p) (s : ByteArray) (i : Nat) (hi : i ≤ s.size) (hs : s.size ≤ 9223372036854775806) (w : World) :
    Calls Tryd.prog 26 #[.string s, .int .i64 (i : Int), .func (.func g) #[] #[]] w fun e w' => e = .returned (.int .i64 (on p (bts s) i : Int)) ∧ w = w' := by
  obtain ⟨N, hN⟩ : ∃ N, on p (bts s) i = N := ⟨_, rfl⟩
  rw [hN]
  go_enter Tryd.func26, Tryd.ntmps26
  go_wp2
  go_loopw [1] (fun x wr => ∃ k : Nat, k ≤ s.size ∧ x = .int .i64 (k : Int) ∧ wr = w ∧ Hid (on p (bts s) k = N)) (fun x _ => s.size - (intOf x).toNat)
  case atStart => exact ⟨i, hi, rfl, rfl, hN⟩
  case round =>
    obtain ⟨k, hk, rfl, rfl, HR⟩ := hrel
    by_cases hlt : k < s.size
    · have hlt2 : (k : Int) < (s.size : Int) := by omega
      have hlt3 : k < (bts s).length := by rw [← size_bytes]; exact hlt
      have cP := hp (s[k]'hlt)
      rw [byte_at s k hlt hlt3] at cP
      cases hpk : p (bts s)[k] <;> rw [hpk] at cP
      · have R : N = k := by rw [← HR.out, on_stop _ _ _ (fun _ => hpk)]
        subst R
        go_wp2_with (go_at_fn g; refine (cP _).mono ?_; rintro e w' ⟨rfl, rfl⟩)
        go_ret
        exact ⟨rfl, rfl⟩
      · have R : Hid (on p (bts s) (k + 1) = N) := by
          have := HR.out
          rw [on_step _ _ _ hlt3 hpk] at this
          exact this
        go_wp2_with (go_at_fn g; refine (cP _).mono ?_; rintro e w' ⟨rfl, rfl⟩)
        go_roundw
        case rel => exact ⟨k + 1, by omega, by simp, by trivial, R⟩
        case measure => simp [intOf]; omega
    · have R : N = k := by rw [← HR.out, on_stop _ _ _ (fun h => by rw [← size_bytes] at h; omega)]
      subst R
      have hlt2 : ¬ (N : Int) < (s.size : Int) := by omega
      go_wp2
      go_ret
      exact ⟨rfl, rfl⟩

end Go.Proofs.YtedinkoapieakaaDoor
