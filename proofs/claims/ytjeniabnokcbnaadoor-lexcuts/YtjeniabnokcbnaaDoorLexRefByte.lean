/- The document's own words for a letter and a digit (isLetter, isDigit). -/
import Derived.Test.YtjeniabnokcbnaaDoorLexRefTok
import Derived.Test.YtjeniabnokcbnaaDoorLexCut
namespace Go.Proofs.YtjeniabnokcbnaaDoor
open Go.ChangeShapes Go.WideShapes Go.ChangeAt Go.RowKit

theorem letter_low_all : ∀ x : Fin 256, letter (low (UInt8.ofNat x.val)) = decide ((65 ≤ x.val ∧ x.val ≤ 90) ∨ (97 ≤ x.val ∧ x.val ≤ 122) ∨ x.val = 95) := by decide +kernel

theorem letter_low_iff (c : UInt8) : letter (low c) = decide ((65 ≤ c.toNat ∧ c.toNat ≤ 90) ∨ (97 ≤ c.toNat ∧ c.toNat ≤ 122) ∨ c.toNat = 95) := by
  have := letter_low_all ⟨c.toNat, c.toNat_lt⟩
  simpa using this

set_option maxRecDepth 100000 in
set_option maxHeartbeats 1000000 in
theorem isLetter_any (x : Nat) (c : UInt8) (hx : c.toNat = x) (w : World) :
    Calls Tryd.prog 37 #[.int .u8 (x : Int)] w fun e w' => e = .returned (.bool (letter (low c))) ∧ w = w' := by
  have hl := letter_low_iff c
  rw [hx] at hl
  have hlt : x < 256 := by rw [← hx]; exact c.toNat_lt
  obtain ⟨v, hv⟩ : ∃ v, letter (low c) = v := ⟨_, rfl⟩
  rw [hv] at hl ⊢
  clear hv hx
  rcases (show x < 65 ∨ (65 ≤ x ∧ x ≤ 90) ∨ (91 ≤ x ∧ x ≤ 94) ∨ x = 95 ∨ x = 96 ∨ (97 ≤ x ∧ x ≤ 122) ∨ 123 ≤ x by omega) with h | h | h | h | h | h | h
  · obtain rfl : v = false := by rw [hl]; exact decide_eq_false (by omega)
    have h1 : ¬ (65 : Int) ≤ (x : Int) := by omega
    have h2 : ¬ (97 : Int) ≤ (x : Int) := by omega
    have h3 : ((x : Int) == 95) = false := beq_eq_false_iff_ne.2 (by omega)
    clear hl h
    go_enter Tryd.func37, Tryd.ntmps37
    go_wp2
    go_ret
    exact ⟨rfl, rfl⟩
  · obtain rfl : v = true := by rw [hl]; exact decide_eq_true (by omega)
    have h1 : (65 : Int) ≤ (x : Int) := by omega
    have h2 : (x : Int) ≤ 90 := by omega
    clear hl h
    go_enter Tryd.func37, Tryd.ntmps37
    go_wp2
    go_ret
    exact ⟨rfl, rfl⟩
  · obtain rfl : v = false := by rw [hl]; exact decide_eq_false (by omega)
    have h1 : (65 : Int) ≤ (x : Int) := by omega
    have h4 : ¬ (x : Int) ≤ 90 := by omega
    have h2 : ¬ (97 : Int) ≤ (x : Int) := by omega
    have h3 : ((x : Int) == 95) = false := beq_eq_false_iff_ne.2 (by omega)
    clear hl h
    go_enter Tryd.func37, Tryd.ntmps37
    go_wp2
    go_ret
    exact ⟨rfl, rfl⟩
  · obtain rfl : v = true := by rw [hl]; exact decide_eq_true (by omega)
    have h1 : (65 : Int) ≤ (x : Int) := by omega
    have h4 : ¬ (x : Int) ≤ 90 := by omega
    have h2 : ¬ (97 : Int) ≤ (x : Int) := by omega
    have h3 : ((x : Int) == 95) = true := beq_iff_eq.2 (by omega)
    clear hl h
    go_enter Tryd.func37, Tryd.ntmps37
    go_wp2
    go_ret
    exact ⟨rfl, rfl⟩
  · obtain rfl : v = false := by rw [hl]; exact decide_eq_false (by omega)
    have h1 : (65 : Int) ≤ (x : Int) := by omega
    have h4 : ¬ (x : Int) ≤ 90 := by omega
    have h2 : ¬ (97 : Int) ≤ (x : Int) := by omega
    have h3 : ((x : Int) == 95) = false := beq_eq_false_iff_ne.2 (by omega)
    clear hl h
    go_enter Tryd.func37, Tryd.ntmps37
    go_wp2
    go_ret
    exact ⟨rfl, rfl⟩
  · obtain rfl : v = true := by rw [hl]; exact decide_eq_true (by omega)
    have h1 : (65 : Int) ≤ (x : Int) := by omega
    have h4 : ¬ (x : Int) ≤ 90 := by omega
    have h2 : (97 : Int) ≤ (x : Int) := by omega
    have h3 : (x : Int) ≤ 122 := by omega
    clear hl h
    go_enter Tryd.func37, Tryd.ntmps37
    go_wp2
    go_ret
    exact ⟨rfl, rfl⟩
  · obtain rfl : v = false := by rw [hl]; exact decide_eq_false (by omega)
    have h1 : (65 : Int) ≤ (x : Int) := by omega
    have h4 : ¬ (x : Int) ≤ 90 := by omega
    have h2 : (97 : Int) ≤ (x : Int) := by omega
    have h5 : ¬ (x : Int) ≤ 122 := by omega
    have h3 : ((x : Int) == 95) = false := beq_eq_false_iff_ne.2 (by omega)
    clear hl h
    go_enter Tryd.func37, Tryd.ntmps37
    go_wp2
    go_ret
    exact ⟨rfl, rfl⟩

theorem isDigit_any (x : Nat) (c : UInt8) (hx : c.toNat = x) (w : World) :
    Calls Tryd.prog 38 #[.int .u8 (x : Int)] w fun e w' => e = .returned (.bool (digit c)) ∧ w = w' := by
  have hd : digit c = (decide (48 ≤ x) && decide (x ≤ 57)) := by unfold digit; rw [hx]
  obtain ⟨v, hv⟩ : ∃ v, digit c = v := ⟨_, rfl⟩
  rw [hv] at hd ⊢
  have hlt : x < 256 := by rw [← hx]; exact c.toNat_lt
  clear hv hx
  rcases (show x < 48 ∨ (48 ≤ x ∧ x ≤ 57) ∨ 58 ≤ x by omega) with h | h | h
  · obtain rfl : v = false := by rw [hd, decide_eq_false (by omega)]; rfl
    have h1 : ¬ (48 : Int) ≤ (x : Int) := by omega
    clear hd h
    go_enter Tryd.func38, Tryd.ntmps38
    go_wp2
    go_ret
    exact ⟨rfl, rfl⟩
  · obtain rfl : v = true := by rw [hd, decide_eq_true h.1, decide_eq_true h.2]; rfl
    have h1 : (48 : Int) ≤ (x : Int) := by omega
    have h2 : (x : Int) ≤ 57 := by omega
    clear hd h
    go_enter Tryd.func38, Tryd.ntmps38
    go_wp2
    go_ret
    exact ⟨rfl, rfl⟩
  · obtain rfl : v = false := by rw [hd, decide_eq_false (p := x ≤ 57) (by omega)]; simp
    have h1 : (48 : Int) ≤ (x : Int) := by omega
    have h2 : ¬ (x : Int) ≤ 57 := by omega
    clear hd h
    go_enter Tryd.func38, Tryd.ntmps38
    go_wp2
    go_ret
    exact ⟨rfl, rfl⟩

end Go.Proofs.YtjeniabnokcbnaaDoor
