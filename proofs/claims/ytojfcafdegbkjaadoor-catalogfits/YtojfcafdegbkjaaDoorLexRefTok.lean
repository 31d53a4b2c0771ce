/- Which tokens may be, as the reference reckons it: the contract, at every argument. -/
import Derived.Test.YtojfcafdegbkjaaDoorLexRefMay
namespace Go.Proofs.YtojfcafdegbkjaaDoor
open Go.ChangeShapes Go.WideShapes Go.ChangeAt Go.RowKit

/-- a byte that may stand at a place of a word -/
def fits (l : List UInt8) (k : Nat) : Bool := letter (l.getD k 0) || (digit (l.getD k 0) && decide (0 < k))

theorem isWord_fits (l : List UInt8) (h1 : 1 ≤ l.length) (h2 : l.length ≤ 12) (h : ∀ k, k < l.length → fits l k = true) : isWord l = true := by
  unfold isWord
  rw [decide_eq_true h1, decide_eq_true h2]
  have h0 := h 0 (by omega)
  unfold fits at h0
  simp only [Nat.lt_irrefl, decide_false, Bool.and_false, Bool.or_false] at h0
  have hd : digit (l.getD 0 0) = false := by
    simp only [letter, digit, Bool.or_eq_true, Bool.and_eq_true, decide_eq_true_eq, Bool.and_eq_false_imp, decide_eq_false_iff_not] at h0 ⊢
    omega
  rw [hd, List.all_eq_true.2]
  · rfl
  · intro c hc
    obtain ⟨k, hk, rfl⟩ := List.getElem_of_mem hc
    have := h k hk
    unfold fits at this
    rw [List.getD_eq_getElem?_getD, List.getElem?_eq_getElem hk] at this
    simp only [Option.getD_some, Bool.or_eq_true, Bool.and_eq_true] at this
    unfold wordly
    rw [Bool.or_eq_true]
    exact this.imp id (fun h => h.1)

theorem not_fits (l : List UInt8) (k : Nat) (hk : k < l.length) (h : fits l k = false) : isWord l = false := by
  cases hw : isWord l with
  | false => rfl
  | true =>
    exfalso
    unfold isWord at hw
    simp only [Bool.and_eq_true, decide_eq_true_eq, List.all_eq_true, Bool.not_eq_true'] at hw
    obtain ⟨⟨⟨_, _⟩, ha⟩, hd⟩ := hw
    have e : l.getD k 0 = l[k] := by
      rw [List.getD_eq_getElem?_getD, List.getElem?_eq_getElem hk]
      rfl
    have h3 := ha l[k] (List.getElem_mem _)
    unfold fits at h
    rw [e] at h
    unfold wordly at h3
    by_cases h0 : k = 0
    · subst h0
      rw [e] at hd
      rw [hd, Bool.or_false] at h3
      rw [h3] at h
      simp at h
    · rw [decide_eq_true (show 0 < k by omega), Bool.and_true, h3] at h
      cases h

theorem letter_int (c : UInt8) : letter c = ((decide ((97 : Int) ≤ (c.toNat : Int)) && decide ((c.toNat : Int) ≤ 122)) || decide ((c.toNat : Int) = 95)) := by
  have z1 : (97 : Int) ≤ (c.toNat : Int) ↔ 97 ≤ c.toNat := by omega
  have z2 : (c.toNat : Int) ≤ 122 ↔ c.toNat ≤ 122 := by omega
  have z3 : (c.toNat : Int) = 95 ↔ c.toNat = 95 := by omega
  simp only [letter, z1, z2, z3]
theorem digit_int (c : UInt8) : digit c = (decide ((48 : Int) ≤ (c.toNat : Int)) && decide ((c.toNat : Int) ≤ 57)) := by
  have z1 : (48 : Int) ≤ (c.toNat : Int) ↔ 48 ≤ c.toNat := by omega
  have z2 : (c.toNat : Int) ≤ 57 ↔ c.toNat ≤ 57 := by omega
  simp only [digit, z1, z2]

set_option maxRecDepth 100000 in
set_option maxHeartbeats 4000000 in
theorem TokenMay_any (k n : Int) (s : ByteArray) (w : World) :
    Calls Tryd.prog 30 #[.agg #[.int .i64 k, .int .i64 n, .string s]] w fun e w' => e = .returned (.bool (may ⟨k, n, bts s⟩)) ∧ Below w.heap.size w w' := by
  have hz := size_bytes s
  have hb : ∀ o, Below w.heap.size w (w.alloc o) := fun o => (Below.refl _ w).alloc (Nat.le_refl _) o
  by_cases h2 : k = 2
  · subst h2
    by_cases hn : 0 ≤ n
    · by_cases h0 : bts s = []
      · have e0 : s.toList = [] := by rw [bytes_to_list]; exact h0
        have R : Hid (may ⟨2, n, bts s⟩ = true) := by simp [Hid, may, hn, h0]
        clear hz h0
        go_enter Tryd.func30, Tryd.ntmps30
        go_wp2
        go_ret
        rw [R.out]
        exact ⟨rfl, hb _⟩
      · have e0 : ¬ s.toList = [] := by rw [bytes_to_list]; exact h0
        have e1 : s.toList.isEmpty = false := by cases hx : s.toList <;> simp_all
        have R : Hid (may ⟨2, n, bts s⟩ = false) := by simp [Hid, may, h0]
        clear hz h0
        go_enter Tryd.func30, Tryd.ntmps30
        go_wp2
        go_ret
        rw [R.out]
        exact ⟨rfl, hb _⟩
    · have R : Hid (may ⟨2, n, bts s⟩ = false) := by simp [Hid, may, hn]
      clear hz
      go_enter Tryd.func30, Tryd.ntmps30
      go_wp2
      go_ret
      rw [R.out]
      exact ⟨rfl, hb _⟩
  by_cases hn : ¬ n = 0
  · have R : Hid (may ⟨k, n, bts s⟩ = false) := by simp [Hid, may, hn, h2]
    clear hz
    go_enter Tryd.func30, Tryd.ntmps30
    go_wp2
    go_ret
    rw [R.out]
    exact ⟨rfl, hb _⟩
  have hn : n = 0 := Decidable.not_not.1 hn
  subst hn
  by_cases h3 : k = 3
  · subst h3
    clear h2
    by_cases h4 : s.size ≤ 40
    · have h5 : (s.size : Int) ≤ 40 := by omega
      have cV := Signs_any s (by omega)
      have R : Hid (may ⟨3, 0, bts s⟩ = signs (bts s)) := by
        have : (bts s).length ≤ 40 := by omega
        simp [Hid, may, this]
      generalize signs (bts s) = b at cV R
      clear hz
      go_enter Tryd.func30, Tryd.ntmps30
      go_wp2_with (go_at_call 36; refine (cV _).mono ?_; rintro e w' ⟨rfl, rfl⟩)
      go_ret
      rw [R.out]
      exact ⟨rfl, hb _⟩
    · have h5 : ¬ (s.size : Int) ≤ 40 := by omega
      have R : Hid (may ⟨3, 0, bts s⟩ = false) := by
        have : ¬ (bts s).length ≤ 40 := by omega
        simp [Hid, may, this]
      clear hz
      go_enter Tryd.func30, Tryd.ntmps30
      go_wp2
      go_ret
      rw [R.out]
      exact ⟨rfl, hb _⟩
  by_cases h4 : k = 4
  · subst h4
    clear h2 h3
    have cM := isMark_ref s
    have R : Hid (may ⟨4, 0, bts s⟩ = isMark (bts s)) := by simp [Hid, may]
    generalize isMark (bts s) = b at cM R
    clear hz
    go_enter Tryd.func30, Tryd.ntmps30
    go_wp2_with (go_at_call 37; refine (cM _).mono ?_; rintro e w' ⟨rfl, rfl⟩)
    go_ret
    rw [R.out]
    exact ⟨rfl, hb _⟩
  by_cases h1 : ¬ k = 1
  · have R : Hid (may ⟨k, 0, bts s⟩ = false) := by simp [Hid, may, h1, h2, h3, h4]
    clear hz
    go_enter Tryd.func30, Tryd.ntmps30
    go_wp2
    go_ret
    rw [R.out]
    exact ⟨rfl, hb _⟩
  have h1 : k = 1 := Decidable.not_not.1 h1
  subst h1
  clear h2 h3 h4
  have R : Hid (may ⟨1, 0, bts s⟩ = isWord (bts s)) := by simp [Hid, may]
  by_cases hl1 : s.size < 1
  · have R2 : Hid (isWord (bts s) = false) := by
      have : bts s = [] := (empty_iff s).1 (by omega)
      rw [this]
      rfl
    have hl2 : (s.size : Int) < 1 := by omega
    clear hz
    go_enter Tryd.func30, Tryd.ntmps30
    go_wp2
    go_ret
    rw [R.out, R2.out]
    exact ⟨rfl, hb _⟩
  have hl2 : ¬ (s.size : Int) < 1 := by omega
  by_cases hl3 : 12 < s.size
  · have R2 : Hid (isWord (bts s) = false) := by
      show isWord (bts s) = false
      unfold isWord
      rw [decide_eq_false (show ¬ (bts s).length ≤ 12 by omega)]
      simp
    have hl4 : (12 : Int) < (s.size : Int) := by omega
    clear hz
    go_enter Tryd.func30, Tryd.ntmps30
    go_wp2
    go_ret
    rw [R.out, R2.out]
    exact ⟨rfl, hb _⟩
  have hl4 : ¬ (12 : Int) < (s.size : Int) := by omega
  have HZ : Hid (s.size = (bts s).length) := hz
  clear hz
  go_enter Tryd.func30, Tryd.ntmps30
  go_wp2
  go_loopw [3] (fun x wr => ∃ j : Nat, j ≤ s.size ∧ x = .int .i64 (j : Int) ∧ wr = w.alloc (.cells #[.int .i64 1, .int .i64 0, .string s] 51) ∧ Hid (∀ i, i < j → fits (bts s) i = true)) (fun x _ => s.size - (intOf x).toNat)
  case atStart => exact ⟨0, Nat.zero_le _, rfl, rfl, fun i hi => by omega⟩
  case round =>
    obtain ⟨j, hj, rfl, rfl, H⟩ := hrel
    by_cases hlt : j < s.size
    · have hlt1 : (j : Int) < (s.size : Int) := by omega
      have z6 : (0 : Int) < (j : Int) ↔ 0 < j := by omega
      have hf : fits (bts s) j = (letter s[j] || (digit s[j] && decide ((0 : Int) < (j : Int)))) := by
        unfold fits
        rw [getD_at s j hlt]
        simp only [z6]
      rw [letter_int, digit_int] at hf
      clear z6
      obtain ⟨x, hx⟩ : ∃ x, s[j].toNat = x := ⟨_, rfl⟩
      rw [hx] at hf
      by_cases cc : 97 ≤ x ∧ x ≤ 122
      · have q1 : (48 : Int) ≤ (x : Int) := by omega
        have q2 : ¬ (x : Int) ≤ 57 := by omega
        have q3 : (97 : Int) ≤ (x : Int) := by omega
        have q4 : (x : Int) ≤ 122 := by omega
        have hf : fits (bts s) j = true := by
          rw [hf]
          clear hf
          simp [*]
        have R2 : Hid (∀ i, i < j + 1 → fits (bts s) i = true) := fun i hi => if he : i = j then he ▸ hf else H.out i (by omega)
        clear hf cc
        go_wp2
        go_roundw
        case rel => exact ⟨j + 1, by omega, by go_num, by trivial, R2⟩
        case measure => simp [intOf]; omega
      by_cases cc : x = 95
      · have q1 : (48 : Int) ≤ (x : Int) := by omega
        have q2 : ¬ (x : Int) ≤ 57 := by omega
        have q3 : ¬ (97 : Int) ≤ (x : Int) := by omega
        have q5 : (x : Int) = 95 := by omega
        have b5 : ((x : Int) == 95) = true := beq_iff_eq.2 q5
        have hf : fits (bts s) j = true := by
          rw [hf]
          clear hf
          simp [*]
        have R2 : Hid (∀ i, i < j + 1 → fits (bts s) i = true) := fun i hi => if he : i = j then he ▸ hf else H.out i (by omega)
        clear hf cc
        go_wp2
        go_roundw
        case rel => exact ⟨j + 1, by omega, by go_num, by trivial, R2⟩
        case measure => simp [intOf]; omega
      by_cases cc : (48 ≤ x ∧ x ≤ 57) ∧ 0 < j
      · have q1 : (48 : Int) ≤ (x : Int) := by omega
        have q2 : (x : Int) ≤ 57 := by omega
        have q3 : ¬ (97 : Int) ≤ (x : Int) := by omega
        have q5 : ¬ (x : Int) = 95 := by omega
        have b5 : ((x : Int) == 95) = false := beq_eq_false_iff_ne.2 q5
        have q6 : (0 : Int) < (j : Int) := by omega
        have n6 : 0 < j := by omega
        have hf : fits (bts s) j = true := by
          rw [hf]
          clear hf
          simp [*]
        have R2 : Hid (∀ i, i < j + 1 → fits (bts s) i = true) := fun i hi => if he : i = j then he ▸ hf else H.out i (by omega)
        clear hf cc
        go_wp2
        go_roundw
        case rel => exact ⟨j + 1, by omega, by go_num, by trivial, R2⟩
        case measure => simp [intOf]; omega
      by_cases cc : 48 ≤ x ∧ x ≤ 57
      · have q1 : (48 : Int) ≤ (x : Int) := by omega
        have q2 : (x : Int) ≤ 57 := by omega
        have q3 : ¬ (97 : Int) ≤ (x : Int) := by omega
        have q5 : ¬ (x : Int) = 95 := by omega
        have b5 : ((x : Int) == 95) = false := beq_eq_false_iff_ne.2 q5
        have q6 : ¬ (0 : Int) < (j : Int) := by omega
        have n6 : ¬ 0 < j := by omega
        have hf : fits (bts s) j = false := by
          rw [hf]
          clear hf
          simp [*]
        have R2 : Hid (isWord (bts s) = false) := not_fits _ j (by rw [← HZ.out]; exact hlt) hf
        clear hf cc
        go_wp2
        go_ret
        rw [R.out, R2.out]
        exact ⟨rfl, hb _⟩
      by_cases cc : x < 48
      · have q1 : ¬ (48 : Int) ≤ (x : Int) := by omega
        have q3 : ¬ (97 : Int) ≤ (x : Int) := by omega
        have q5 : ¬ (x : Int) = 95 := by omega
        have b5 : ((x : Int) == 95) = false := beq_eq_false_iff_ne.2 q5
        have hf : fits (bts s) j = false := by
          rw [hf]
          clear hf
          simp [*]
        have R2 : Hid (isWord (bts s) = false) := not_fits _ j (by rw [← HZ.out]; exact hlt) hf
        clear hf cc
        go_wp2
        go_ret
        rw [R.out, R2.out]
        exact ⟨rfl, hb _⟩
      by_cases cc : x < 97
      · have q1 : (48 : Int) ≤ (x : Int) := by omega
        have q2 : ¬ (x : Int) ≤ 57 := by omega
        have q3 : ¬ (97 : Int) ≤ (x : Int) := by omega
        have q5 : ¬ (x : Int) = 95 := by omega
        have b5 : ((x : Int) == 95) = false := beq_eq_false_iff_ne.2 q5
        have hf : fits (bts s) j = false := by
          rw [hf]
          clear hf
          simp [*]
        have R2 : Hid (isWord (bts s) = false) := not_fits _ j (by rw [← HZ.out]; exact hlt) hf
        clear hf cc
        go_wp2
        go_ret
        rw [R.out, R2.out]
        exact ⟨rfl, hb _⟩
      have q1 : (48 : Int) ≤ (x : Int) := by omega
      have q2 : ¬ (x : Int) ≤ 57 := by omega
      have q3 : (97 : Int) ≤ (x : Int) := by omega
      have q4 : ¬ (x : Int) ≤ 122 := by omega
      have q5 : ¬ (x : Int) = 95 := by omega
      have b5 : ((x : Int) == 95) = false := beq_eq_false_iff_ne.2 q5
      have hf : fits (bts s) j = false := by
        rw [hf]
        clear hf
        simp [*]
      have R2 : Hid (isWord (bts s) = false) := not_fits _ j (by rw [← HZ.out]; exact hlt) hf
      clear hf
      go_wp2
      go_ret
      rw [R.out, R2.out]
      exact ⟨rfl, hb _⟩
    · have R2 : Hid (isWord (bts s) = true) := isWord_fits _ (by rw [← HZ.out]; omega) (by rw [← HZ.out]; omega) (fun i hi => H.out i (by rw [← HZ.out] at hi; omega))
      have hlt1 : ¬ (j : Int) < (s.size : Int) := by omega
      go_wp2
      go_ret
      rw [R.out, R2.out]
      exact ⟨rfl, hb _⟩

end Go.Proofs.YtojfcafdegbkjaaDoor
