/- The document's own way to read one token (oneToken): marks, and bytes that begin nothing; all of it. -/
import Derived.Test.YtjeniabnokcbnaaDoorLexRefQuote
import Derived.Test.YtjeniabnokcbnaaDoorLexRefNum
namespace Go.Proofs.YtjeniabnokcbnaaDoor
open Go.ChangeShapes Go.WideShapes Go.ChangeAt Go.RowKit

theorem markLen_two (c d : UInt8) (r : List UInt8) (h : isMark [c, d] = true) : markLen (c :: d :: r) = 2 := by
  have : markLen [c, d] = 2 := by simpa [isMark] using h
  simp only [markLen] at this ⊢
  split at this
  · next h => rw [if_pos h]
  · split at this <;> cases this
theorem markLen_one (c : UInt8) (r : List UInt8) (h : isMark [c] = true) (h2 : ∀ d r', r = d :: r' → isMark [c, d] = false) : markLen (c :: r) = 1 := by
  have h1 : mark1 c = true := by
    have : markLen [c] = 1 := by simpa [isMark] using h
    simp only [markLen] at this
    split at this
    · next h => exact h
    · cases this
  cases r with
  | nil => simp only [markLen, h1, if_true]
  | cons d r' =>
    have h3 := h2 d r' rfl
    simp only [markLen, h1, if_true]
    split
    · next hm => rw [show isMark [c, d] = true by simp [isMark, markLen, hm]] at h3; cases h3
    · rfl
theorem markLen_no (c : UInt8) (r : List UInt8) (h : isMark [c] = false) (h2 : ∀ d r', r = d :: r' → isMark [c, d] = false) : markLen (c :: r) = 0 := by
  have h1 : mark1 c = false := by
    cases hc : mark1 c with
    | false => rfl
    | true => rw [show isMark [c] = true by simp [isMark, markLen, hc]] at h; cases h
  cases r with
  | nil => simp [markLen, h1]
  | cons d r' =>
    have h3 := h2 d r' rfl
    simp only [markLen, h1]
    split
    · next hm => rw [show isMark [c, d] = true by simp [isMark, markLen, hm]] at h3; cases h3
    · rfl

theorem one_is_mark {s : ByteArray} {k : Nat} (hk : k < (bts s).length) (hl : letter (low (bts s)[k]) = false) (hd : digit (bts s)[k] = false) (hq : ¬ (bts s)[k].toNat = 39) :
    one ((bts s).drop k) = if markLen ((bts s).drop k) = 0 then .bad 4 else .tok ⟨4, 0, ((bts s).drop k).take (markLen ((bts s).drop k))⟩ (markLen ((bts s).drop k)) := by
  rw [drop_cons hk]
  simp only [one, hl, hd, hq, Bool.false_eq_true, if_false]

set_option maxRecDepth 100000 in
set_option maxHeartbeats 8000000 in
theorem oneToken_mark (s : ByteArray) (hs : s.size ≤ 2000) (k : Nat) (hk : k < s.size) (hl : letter (low (s[k]'hk)) = false) (hd : digit (s[k]'hk) = false) (hq : ¬ (s[k]'hk).toNat = 39) (w : World) :
    Calls Tryd.prog 13 #[.string s, .int .i64 (k : Int)] w fun e w' => OnePost s k w e w' := by
  obtain ⟨x, hx⟩ : ∃ x, (s[k]'hk).toNat = x := ⟨_, rfl⟩
  have hkl : k < (bts s).length := by rw [← size_bytes]; exact hk
  have hk1 : (k : Int) < (s.size : Int) := by omega
  have cL := isLetter_any x (s[k]'hk) hx
  have cD := isDigit_any x (s[k]'hk) hx
  rw [hl] at cL
  rw [hd] at cD
  rw [hx] at hq
  have hx9 : ((x : Int) == 39) = false := beq_eq_false_iff_ne.2 (by omega)
  have HO := hidden (one_is_mark hkl hl hd (by rw [← byte_at s k hk hkl, hx]; exact hq))
  have hb : Below w.heap.size w (w.alloc (.cells #[.int .i64 0, .int .i64 0, .string ⟨#[]⟩] 44)) := (Below.refl _ w).alloc (Nat.le_refl _) _
  obtain ⟨m1, hm1⟩ : ∃ m, s.extract k (k + 1) = m := ⟨_, rfl⟩
  have hb1 : bts m1 = [(bts s)[k]] := by
    rw [← hm1, bytes_extract, drop_cons hkl, show k + 1 - k = 1 by omega]
    rfl
  have c1 := isMark_ref m1
  have hd1 := drop_cons hkl
  clear hl hd hq
  by_cases h2 : k + 1 < s.size
  · have h21 : (k : Int) + 2 ≤ (s.size : Int) := by omega
    have hkl2 : k + 1 < (bts s).length := by rw [← size_bytes]; exact h2
    obtain ⟨m2, hm2⟩ : ∃ m, s.extract k (k + 2) = m := ⟨_, rfl⟩
    have hd2 := drop_cons hkl2
    have hb2 : bts m2 = [(bts s)[k], (bts s)[k + 1]] := by
      rw [← hm2, bytes_extract, hd1, hd2, show k + 2 - k = 2 by omega]
      rfl
    have c2 := isMark_ref m2
    rw [hd1, hd2] at HO
    cases hi2 : isMark (bts m2) with
    | true =>
      rw [hi2] at c2
      rw [hb2] at hi2
      have R : Hid (one ((bts s).drop k) = .tok ⟨4, 0, bts m2⟩ 2) := by
        have h := HO.out
        rw [markLen_two _ _ _ hi2] at h
        show _ = _
        rw [hd1, hd2, h, hb2]
        rfl
      clear HO hb1 hb2 c1 hd1 hd2 hi2
      go_enter Tryd.func13, Tryd.ntmps13
      go_wp2_with (first
        | (go_at_call 37; refine (cL _).mono ?_; rintro e w1 ⟨rfl, rfl⟩)
        | (go_at_call 38; refine (cD _).mono ?_; rintro e w1 ⟨rfl, rfl⟩)
        | (go_at_call 40; refine (c2 _).mono ?_; rintro e w1 ⟨rfl, rfl⟩))
      refine bodyPost_ret (v := .tuple #[tokv ⟨4, 0, bts m2⟩, .int .i64 ((k + 2 : Nat) : Int), .int .i64 0]) (by simp [results, Tryd.results13, go_sem, asAddr, tokv, str_bts]) rfl ⟨(Below.refl _ w).alloc (Nat.le_refl _) _, .inr ⟨_, _, R.out, rfl⟩⟩
    | false =>
      rw [hi2] at c2
      rw [hb2] at hi2
      have hno : ∀ d r', (bts s)[k + 1] :: (bts s).drop (k + 1 + 1) = d :: r' → isMark [(bts s)[k], d] = false := fun d r' h => by cases h; exact hi2
      cases hi1 : isMark (bts m1) with
      | true =>
        rw [hi1] at c1
        rw [hb1] at hi1
        have R : Hid (one ((bts s).drop k) = .tok ⟨4, 0, bts m1⟩ 1) := by
          have h := HO.out
          rw [markLen_one _ _ hi1 hno] at h
          show _ = _
          rw [hd1, hd2, h, hb1]
          rfl
        clear HO hb1 hb2 hd1 hd2 hi2 hno hi1
        go_enter Tryd.func13, Tryd.ntmps13
        go_wp2_with (first
          | (go_at_call 37; refine (cL _).mono ?_; rintro e w1 ⟨rfl, rfl⟩)
          | (go_at_call 38; refine (cD _).mono ?_; rintro e w1 ⟨rfl, rfl⟩)
          | (go_at_call 40; (with_reducible refine (c2 _).mono ?_); rintro e w1 ⟨rfl, rfl⟩)
          | (go_at_call 40; (with_reducible refine (c1 _).mono ?_); rintro e w1 ⟨rfl, rfl⟩))
        refine bodyPost_ret (v := .tuple #[tokv ⟨4, 0, bts m1⟩, .int .i64 ((k + 1 : Nat) : Int), .int .i64 0]) (by simp [results, Tryd.results13, go_sem, asAddr, tokv, str_bts]) rfl ⟨(Below.refl _ w).alloc (Nat.le_refl _) _, .inr ⟨_, _, R.out, rfl⟩⟩
      | false =>
        rw [hi1] at c1
        rw [hb1] at hi1
        have R : Hid (one ((bts s).drop k) = .bad 4) := by
          have h := HO.out
          rw [markLen_no _ _ hi1 hno] at h
          show _ = _
          rw [hd1, hd2, h]
          rfl
        clear HO hb1 hb2 hd1 hd2 hi2 hno hi1
        go_enter Tryd.func13, Tryd.ntmps13
        go_wp2_with (first
          | (go_at_call 37; refine (cL _).mono ?_; rintro e w1 ⟨rfl, rfl⟩)
          | (go_at_call 38; refine (cD _).mono ?_; rintro e w1 ⟨rfl, rfl⟩)
          | (go_at_call 40; (with_reducible refine (c2 _).mono ?_); rintro e w1 ⟨rfl, rfl⟩)
          | (go_at_call 40; (with_reducible refine (c1 _).mono ?_); rintro e w1 ⟨rfl, rfl⟩))
        refine bodyPost_ret (v := .tuple #[tokv zeroTok, .int .i64 0, .int .i64 4]) (by simp [results, Tryd.results13, go_sem, asAddr, tokv, zeroTok, str]) rfl ⟨hb, .inl ⟨4, R.out, rfl⟩⟩
  · have h21 : ¬ (k : Int) + 2 ≤ (s.size : Int) := by omega
    have hd2 : (bts s).drop (k + 1) = [] := List.drop_eq_nil_of_le (by rw [← size_bytes]; omega)
    rw [hd1, hd2] at HO
    have hno : ∀ d r', ([] : List UInt8) = d :: r' → isMark [(bts s)[k], d] = false := fun d r' h => by cases h
    cases hi1 : isMark (bts m1) with
    | true =>
      rw [hi1] at c1
      rw [hb1] at hi1
      have R : Hid (one ((bts s).drop k) = .tok ⟨4, 0, bts m1⟩ 1) := by
        have h := HO.out
        rw [markLen_one _ _ hi1 hno] at h
        show _ = _
        rw [hd1, hd2, h, hb1]
        rfl
      clear HO hb1 hd1 hd2 hno hi1
      go_enter Tryd.func13, Tryd.ntmps13
      go_wp2_with (first
        | (go_at_call 37; refine (cL _).mono ?_; rintro e w1 ⟨rfl, rfl⟩)
        | (go_at_call 38; refine (cD _).mono ?_; rintro e w1 ⟨rfl, rfl⟩)
        | (go_at_call 40; refine (c1 _).mono ?_; rintro e w1 ⟨rfl, rfl⟩))
      refine bodyPost_ret (v := .tuple #[tokv ⟨4, 0, bts m1⟩, .int .i64 ((k + 1 : Nat) : Int), .int .i64 0]) (by simp [results, Tryd.results13, go_sem, asAddr, tokv, str_bts]) rfl ⟨(Below.refl _ w).alloc (Nat.le_refl _) _, .inr ⟨_, _, R.out, rfl⟩⟩
    | false =>
      rw [hi1] at c1
      rw [hb1] at hi1
      have R : Hid (one ((bts s).drop k) = .bad 4) := by
        have h := HO.out
        rw [markLen_no _ _ hi1 hno] at h
        show _ = _
        rw [hd1, hd2, h]
        rfl
      clear HO hb1 hd1 hd2 hno hi1
      go_enter Tryd.func13, Tryd.ntmps13
      go_wp2_with (first
        | (go_at_call 37; refine (cL _).mono ?_; rintro e w1 ⟨rfl, rfl⟩)
        | (go_at_call 38; refine (cD _).mono ?_; rintro e w1 ⟨rfl, rfl⟩)
        | (go_at_call 40; refine (c1 _).mono ?_; rintro e w1 ⟨rfl, rfl⟩))
      refine bodyPost_ret (v := .tuple #[tokv zeroTok, .int .i64 0, .int .i64 4]) (by simp [results, Tryd.results13, go_sem, asAddr, tokv, zeroTok, str]) rfl ⟨hb, .inl ⟨4, R.out, rfl⟩⟩

theorem oneToken_any (s : ByteArray) (hs : s.size ≤ 2000) (k : Nat) (hk : k < s.size) (w : World) :
    Calls Tryd.prog 13 #[.string s, .int .i64 (k : Int)] w fun e w' => OnePost s k w e w' := by
  cases hl : letter (low (s[k]'hk)) with
  | true => exact oneToken_word s hs k hk hl w
  | false =>
    cases hd : digit (s[k]'hk) with
    | true => exact oneToken_num s hs k hk hl hd w
    | false =>
      by_cases hq : (s[k]'hk).toNat = 39
      · exact oneToken_quote s hs k hk hq w
      · exact oneToken_mark s hs k hk hl hd hq w

end Go.Proofs.YtjeniabnokcbnaaDoor
