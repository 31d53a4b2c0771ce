/- Package lex: whichever token stands at a place: the contract, at every argument. -/
import Derived.Test.YtjeniabnokcbnaaGreatDoorLexReadAll
namespace Go.Proofs.YtjeniabnokcbnaaGreatDoor
open Go.ChangeShapes Go.WideShapes Go.ChangeAt Go.RowKit

theorem ansv_bad (i : Nat) (e : Int) : ansv i (.bad e) = .tuple #[.agg #[.int .i64 0, .int .i64 0, .string ⟨#[]⟩], .int .i64 0, .int .i64 e] := rfl
theorem ansv_tok (i : Nat) (t : Tok) (n : Nat) : ansv i (.tok t n) = .tuple #[.agg #[.int .i64 t.kind, .int .i64 t.int, .string (str t.text)], .int .i64 ((i + n : Nat) : Int), .int .i64 0] := rfl

set_option maxRecDepth 100000 in
set_option maxHeartbeats 4000000 in
theorem read_any (s : ByteArray) (i : Nat) (hi : i < s.size) (hs : s.size ≤ 1000000) (w : World) (tab : Marks w) (u8 : U8 w) (ev : ErrVar w) :
    Calls Tryz.prog 13 #[.string s, .int .i64 (i : Int)] w fun e w' => e = .returned (ansv i (one ((bts s).drop i))) ∧ Below w.heap.size w w' := by
  have hi2 : i < (bts s).length := by rw [← size_bytes]; exact hi
  have hi1 : (i : Int) < (s.size : Int) := by omega
  have hb : Below w.heap.size w (w.alloc (.cells #[.int .i64 0, .int .i64 0, .string ⟨#[]⟩] 49)) := (Below.refl _ w).alloc (Nat.le_refl _) _
  have eb : s[i]'hi = (bts s)[i] := byte_at s i hi hi2
  have cS := small_any (s[i]'hi)
  have cL := isLetter_says (low (s[i]'hi))
  have cD := isDigit_says (s[i]'hi)
  cases h1 : letter (low (s[i]'hi)) with
  | true =>
    rw [h1] at cL
    have cX : Calls Tryz.prog 23 #[.string s, .int .i64 (i : Int)] (w.alloc (.cells #[.int .i64 0, .int .i64 0, .string ⟨#[]⟩] 49)) _ := (readWord_any s i hi (by omega) h1 (w.alloc (.cells #[.int .i64 0, .int .i64 0, .string ⟨#[]⟩] 49))).mono fun e W h => And.intro h.1 (tok_new w W h.2)
    generalize one ((bts s).drop i) = A at cX ⊢
    clear hb tab u8 ev eb hi2
    cases A with
    | bad e =>
      rw [ansv_bad] at cX
      go_enter Tryz.func13, Tryz.ntmps13
      go_wp2_with (first
        | (go_at_call 22; refine (cS _).mono ?_; rintro e w' ⟨rfl, rfl⟩)
        | (go_at_call 21; refine (cL _).mono ?_; rintro e w' ⟨rfl, rfl⟩)
        | (go_at_call 23; refine cX.mono ?_; rintro e w' ⟨rfl, hb2, ⟨k0, f0⟩, ⟨k1, f1⟩, k2, f2⟩))
      obtain ⟨W3, e3, hb3, c0, c1, c2⟩ := tok_end (v0 := .int .i64 0) (v1 := .int .i64 0) (v2 := .string ⟨#[]⟩) hb2 ⟨_, k0⟩ ⟨_, k1⟩ ⟨_, k2⟩
      rw [e3]
      exact bodyPost_ret (v := ansv i (.bad e)) (by simp [results, Tryz.results13, go_sem, asAddr, c0, c1, c2, ansv_bad]) rfl ⟨rfl, hb3⟩
    | tok t n =>
      rw [ansv_tok] at cX
      obtain ⟨m, hm⟩ : ∃ m, i + n = m := ⟨_, rfl⟩
      rw [hm] at cX
      go_enter Tryz.func13, Tryz.ntmps13
      go_wp2_with (first
        | (go_at_call 22; refine (cS _).mono ?_; rintro e w' ⟨rfl, rfl⟩)
        | (go_at_call 21; refine (cL _).mono ?_; rintro e w' ⟨rfl, rfl⟩)
        | (go_at_call 23; refine cX.mono ?_; rintro e w' ⟨rfl, hb2, ⟨k0, f0⟩, ⟨k1, f1⟩, k2, f2⟩))
      obtain ⟨W3, e3, hb3, c0, c1, c2⟩ := tok_end (v0 := .int .i64 t.kind) (v1 := .int .i64 t.int) (v2 := .string (str t.text)) hb2 ⟨_, k0⟩ ⟨_, k1⟩ ⟨_, k2⟩
      rw [e3]
      exact bodyPost_ret (v := ansv i (.tok t n)) (by simp [results, Tryz.results13, go_sem, asAddr, c0, c1, c2, ansv_tok, hm]) rfl ⟨rfl, hb3⟩
  | false =>
    rw [h1] at cL
    cases h2 : digit (s[i]'hi) with
    | true =>
      rw [h2] at cD
      have cX : Calls Tryz.prog 25 #[.string s, .int .i64 (i : Int)] (w.alloc (.cells #[.int .i64 0, .int .i64 0, .string ⟨#[]⟩] 49)) _ := (readNumber_any s i hi (by omega) h2 (w.alloc (.cells #[.int .i64 0, .int .i64 0, .string ⟨#[]⟩] 49)) (ev.later hb)).mono fun e W h => And.intro h.1 (tok_new w W h.2)
      generalize one ((bts s).drop i) = A at cX ⊢
      clear hb tab u8 ev eb hi2
      cases A with
      | bad e =>
        rw [ansv_bad] at cX
        go_enter Tryz.func13, Tryz.ntmps13
        go_wp2_with (first
          | (go_at_call 22; refine (cS _).mono ?_; rintro e w' ⟨rfl, rfl⟩)
          | (go_at_call 21; refine (cL _).mono ?_; rintro e w' ⟨rfl, rfl⟩)
          | (go_at_call 24; refine (cD _).mono ?_; rintro e w' ⟨rfl, rfl⟩)
          | (go_at_call 25; refine cX.mono ?_; rintro e w' ⟨rfl, hb2, ⟨k0, f0⟩, ⟨k1, f1⟩, k2, f2⟩))
        obtain ⟨W3, e3, hb3, c0, c1, c2⟩ := tok_end (v0 := .int .i64 0) (v1 := .int .i64 0) (v2 := .string ⟨#[]⟩) hb2 ⟨_, k0⟩ ⟨_, k1⟩ ⟨_, k2⟩
        rw [e3]
        exact bodyPost_ret (v := ansv i (.bad e)) (by simp [results, Tryz.results13, go_sem, asAddr, c0, c1, c2, ansv_bad]) rfl ⟨rfl, hb3⟩
      | tok t n =>
        rw [ansv_tok] at cX
        obtain ⟨m, hm⟩ : ∃ m, i + n = m := ⟨_, rfl⟩
        rw [hm] at cX
        go_enter Tryz.func13, Tryz.ntmps13
        go_wp2_with (first
          | (go_at_call 22; refine (cS _).mono ?_; rintro e w' ⟨rfl, rfl⟩)
          | (go_at_call 21; refine (cL _).mono ?_; rintro e w' ⟨rfl, rfl⟩)
          | (go_at_call 24; refine (cD _).mono ?_; rintro e w' ⟨rfl, rfl⟩)
          | (go_at_call 25; refine cX.mono ?_; rintro e w' ⟨rfl, hb2, ⟨k0, f0⟩, ⟨k1, f1⟩, k2, f2⟩))
        obtain ⟨W3, e3, hb3, c0, c1, c2⟩ := tok_end (v0 := .int .i64 t.kind) (v1 := .int .i64 t.int) (v2 := .string (str t.text)) hb2 ⟨_, k0⟩ ⟨_, k1⟩ ⟨_, k2⟩
        rw [e3]
        exact bodyPost_ret (v := ansv i (.tok t n)) (by simp [results, Tryz.results13, go_sem, asAddr, c0, c1, c2, ansv_tok, hm]) rfl ⟨rfl, hb3⟩
    | false =>
      rw [h2] at cD
      by_cases h3 : (s[i]'hi).toNat = 39
      · have h32 : (((s[i]'hi).toNat : Int) == 39) = true := beq_iff_eq.2 (by omega)
        have H3 := hidden h3
        clear h3
        have cX : Calls Tryz.prog 26 #[.string s, .int .i64 (i : Int)] (w.alloc (.cells #[.int .i64 0, .int .i64 0, .string ⟨#[]⟩] 49)) _ := (readQuote_any s i hi hs H3.out (w.alloc (.cells #[.int .i64 0, .int .i64 0, .string ⟨#[]⟩] 49)) (u8.later hb)).mono fun e W h => And.intro h.1 (tok_new w W h.2)
        generalize one ((bts s).drop i) = A at cX ⊢
        clear hb tab u8 ev eb hi2
        cases A with
        | bad e =>
          rw [ansv_bad] at cX
          go_enter Tryz.func13, Tryz.ntmps13
          go_wp2_with (first
            | (go_at_call 22; refine (cS _).mono ?_; rintro e w' ⟨rfl, rfl⟩)
            | (go_at_call 21; refine (cL _).mono ?_; rintro e w' ⟨rfl, rfl⟩)
            | (go_at_call 24; refine (cD _).mono ?_; rintro e w' ⟨rfl, rfl⟩)
            | (go_at_call 26; refine cX.mono ?_; rintro e w' ⟨rfl, hb2, ⟨k0, f0⟩, ⟨k1, f1⟩, k2, f2⟩))
          obtain ⟨W3, e3, hb3, c0, c1, c2⟩ := tok_end (v0 := .int .i64 0) (v1 := .int .i64 0) (v2 := .string ⟨#[]⟩) hb2 ⟨_, k0⟩ ⟨_, k1⟩ ⟨_, k2⟩
          rw [e3]
          exact bodyPost_ret (v := ansv i (.bad e)) (by simp [results, Tryz.results13, go_sem, asAddr, c0, c1, c2, ansv_bad]) rfl ⟨rfl, hb3⟩
        | tok t n =>
          rw [ansv_tok] at cX
          obtain ⟨m, hm⟩ : ∃ m, i + n = m := ⟨_, rfl⟩
          rw [hm] at cX
          go_enter Tryz.func13, Tryz.ntmps13
          go_wp2_with (first
            | (go_at_call 22; refine (cS _).mono ?_; rintro e w' ⟨rfl, rfl⟩)
            | (go_at_call 21; refine (cL _).mono ?_; rintro e w' ⟨rfl, rfl⟩)
            | (go_at_call 24; refine (cD _).mono ?_; rintro e w' ⟨rfl, rfl⟩)
            | (go_at_call 26; refine cX.mono ?_; rintro e w' ⟨rfl, hb2, ⟨k0, f0⟩, ⟨k1, f1⟩, k2, f2⟩))
          obtain ⟨W3, e3, hb3, c0, c1, c2⟩ := tok_end (v0 := .int .i64 t.kind) (v1 := .int .i64 t.int) (v2 := .string (str t.text)) hb2 ⟨_, k0⟩ ⟨_, k1⟩ ⟨_, k2⟩
          rw [e3]
          exact bodyPost_ret (v := ansv i (.tok t n)) (by simp [results, Tryz.results13, go_sem, asAddr, c0, c1, c2, ansv_tok, hm]) rfl ⟨rfl, hb3⟩
      · have h32 : (((s[i]'hi).toNat : Int) == 39) = false := beq_eq_false_iff_ne.2 (by omega)
        have cM : Calls Tryz.prog 27 #[.string (s.extract i s.size)] (w.alloc (.cells #[.int .i64 0, .int .i64 0, .string ⟨#[]⟩] 49)) _ := markOf_any (s.extract i s.size) (w.alloc (.cells #[.int .i64 0, .int .i64 0, .string ⟨#[]⟩] 49)) (tab.later hb)
        have e1 : bts (s.extract i s.size) = (bts s).drop i := by
          rw [bytes_extract, List.take_of_length_le]
          rw [List.length_drop, ← size_bytes]
          exact Nat.le_refl _
        rw [e1] at cM
        rw [one_at_mark _ _ hi2 (by rw [← eb]; exact h1) (by rw [← eb]; exact h2) (by rw [← eb]; exact h3)]
        obtain ⟨M, hM⟩ : ∃ M, markLen ((bts s).drop i) = M := ⟨_, rfl⟩
        have hle : M ≤ ((bts s).drop i).length := by
          rw [← hM]
          match (bts s).drop i with
          | [] => exact Nat.le_refl _
          | [a] => simp only [markLen]; split <;> simp
          | a :: b :: r => simp only [markLen]; split <;> simp; split <;> simp
        rw [List.length_drop, ← size_bytes] at hle
        rw [hM] at cM ⊢
        have htl : (((bts s).drop i).take M).length = M := by rw [List.length_take, List.length_drop, ← size_bytes]; omega
        generalize ((bts s).drop i).take M = m at cM htl ⊢
        clear e1 hM tab u8 ev eb hi2
        by_cases h0 : M = 0
        · rw [if_pos h0]
          have em : m = [] := List.length_eq_zero_iff.1 (by omega)
          subst em
          have e0 : (str []).toList = [] := by rw [bytes_to_list]; rfl
          clear htl h0 hle
          go_enter Tryz.func13, Tryz.ntmps13
          go_wp2_with (first
            | (go_at_call 22; refine (cS _).mono ?_; rintro e w' ⟨rfl, rfl⟩)
            | (go_at_call 21; refine (cL _).mono ?_; rintro e w' ⟨rfl, rfl⟩)
            | (go_at_call 24; refine (cD _).mono ?_; rintro e w' ⟨rfl, rfl⟩)
            | (go_at_call 27; refine cM.mono ?_; rintro e w' ⟨rfl, rfl⟩))
          exact bodyPost_ret (v := ansv i (.bad 4)) (by simp [results, Tryz.results13, go_sem, asAddr, ansv_bad]) rfl ⟨rfl, hb⟩
        · rw [if_neg h0]
          have e0 : ¬ (str m).toList = [] := by
            rw [bytes_to_list]
            intro h
            have h : bts (str m) = [] := h
            rw [bts_str] at h
            rw [h] at htl
            simp at htl
            omega
          have e1 : (str m).toList.isEmpty = false := by cases hy : (str m).toList <;> simp_all
          have e2 : ((str m).toList == []) = false := by simpa using e0
          have hsz : (str m).size = M := (str_size m).trans htl
          clear htl
          go_enter Tryz.func13, Tryz.ntmps13
          go_wp2_with (first
            | (go_at_call 22; refine (cS _).mono ?_; rintro e w' ⟨rfl, rfl⟩)
            | (go_at_call 21; refine (cL _).mono ?_; rintro e w' ⟨rfl, rfl⟩)
            | (go_at_call 24; refine (cD _).mono ?_; rintro e w' ⟨rfl, rfl⟩)
            | (go_at_call 27; refine cM.mono ?_; rintro e w' ⟨rfl, rfl⟩))
          exact bodyPost_ret (v := ansv i (.tok ⟨4, 0, m⟩ M)) (by simp [results, Tryz.results13, go_sem, asAddr, ansv_tok]) rfl ⟨rfl, (Below.refl _ w).alloc (Nat.le_refl _) _⟩

end Go.Proofs.YtjeniabnokcbnaaGreatDoor
