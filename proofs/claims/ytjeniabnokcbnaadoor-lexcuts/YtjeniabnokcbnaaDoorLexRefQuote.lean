/- The document's own way to read one token (oneToken): quotes. -/
import Derived.Test.YtjeniabnokcbnaaDoorLexRefWord
namespace Go.Proofs.YtjeniabnokcbnaaDoor
open Go.ChangeShapes Go.WideShapes Go.ChangeAt Go.RowKit

/-- what is left of a quote, with what was read of it -/
def qFrom (l : List UInt8) (i : Nat) (t : List UInt8) (n : Nat) : Option (List UInt8 × Nat) := (quoted (l.drop i)).map fun p => (t ++ p.1, n + p.2)

theorem q_start (l : List UInt8) (i : Nat) : qFrom l i [] 0 = quoted (l.drop i) := by
  unfold qFrom
  cases quoted (l.drop i) with
  | none => rfl
  | some p => simp
theorem q_none (l : List UInt8) (i : Nat) (t : List UInt8) (n : Nat) (h : l.length ≤ i) : qFrom l i t n = none := by
  unfold qFrom
  rw [List.drop_eq_nil_of_le h]
  rfl
theorem q_on (l : List UInt8) (i : Nat) (t : List UInt8) (n : Nat) (h : i < l.length) (hc : ¬ l[i].toNat = 39) : qFrom l i t n = qFrom l (i + 1) (t ++ [l[i]]) (n + 1) := by
  unfold qFrom
  rw [drop_cons h, quoted_other _ _ hc, Option.map_map]
  refine congrArg (fun f => Option.map f _) (funext fun p => ?_)
  simp only [Function.comp, List.append_assoc, List.singleton_append]
  rw [show n + (p.2 + 1) = n + 1 + p.2 by omega]
theorem q_two (l : List UInt8) (i : Nat) (t : List UInt8) (n : Nat) (h : i + 1 < l.length) (hc : l[i].toNat = 39) (hd : l[i + 1].toNat = 39) : qFrom l i t n = qFrom l (i + 2) (t ++ [39]) (n + 2) := by
  have e : l[i + 1] = 39 := UInt8.toNat_inj.1 hd
  unfold qFrom
  rw [drop_cons (show i < l.length by omega), drop_cons h, quoted_two _ _ _ hc hd, Option.map_map, e]
  refine congrArg (fun f => Option.map f _) (funext fun p => ?_)
  simp only [Function.comp, List.append_assoc, List.singleton_append]
  rw [show n + (p.2 + 2) = n + 2 + p.2 by omega]
theorem q_end (l : List UInt8) (i : Nat) (t : List UInt8) (n : Nat) (h : i < l.length) (hc : l[i].toNat = 39) (hd : ∀ h : i + 1 < l.length, ¬ l[i + 1].toNat = 39) : qFrom l i t n = some (t, n + 1) := by
  unfold qFrom
  rw [drop_cons h]
  by_cases h1 : i + 1 < l.length
  · rw [drop_cons h1, quoted_end _ _ _ hc (hd h1)]
    simp
  · rw [List.drop_eq_nil_of_le (show l.length ≤ i + 1 by omega), quoted_last _ hc]
    simp

theorem not_letter_39 {c : UInt8} (h : c.toNat = 39) : letter (low c) = false ∧ digit c = false := by
  obtain rfl : c = 39 := UInt8.toNat_inj.1 h
  exact ⟨by decide, by decide⟩

theorem one_is_quote {s : ByteArray} {k : Nat} (hk : k < (bts s).length) (hq : (bts s)[k].toNat = 39) :
    one ((bts s).drop k) = match quoted ((bts s).drop (k + 1)) with
      | none => .bad 5
      | some (t, n) => if 40 < t.length then .bad 1 else if signs t then .tok ⟨3, 0, t⟩ (n + 1) else .bad 4 := by
  obtain ⟨h1, h2⟩ := not_letter_39 hq
  rw [drop_cons hk]
  simp only [one, h1, h2, hq, if_true, Bool.false_eq_true, if_false]
  rfl

theorem one_quote_none {s : ByteArray} {k : Nat} (hk : k < (bts s).length) (hq : (bts s)[k].toNat = 39) (h : quoted ((bts s).drop (k + 1)) = none) : one ((bts s).drop k) = .bad 5 := by
  rw [one_is_quote hk hq, h]
theorem one_quote_some {s : ByteArray} {k : Nat} (hk : k < (bts s).length) (hq : (bts s)[k].toNat = 39) {t : List UInt8} {n : Nat} (h : quoted ((bts s).drop (k + 1)) = some (t, n)) :
    one ((bts s).drop k) = if 40 < t.length then .bad 1 else if signs t then .tok ⟨3, 0, t⟩ (n + 1) else .bad 4 := by
  rw [one_is_quote hk hq, h]

set_option maxRecDepth 100000 in
set_option maxHeartbeats 8000000 in
theorem oneToken_quote (s : ByteArray) (hs : s.size ≤ 2000) (k : Nat) (hk : k < s.size) (hq : (s[k]'hk).toNat = 39) (w : World) :
    Calls Tryd.prog 13 #[.string s, .int .i64 (k : Int)] w fun e w' => OnePost s k w e w' := by
  have hkl : k < (bts s).length := by rw [← size_bytes]; exact hk
  have HK : Hid ((bts s)[k].toNat = 39) := by
    have := byte_at s k hk hkl
    show _ = _
    rw [← this]
    exact hq
  have hk1 : (k : Int) < (s.size : Int) := by omega
  obtain ⟨hl, hd⟩ := not_letter_39 hq
  have cL := isLetter_any 39 (s[k]'hk) hq
  have cD := isDigit_any 39 (s[k]'hk) hq
  rw [hl] at cL
  rw [hd] at cD
  have HL : Hid (s.size = (bts s).length) := size_bytes s
  obtain ⟨A, hA⟩ : ∃ A, quoted ((bts s).drop (k + 1)) = A := ⟨_, rfl⟩
  have HA := hidden hA
  clear hl hd hA
  go_enter Tryd.func13, Tryd.ntmps13
  go_wp2_with (first
    | (go_at_call 37; refine (cL _).mono ?_; rintro e w1 ⟨rfl, rfl⟩)
    | (go_at_call 38; refine (cD _).mono ?_; rintro e w1 ⟨rfl, rfl⟩))
  go_loopw [8, 14] (fun x v wr => ∃ (j : Nat) (z : ByteArray), k + 1 ≤ j ∧ j ≤ s.size ∧ x = .int .i64 (j : Int) ∧ v = .string z ∧ z.size ≤ j ∧ wr = w.alloc (.cells #[.int .i64 0, .int .i64 0, .string ⟨#[]⟩] 44) ∧ Hid (A = qFrom (bts s) j (bts z) (j - (k + 1)))) (fun x _ _ => s.size - (intOf x).toNat)
  case atStart =>
    refine ⟨k + 1, ⟨#[]⟩, Nat.le_refl _, by omega, by go_num, rfl, Nat.zero_le _, by trivial, ?_⟩
    show A = _
    rw [Nat.sub_self, ← HA.out]
    exact (q_start _ _).symm
  case round =>
    obtain ⟨j, z, hj1, hj2, rfl, rfl, hz, rfl, HQ⟩ := hrel
    clear cL cD
    have hb : Below w.heap.size w (w.alloc (.cells #[.int .i64 0, .int .i64 0, .string ⟨#[]⟩] 44)) := (Below.refl _ w).alloc (Nat.le_refl _) _
    by_cases hlt : j < s.size
    · have hlt1 : (j : Int) < (s.size : Int) := by omega
      have hlt2 : ¬ (s.size : Int) ≤ (j : Int) := by omega
      have hjl : j < (bts s).length := by rw [← HL.out]; exact hlt
      have ej : s[j]'hlt = (bts s)[j] := byte_at s j hlt hjl
      obtain ⟨y, hy⟩ : ∃ y, (s[j]'hlt).toNat = y := ⟨_, rfl⟩
      have hy2 : (bts s)[j].toNat = y := by rw [← hy]; exact congrArg UInt8.toNat ej.symm
      by_cases hq9 : y = 39
      · subst hq9
        by_cases h2 : j + 1 < s.size
        · have h21 : (j : Int) + 1 < (s.size : Int) := by omega
          have hjl2 : j + 1 < (bts s).length := by rw [← HL.out]; exact h2
          have ej2 : s[j + 1]'h2 = (bts s)[j + 1] := byte_at s (j + 1) h2 hjl2
          obtain ⟨x, hx⟩ : ∃ x, (s[j + 1]'h2).toNat = x := ⟨_, rfl⟩
          have hx2 : (bts s)[j + 1].toNat = x := by rw [← hx]; exact congrArg UInt8.toNat ej2.symm
          by_cases hx9 : x = 39
          · subst hx9
            have R : Hid (A = qFrom (bts s) (j + 2) (bts (z ++ ⟨#[39]⟩)) (j + 2 - (k + 1))) := by
              show A = _
              rw [HQ.out, q_two _ _ _ _ hjl2 hy2 hx2, bts_append, show j + 2 - (k + 1) = j - (k + 1) + 2 by omega]
              rfl
            clear HQ HA HK HL ej ej2 hy2 hx2
            go_wp2
            go_roundw
            case rel => exact ⟨j + 2, z ++ ⟨#[39]⟩, by omega, by omega, by go_num, rfl, by rw [ByteArray.size_append]; show z.size + 1 ≤ j + 2; omega, trivial, R⟩
            case measure => simp [intOf]; omega
          · have hx91 : ¬ (x : Int) = 39 := by omega
            have hx92 : ((x : Int) == 39) = false := beq_eq_false_iff_ne.2 hx91
            have HE : Hid (A = some (bts z, j - (k + 1) + 1)) := HQ.out.trans (q_end _ _ _ _ hjl hy2 (fun _ => by rw [hx2]; exact hx9))
            clear ej ej2 hy2 hx2 hx9
            have R : Hid (A = some (bts z, j - (k + 1) + 1)) := HE
            by_cases hbig : 40 < z.size
            · have hbig1 : (40 : Int) < (z.size : Int) := by omega
              have R2 : Hid (one ((bts s).drop k) = .bad 1) := by
                have h := one_quote_some hkl HK.out (HA.out.trans R.out)
                rw [if_pos (by rw [← size_bytes]; exact hbig)] at h
                exact h
              clear HQ HA HK HL HE R
              go_wp2
              refine bodyPost_ret (v := .tuple #[tokv zeroTok, .int .i64 0, .int .i64 1]) (by simp [results, Tryd.results13, go_sem, asAddr, tokv, zeroTok, str]) rfl ⟨hb, .inl ⟨1, R2.out, rfl⟩⟩
            · have hbig1 : ¬ (40 : Int) < (z.size : Int) := by omega
              have cS := Signs_any z (by omega)
              have R3 : Hid (one ((bts s).drop k) = if signs (bts z) then .tok ⟨3, 0, bts z⟩ (j - (k + 1) + 1 + 1) else .bad 4) := by
                have h := one_quote_some hkl HK.out (HA.out.trans R.out)
                rw [if_neg (by rw [← size_bytes]; exact hbig)] at h
                exact h
              clear HQ HA HK HL HE R
              cases hsg : signs (bts z) with
              | false =>
                rw [hsg] at cS R3
                go_wp2_with (go_at_call 39; refine (cS _).mono ?_; rintro e w2 ⟨rfl, rfl⟩)
                refine bodyPost_ret (v := .tuple #[tokv zeroTok, .int .i64 0, .int .i64 4]) (by simp [results, Tryd.results13, go_sem, asAddr, tokv, zeroTok, str]) rfl ⟨hb, .inl ⟨4, R3.out, rfl⟩⟩
              | true =>
                rw [hsg] at cS R3
                have HJ : Hid (((k + (j - (k + 1) + 1 + 1) : Nat) : Int) = (j : Int) + 1) := by show _ = _; omega
                go_wp2_with (go_at_call 39; refine (cS _).mono ?_; rintro e w2 ⟨rfl, rfl⟩)
                refine bodyPost_ret (v := .tuple #[tokv ⟨3, 0, bts z⟩, .int .i64 ((j : Int) + 1), .int .i64 0]) (by simp [results, Tryd.results13, go_sem, asAddr, tokv, str_bts]) rfl ⟨(Below.refl _ w).alloc (Nat.le_refl _) _, .inr ⟨⟨3, 0, bts z⟩, _, R3.out, by rw [HJ.out]⟩⟩
        · have h21 : ¬ (j : Int) + 1 < (s.size : Int) := by omega
          have HE : Hid (A = some (bts z, j - (k + 1) + 1)) := HQ.out.trans (q_end _ _ _ _ hjl hy2 (fun h => absurd h (by rw [← HL.out]; exact h2)))
          clear ej hy2
          have R : Hid (A = some (bts z, j - (k + 1) + 1)) := HE
          by_cases hbig : 40 < z.size
          · have hbig1 : (40 : Int) < (z.size : Int) := by omega
            have R2 : Hid (one ((bts s).drop k) = .bad 1) := by
              have h := one_quote_some hkl HK.out (HA.out.trans R.out)
              rw [if_pos (by rw [← size_bytes]; exact hbig)] at h
              exact h
            clear HQ HA HK HL HE R
            go_wp2
            refine bodyPost_ret (v := .tuple #[tokv zeroTok, .int .i64 0, .int .i64 1]) (by simp [results, Tryd.results13, go_sem, asAddr, tokv, zeroTok, str]) rfl ⟨hb, .inl ⟨1, R2.out, rfl⟩⟩
          · have hbig1 : ¬ (40 : Int) < (z.size : Int) := by omega
            have cS := Signs_any z (by omega)
            have R3 : Hid (one ((bts s).drop k) = if signs (bts z) then .tok ⟨3, 0, bts z⟩ (j - (k + 1) + 1 + 1) else .bad 4) := by
              have h := one_quote_some hkl HK.out (HA.out.trans R.out)
              rw [if_neg (by rw [← size_bytes]; exact hbig)] at h
              exact h
            clear HQ HA HK HL HE R
            cases hsg : signs (bts z) with
            | false =>
              rw [hsg] at cS R3
              go_wp2_with (go_at_call 39; refine (cS _).mono ?_; rintro e w2 ⟨rfl, rfl⟩)
              refine bodyPost_ret (v := .tuple #[tokv zeroTok, .int .i64 0, .int .i64 4]) (by simp [results, Tryd.results13, go_sem, asAddr, tokv, zeroTok, str]) rfl ⟨hb, .inl ⟨4, R3.out, rfl⟩⟩
            | true =>
              rw [hsg] at cS R3
              have HJ : Hid (((k + (j - (k + 1) + 1 + 1) : Nat) : Int) = (j : Int) + 1) := by show _ = _; omega
              go_wp2_with (go_at_call 39; refine (cS _).mono ?_; rintro e w2 ⟨rfl, rfl⟩)
              refine bodyPost_ret (v := .tuple #[tokv ⟨3, 0, bts z⟩, .int .i64 ((j : Int) + 1), .int .i64 0]) (by simp [results, Tryd.results13, go_sem, asAddr, tokv, str_bts]) rfl ⟨(Below.refl _ w).alloc (Nat.le_refl _) _, .inr ⟨⟨3, 0, bts z⟩, _, R3.out, by rw [HJ.out]⟩⟩
      · have hy91 : ¬ (y : Int) = 39 := by omega
        have hy92 : ((y : Int) == 39) = false := beq_eq_false_iff_ne.2 hy91
        obtain ⟨m, hm⟩ : ∃ m, s.extract j (j + 1) = m := ⟨_, rfl⟩
        have hmb : bts m = [(bts s)[j]] := by
          rw [← hm, bytes_extract, drop_cons hjl, show j + 1 - j = 1 by omega]
          rfl
        have hms : m.size = 1 := by rw [size_bytes, hmb]; rfl
        have R : Hid (A = qFrom (bts s) (j + 1) (bts (z ++ m)) (j + 1 - (k + 1))) := by
          show A = _
          rw [HQ.out, q_on _ _ _ _ hjl (by rw [hy2]; exact hq9), bts_append, hmb, show j + 1 - (k + 1) = j - (k + 1) + 1 by omega]
        clear HQ HA HK HL ej hy2 hmb hq9
        go_wp2
        go_roundw
        case rel => exact ⟨j + 1, z ++ m, by omega, by omega, by go_num, rfl, by rw [ByteArray.size_append, hms]; omega, trivial, R⟩
        case measure => simp [intOf]; omega
    · have hlt1 : ¬ (j : Int) < (s.size : Int) := by omega
      have hlt2 : (s.size : Int) ≤ (j : Int) := by omega
      have R2 : Hid (one ((bts s).drop k) = .bad 5) := one_quote_none hkl HK.out (by rw [HA.out, HQ.out]; exact q_none _ _ _ _ (by rw [← HL.out]; omega))
      clear HQ HA HK HL
      go_wp2
      refine bodyPost_ret (v := .tuple #[tokv zeroTok, .int .i64 0, .int .i64 5]) (by simp [results, Tryd.results13, go_sem, asAddr, tokv, zeroTok, str]) rfl ⟨hb, .inl ⟨5, R2.out, rfl⟩⟩

end Go.Proofs.YtjeniabnokcbnaaDoor
