/- Package lex: a quote; whichever token stands at a place: contracts, at every argument. -/
import Derived.Test.YtjeniabnokcbnaaGreatDoorLexReadNum
import Derived.Test.YtjeniabnokcbnaaGreatDoorLexReadText
namespace Go.Proofs.YtjeniabnokcbnaaGreatDoor
open Go.ChangeShapes Go.WideShapes Go.ChangeAt Go.RowKit

theorem one_at_quote (l : List UInt8) (i : Nat) (hi : i < l.length) (h : l[i].toNat = 39) :
    one (l.drop i) = match quoted (l.drop (i + 1)) with
      | none => .bad 5
      | some (t, n) => if 40 < t.length then .bad 1 else if signs t then .tok ⟨3, 0, t⟩ (n + 1) else .bad 4 := by
  have e : l[i] = 39 := UInt8.toNat.inj h
  rw [drop_cons hi, e]
  have h1 : letter (low 39) = false := by decide
  have h2 : digit 39 = false := by decide
  have h3 : (39 : UInt8).toNat = 39 := rfl
  simp only [one, h1, h2, h3, Bool.false_eq_true, if_false, if_true]
  rfl

/-- what is left of a call's own token variable: the ends of the readers -/
theorem tok_end {w W : World} {v0 v1 v2 : Value} (hb : Below w.heap.size w W) (k0 : ∃ u, W.cell? ⟨w.heap.size, 0, none⟩ = some u) (k1 : ∃ u, W.cell? ⟨w.heap.size, 1, none⟩ = some u) (k2 : ∃ u, W.cell? ⟨w.heap.size, 2, none⟩ = some u) :
    ∃ W3, ((W.setCell ⟨w.heap.size, 0, none⟩ v0).setCell ⟨w.heap.size, 1, none⟩ v1).setCell ⟨w.heap.size, 2, none⟩ v2 = W3 ∧ Below w.heap.size w W3 ∧
      W3.cell? ⟨w.heap.size, 0, none⟩ = some v0 ∧ W3.cell? ⟨w.heap.size, 1, none⟩ = some v1 ∧ W3.cell? ⟨w.heap.size, 2, none⟩ = some v2 := by
  obtain ⟨u0, k0⟩ := k0
  obtain ⟨u1, k1⟩ := k1
  obtain ⟨u2, k2⟩ := k2
  have hr := stored3 k0 k1 k2 v0 v1 v2
  refine ⟨_, rfl, ((hb.setCell (Nat.le_refl _) _).setCell (Nat.le_refl _) _).setCell (Nat.le_refl _) _, hr 0 _ rfl, hr 1 _ rfl, hr 2 _ rfl⟩

theorem textv_none (i : Nat) : textv i none = .tuple #[.string ⟨#[]⟩, .int .i64 0, .int .i64 5] := rfl
theorem textv_some (i n : Nat) (t : List UInt8) : textv i (some (t, n)) = .tuple #[.string (str t), .int .i64 ((i + n : Nat) : Int), .int .i64 0] := rfl

theorem hidden {p : Prop} (h : p) : Hid p := h

set_option maxRecDepth 100000 in
set_option maxHeartbeats 2000000 in
theorem readQuote_any (s : ByteArray) (i : Nat) (hi : i < s.size) (hs : s.size ≤ 1000000) (hq : (s[i]'hi).toNat = 39) (w : World) (u8 : U8 w) :
    Calls Tryz.prog 26 #[.string s, .int .i64 (i : Int)] w fun e w' => e = .returned (ansv i (one ((bts s).drop i))) ∧ Below w.heap.size w w' := by
  have hi2 : i < (bts s).length := by rw [← size_bytes]; exact hi
  have hq : (bts s)[i].toNat = 39 := (congrArg UInt8.toNat (byte_at s i hi hi2)).symm.trans hq
  rw [one_at_quote _ _ hi2 hq]
  have hb : ∀ o, Below w.heap.size w (w.alloc o) := fun o => (Below.refl _ w).alloc (Nat.le_refl _) o
  have cT : Calls Tryz.prog 41 #[.string s, .int .i64 ((i : Int) + 1)] (w.alloc (.cells #[.int .i64 0, .int .i64 0, .string ⟨#[]⟩] 49)) _ := (readText_any s (i + 1) (by omega) hs (w.alloc (.cells #[.int .i64 0, .int .i64 0, .string ⟨#[]⟩] 49))).mono fun e W h => And.intro h.1 (And.intro (show Hid (Below (w.alloc (.cells #[.int .i64 0, .int .i64 0, .string ⟨#[]⟩] 49)).heap.size (w.alloc (.cells #[.int .i64 0, .int .i64 0, .string ⟨#[]⟩] 49)) W) from h.2) (tok_new w W h.2))
  have hi3 : (i : Int) + 1 ≤ 9223372036854775807 := by omega
  clear hq hi2
  cases hA : quoted ((bts s).drop (i + 1)) with
  | none =>
    rw [hA, textv_none] at cT
    go_enter Tryz.func26, Tryz.ntmps26
    go_wp2_with (go_at_call 41; refine cT.mono ?_; rintro e w' ⟨rfl, hb1, hb2, ⟨k0, f0⟩, ⟨k1, f1⟩, k2, f2⟩)
    obtain ⟨W3, e3, hb3, c0, c1, c2⟩ := tok_end (v0 := .int .i64 0) (v1 := .int .i64 0) (v2 := .string ⟨#[]⟩) hb2 ⟨_, k0⟩ ⟨_, k1⟩ ⟨_, k2⟩
    rw [e3]
    refine bodyPost_ret (v := ansv i (.bad 5)) (by simp [results, Tryz.results26, go_sem, asAddr, c0, c1, c2, ansv, tokv, zeroTok, str]) rfl ⟨rfl, hb3⟩
  | some p =>
    obtain ⟨t, n⟩ := p
    rw [hA, textv_some] at cT
    clear hA
    have hts : (str t).size = t.length := str_size t
    by_cases h40 : 40 < t.length
    · have h41 : (40 : Int) < (t.length : Int) := by omega
      simp only [if_pos h40]
      go_enter Tryz.func26, Tryz.ntmps26
      go_wp2_with (go_at_call 41; refine cT.mono ?_; rintro e w' ⟨rfl, hb1, hb2, ⟨k0, f0⟩, ⟨k1, f1⟩, k2, f2⟩)
      obtain ⟨W3, e3, hb3, c0, c1, c2⟩ := tok_end (v0 := .int .i64 0) (v1 := .int .i64 0) (v2 := .string ⟨#[]⟩) hb2 ⟨_, k0⟩ ⟨_, k1⟩ ⟨_, k2⟩
      rw [e3]
      refine bodyPost_ret (v := ansv i (.bad 1)) (by simp [results, Tryz.results26, go_sem, asAddr, c0, c1, c2, ansv, tokv, zeroTok, str]) rfl ⟨rfl, hb3⟩
    have h41 : ¬ (40 : Int) < ((str t).size : Int) := by omega
    have hts2 : (str t).size ≤ 9223372036854775806 := by omega
    simp only [if_neg h40]
    clear hts
    have cV : ∀ W, Hid (Below (w.alloc (.cells #[.int .i64 0, .int .i64 0, .string ⟨#[]⟩] 49)).heap.size (w.alloc (.cells #[.int .i64 0, .int .i64 0, .string ⟨#[]⟩] 49)) W) →
        Calls Tryz.prog 29 #[.string (str t)] W _ := fun W hW => (ValidString_any (str t) hts2 W (u8.later ((hb _).trans (hW.out.mono (hb _).size)))).mono fun e W' h => And.intro h.1 (tok_new w W' (hW.out.trans (h.2.mono hW.out.size)))
    rw [bts_str] at cV
    cases hv : signs t with
    | false =>
      simp only [Bool.false_eq_true, if_false]
      rw [hv] at cV
      have HV := hidden cV
      clear cV hb hi3 u8 h40 hv hts2
      go_enter Tryz.func26, Tryz.ntmps26
      go_wp2_with (first
        | (go_at_call 41; refine cT.mono ?_; rintro e w' ⟨rfl, hb1, hb2, ⟨k0, f0⟩, ⟨k1, f1⟩, k2, f2⟩)
        | (go_at_call 29; refine (HV.out _ hb1).mono ?_; rintro e w2 ⟨rfl, hb4, ⟨m0, g0⟩, ⟨m1, g1⟩, m2, g2⟩))
      obtain ⟨W3, e3, hb3, c0, c1, c2⟩ := tok_end (v0 := .int .i64 0) (v1 := .int .i64 0) (v2 := .string ⟨#[]⟩) hb4 ⟨_, m0⟩ ⟨_, m1⟩ ⟨_, m2⟩
      rw [e3]
      refine bodyPost_ret (v := ansv i (.bad 4)) (by simp [results, Tryz.results26, go_sem, asAddr, c0, c1, c2, ansv, tokv, zeroTok, str]) rfl ⟨rfl, hb3⟩
    | true =>
      simp only [if_true]
      rw [hv] at cV
      have HV := hidden cV
      clear cV hb hi3 u8 h40 hv hts2
      have HA : Hid (ansv i (.tok ⟨3, 0, t⟩ (n + 1)) = .tuple #[.agg #[.int .i64 3, .int .i64 0, .string (str t)], .int .i64 ((i + 1 + n : Nat) : Int), .int .i64 0]) := by
        show Value.tuple #[tokv ⟨3, 0, t⟩, .int .i64 ((i + (n + 1) : Nat) : Int), .int .i64 0] = _
        rw [show i + (n + 1) = i + 1 + n by omega]
        rfl
      generalize i + 1 + n = m at cT HA
      go_enter Tryz.func26, Tryz.ntmps26
      go_wp2_with (first
        | (go_at_call 41; refine cT.mono ?_; rintro e w' ⟨rfl, hb1, hb2, ⟨k0, f0⟩, ⟨k1, f1⟩, k2, f2⟩)
        | (go_at_call 29; refine (HV.out _ hb1).mono ?_; rintro e w2 ⟨rfl, hb4, ⟨m0, g0⟩, ⟨m1, g1⟩, m2, g2⟩))
      obtain ⟨W3, e3, hb3, c0, c1, c2⟩ := tok_end (v0 := .int .i64 3) (v1 := .int .i64 0) (v2 := .string (str t)) hb4 ⟨_, m0⟩ ⟨_, m1⟩ ⟨_, m2⟩
      rw [e3]
      refine bodyPost_ret (v := .tuple #[.agg #[.int .i64 3, .int .i64 0, .string (str t)], .int .i64 (m : Int), .int .i64 0]) (by simp [results, Tryz.results26, go_sem, asAddr, c0, c1, c2]) rfl ?_
      rw [HA.out]
      exact ⟨rfl, hb3⟩

/-- which kind of token stands at a place -/
theorem one_at_mark (l : List UInt8) (i : Nat) (hi : i < l.length) (h1 : letter (low l[i]) = false) (h2 : digit l[i] = false) (h3 : ¬ l[i].toNat = 39) :
    one (l.drop i) = if markLen (l.drop i) = 0 then .bad 4 else .tok ⟨4, 0, (l.drop i).take (markLen (l.drop i))⟩ (markLen (l.drop i)) := by
  rw [drop_cons hi]
  simp only [one, h1, h2, h3, Bool.false_eq_true, if_false]

end Go.Proofs.YtjeniabnokcbnaaGreatDoor
