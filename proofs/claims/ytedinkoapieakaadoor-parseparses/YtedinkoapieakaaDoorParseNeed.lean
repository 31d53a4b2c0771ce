/- Package parse: words that must stand, and may; names, numbers; operators: contracts, at every state. -/
import Derived.Test.YtedinkoapieakaaDoorParseKept
namespace Go.Proofs.YtedinkoapieakaaDoor
open Go.ChangeShapes Go.WideShapes Go.ChangeAt Go.RowKit

theorem Wds.apart_new {c : RC} {w0 w : World} {s : St} (h : On c w0 w s) : ∀ a : Addr, some (⟨w.heap.size, 0, none⟩ : Addr) = some a → a.block ≠ c.R := by
  intro a ha
  cases ha
  have := h.lt
  simp only
  omega

theorem needs_on {c : RC} {w0 w : World} {s : St} (h : On c w0 w s) {wo : Option Addr} {wc : Nat} {ws : List (List UInt8)} (hw : Wds w wo ws) (hR : ∀ a, wo = some a → a.block ≠ c.R) :
    Calls Tryd.prog 69 #[.pointer (some ⟨c.R, 0, none⟩), .slice wo ws.length wc] w fun e w' => e = .returned (.tuple #[]) ∧ Hid (On c w0 w' (needs ws s)) := by
  obtain ⟨n, hn⟩ : ∃ n, ws.length = n := ⟨_, rfl⟩
  have HN := hide hn
  have hn3 : n ≤ 1000 := by rw [← hn]; exact hw.1
  have HR := hide hR
  have HW := hide hw
  have HH := hide h
  rw [hn]
  clear hw hn hR h
  go_enter Tryd.func69, Tryd.ntmps69
  go_wp2
  go_loopw [8] (fun x wr => ∃ k : Nat, k ≤ n ∧ x = .int .i64 (k : Int) ∧ Hid (∃ s', On c w0 wr s' ∧ Wds wr wo ws ∧ needs (ws.drop k) s' = needs ws s)) (fun x _ => n - (intOf x).toNat)
  case atStart => exact ⟨0, Nat.zero_le _, rfl, s, HH.out, HW.out, rfl⟩
  case round =>
    obtain ⟨k, hk, rfl, HQ⟩ := hrel
    by_cases hlt : k < n
    · have hlt1 : (k : Int) < (n : Int) := by omega
      have hlt2 : k < ws.length := by rw [HN.out]; exact hlt
      obtain ⟨s', h1, h2, h3⟩ := HQ.out
      obtain ⟨b, off, hwo, hbw, hcell⟩ : ∃ b off, wo = some ⟨b, off, none⟩ ∧ b < wr.heap.size ∧ ∀ i (hi : i < ws.length), wr.cell? ⟨b, off + i, none⟩ = some (.string (str ws[i])) := by
        rcases h2.2 with h | h
        · rw [h] at hlt2
          cases hlt2
        · exact h
      subst hwo
      have c0 := hcell k hlt2
      have cO : Calls Tryd.prog 43 #[.pointer (some ⟨c.R, 0, none⟩), .slice (some ⟨wr.heap.size, 0, none⟩) 1 1] (wr.alloc (.cells #[.string (str ws[k])] 9)) fun e W' => e = .returned (.string (str (oneOf [ws[k]] s').1)) ∧ Hid (∃ s', On c w0 W' s' ∧ Wds W' (some ⟨b, off, none⟩) ws ∧ needs (ws.drop (k + 1)) s' = needs ws s) := by
        refine (oneOf_on (wc := 1) (h1.alloc (.cells #[.string (str ws[k])] 9)).here (Wds.one wr ws[k] 9)).mono fun e W' ⟨he, hO⟩ => ⟨he, _, (h1.alloc _).back hO.out, ?_, ?_⟩
        · exact (h2.later ((Below.refl _ wr).alloc (Nat.le_refl _) (.cells #[.string (str ws[k])] 9))).keep hO.out.keeps HR.out
        · rw [← h3, List.drop_eq_getElem_cons hlt2]
          rfl
      have hRw := h1.lt
      clear hcell h1 h2 h3 HQ
      generalize (oneOf [ws[k]] s').1 = u at cO
      generalize ws[k] = v at c0 cO
      go_wp2_with (go_at_call 43; refine cO.mono ?_; rintro e w2 ⟨rfl, HB⟩)
      go_roundw
      case rel => exact ⟨k + 1, by omega, by go_num, HB⟩
      case measure => simp [intOf]; omega
    · have hlt1 : ¬ (k : Int) < (n : Int) := by omega
      have HE : Hid (On c w0 wr (needs ws s)) := by
        obtain ⟨s', h1, h2, h3⟩ := HQ.out
        rw [List.drop_eq_nil_of_le (by have := HN.out; omega)] at h3
        rw [← h3]
        exact h1
      go_wp2
      go_end0
      exact ⟨rfl, HE⟩

theorem Wds.two (w : World) (v u : List UInt8) (ty : TypeId) : Wds (w.alloc (.cells #[.string (str v), .string (str u)] ty)) (some ⟨w.heap.size, 0, none⟩) [v, u] := by
  refine ⟨by simp, .inr ⟨_, 0, rfl, by simp, fun i hi => ?_⟩⟩
  have : i = 0 ∨ i = 1 := by simp at hi; omega
  rcases this with rfl | rfl <;> simp

/-- one word that must stand, as its call comes -/
theorem need1 (c : RC) (v : List UInt8) (z : ByteArray) (hz : z = str v) {w0 W : World} {s : St} (h : Hid (On c w0 W s)) :
    Calls Tryd.prog 69 #[.pointer (some ⟨c.R, 0, none⟩), .slice (some ⟨W.heap.size, 0, none⟩) 1 1] (W.alloc (.cells #[.string z] 9)) fun e w' => e = .returned (.tuple #[]) ∧ c.R < w'.heap.size ∧ Hid (On c w0 w' (needs [v] s)) := by
  subst hz
  exact (needs_on (h.out.alloc (.cells #[.string (str v)] 9)) (Wds.one W v 9) (Wds.apart_new h.out)).mono fun _ _ ⟨h1, h2⟩ => ⟨h1, h2.out.lt, h2⟩
theorem need2 (c : RC) (v u : List UInt8) (z y : ByteArray) (hz : z = str v) (hy : y = str u) {w0 W : World} {s : St} (h : Hid (On c w0 W s)) :
    Calls Tryd.prog 69 #[.pointer (some ⟨c.R, 0, none⟩), .slice (some ⟨W.heap.size, 0, none⟩) 2 2] (W.alloc (.cells #[.string z, .string y] 9)) fun e w' => e = .returned (.tuple #[]) ∧ c.R < w'.heap.size ∧ Hid (On c w0 w' (needs [v, u] s)) := by
  subst hz hy
  exact (needs_on (h.out.alloc (.cells #[.string (str v), .string (str u)] 9)) (Wds.two W v u 9) (Wds.apart_new h.out)).mono fun _ _ ⟨h1, h2⟩ => ⟨h1, h2.out.lt, h2⟩

set_option maxRecDepth 100000 in
set_option maxHeartbeats 4000000 in
theorem may_on {c : RC} {w0 w : World} {s : St} (h : On c w0 w s) (f : List UInt8) {bo : Option Addr} {bc : Nat} {bs : List (List UInt8)} (hw : Wds w bo bs) (hR : ∀ a, bo = some a → a.block ≠ c.R) :
    Calls Tryd.prog 76 #[.pointer (some ⟨c.R, 0, none⟩), .string (str f), .slice bo bs.length bc] w fun e w' => e = .returned (.bool (mayBe f bs s).1) ∧ Hid (On c w0 w' (mayBe f bs s).2) := by
  have cA : Calls Tryd.prog 66 #[.pointer (some ⟨c.R, 0, none⟩), .slice (some ⟨w.heap.size, 0, none⟩) 1 1] (w.alloc (.cells #[.string (str f)] 9)) fun e w' => e = .returned (.string (str (anyOf [f] s).1)) ∧ Hid (On c w0 w' (anyOf [f] s).2 ∧ Wds w' bo bs) :=
    (anyOf_on (wc := 1) (h.alloc (.cells #[.string (str f)] 9)).here (Wds.one w f 9)).mono fun e W' ⟨he, hO⟩ => ⟨he, (h.alloc _).back hO.out, (hw.later ((Below.refl _ w).alloc (Nat.le_refl _) (.cells #[.string (str f)] 9))).keep hO.out.keeps hR⟩
  have cN : Hid (∀ W s1, Hid (On c w0 W s1 ∧ Wds W bo bs) → Calls Tryd.prog 69 #[.pointer (some ⟨c.R, 0, none⟩), .slice bo bs.length bc] W fun e w' => e = .returned (.tuple #[]) ∧ Hid (On c w0 w' (needs bs s1))) := fun W s1 h => needs_on h.out.1 h.out.2 hR
  generalize bs.length = n at cN ⊢
  clear h hw hR
  unfold mayBe
  generalize anyOf [f] s = p at cA ⊢
  obtain ⟨u, s1⟩ := p
  by_cases hu : u = []
  · subst hu
    rw [if_pos rfl]
    simp only at cA ⊢
    have e0 : (str []).toList = [] := by rw [bytes_to_list, bts_str]
    go_enter Tryd.func76, Tryd.ntmps76
    go_wp2_with (go_at_call 66; refine cA.mono ?_; rintro e w1 ⟨rfl, HB⟩)
    go_ret
    exact ⟨rfl, HB.out.1⟩
  · rw [if_neg hu]
    simp only at cA ⊢
    obtain ⟨e0, e1, e2⟩ := empty_list hu
    go_enter Tryd.func76, Tryd.ntmps76
    go_wp2_with (first
      | (go_at_call 66; refine cA.mono ?_; rintro e w1 ⟨rfl, HB⟩)
      | (go_at_call 69; refine (cN.out _ _ HB).mono ?_; rintro e w2 ⟨rfl, HB2⟩))
    go_ret
    exact ⟨rfl, HB2⟩

/-- a word that may stand, as its call comes -/
theorem may0 (c : RC) (v : List UInt8) (z : ByteArray) (hz : z = str v) {w0 W : World} {s : St} (h : Hid (On c w0 W s)) :
    Calls Tryd.prog 76 #[.pointer (some ⟨c.R, 0, none⟩), .string z, .slice none 0 0] W fun e w' => e = .returned (.bool (mayBe v [] s).1) ∧ c.R < w'.heap.size ∧ Hid (On c w0 w' (mayBe v [] s).2) := by
  subst hz
  exact (may_on (bc := 0) (bs := []) h.out v ⟨by simp, .inl rfl⟩ (fun a ha => by cases ha)).mono fun _ _ ⟨h1, h2⟩ => ⟨h1, h2.out.lt, h2⟩
theorem may1 (c : RC) (v u : List UInt8) (z y : ByteArray) (hz : z = str v) (hy : y = str u) {w0 W : World} {s : St} (h : Hid (On c w0 W s)) :
    Calls Tryd.prog 76 #[.pointer (some ⟨c.R, 0, none⟩), .string z, .slice (some ⟨W.heap.size, 0, none⟩) 1 1] (W.alloc (.cells #[.string y] 9)) fun e w' => e = .returned (.bool (mayBe v [u] s).1) ∧ c.R < w'.heap.size ∧ Hid (On c w0 w' (mayBe v [u] s).2) := by
  subst hz hy
  exact (may_on (bc := 1) (bs := [u]) (h.out.alloc (.cells #[.string (str u)] 9)) v (Wds.one W u 9) (Wds.apart_new h.out)).mono fun _ _ ⟨h1, h2⟩ => ⟨h1, h2.out.lt, h2⟩

theorem comma_on (c : RC) {w0 W : World} {s : St} (h : Hid (On c w0 W s)) :
    Calls Tryd.prog 74 #[.pointer (some ⟨c.R, 0, none⟩)] W fun e w' => e = .returned (.bool (comma s).1) ∧ Hid (On c w0 w' (comma s).2) := by
  have cM := may0 c [44] ⟨#[44]⟩ rfl h
  unfold comma
  generalize mayBe [44] [] s = p at cM ⊢
  obtain ⟨b, s1⟩ := p
  simp only at cM ⊢
  go_enter Tryd.func74, Tryd.ntmps74
  go_wp2_with (go_at_call 76; refine cM.mono ?_; rintro e w1 ⟨rfl, hR1, HB⟩)
  go_ret
  exact ⟨rfl, HB⟩

theorem isName_any (t : Tok) (w : World) :
    Calls Tryd.prog 99 #[.agg #[.int .i64 t.kind, .int .i64 t.int, .string (str t.text)]] w fun e w' => e = .returned (.bool (isName t)) ∧ Below w.heap.size w w' := by
  have cK := Kept_any t.text
  unfold isName
  generalize kept t.text = b at cK ⊢
  by_cases h1 : t.kind = 1
  · rw [h1]
    go_enter Tryd.func99, Tryd.ntmps99
    go_wp2_with (go_at_call 111; refine (cK _).mono ?_; rintro e w1 ⟨rfl, rfl⟩)
    go_ret
    exact ⟨by simp, (Below.refl _ w).alloc (Nat.le_refl _) _⟩
  · have h2 : (t.kind == 1) = false := beq_eq_false_iff_ne.2 h1
    go_enter Tryd.func99, Tryd.ntmps99
    go_wp2_with (go_at_call 111; refine (cK _).mono ?_; rintro e w1 ⟨rfl, rfl⟩)
    go_ret
    exact ⟨by simp [h1], (Below.refl _ w).alloc (Nat.le_refl _) _⟩

end Go.Proofs.YtedinkoapieakaaDoor
