/- Package parse: words that are looked for: slices.Index and slices.Contains over texts, contracts at every argument. -/
import Derived.Test.YtedinkoapieakaaDoorParseNext
namespace Go.Proofs.YtedinkoapieakaaDoor
open Go.ChangeShapes Go.WideShapes Go.ChangeAt Go.RowKit

/-- the slice at 'ao' holds these texts -/
def Wds (w : World) (ao : Option Addr) (ws : List (List UInt8)) : Prop :=
  ws.length ≤ 1000 ∧ (ws = [] ∨ ∃ b off, ao = some ⟨b, off, none⟩ ∧ b < w.heap.size ∧ ∀ i (hi : i < ws.length), w.cell? ⟨b, off + i, none⟩ = some (.string (str ws[i])))

theorem Wds.later {w w' : World} {ao : Option Addr} {ws : List (List UInt8)} (h : Wds w ao ws) (hb : Below w.heap.size w w') : Wds w' ao ws := by
  refine ⟨h.1, ?_⟩
  rcases h.2 with h0 | ⟨b, off, h1, h2, h3⟩
  · exact .inl h0
  · exact .inr ⟨b, off, h1, Nat.lt_of_lt_of_le h2 hb.size, fun i hi => (hb.cell h2).trans (h3 i hi)⟩

theorem Wds.keep {R : Nat} {w w' : World} {ao : Option Addr} {ws : List (List UInt8)} (h : Wds w ao ws) (hb : Keeps R w w') (ha : ∀ a, ao = some a → a.block ≠ R) : Wds w' ao ws := by
  refine ⟨h.1, ?_⟩
  rcases h.2 with h0 | ⟨b, off, h1, h2, h3⟩
  · exact .inl h0
  · have hR : b ≠ R := ha _ h1
    exact .inr ⟨b, off, h1, Nat.lt_of_lt_of_le h2 hb.size, fun i hi => (hb.cell h2 hR).trans (h3 i hi)⟩

theorem list_ne {a b : List UInt8} (h : a ≠ b) : ((str a).toList == (str b).toList) = false := by
  rw [bytes_to_list, bytes_to_list, bts_str, bts_str]
  exact beq_eq_false_iff_ne.2 h

theorem str_inj {a b : List UInt8} (h : str a = str b) : a = b := by rw [← bts_str a, h, bts_str]

set_option maxRecDepth 100000 in
set_option maxHeartbeats 4000000 in
theorem Index_any (ao : Option Addr) (cap : Nat) (ws : List (List UInt8)) (v : List UInt8) (w : World) (h : Wds w ao ws) :
    Calls Tryd.prog 108 #[.slice ao ws.length cap, .string (str v)] w fun e w' => ∃ r : Int, e = .returned (.int .i64 r) ∧ decide (0 ≤ r) = ws.contains v ∧ w = w' := by
  obtain ⟨n, hn⟩ : ∃ n, ws.length = n := ⟨_, rfl⟩
  have HN := hide hn
  have HW := hide h
  have hn3 : n ≤ 1000 := by rw [← hn]; exact h.1
  rw [hn]
  clear h hn
  go_enter Tryd.func108, Tryd.ntmps108
  go_wp2
  go_loopw [8] (fun x wr => ∃ k : Nat, k ≤ n ∧ x = .int .i64 (k : Int) ∧ w = wr ∧ Hid (∀ i (hi : i < ws.length), i < k → ws[i] ≠ v)) (fun x _ => n - (intOf x).toNat)
  case atStart => exact ⟨0, Nat.zero_le _, rfl, rfl, fun i _ h => by omega⟩
  case round =>
    obtain ⟨k, hk, rfl, rfl, HR⟩ := hrel
    by_cases hlt : k < n
    · have hlt1 : (k : Int) < (n : Int) := by omega
      have hlt2 : k < ws.length := by rw [HN.out]; exact hlt
      obtain ⟨b, off, rfl, hbw, hcell⟩ : ∃ b off, ao = some ⟨b, off, none⟩ ∧ b < w.heap.size ∧ ∀ i (hi : i < ws.length), w.cell? ⟨b, off + i, none⟩ = some (.string (str ws[i])) := by
        rcases HW.out.2 with h | h
        · rw [h] at hlt2
          cases hlt2
        · exact h
      have c0 := hcell k hlt2
      by_cases he : ws[k] = v
      · have HC : Hid (ws.contains v = true) := by
          show ws.contains v = true
          rw [List.contains_iff_mem, ← he]
          exact List.getElem_mem _
        rw [he] at c0
        clear hcell he
        go_wp2
        go_ret
        exact ⟨(k : Int), rfl, by rw [HC.out]; simp, rfl⟩
      · have hs := list_ne (Ne.symm he)
        have R : Hid (∀ i (hi : i < ws.length), i < k + 1 → ws[i] ≠ v) := by
          intro i hi hik
          by_cases h : i = k
          · subst h
            exact he
          · exact HR.out i hi (by omega)
        clear hcell he
        generalize ws[k] = u at c0 hs
        go_wp2
        go_roundw
        case rel => exact ⟨k + 1, by omega, by go_num, by trivial, R⟩
        case measure => simp [intOf]; omega
    · have hlt1 : ¬ (k : Int) < (n : Int) := by omega
      have HC : Hid (ws.contains v = false) := by
        show ws.contains v = false
        rw [Bool.eq_false_iff]
        intro h
        rw [List.contains_iff_mem] at h
        obtain ⟨i, hi, h⟩ := List.getElem_of_mem h
        have := HN.out
        exact HR.out i hi (by omega) h
      go_wp2
      go_ret
      exact ⟨-1, rfl, ⟨fun h => absurd h (by decide), fun h => by have h2 := List.contains_iff_mem.2 h; rw [HC.out] at h2; cases h2⟩, rfl⟩

theorem Contains_any (ao : Option Addr) (cap : Nat) (ws : List (List UInt8)) (v : List UInt8) (w : World) (h : Wds w ao ws) :
    Calls Tryd.prog 94 #[.slice ao ws.length cap, .string (str v)] w fun e w' => e = .returned (.bool (ws.contains v)) ∧ w = w' := by
  have cI := Index_any ao cap ws v w h
  generalize ws.contains v = c at cI ⊢
  clear h
  go_enter Tryd.func94, Tryd.ntmps94
  go_wp2_with (go_at_call 108; refine cI.mono ?_; rintro e w' ⟨r, rfl, hc, rfl⟩)
  go_ret
  exact ⟨by rw [← hc]; simp, rfl⟩


/-- one word that the call has laid -/
theorem Wds.one (w : World) (v : List UInt8) (ty : TypeId) : Wds (w.alloc (.cells #[.string (str v)] ty)) (some ⟨w.heap.size, 0, none⟩) [v] := by
  refine ⟨by simp, .inr ⟨_, 0, rfl, by simp, fun i hi => ?_⟩⟩
  have : i = 0 := by simpa using hi
  subst this
  simp

theorem refuse_any {R : Nat} {w : World} {ao : Option Addr} {cap : Nat} {ts : List Tok} {s : St} (h : Rdr R w ao cap ts s) :
    Calls Tryd.prog 49 #[.pointer (some ⟨R, 0, none⟩)] w fun e w' => e = .returned (.tuple #[]) ∧ Rdr R w' ao cap ts s.stop ∧ Keeps R w w' := by
  have hR := h.lt
  have c2 := h.ref
  have f2 := h.fz 2
  have HH := hide h
  clear h
  go_enter Tryd.func49, Tryd.ntmps49
  go_wp2
  go_end0
  exact ⟨rfl, HH.out.stop, (Keeps.refl R w).setCell (.inl rfl) _⟩

/-- a token variable that the call has laid reads as it was laid, behind whatever a callee has done -/
theorem tokVar_new {w W : World} {t : Tok} (ty : TypeId) (h : W = w.alloc (.cells #[.int .i64 t.kind, .int .i64 t.int, .string (str t.text)] ty)) :
    W.cell? ⟨w.heap.size, 0, none⟩ = some (.int .i64 t.kind) ∧ W.cell? ⟨w.heap.size, 1, none⟩ = some (.int .i64 t.int) ∧ W.cell? ⟨w.heap.size, 2, none⟩ = some (.string (str t.text)) := by
  subst h
  exact ⟨by simp, by simp, by simp⟩

set_option maxRecDepth 100000 in
set_option maxHeartbeats 4000000 in
theorem anyOf_any {R : Nat} {w : World} {ao : Option Addr} {cap : Nat} {ts : List Tok} {s : St} (h : Rdr R w ao cap ts s) (hl : ts.length ≤ 300) {wo : Option Addr} {wc : Nat} {ws : List (List UInt8)} (hw : Wds w wo ws) :
    Calls Tryd.prog 66 #[.pointer (some ⟨R, 0, none⟩), .slice wo ws.length wc] w fun e w' => e = .returned (.string (str (anyOf ws s).1)) ∧ Rdr R w' ao cap ts (anyOf ws s).2 ∧ Keeps R w w' := by
  have cN : Calls Tryd.prog 93 #[.pointer (some ⟨R, 0, none⟩)] w fun e w' => e = .returned (.agg #[.int .i64 s.next.kind, .int .i64 s.next.int, .string (str s.next.text)]) ∧ R < w'.heap.size ∧ Hid (Below w.heap.size w w' ∧ Rdr R w' ao cap ts s) :=
    (next_any h hl).mono fun e w' ⟨h1, h2⟩ => ⟨h1, (h.later h2).lt, h2, h.later h2⟩
  have HH := hide h
  have cC : Hid (∀ W : World, Hid (Below w.heap.size w W) → Calls Tryd.prog 94 #[.slice wo ws.length wc, .string (str s.next.text)] W fun e W' => e = .returned (.bool (ws.contains s.next.text)) ∧ W = W') :=
    fun W hW => Contains_any wo wc ws s.next.text W (hw.later hW.out)
  obtain ⟨n, hn⟩ : ∃ n, ws.length = n := ⟨_, rfl⟩
  rw [hn] at cC ⊢
  clear hw hn h
  obtain ⟨t, ht⟩ : ∃ t, s.next = t := ⟨_, rfl⟩
  rw [ht] at cN cC
  have HT := hide ht
  clear ht
  by_cases h1 : t.kind = 1 ∨ t.kind = 4
  · cases hc : ws.contains t.text with
    | false =>
      rw [hc] at cC
      have e0 : anyOf ws s = ([], s) := anyOf_no (by rw [HT.out]; simp only [isOne, hc, Bool.and_false])
      rw [e0]
      clear e0
      rcases h1 with h1 | h1
      · rw [h1] at cN
        go_enter Tryd.func66, Tryd.ntmps66
        go_wp2_with (first
          | (go_at_call 93; refine cN.mono ?_; rintro e w1 ⟨rfl, hR1, HB⟩; have HB2 : Hid (Below w.heap.size w (w1.alloc (.cells #[.int .i64 1, .int .i64 t.int, .string (str t.text)] 44))) := HB.out.1.alloc HB.out.1.size _)
          | (go_at_call 94; refine (cC.out _ HB2).mono ?_; rintro e w2 ⟨rfl, rfl⟩))
        go_ret
        exact ⟨rfl, HB.out.2.alloc _, .of_below HB2.out⟩
      · rw [h1] at cN
        go_enter Tryd.func66, Tryd.ntmps66
        go_wp2_with (first
          | (go_at_call 93; refine cN.mono ?_; rintro e w1 ⟨rfl, hR1, HB⟩; have HB2 : Hid (Below w.heap.size w (w1.alloc (.cells #[.int .i64 4, .int .i64 t.int, .string (str t.text)] 44))) := HB.out.1.alloc HB.out.1.size _)
          | (go_at_call 94; refine (cC.out _ HB2).mono ?_; rintro e w2 ⟨rfl, rfl⟩))
        go_ret
        exact ⟨rfl, HB.out.2.alloc _, .of_below HB2.out⟩
    | true =>
      rw [hc] at cC
      have e0 : anyOf ws s = (t.text, s.adv) := by rw [← HT.out]; exact anyOf_yes (by rw [HT.out]; rcases h1 with h | h <;> simp only [isOne, hc, h, decide_true, Bool.true_or, Bool.or_true, Bool.and_true])
      rw [e0]
      clear e0
      rcases h1 with h1 | h1
      · rw [h1] at cN
        have hn0 : s.next.kind ≠ 0 := by rw [HT.out, h1]; decide
        have HA : Hid (∀ w1, Hid (Below w.heap.size w w1 ∧ Rdr R w1 ao cap ts s) → ∃ k : Nat, k ≤ 300 ∧ w1.cell? ⟨R, 1, none⟩ = some (.int .i64 (k : Int)) ∧ w1.frozen? ⟨R, 1, none⟩ = false ∧
            Hid (∀ o, Rdr R ((w1.setCell ⟨R, 1, none⟩ (.int .i64 ((k : Int) + 1))).alloc o) ao cap ts s.adv ∧ Keeps R w ((w1.setCell ⟨R, 1, none⟩ (.int .i64 ((k : Int) + 1))).alloc o))) :=
          fun w1 h => ⟨ts.length - s.rest.length, by omega, h.out.2.at_, h.out.2.fz 1, fun o => ⟨(h.out.2.adv hn0 rfl).alloc o, (Keeps.setCell (R := R) (p := ⟨R, 1, none⟩) (Keeps.of_below h.out.1) (.inl rfl) _).alloc o⟩⟩
        clear hn0
        go_enter Tryd.func66, Tryd.ntmps66
        go_wp2_with (first
          | (go_at_call 93; refine cN.mono ?_; rintro e w1 ⟨rfl, hR1, HB⟩; have HB2 : Hid (Below w.heap.size w (w1.alloc (.cells #[.int .i64 1, .int .i64 t.int, .string (str t.text)] 44))) := HB.out.1.alloc HB.out.1.size _; obtain ⟨k, hk, c1, f1, HA2⟩ := HA.out _ HB)
          | (go_at_call 94; refine (cC.out _ HB2).mono ?_; rintro e w2 ⟨rfl, rfl⟩))
        go_ret
        exact ⟨rfl, HA2.out _⟩
      · rw [h1] at cN
        have hn0 : s.next.kind ≠ 0 := by rw [HT.out, h1]; decide
        have HA : Hid (∀ w1, Hid (Below w.heap.size w w1 ∧ Rdr R w1 ao cap ts s) → ∃ k : Nat, k ≤ 300 ∧ w1.cell? ⟨R, 1, none⟩ = some (.int .i64 (k : Int)) ∧ w1.frozen? ⟨R, 1, none⟩ = false ∧
            Hid (∀ o, Rdr R ((w1.setCell ⟨R, 1, none⟩ (.int .i64 ((k : Int) + 1))).alloc o) ao cap ts s.adv ∧ Keeps R w ((w1.setCell ⟨R, 1, none⟩ (.int .i64 ((k : Int) + 1))).alloc o))) :=
          fun w1 h => ⟨ts.length - s.rest.length, by omega, h.out.2.at_, h.out.2.fz 1, fun o => ⟨(h.out.2.adv hn0 rfl).alloc o, (Keeps.setCell (R := R) (p := ⟨R, 1, none⟩) (Keeps.of_below h.out.1) (.inl rfl) _).alloc o⟩⟩
        clear hn0
        go_enter Tryd.func66, Tryd.ntmps66
        go_wp2_with (first
          | (go_at_call 93; refine cN.mono ?_; rintro e w1 ⟨rfl, hR1, HB⟩; have HB2 : Hid (Below w.heap.size w (w1.alloc (.cells #[.int .i64 4, .int .i64 t.int, .string (str t.text)] 44))) := HB.out.1.alloc HB.out.1.size _; obtain ⟨k, hk, c1, f1, HA2⟩ := HA.out _ HB)
          | (go_at_call 94; refine (cC.out _ HB2).mono ?_; rintro e w2 ⟨rfl, rfl⟩))
        go_ret
        exact ⟨rfl, HA2.out _⟩
  · have e0 : anyOf ws s = ([], s) := anyOf_no (by
      rw [HT.out]
      have h2 : ¬ t.kind = 1 := fun h => h1 (.inl h)
      have h3 : ¬ t.kind = 4 := fun h => h1 (.inr h)
      simp only [isOne, h2, h3, decide_false, Bool.or_false, Bool.false_and])
    rw [e0]
    have h2 : ¬ t.kind = 1 := fun h => h1 (.inl h)
    have h3 : ¬ t.kind = 4 := fun h => h1 (.inr h)
    clear e0 h1 cC
    go_enter Tryd.func66, Tryd.ntmps66
    go_wp2_with (go_at_call 93; refine cN.mono ?_; rintro e w1 ⟨rfl, hR1, HB⟩)
    go_ret
    exact ⟨rfl, HB.out.2.alloc _, .of_below (HB.out.1.alloc HB.out.1.size _)⟩

end Go.Proofs.YtedinkoapieakaaDoor
