/- Package lex: what a text begins with, which mark it begins with, where the next token is, whether a text may be a word's: contracts, at every argument. -/
import Derived.Test.YtedinkoapieakaaDoorLexBytes
import Derived.Test.YtedinkoapieakaaDoorLexJoinPlain
import Derived.Deep.MidRow
namespace Go.Proofs.YtedinkoapieakaaDoor
open Go.ChangeShapes Go.WideShapes Go.ChangeAt Go.RowKit

theorem bytes_extract (s : ByteArray) (a b : Nat) : bts (s.extract a b) = ((bts s).drop a).take (b - a) := by
  unfold bts
  rw [ByteArray.data_extract]
  simp [Array.toList_extract, List.extract_eq_take_drop]

theorem bytes_to_list (s : ByteArray) : s.toList = (bts s) := ByteArray.toList_eq s

theorem str_bytes (s : ByteArray) : (⟨(bts s).toArray⟩ : ByteArray) = s := by
  cases s
  simp [bts]

/-- the string of bytes -/
def str (l : List UInt8) : ByteArray := ⟨l.toArray⟩
theorem bts_str (l : List UInt8) : bts (str l) = l := by simp [bts, str]

theorem prefix_take (l p : List UInt8) (h : p.length ≤ l.length) : (l.take p.length == p) = begins l p := by
  unfold begins
  rw [Bool.eq_iff_iff, beq_iff_eq, List.isPrefixOf_iff_prefix]
  constructor
  · intro e
    exact ⟨l.drop p.length, by
      have := List.take_append_drop p.length l
      rw [e] at this
      exact this⟩
  · rintro ⟨r, rfl⟩
    simp

theorem HasPrefix_lite (s p : ByteArray) (w : World) :
    Calls Tryd.prog 58 #[.string s, .string p] w fun e w' => e = .returned (.bool (begins (bts s) (bts p))) ∧ w = w' := by
  by_cases h : p.size ≤ s.size
  · have h2 : (p.size : Int) ≤ (s.size : Int) := by omega
    have R : Hid (((s.extract 0 p.size).toList == p.toList) = begins (bts s) (bts p)) := by
      show _ = _
      rw [bytes_to_list, bytes_to_list, bytes_extract, List.drop_zero, Nat.sub_zero, size_bytes p, prefix_take]
      rw [← size_bytes, ← size_bytes]
      exact h
    go_enter Tryd.func58, Tryd.ntmps58
    go_wp2
    go_ret
    refine ⟨?_, rfl⟩
    show Ending.returned (Value.bool ((s.extract 0 p.size).toList == p.toList)) = _
    rw [R.out]
  · have h2 : ¬ (p.size : Int) ≤ (s.size : Int) := by omega
    have R : Hid (begins (bts s) (bts p) = false) := by
      show _ = _
      cases hc : begins (bts s) (bts p) with
      | false => rfl
      | true =>
        have := (List.isPrefixOf_iff_prefix.1 hc).length_le
        rw [← size_bytes, ← size_bytes] at this
        omega
    go_enter Tryd.func58, Tryd.ntmps58
    go_wp2
    go_ret
    rw [R.out]
    exact ⟨rfl, rfl⟩

theorem HasPrefix_any (s p : ByteArray) (w : World) :
    Calls Tryd.prog 28 #[.string s, .string p] w fun e w' => e = .returned (.bool (begins (bts s) (bts p))) ∧ w = w' := by
  go_enter Tryd.func28, Tryd.ntmps28
  go_wp2_with (go_at_call 58; refine (HasPrefix_lite _ _ _).mono ?_; rintro e w' ⟨rfl, rfl⟩)
  go_ret
  exact ⟨rfl, rfl⟩

def markTab : List (List UInt8) := [[60, 61], [62, 61], [60, 62], [40], [41], [44], [46], [42], [43], [45], [47], [37], [61], [60], [62]]
/-- the marks, as the program's table has them -/
def Marks (w : World) : Prop := w.rangeAt 0 0 (markTab.map fun m => .string (str m))

theorem Marks.later {w w' : World} (h : Marks w) (hb : Below w.heap.size w w') : Marks w' := fun j v hv =>
  (hb.cell (p := ⟨0, 0 + j, none⟩) (World.block_lt_of_cell? _ _ (h j v hv))).trans (h j v hv)

theorem begins_nil (c : UInt8) (p : List UInt8) : begins [] (c :: p) = false := rfl
theorem begins_one (a c : UInt8) (r : List UInt8) : begins (a :: r) [c] = decide (a.toNat = c.toNat) := by
  unfold begins
  rw [Bool.eq_iff_iff, decide_eq_true_eq]
  simp only [List.isPrefixOf, Bool.and_true, beq_iff_eq]
  exact ⟨fun h => by rw [h], fun h => UInt8.toNat.inj h.symm⟩
theorem begins_two (a b c d : UInt8) (r : List UInt8) : begins (a :: b :: r) [c, d] = decide (a.toNat = c.toNat ∧ b.toNat = d.toNat) := by
  unfold begins
  rw [Bool.eq_iff_iff, decide_eq_true_eq]
  simp only [List.isPrefixOf, Bool.and_true, Bool.and_eq_true, beq_iff_eq]
  exact ⟨fun h => by rw [h.1, h.2]; exact ⟨rfl, rfl⟩, fun h => ⟨UInt8.toNat.inj h.1.symm, UInt8.toNat.inj h.2.symm⟩⟩
theorem begins_two_one (a c d : UInt8) : begins [a] [c, d] = false := by simp [begins, List.isPrefixOf]

theorem find_mark (l : List UInt8) : (markTab.find? (begins l)).getD [] = l.take (markLen l) := by
  have key : ∀ (a : UInt8) (r : List UInt8), (([[40], [41], [44], [46], [42], [43], [45], [47], [37], [61], [60], [62]] : List (List UInt8)).find? (begins (a :: r))).getD [] = if mark1 a then [a] else [] := by
    intro a r
    have e : ∀ c : UInt8, a.toNat = c.toNat → [c] = [a] := fun c h => by rw [UInt8.toNat.inj h]
    by_cases h : mark1 a = true
    · rw [if_pos h]
      simp only [mark1, List.contains_eq_mem, List.mem_cons, List.not_mem_nil, or_false, decide_eq_true_eq] at h
      simp only [List.find?, begins_one]
      repeat' split
      all_goals first
        | (rename_i h1; exact e _ (of_decide_eq_true h1))
        | (exfalso; simp only [decide_eq_false_iff_not, UInt8.reduceToNat] at *; omega)
    · rw [if_neg h]
      simp only [mark1, List.contains_eq_mem, List.mem_cons, List.not_mem_nil, or_false, decide_eq_true_eq] at h
      have e2 : ∀ c : UInt8, ¬ a.toNat = c.toNat → begins (a :: r) [c] = false := fun c hc => by rw [begins_one]; exact decide_eq_false hc
      simp only [not_or] at h
      rw [List.find?_eq_none.2]
      · rfl
      · intro x hx
        simp only [List.mem_cons, List.not_mem_nil, or_false] at hx
        rcases hx with rfl | rfl | rfl | rfl | rfl | rfl | rfl | rfl | rfl | rfl | rfl | rfl <;> simp only [begins_one, decide_eq_true_eq, UInt8.reduceToNat] <;> omega
  cases l with
  | nil => rfl
  | cons a l =>
    cases l with
    | nil =>
      have := key a []
      simp only [markTab, List.find?_cons, begins_two_one]
      simp only [markLen]
      rw [List.find?_cons] at this
      refine this.trans ?_
      split <;> rfl
    | cons b r =>
      have h1 := key a (b :: r)
      simp only [markTab]
      rw [List.find?_cons, List.find?_cons, List.find?_cons, begins_two, begins_two, begins_two]
      simp only [markLen]
      by_cases h : mark2 a b = true
      · rw [if_pos h]
        simp only [mark2, List.contains_eq_mem, List.mem_cons, Prod.mk.injEq, List.not_mem_nil, or_false, decide_eq_true_eq] at h
        rcases h with ⟨h2, h3⟩ | ⟨h2, h3⟩ | ⟨h2, h3⟩
        all_goals
          simp only [h2, h3, UInt8.reduceToNat]
          simp
        · exact ⟨UInt8.toNat.inj h2.symm, UInt8.toNat.inj h3.symm⟩
        · exact ⟨UInt8.toNat.inj h2.symm, UInt8.toNat.inj h3.symm⟩
        · exact ⟨UInt8.toNat.inj h2.symm, UInt8.toNat.inj h3.symm⟩
      · rw [if_neg h]
        simp only [mark2, List.contains_eq_mem, List.mem_cons, Prod.mk.injEq, List.not_mem_nil, or_false, decide_eq_true_eq, not_or] at h
        have n1 : decide (a.toNat = (60 : UInt8).toNat ∧ b.toNat = (61 : UInt8).toNat) = false := decide_eq_false h.1
        have n2 : decide (a.toNat = (62 : UInt8).toNat ∧ b.toNat = (61 : UInt8).toNat) = false := decide_eq_false h.2.1
        have n3 : decide (a.toNat = (60 : UInt8).toNat ∧ b.toNat = (62 : UInt8).toNat) = false := decide_eq_false h.2.2
        rw [n1, n2, n3]
        refine h1.trans ?_
        split <;> rfl

theorem markOf_any (s : ByteArray) (w : World) (tab : Marks w) :
    Calls Tryd.prog 36 #[.string s] w fun e w' => e = .returned (.string (str ((bts s).take (markLen (bts s))))) ∧ w = w' := by
  rw [← find_mark]
  have hidx : ∀ (k : Nat), k < 15 → ∀ w, (Instr.index 83 (.agg (markTab.map fun m => Value.string (str m)).toArray) (.int .i64 (k : Int))).run Tryd.prog w = .ok (.string (str (markTab.getD k []))) w := by
    intro k hk w
    rcases (show k = 0 ∨ k = 1 ∨ k = 2 ∨ k = 3 ∨ k = 4 ∨ k = 5 ∨ k = 6 ∨ k = 7 ∨ k = 8 ∨ k = 9 ∨ k = 10 ∨ k = 11 ∨ k = 12 ∨ k = 13 ∨ k = 14 by omega) with rfl | rfl | rfl | rfl | rfl | rfl | rfl | rfl | rfl | rfl | rfl | rfl | rfl | rfl | rfl <;> kernel_rfl
  obtain ⟨A, hA⟩ : ∃ A, A = (markTab.map fun m => Value.string (str m)) := ⟨_, rfl⟩
  have hl : A.length = 15 := by rw [hA]; rfl
  have tab' : w.rangeAt 0 0 A := by rw [hA]; exact tab
  rw [← hA] at hidx
  clear hA
  obtain ⟨N, hN⟩ : ∃ N, markTab.find? (begins (bts s)) = N := ⟨_, rfl⟩
  rw [hN]
  go_enter Tryd.func36, Tryd.ntmps36
  go_wp2_with (refine wpList_load_mid rfl _ _ rfl 0 0 rfl A _ tab' Tryd.underlying83 rfl (by rw [hl]; kernel_rfl) ?_)
  go_loopw [6] (fun x wr => ∃ k : Nat, k ≤ 15 ∧ x = .int .i64 (k : Int) ∧ wr = w ∧ Hid ((markTab.drop k).find? (begins (bts s)) = N)) (fun x _ => 15 - (intOf x).toNat)
  case atStart => exact ⟨0, by omega, rfl, rfl, hN⟩
  case round =>
    obtain ⟨k, hk, rfl, rfl, HR⟩ := hrel
    by_cases hlt : k < 15
    · have hlt2 : (k : Int) < 15 := by omega
      have hi := hidx k hlt
      have cP := HasPrefix_any s (str (markTab.getD k []))
      rw [bts_str] at cP
      have hd : markTab.drop k = markTab.getD k [] :: markTab.drop (k + 1) := by
        have : k < markTab.length := hlt
        rw [List.drop_eq_getElem_cons this, List.getD_eq_getElem?_getD, List.getElem?_eq_getElem this]
        rfl
      have R := HR.out
      rw [hd, List.find?_cons] at R
      obtain ⟨m, hm⟩ : ∃ m, markTab.getD k [] = m := ⟨_, rfl⟩
      rw [hm] at R hi cP
      clear hd hm hidx
      cases hp : begins (bts s) m <;> rw [hp] at R cP
      · have R2 : Hid ((markTab.drop (k + 1)).find? (begins (bts s)) = N) := R
        clear R
        go_wp2_with (go_at_call 28; refine (cP _).mono ?_; rintro e w' ⟨rfl, rfl⟩)
        go_roundw
        case rel => exact ⟨k + 1, by omega, by simp, by trivial, R2⟩
        case measure => simp [intOf]; omega
      · have R2 : Hid (some m = N) := R
        clear R
        go_wp2_with (go_at_call 28; refine (cP _).mono ?_; rintro e w' ⟨rfl, rfl⟩)
        go_ret
        rw [← R2.out]
        exact ⟨rfl, rfl⟩
    · have hk2 : k = 15 := by omega
      subst hk2
      have R : Hid (N = none) := HR.out.symm
      go_wp2
      go_ret
      rw [R.out]
      exact ⟨rfl, rfl⟩

set_option maxHeartbeats 1000000 in
theorem skip_any (s : ByteArray) (i : Nat) (hi : i ≤ s.size) (hs : s.size ≤ 9223372036854775806) (w : World) :
    Calls Tryd.prog 11 #[.string s, .int .i64 (i : Int)] w fun e w' => e = .returned (.int .i64 ((i + gap false ((bts s).drop i) : Nat) : Int)) ∧ w = w' := by
  obtain ⟨N, hN⟩ : ∃ N, i + gap false ((bts s).drop i) = N := ⟨_, rfl⟩
  rw [hN]
  have HL : Hid (s.size = (bts s).length) := size_bytes s
  have cB := fun k hk => readOn_any 27 (enters_of Tryd.func27 (by kernel_rfl) rfl) blank isBlank_says s k hk hs
  have cL := fun k hk => readOn_any 29 (enters_of Tryd.func29 (by kernel_rfl) rfl) noLine noLine_says s k hk hs
  obtain ⟨k0, hk0⟩ : ∃ k0, on blank (bts s) i = k0 := ⟨_, rfl⟩
  have c0 := cB i hi
  rw [hk0] at c0
  have hk1 : k0 ≤ s.size := by rw [← hk0, HL.out]; exact on_le _ _ _ (by rw [← HL.out]; exact hi)
  have R0 : Hid ((∀ hi : k0 < (bts s).length, blank (bts s)[k0] = false) ∧ k0 + gap false ((bts s).drop k0) = N) :=
    ⟨fun h => on_end _ _ _ _ hk0 h, by rw [← hk0, ← gap_skip _ _ (by rw [← HL.out]; exact hi)]; exact hN⟩
  clear hN hk0
  go_enter Tryd.func11, Tryd.ntmps11
  go_wp2_with (go_at_call 26; refine (c0 _).mono ?_; rintro e w' ⟨rfl, rfl⟩)
  go_loopw [1] (fun x wr => ∃ k : Nat, k ≤ s.size ∧ x = .int .i64 (k : Int) ∧ wr = w ∧ Hid ((∀ hi : k < (bts s).length, blank (bts s)[k] = false) ∧ k + gap false ((bts s).drop k) = N)) (fun x _ => s.size - (intOf x).toNat)
  case atStart => exact ⟨k0, hk1, rfl, rfl, R0⟩
  case round =>
    clear c0 R0
    obtain ⟨k, hk, rfl, rfl, HR⟩ := hrel
    have hk2 : (k : Int) ≤ (s.size : Int) := by omega
    have cP : ∀ w, Calls Tryd.prog 28 #[.string (s.extract k s.size), .string ⟨#[45, 45]⟩] w fun e w' => e = .returned (.bool (dashes (bts s) k)) ∧ w = w' := by
      intro w
      have c := HasPrefix_any (s.extract k s.size) ⟨#[45, 45]⟩ w
      rw [bytes_extract, HL.out, List.take_of_length_le (by simp)] at c
      rw [← HL.out] at c
      exact c
    cases hd : dashes (bts s) k <;> rw [hd] at cP
    · have R : Hid (N = k) := by
        show N = k
        rw [← HR.out.2, gap_none _ _ HR.out.1 hd]
        rfl
      clear hd
      go_wp2_with (go_at_call 28; refine (cP _).mono ?_; rintro e w' ⟨rfl, rfl⟩)
      go_ret
      rw [R.out]
      exact ⟨rfl, rfl⟩
    · have h3 := (dashes_iff _ _).1 hd
      obtain ⟨h4, h5, -⟩ := h3
      obtain ⟨j, hj⟩ : ∃ j, on noLine (bts s) k = j := ⟨_, rfl⟩
      have hj1 : j ≤ s.size := by rw [← hj, HL.out]; exact on_le _ _ _ (by rw [← HL.out]; exact hk)
      have hj2 : k < j := by
        rw [on_step _ _ _ (by omega) (by simp [noLine, h5])] at hj
        have := on_ge noLine (bts s) (k + 1)
        omega
      have c1 := cL k hk
      rw [hj] at c1
      obtain ⟨m, hm⟩ : ∃ m, on blank (bts s) j = m := ⟨_, rfl⟩
      have hm1 : m ≤ s.size := by rw [← hm, HL.out]; exact on_le _ _ _ (by rw [← HL.out]; exact hj1)
      have hm2 : j ≤ m := by rw [← hm]; exact on_ge _ _ _
      have c2 := cB j hj1
      rw [hm] at c2
      have R : Hid ((∀ hi : m < (bts s).length, blank (bts s)[m] = false) ∧ m + gap false ((bts s).drop m) = N) :=
        ⟨fun h => on_end _ _ _ _ hm h, by rw [← hm, ← gap_skip _ _ (by rw [← HL.out]; exact hj1), ← hj, ← gap_line _ _ (by rw [← HL.out]; exact hk), ← gap_dashes _ _ hd]; exact HR.out.2⟩
      clear hd h4 h5 hj hm HR cB cL
      go_wp2_with (first
        | (go_at_call 28; refine (cP _).mono ?_; rintro e w' ⟨rfl, rfl⟩)
        | (go_at_call 26; with_reducible refine (c1 _).mono ?_; rintro e w' ⟨rfl, rfl⟩)
        | (go_at_call 26; with_reducible refine (c2 _).mono ?_; rintro e w' ⟨rfl, rfl⟩))
      go_roundw
      case rel => exact ⟨m, hm1, rfl, by trivial, R⟩
      case measure => simp [intOf]; omega

end Go.Proofs.YtedinkoapieakaaDoor
