/- Package lex: a number of a source: the contract, at every argument. -/
import Derived.Test.YtjeniabnokcbnaaGreatDoorLexReadWord
import Derived.Test.YtjeniabnokcbnaaGreatDoorShelfParse
import Derived.Lib.AtoiErrMem
namespace Go.Proofs.YtjeniabnokcbnaaGreatDoor
open Go.ChangeShapes Go.WideShapes Go.ChangeAt Go.RowKit

/-- what strconv.ErrRange holds is an error -/
def ErrVar (w : World) : Prop := ∃ te pe, w.cell? ⟨4, 0, none⟩ = some (.iface te pe)

theorem ErrVar.later {w w' : World} (h : ErrVar w) (hb : Below w.heap.size w w') : ErrVar w' := by
  obtain ⟨te, pe, h⟩ := h
  exact ⟨te, pe, (hb.cell (World.block_lt_of_cell? _ _ h)).trans h⟩

theorem one_at_num (l : List UInt8) (i : Nat) (hi : i < l.length) (h : digit l[i] = true) :
    one (l.drop i) = if 9223372036854775807 < num ((l.drop i).take (on digit l i - i)) then .bad 10 else .tok ⟨2, num ((l.drop i).take (on digit l i - i)), []⟩ (on digit l i - i) := by
  have e : on digit l i - i = ((l.drop i).takeWhile digit).length := by unfold on; omega
  rw [e, drop_cons hi]
  simp only [one, letter_low_digit h, h, if_true, Bool.false_eq_true, if_false]

theorem digits_at (l : List UInt8) (i : Nat) (hi : i ≤ l.length) : ∀ c ∈ (l.drop i).take (on digit l i - i), digit c = true := by
  intro c hc
  obtain ⟨k, hk, rfl⟩ := List.getElem_of_mem hc
  rw [List.length_take, List.length_drop] at hk
  rw [List.getElem_take, List.getElem_drop]
  exact on_lt digit l i (i + k) (by omega) (by omega) (by omega)

theorem ParseInt_ok (s : ByteArray) (hs : s.size ≤ 281474976710656) (hne : bts s ≠ []) (hd : ∀ c ∈ bts s, digit c = true) (hn : ¬ 9223372036854775807 < num (bts s)) (w : World) :
    Calls Tryz.prog 40 #[.string s, .int .i64 10, .int .i64 64] w fun e w' => e = .returned (.tuple #[.int .i64 (num (bts s) : Int), .nilIface]) ∧ Below w.heap.size w w' := by
  have h := parseIntB_digits (bts s) hne hd
  rw [if_neg hn] at h
  refine (Any.strconv_ParseInt_10_at64_ok Tryz.l174 s (by omega) _ h w).mono fun e w' ⟨h1, h2⟩ => ⟨h1, ?_⟩
  rcases h2 with rfl | ⟨t, rfl⟩
  · exact Below.refl _ _
  · exact Lib.bytesWorld_below w _ t

theorem ParseInt_range (s : ByteArray) (hs : s.size ≤ 281474976710656) (hne : bts s ≠ []) (hd : ∀ c ∈ bts s, digit c = true) (hn : 9223372036854775807 < num (bts s)) (w : World) (he : ErrVar w) :
    Calls Tryz.prog 40 #[.string s, .int .i64 10, .int .i64 64] w fun e w' => ∃ x N, e = .returned (.tuple #[.int .i64 x, .iface 107 (.pointer (some ⟨N, 0, none⟩))]) ∧ Below w.heap.size w w' := by
  have h := parseIntB_digits (bts s) hne hd
  rw [if_pos hn] at h
  obtain ⟨te, pe, hc⟩ := he
  exact (Any.strconv_ParseInt_10_at64_range Tryz.l174 s hs h (.iface te pe) w hc (.inr ⟨te, pe, rfl⟩)).mono fun e w' ⟨N, h1, _, _, h2⟩ => ⟨_, N, h1, h2⟩

theorem readNumber_any (s : ByteArray) (i : Nat) (hi : i < s.size) (hs : s.size ≤ 281474976710656) (hw : digit s[i] = true) (w : World) (he : ErrVar w) :
    Calls Tryz.prog 25 #[.string s, .int .i64 (i : Int)] w fun e w' => e = .returned (ansv i (one ((bts s).drop i))) ∧ Below w.heap.size w w' := by
  have hi2 : i < (bts s).length := by rw [← size_bytes]; exact hi
  have hw : digit (bts s)[i] = true := (congrArg digit (byte_at s i hi hi2)).symm.trans hw
  rw [one_at_num _ _ hi2 hw]
  have cR := readOn_any 24 (enters_of Tryz.func24 (by kernel_rfl) rfl) digit isDigit_says s i (by omega) (by omega)
  have hle := on_le digit (bts s) i (by omega)
  have hge : i + 1 ≤ on digit (bts s) i := by rw [on_step _ _ _ hi2 hw]; exact on_ge _ _ _
  rw [← size_bytes] at hle
  have hb : ∀ o, Below w.heap.size w (w.alloc o) := fun o => (Below.refl _ w).alloc (Nat.le_refl _) o
  have hall := digits_at (bts s) i (by omega)
  have hz : (s.extract i (on digit (bts s) i)).size ≤ 281474976710656 := by
    rw [size_bytes, bytes_extract]
    simp
    omega
  have hne : bts (s.extract i (on digit (bts s) i)) ≠ [] := by
    rw [bytes_extract]
    intro h
    have := congrArg List.length h
    rw [List.length_take, List.length_drop] at this
    simp at this
    omega
  rw [← bytes_extract] at hall ⊢
  obtain ⟨N, hN⟩ : ∃ N, on digit (bts s) i = N := ⟨_, rfl⟩
  rw [hN] at cR hle hge hall hz hne ⊢
  clear hN hw hi2
  have hN1 : (N : Int) ≤ (s.size : Int) := by omega
  have hN2 : (i : Int) ≤ (N : Int) := by omega
  by_cases h1 : 9223372036854775807 < num (bts (s.extract i N))
  · rw [if_pos h1]
    have cS : Calls Tryz.prog 40 #[.string (s.extract i N), .int .i64 10, .int .i64 64] (w.alloc (.cells #[.int .i64 0, .int .i64 0, .string ⟨#[]⟩] 49)) _ := (ParseInt_range (s.extract i N) hz hne hall h1 (w.alloc (.cells #[.int .i64 0, .int .i64 0, .string ⟨#[]⟩] 49)) (he.later (hb _))).mono fun e W ⟨x, M, h2, h3⟩ => (⟨x, M, h2, tok_new w W h3⟩ : ∃ x M, e = Ending.returned (.tuple #[.int .i64 x, .iface 107 (.pointer (some ⟨M, 0, none⟩))]) ∧ _)
    clear h1 hall hz hne
    go_enter Tryz.func25, Tryz.ntmps25
    go_wp2_with (first
      | (go_at_call 17; refine (cR _).mono ?_; rintro e w' ⟨rfl, rfl⟩)
      | (go_at_call 40; refine cS.mono ?_; rintro e w' ⟨x, M, rfl, hb2, ⟨k0, f0⟩, ⟨k1, f1⟩, k2, f2⟩))
    have hr := stored3 k0 k1 k2 (.int .i64 0) (.int .i64 0) (.string ⟨#[]⟩)
    have hb3 := ((hb2.setCell (p := ⟨w.heap.size, 0, none⟩) (Nat.le_refl _) (.int .i64 0)).setCell (p := ⟨w.heap.size, 1, none⟩) (Nat.le_refl _) (.int .i64 0)).setCell (p := ⟨w.heap.size, 2, none⟩) (Nat.le_refl _) (.string ⟨#[]⟩)
    generalize (((w'.setCell ⟨w.heap.size, 0, none⟩ (.int .i64 0)).setCell ⟨w.heap.size, 1, none⟩ (.int .i64 0)).setCell ⟨w.heap.size, 2, none⟩ (.string ⟨#[]⟩)) = W3 at hr hb3 ⊢
    have c0 := hr 0 _ rfl
    have c1 := hr 1 _ rfl
    have c2 := hr 2 _ rfl
    simp only [Nat.zero_add] at c0 c1 c2
    refine bodyPost_ret (v := ansv i (.bad 10)) (by simp [results, Tryz.results25, go_sem, asAddr, c0, c1, c2, ansv, tokv, zeroTok, str]) rfl ⟨rfl, hb3⟩
  · rw [if_neg h1]
    have cS : Calls Tryz.prog 40 #[.string (s.extract i N), .int .i64 10, .int .i64 64] (w.alloc (.cells #[.int .i64 0, .int .i64 0, .string ⟨#[]⟩] 49)) _ := (ParseInt_ok (s.extract i N) hz hne hall h1 (w.alloc (.cells #[.int .i64 0, .int .i64 0, .string ⟨#[]⟩] 49))).mono fun e W h => And.intro h.1 (tok_new w W h.2)
    have hN3 : ((i + (N - i) : Nat) : Int) = (N : Int) := by omega
    clear h1 hall hz hne
    generalize num (bts (s.extract i N)) = u at cS ⊢
    have HA : Hid (ansv i (.tok ⟨2, (u : Int), []⟩ (N - i)) = .tuple #[.agg #[.int .i64 2, .int .i64 (u : Int), .string ⟨#[]⟩], .int .i64 (N : Int), .int .i64 0]) := by
      show Value.tuple #[tokv ⟨2, (u : Int), []⟩, .int .i64 ((i + (N - i) : Nat) : Int), .int .i64 0] = _
      rw [hN3]
      rfl
    clear hN3
    go_enter Tryz.func25, Tryz.ntmps25
    go_wp2_with (first
      | (go_at_call 17; refine (cR _).mono ?_; rintro e w' ⟨rfl, rfl⟩)
      | (go_at_call 40; refine cS.mono ?_; rintro e w' ⟨rfl, hb2, ⟨k0, f0⟩, ⟨k1, f1⟩, k2, f2⟩))
    have hr := stored3 k0 k1 k2 (.int .i64 2) (.int .i64 (u : Int)) (.string ⟨#[]⟩)
    have hb3 := ((hb2.setCell (p := ⟨w.heap.size, 0, none⟩) (Nat.le_refl _) (.int .i64 2)).setCell (p := ⟨w.heap.size, 1, none⟩) (Nat.le_refl _) (.int .i64 (u : Int))).setCell (p := ⟨w.heap.size, 2, none⟩) (Nat.le_refl _) (.string ⟨#[]⟩)
    generalize (((w'.setCell ⟨w.heap.size, 0, none⟩ (.int .i64 2)).setCell ⟨w.heap.size, 1, none⟩ (.int .i64 (u : Int))).setCell ⟨w.heap.size, 2, none⟩ (.string ⟨#[]⟩)) = W3 at hr hb3 ⊢
    have c0 := hr 0 _ rfl
    have c1 := hr 1 _ rfl
    have c2 := hr 2 _ rfl
    simp only [Nat.zero_add] at c0 c1 c2
    refine bodyPost_ret (v := .tuple #[.agg #[.int .i64 2, .int .i64 (u : Int), .string ⟨#[]⟩], .int .i64 (N : Int), .int .i64 0]) (by simp [results, Tryz.results25, go_sem, asAddr, c0, c1, c2]) rfl ?_
    rw [HA.out]
    exact ⟨rfl, hb3⟩

end Go.Proofs.YtjeniabnokcbnaaGreatDoor
