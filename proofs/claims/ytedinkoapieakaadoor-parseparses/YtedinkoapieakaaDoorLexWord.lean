/- Package lex: whether a text may be a word's, whether it is UTF-8: contracts, at every argument. -/
import Derived.Test.YtedinkoapieakaaDoorLexSkip
import Derived.Test.YtedinkoapieakaaDoorLexValid
import Derived.Test.YtedinkoapieakaaDoorShelfValid
import Derived.Deep.RegionWith
import Derived.Deep.QuietTactic
import Derived.BigQuiet
namespace Go.Proofs.YtedinkoapieakaaDoor
open Go.ChangeShapes Go.WideShapes Go.ChangeAt Go.RowKit

theorem empty_iff (s : ByteArray) : s.size = 0 ↔ bts s = [] := by
  rw [size_bytes, List.length_eq_zero_iff]

theorem all_on (p : UInt8 → Bool) (l : List UInt8) : decide (on p l 0 = l.length) = l.all p := by
  rw [Bool.eq_iff_iff, decide_eq_true_eq, List.all_eq_true]
  constructor
  · intro h c hc
    obtain ⟨k, hk, rfl⟩ := List.getElem_of_mem hc
    exact on_lt p l 0 k (Nat.zero_le _) (by omega) hk
  · intro h
    have h1 := on_le p l 0 (Nat.zero_le _)
    apply Nat.le_antisymm h1
    apply Decidable.byContradiction
    intro h2
    have h3 := on_end p l 0 _ rfl (by omega)
    rw [h _ (List.getElem_mem _)] at h3
    cases h3

theorem isWord_any (s : ByteArray) (w : World) :
    Calls Tryd.prog 41 #[.string s] w fun e w' => e = .returned (.bool (isWord (bts s))) ∧ w = w' := by
  have hs := size_bytes s
  by_cases h0 : s.size = 0
  · have R : Hid (isWord (bts s) = false) := by rw [(empty_iff s).1 h0]; rfl
    have e0 : s.toList = [] := by rw [bytes_to_list]; exact (empty_iff s).1 h0
    clear hs
    go_enter Tryd.func41, Tryd.ntmps41
    go_wp2
    go_ret
    rw [R.out]
    exact ⟨rfl, rfl⟩
  · have e0 : ¬ s.toList = [] := by rw [bytes_to_list]; exact fun h => h0 ((empty_iff s).2 h)
    have e1 : s.toList.isEmpty = false := by cases hx : s.toList <;> simp_all
    by_cases h1 : 12 < s.size
    · have R : Hid (isWord (bts s) = false) := by
        show isWord (bts s) = false
        unfold isWord
        rw [decide_eq_false (show ¬ (bts s).length ≤ 12 by omega)]
        simp
      have h2 : (12 : Int) < (s.size : Int) := by omega
      clear hs
      go_enter Tryd.func41, Tryd.ntmps41
      go_wp2
      go_ret
      rw [R.out]
      exact ⟨rfl, rfl⟩
    · have h2 : ¬ (12 : Int) < (s.size : Int) := by omega
      have hlt : 0 < s.size := by omega
      have hlt3 : (0 : Int) < (s.size : Int) := by omega
      have hlt2 : 0 < (bts s).length := by omega
      have cD := isDigit_says (s[0]'hlt)
      have eD : s[0]'hlt = (bts s).getD 0 0 := by rw [byte_at s 0 hlt hlt2, List.getD_eq_getElem?_getD, List.getElem?_eq_getElem hlt2]; rfl
      have HW : isWord (bts s) = ((bts s).all wordly && !digit ((bts s).getD 0 0)) := by
        unfold isWord
        rw [decide_eq_true (show 1 ≤ (bts s).length by omega), decide_eq_true (show (bts s).length ≤ 12 by omega)]
        simp
      rw [← eD] at HW
      cases hd : digit (s[0]'hlt) <;> rw [hd] at cD HW
      · have cR := readOn_any 64 (enters_of Tryd.func64 (by kernel_rfl) rfl) wordly wordly_says s 0 (Nat.zero_le _) (by omega)
        have R : Hid (decide (((on wordly (bts s) 0 : Nat) : Int) = (s.size : Int)) = isWord (bts s)) := by
          show _ = _
          rw [HW, Bool.not_false, Bool.and_true, ← all_on, hs]
          exact decide_eq_decide.2 Int.ofNat_inj
        generalize on wordly (bts s) 0 = N at cR R
        clear hs HW eD
        go_enter Tryd.func41, Tryd.ntmps41
        go_wp2_with (first
          | (go_at_call 33; refine (cD _).mono ?_; rintro e w' ⟨rfl, rfl⟩)
          | (go_at_call 26; refine (cR _).mono ?_; rintro e w' ⟨rfl, rfl⟩))
        go_ret
        rw [← R.out]
        exact ⟨rfl, rfl⟩
      · have R : Hid (isWord (bts s) = false) := by
          show _ = _
          rw [HW, Bool.not_true, Bool.and_false]
        clear hs HW eD
        go_enter Tryd.func41, Tryd.ntmps41
        go_wp2_with (go_at_call 33; refine (cD _).mono ?_; rintro e w' ⟨rfl, rfl⟩)
        go_ret
        rw [R.out]
        exact ⟨rfl, rfl⟩

theorem drewN_below {B : Nat} {a w : World} (h : Below B a w) (q : Nat) : Below B a (w.drewN q) := ⟨h.os, h.tape, h.output, h.size, h.block⟩

/-- the two tables of package utf8 -/
def U8 (w : World) : Prop := Lib.Utf8Tabs (Tryd.l196_ren.g 3) (Tryd.l196_ren.g 4) w

theorem U8.later {w w' : World} (h : U8 w) (hb : Below w.heap.size w w') : U8 w' :=
  ⟨fun c hc => (hb.cell (World.block_lt_of_cell? _ _ (h.1 c hc))).trans (h.1 c hc), fun i hi => ⟨(hb.cell (World.block_lt_of_cell? _ _ (h.2 i hi).1)).trans (h.2 i hi).1, (hb.cell (World.block_lt_of_cell? _ _ (h.2 i hi).2)).trans (h.2 i hi).2⟩⟩

theorem ValidString_any (s : ByteArray) (hs : s.size ≤ 9223372036854775806) (w : World) (hT : U8 w) :
    Calls Tryd.prog 42 #[.string s] w fun e w' => e = .returned (.bool (signs (bts s))) ∧ Below w.heap.size w w' := by
  have := Any.utf8_ValidString Tryd.l196 s w (by omega) hT
  rw [validD_signs] at this
  exact this

/-- a token, as a value -/
def tokv (t : Tok) : Value := .agg #[.int .i64 t.kind, .int .i64 t.int, .string (str t.text)]

theorem str_bts (s : ByteArray) : str (bts s) = s := str_bytes s

theorem str_size (l : List UInt8) : (str l).size = l.length := by rw [size_bytes, bts_str]

end Go.Proofs.YtedinkoapieakaaDoor
