/- The tables that package lex reads, out of what a row lists. -/
import Derived.Test.YtedinkoapieakaaDoorRows
import Derived.Test.YtedinkoapieakaaDoorLexWord
import Derived.Lib.LaidU8T
import Derived.MakeChecks
namespace Go.Proofs.YtedinkoapieakaaDoor
open Go.ChangeShapes Go.WideShapes Go.ChangeAt Go.RowKit

theorem Tryd.marksAt : Tryd.prog.globalNamed "commonhold/lex.marks" = some 0 := by kernel_rfl

/-- an array of strings that reads as these holds them, cell for cell -/
theorem cells_of_strs {H : Type} {enc : TypeId × Value → H} {w : World} {base fuel n : Nat} {sp : Nat → Bool} {held : Bool} {t : TypeId} {cs : List Value} {ls : List (List UInt8)} {p : List MemPlace} (ht : Tryd.prog.underlying t = some (.array n 9)) (hn : ls.length = n)
    (h : DataW.trod enc Tryd.prog w base sp held fuel t cs = some (.agg (ls.map fun l => .lit (.string l)), p)) (j : Nat) (v : Value) (hv : (ls.map fun m => Value.string (str m))[j]? = some v) : cs[j]? = some v := by
  have hj : j < ls.length := by
    have := (List.getElem?_eq_some_iff.1 hv).1
    simpa using this
  obtain ⟨fuel', d, q, hd, he⟩ := Lib.array_elem ht h j (by omega)
  obtain ⟨s, h1, h2, _⟩ := DataW.trod_string Tryd.underlying9 he
  have hc : Tryd.prog.cellsOf 9 = 1 := by kernel_rfl
  rw [hc, Nat.mul_one] at h1
  simp only [Prod.mk.injEq] at h2
  rw [h2.1] at hd
  simp only [List.getElem?_map, List.getElem?_eq_getElem hj, Option.map_some, Option.some.injEq, DataW.lit.injEq, Lit.string.injEq] at hd hv
  have hs : s = str ls[j] := by rw [hd]; exact (str_bts s).symm
  rw [← hv, ← hs]
  have := congrArg (·[0]?) h1
  simpa using this

theorem marks_of_reads {w : World} (h : Lib.VarReads Tryd.prog w "commonhold/lex.marks" Rows.laid_commonhold_lex_marks) : Marks w := by
  obtain ⟨g, t, cs, fuel, p, hg, hty, hvar, hd⟩ := h
  obtain rfl := Option.some.inj (Tryd.marksAt.symm.trans hg)
  have ht : t = 83 := by
    have : (Tryd.prog.globals[0]?).map (·.type) = some 83 := by kernel_rfl
    exact Option.some.inj (hty.symm.trans this)
  subst ht
  intro j v hv
  rw [Nat.zero_add, World.var?_cell hg hvar j, ← Array.getElem?_toList]
  exact cells_of_strs (ls := markTab) Tryd.underlying83 rfl hd j v hv

theorem u8_of_reads {w : World} (h3 : Lib.VarReads Tryd.prog w "unicode/utf8.first" Rows.laid_unicode_utf8_first) (h4 : Lib.VarReads Tryd.prog w "unicode/utf8.acceptRanges" Rows.laid_unicode_utf8_acceptRanges) : U8 w := by
  have e3 : (Rows.laid_unicode_utf8_first : DataW Unit) = Lib.firstData := by kernel_rfl
  have e4 : (Rows.laid_unicode_utf8_acceptRanges : DataW Unit) = Lib.acceptData := by kernel_rfl
  rw [e3] at h3
  rw [e4] at h4
  exact utf8Tabs_of_readsT (U8Types.of196 Tryd.l196) ⟨by kernel_rfl, by kernel_rfl, by kernel_rfl, by kernel_rfl, by kernel_rfl, by kernel_rfl, by kernel_rfl⟩ h3 h4

/-- what lex.May reads -/
def MayTabs (w : World) : Prop := Marks w ∧ U8 w

theorem MayTabs.later {w w' : World} (h : MayTabs w) (hb : Below w.heap.size w w') : MayTabs w' := ⟨h.1.later hb, h.2.later hb⟩

theorem mayTabs_of {l : List (String × DataW Unit)} {W : World} (h : laidMet Tryd.prog l W) (h1 : ("commonhold/lex.marks", Rows.laid_commonhold_lex_marks) ∈ l) (h2 : ("unicode/utf8.first", Rows.laid_unicode_utf8_first) ∈ l)
    (h3 : ("unicode/utf8.acceptRanges", Rows.laid_unicode_utf8_acceptRanges) ∈ l) : MayTabs W :=
  ⟨marks_of_reads (Lib.laidMet.reads h h1), u8_of_reads (Lib.laidMet.reads h h2) (Lib.laidMet.reads h h3)⟩

end Go.Proofs.YtedinkoapieakaaDoor
