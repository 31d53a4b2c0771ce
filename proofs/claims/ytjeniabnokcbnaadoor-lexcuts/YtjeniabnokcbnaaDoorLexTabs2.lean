/- All tables that lex.Cut reads, out of what a row lists. -/
import Derived.Test.YtjeniabnokcbnaaDoorLexTabs
import Derived.Test.YtjeniabnokcbnaaDoorLexCut
namespace Go.Proofs.YtjeniabnokcbnaaDoor
open Go.ChangeShapes Go.WideShapes Go.ChangeAt Go.RowKit

set_option maxRecDepth 100000 in
theorem errVar_of_reads {w : World} (h : Lib.VarReads Tryd.prog w "strconv.ErrRange" Rows.laid_strconv_ErrRange) : ErrVar w := by
  obtain ⟨g, t, cs, fuel, p, hg, hty, hvar, hd⟩ := h
  have hat : Tryd.prog.globalNamed "strconv.ErrRange" = some 4 := by kernel_rfl
  obtain rfl := Option.some.inj (hat.symm.trans hg)
  have ht : t = 78 := by
    have : (Tryd.prog.globals[4]?).map (·.type) = some 78 := by kernel_rfl
    exact Option.some.inj (hty.symm.trans this)
  subst ht
  cases fuel with
  | zero => simp [DataW.trod] at hd
  | succ fuel =>
    unfold DataW.trod at hd
    rw [Tryd.underlying78] at hd
    unfold Rows.laid_strconv_ErrRange at hd
    have hc := World.var?_cell hg hvar 0
    rw [← Array.getElem?_toList] at hc
    match hcs : cs.toList, hd with
    | [.nilIface], hd => simp at hd
    | [.iface u v], hd =>
      rw [hcs] at hc
      exact ⟨u, v, hc⟩

theorem lexTabs_of {l : List (String × DataW Unit)} {W : World} (h : laidMet Tryd.prog l W) (h1 : ("commonhold/lex.marks", Rows.laid_commonhold_lex_marks) ∈ l) (h2 : ("unicode/utf8.first", Rows.laid_unicode_utf8_first) ∈ l)
    (h3 : ("unicode/utf8.acceptRanges", Rows.laid_unicode_utf8_acceptRanges) ∈ l) (h4 : ("strconv.ErrRange", Rows.laid_strconv_ErrRange) ∈ l) : LexTabs W :=
  ⟨marks_of_reads (Lib.laidMet.reads h h1), u8_of_reads (Lib.laidMet.reads h h2) (Lib.laidMet.reads h h3), errVar_of_reads (Lib.laidMet.reads h h4)⟩

end Go.Proofs.YtjeniabnokcbnaaDoor
