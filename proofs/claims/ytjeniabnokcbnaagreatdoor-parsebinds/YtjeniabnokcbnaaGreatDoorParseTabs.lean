/- The tables that package lex reads, out of what a row lists. -/
import Derived.Test.YtjeniabnokcbnaaGreatDoorRows
import Derived.Test.YtjeniabnokcbnaaGreatDoorLexWord
import Derived.Lib.LaidU8T
import Derived.MakeChecks
import Derived.Test.YtjeniabnokcbnaaGreatDoorLexCut
import Derived.Test.YtjeniabnokcbnaaGreatDoorParseOn
namespace Go.Proofs.YtjeniabnokcbnaaGreatDoor
open Go.ChangeShapes Go.WideShapes Go.ChangeAt Go.RowKit

theorem Tryz.marksAt : Tryz.prog.globalNamed "commonhold/lex.marks" = some 0 := by kernel_rfl

/-- an array of strings that reads as these holds them, cell for cell -/
theorem cells_of_strs {H : Type} {enc : TypeId × Value → H} {w : World} {base fuel n : Nat} {sp : Nat → Bool} {held : Bool} {t : TypeId} {cs : List Value} {ls : List (List UInt8)} {p : List MemPlace} (ht : Tryz.prog.underlying t = some (.array n 9)) (hn : ls.length = n)
    (h : DataW.trod enc Tryz.prog w base sp held fuel t cs = some (.agg (ls.map fun l => .lit (.string l)), p)) (j : Nat) (v : Value) (hv : (ls.map fun m => Value.string (str m))[j]? = some v) : cs[j]? = some v := by
  have hj : j < ls.length := by
    have := (List.getElem?_eq_some_iff.1 hv).1
    simpa using this
  obtain ⟨fuel', d, q, hd, he⟩ := Lib.array_elem ht h j (by omega)
  obtain ⟨s, h1, h2, _⟩ := DataW.trod_string Tryz.underlying9 he
  have hc : Tryz.prog.cellsOf 9 = 1 := by kernel_rfl
  rw [hc, Nat.mul_one] at h1
  simp only [Prod.mk.injEq] at h2
  rw [h2.1] at hd
  simp only [List.getElem?_map, List.getElem?_eq_getElem hj, Option.map_some, Option.some.injEq, DataW.lit.injEq, Lit.string.injEq] at hd hv
  have hs : s = str ls[j] := by rw [hd]; exact (str_bts s).symm
  rw [← hv, ← hs]
  have := congrArg (·[0]?) h1
  simpa using this

theorem marks_of_reads {w : World} (h : Lib.VarReads Tryz.prog w "commonhold/lex.marks" Rows.laid_commonhold_lex_marks) : Marks w := by
  obtain ⟨g, t, cs, fuel, p, hg, hty, hvar, hd⟩ := h
  obtain rfl := Option.some.inj (Tryz.marksAt.symm.trans hg)
  have ht : t = 70 := by
    have : (Tryz.prog.globals[0]?).map (·.type) = some 70 := by kernel_rfl
    exact Option.some.inj (hty.symm.trans this)
  subst ht
  intro j v hv
  rw [Nat.zero_add, World.var?_cell hg hvar j, ← Array.getElem?_toList]
  exact cells_of_strs (ls := markTab) Tryz.underlying70 rfl hd j v hv

theorem u8_of_reads {w : World} (h3 : Lib.VarReads Tryz.prog w "unicode/utf8.first" Rows.laid_unicode_utf8_first) (h4 : Lib.VarReads Tryz.prog w "unicode/utf8.acceptRanges" Rows.laid_unicode_utf8_acceptRanges) : U8 w := by
  have e3 : (Rows.laid_unicode_utf8_first : DataW Unit) = Lib.firstData := by kernel_rfl
  have e4 : (Rows.laid_unicode_utf8_acceptRanges : DataW Unit) = Lib.acceptData := by kernel_rfl
  rw [e3] at h3
  rw [e4] at h4
  exact utf8Tabs_of_readsT (U8Types.of196 Tryz.l196) ⟨by kernel_rfl, by kernel_rfl, by kernel_rfl, by kernel_rfl, by kernel_rfl, by kernel_rfl, by kernel_rfl⟩ h3 h4

/-- what lex.May reads -/
def MayTabs (w : World) : Prop := Marks w ∧ U8 w

theorem MayTabs.later {w w' : World} (h : MayTabs w) (hb : Below w.heap.size w w') : MayTabs w' := ⟨h.1.later hb, h.2.later hb⟩

theorem mayTabs_of {l : List (String × DataW Unit)} {W : World} (h : laidMet Tryz.prog l W) (h1 : ("commonhold/lex.marks", Rows.laid_commonhold_lex_marks) ∈ l) (h2 : ("unicode/utf8.first", Rows.laid_unicode_utf8_first) ∈ l)
    (h3 : ("unicode/utf8.acceptRanges", Rows.laid_unicode_utf8_acceptRanges) ∈ l) : MayTabs W :=
  ⟨marks_of_reads (Lib.laidMet.reads h h1), u8_of_reads (Lib.laidMet.reads h h2) (Lib.laidMet.reads h h3)⟩

end Go.Proofs.YtjeniabnokcbnaaGreatDoor

/- All tables that lex.Cut reads, out of what a row lists. -/
namespace Go.Proofs.YtjeniabnokcbnaaGreatDoor
open Go.ChangeShapes Go.WideShapes Go.ChangeAt Go.RowKit

set_option maxRecDepth 100000 in
theorem errVar_of_reads {w : World} (h : Lib.VarReads Tryz.prog w "strconv.ErrRange" Rows.laid_strconv_ErrRange) : ErrVar w := by
  obtain ⟨g, t, cs, fuel, p, hg, hty, hvar, hd⟩ := h
  have hat : Tryz.prog.globalNamed "strconv.ErrRange" = some 4 := by kernel_rfl
  obtain rfl := Option.some.inj (hat.symm.trans hg)
  have ht : t = 65 := by
    have : (Tryz.prog.globals[4]?).map (·.type) = some 65 := by kernel_rfl
    exact Option.some.inj (hty.symm.trans this)
  subst ht
  cases fuel with
  | zero => simp [DataW.trod] at hd
  | succ fuel =>
    unfold DataW.trod at hd
    rw [Tryz.underlying65] at hd
    unfold Rows.laid_strconv_ErrRange at hd
    have hc := World.var?_cell hg hvar 0
    rw [← Array.getElem?_toList] at hc
    match hcs : cs.toList, hd with
    | [.nilIface], hd => simp at hd
    | [.iface u v], hd =>
      rw [hcs] at hc
      exact ⟨u, v, hc⟩

theorem lexTabs_of {l : List (String × DataW Unit)} {W : World} (h : laidMet Tryz.prog l W) (h1 : ("commonhold/lex.marks", Rows.laid_commonhold_lex_marks) ∈ l) (h2 : ("unicode/utf8.first", Rows.laid_unicode_utf8_first) ∈ l)
    (h3 : ("unicode/utf8.acceptRanges", Rows.laid_unicode_utf8_acceptRanges) ∈ l) (h4 : ("strconv.ErrRange", Rows.laid_strconv_ErrRange) ∈ l) : LexTabs W :=
  ⟨marks_of_reads (Lib.laidMet.reads h h1), u8_of_reads (Lib.laidMet.reads h h2) (Lib.laidMet.reads h h3), errVar_of_reads (Lib.laidMet.reads h h4)⟩

end Go.Proofs.YtjeniabnokcbnaaGreatDoor

/- The tables that package parse and package lex read, out of what a row lists. -/
namespace Go.Proofs.YtjeniabnokcbnaaGreatDoor
open Go.ChangeShapes Go.WideShapes Go.ChangeAt Go.RowKit

set_option maxRecDepth 100000 in
theorem opers_of_reads {w : World} (h : Lib.VarReads Tryz.prog w "commonhold/parse.operators" Rows.laid_commonhold_parse_operators) : Opers w := by
  obtain ⟨g, t, cs, fuel, p, hg, hty, hvar, hd⟩ := h
  have hat : Tryz.prog.globalNamed "commonhold/parse.operators" = some 5 := by kernel_rfl
  obtain rfl := Option.some.inj (hat.symm.trans hg)
  have ht : t = 119 := by
    have : (Tryz.prog.globals[5]?).map (·.type) = some 119 := by kernel_rfl
    exact Option.some.inj (hty.symm.trans this)
  subst ht
  have e : (Rows.laid_commonhold_parse_operators : DataW Unit) = .agg (opList.map fun p => .agg [.lit (.string p.1), .lit (.int .i64 p.2)]) := by kernel_rfl
  rw [e] at hd
  have h2 : Tryz.prog.cellsOf 118 = 2 := by kernel_rfl
  have hs1 : Tryz.prog.cellsOf 9 = 1 := by kernel_rfl
  have hi1 : Tryz.prog.cellsOf 3 = 1 := by kernel_rfl
  have key : ∀ i (hi : i < opList.length), cs.toList[i * 2]? = some (.string (str (opList[i]).1)) ∧ cs.toList[i * 2 + 1]? = some (.int .i64 (opList[i]).2) := by
    intro i hi
    obtain ⟨fuel', d, q, hd', he⟩ := Lib.array_elem Tryz.underlying119 hd i hi
    rw [h2] at he
    obtain ⟨y0, y1, m, hx, hl, hy0, hy1⟩ := trod_struct2 Tryz.underlying118 he
    simp only [hs1, hi1] at hy0 hy1
    obtain ⟨s, g1, g2, _⟩ := DataW.trod_string Tryz.underlying9 hy0
    obtain ⟨n, g3, g4, _⟩ := DataW.trod_int Tryz.underlying3 hy1
    rw [List.getElem?_map, List.getElem?_eq_getElem hi, Option.map_some, Option.some.injEq] at hd'
    subst g2 g4
    simp only [Prod.mk.injEq, ← hd', DataW.agg.injEq, List.cons.injEq, DataW.lit.injEq, Lit.string.injEq, Lit.int.injEq, and_true, true_and] at hx
    have z0 := congrArg (·[0]?) g1
    have z1 := congrArg (·[0]?) g3
    simp at z0 z1
    rw [hx.1.1, hx.1.2, Array.getElem?_toList, Array.getElem?_toList, z0, z1]
    exact ⟨by rw [show str s.data.toList = s from str_bts s], rfl⟩
  intro j v hv
  rw [Nat.zero_add, World.var?_cell hg hvar j, ← Array.getElem?_toList]
  match j, hv with
  | 0, hv => cases hv; exact (key 0 (by decide)).1
  | 1, hv => cases hv; exact (key 0 (by decide)).2
  | 2, hv => cases hv; exact (key 1 (by decide)).1
  | 3, hv => cases hv; exact (key 1 (by decide)).2
  | 4, hv => cases hv; exact (key 2 (by decide)).1
  | 5, hv => cases hv; exact (key 2 (by decide)).2
  | 6, hv => cases hv; exact (key 3 (by decide)).1
  | 7, hv => cases hv; exact (key 3 (by decide)).2
  | 8, hv => cases hv; exact (key 4 (by decide)).1
  | 9, hv => cases hv; exact (key 4 (by decide)).2
  | 10, hv => cases hv; exact (key 5 (by decide)).1
  | 11, hv => cases hv; exact (key 5 (by decide)).2
  | 12, hv => cases hv; exact (key 6 (by decide)).1
  | 13, hv => cases hv; exact (key 6 (by decide)).2
  | 14, hv => cases hv; exact (key 7 (by decide)).1
  | 15, hv => cases hv; exact (key 7 (by decide)).2
  | 16, hv => cases hv; exact (key 8 (by decide)).1
  | 17, hv => cases hv; exact (key 8 (by decide)).2
  | 18, hv => cases hv; exact (key 9 (by decide)).1
  | 19, hv => cases hv; exact (key 9 (by decide)).2
  | 20, hv => cases hv; exact (key 10 (by decide)).1
  | 21, hv => cases hv; exact (key 10 (by decide)).2
  | 22, hv => cases hv; exact (key 11 (by decide)).1
  | 23, hv => cases hv; exact (key 11 (by decide)).2
  | 24, hv => cases hv; exact (key 12 (by decide)).1
  | 25, hv => cases hv; exact (key 12 (by decide)).2

/-- what the statements of stage 7 read -/
structure ParseTabs (w : World) : Prop where
  lex : LexTabs w
  op : Opers w

theorem ParseTabs.later {w w' : World} (h : ParseTabs w) (hb : Below w.heap.size w w') : ParseTabs w' := ⟨h.lex.later hb, h.op.later hb⟩



theorem parseBinds_tabs {W : World} (h : laidMetH Tryz.prog Rows.parseBindsRow.laid W) : ParseTabs W := by
  rw [MakeChecks.laidMetH_plain _ _ _ (by kernel_rfl)] at h
  exact ⟨lexTabs_of h (.tail _ (.tail _ (.tail _ (.tail _ (.tail _ (.tail _ (.head _))))))) (.tail _ (.tail _ (.tail _ (.tail _ (.tail _ (.tail _ (.tail _ (.tail _ (.head _))))))))) (.tail _ (.tail _ (.tail _ (.head _)))) (.tail _ (.tail _ (.tail _ (.tail _ (.head _))))), opers_of_reads (Lib.laidMet.reads h (.tail _ (.tail _ (.tail _ (.tail _ (.tail _ (.tail _ (.tail _ (.head _)))))))))⟩


end Go.Proofs.YtjeniabnokcbnaaGreatDoor
