/- The tables that package parse and lex.May read, out of what a row lists (where lex.Cut is not reached). -/
import Derived.Test.YtedinkoapieakaaDoorLexTabs
import Derived.Test.YtedinkoapieakaaDoorParseOn
namespace Go.Proofs.YtedinkoapieakaaDoor
open Go.ChangeShapes Go.WideShapes Go.ChangeAt Go.RowKit

set_option maxRecDepth 100000 in
theorem opers_of_reads {w : World} (h : Lib.VarReads Tryd.prog w "commonhold/parse.operators" Rows.laid_commonhold_parse_operators) : Opers w := by
  obtain ⟨g, t, cs, fuel, p, hg, hty, hvar, hd⟩ := h
  have hat : Tryd.prog.globalNamed "commonhold/parse.operators" = some 5 := by kernel_rfl
  obtain rfl := Option.some.inj (hat.symm.trans hg)
  have ht : t = 125 := by
    have : (Tryd.prog.globals[5]?).map (·.type) = some 125 := by kernel_rfl
    exact Option.some.inj (hty.symm.trans this)
  subst ht
  have e : (Rows.laid_commonhold_parse_operators : DataW Unit) = .agg (opList.map fun p => .agg [.lit (.string p.1), .lit (.int .i64 p.2)]) := by kernel_rfl
  rw [e] at hd
  have h2 : Tryd.prog.cellsOf 124 = 2 := by kernel_rfl
  have hs1 : Tryd.prog.cellsOf 9 = 1 := by kernel_rfl
  have hi1 : Tryd.prog.cellsOf 3 = 1 := by kernel_rfl
  have key : ∀ i (hi : i < opList.length), cs.toList[i * 2]? = some (.string (str (opList[i]).1)) ∧ cs.toList[i * 2 + 1]? = some (.int .i64 (opList[i]).2) := by
    intro i hi
    obtain ⟨fuel', d, q, hd', he⟩ := Lib.array_elem Tryd.underlying125 hd i hi
    rw [h2] at he
    obtain ⟨y0, y1, m, hx, hl, hy0, hy1⟩ := trod_struct2 Tryd.underlying124 he
    simp only [hs1, hi1] at hy0 hy1
    obtain ⟨s, g1, g2, _⟩ := DataW.trod_string Tryd.underlying9 hy0
    obtain ⟨n, g3, g4, _⟩ := DataW.trod_int Tryd.underlying3 hy1
    rw [List.getElem?_map, List.getElem?_eq_getElem hi, Option.map_some, Option.some.injEq] at hd'
    subst g2 g4
    simp only [Prod.mk.injEq, ← hd', DataW.agg.injEq, List.cons.injEq, DataW.lit.injEq, Lit.string.injEq, Lit.int.injEq, and_true, true_and] at hx
    have z0 := congrArg (·[0]?) g1
    have z1 := congrArg (·[0]?) g3
    simp at z0 z1
    rw [hx.1.1, hx.1.2, Array.getElem?_toList, Array.getElem?_toList, z0, z1]
    exact ⟨by rw [show str s.data.toList = s from str_bts s], rfl⟩
  intro j v hv
  rw [Nat.zero_add, World.var?_cell hg hvar j, ← Array.getElem?_toList]
  match j, hv with
  | 0, hv => cases hv; exact (key 0 (by decide)).1
  | 1, hv => cases hv; exact (key 0 (by decide)).2
  | 2, hv => cases hv; exact (key 1 (by decide)).1
  | 3, hv => cases hv; exact (key 1 (by decide)).2
  | 4, hv => cases hv; exact (key 2 (by decide)).1
  | 5, hv => cases hv; exact (key 2 (by decide)).2
  | 6, hv => cases hv; exact (key 3 (by decide)).1
  | 7, hv => cases hv; exact (key 3 (by decide)).2
  | 8, hv => cases hv; exact (key 4 (by decide)).1
  | 9, hv => cases hv; exact (key 4 (by decide)).2
  | 10, hv => cases hv; exact (key 5 (by decide)).1
  | 11, hv => cases hv; exact (key 5 (by decide)).2
  | 12, hv => cases hv; exact (key 6 (by decide)).1
  | 13, hv => cases hv; exact (key 6 (by decide)).2
  | 14, hv => cases hv; exact (key 7 (by decide)).1
  | 15, hv => cases hv; exact (key 7 (by decide)).2
  | 16, hv => cases hv; exact (key 8 (by decide)).1
  | 17, hv => cases hv; exact (key 8 (by decide)).2
  | 18, hv => cases hv; exact (key 9 (by decide)).1
  | 19, hv => cases hv; exact (key 9 (by decide)).2
  | 20, hv => cases hv; exact (key 10 (by decide)).1
  | 21, hv => cases hv; exact (key 10 (by decide)).2
  | 22, hv => cases hv; exact (key 11 (by decide)).1
  | 23, hv => cases hv; exact (key 11 (by decide)).2
  | 24, hv => cases hv; exact (key 12 (by decide)).1
  | 25, hv => cases hv; exact (key 12 (by decide)).2

/-- what ParseNames reads -/
structure NamesTabs (w : World) : Prop where
  may : MayTabs w
  op : Opers w

theorem NamesTabs.later {w w' : World} (h : NamesTabs w) (hb : Below w.heap.size w w') : NamesTabs w' := ⟨h.may.later hb, h.op.later hb⟩

theorem parseParses_tabs {W : World} (h : laidMetH Tryd.prog Rows.parseParsesRow.laid W) : NamesTabs W := by
  rw [MakeChecks.laidMetH_plain _ _ _ (by kernel_rfl)] at h
  exact ⟨mayTabs_of h (.tail _ (.head _)) (.tail _ (.tail _ (.tail _ (.head _)))) (.head _), opers_of_reads (Lib.laidMet.reads h (.tail _ (.tail _ (.head _))))⟩

end Go.Proofs.YtedinkoapieakaaDoor
