/- A catalog that came in as an argument: what it holds. -/
import Derived.Test.YtojfcafdegbkjaaDoorCatMem
import Derived.Test.YtojfcafdegbkjaaDoorLexWord
import Derived.Deep.Strs
import Derived.Deep.Slices
namespace Go.Proofs.YtojfcafdegbkjaaDoor
open Go.ChangeShapes Go.WideShapes Go.ChangeAt Go.RowKit Go.Deep

section
variable {H : Type} {enc : TypeId × Value → H} {W : World} {base : Nat} {sp : Nat → Bool} {held : Bool}

/-- a slice, element by element -/
theorem row_arg {α : Type} (d : α) {R : World → α → List Value → Prop} {t e : TypeId} {size fuel len cap : Nat} {a : Option Addr} {cs : List Value} {x : DataW H × List MemPlace} (ht : Tryd.prog.underlying t = some (.slice e)) (hs : Tryd.prog.cellsOf e = size) (hp : 0 < size)
    (hE : ∀ n cs' y, DataW.trod enc Tryd.prog W base sp held n e cs' = some y → cs'.length = size → ∃ q, R W q cs') (hc : cs = [.slice a len cap])
    (hf : DataW.trod enc Tryd.prog W base sp held fuel t cs = some x) : ∃ ls : List α, len = ls.length ∧ RowC R size W a ls := by
  have : Inhabited α := ⟨d⟩
  rcases open_slice ht hf with ⟨hcs, _⟩ | ⟨ad, l, c, m, n, D, Pl, hcs, _, hl, hm, hmm, _, hx⟩
  · rw [hc] at hcs
    simp only [List.cons.injEq, Value.slice.injEq, and_true] at hcs
    obtain ⟨rfl, rfl, rfl⟩ := hcs
    exact ⟨[], rfl, .inl rfl⟩
  · rw [hc] at hcs
    simp only [List.cons.injEq, Value.slice.injEq, and_true] at hcs
    obtain ⟨rfl, rfl, rfl⟩ := hcs
    rw [hs] at hx
    have hlm : len ≤ m := by rw [hmm]; split <;> omega
    have each : ∀ i, i < len → ∃ q : α, ∃ cs', R W q cs' ∧ cs'.length = size ∧ ∀ j, j < size → W.cell? ((ad.add (i * size)).add j) = cs'[j]? := by
      intro i hi
      obtain ⟨cs', h1, h2⟩ := hx i (by omega)
      obtain ⟨_, hlen, hcell⟩ := World.cells?_some h1
      obtain ⟨q, hq⟩ := hE _ _ _ h2 hlen
      exact ⟨q, cs', hq, hlen, hcell⟩
    obtain ⟨Q, hQ⟩ := choose_lt each
    refine ⟨(List.range len).map Q, by simp, ?_⟩
    by_cases h0 : len = 0
    · left
      subst h0
      rfl
    · right
      obtain ⟨b, off, spot⟩ := ad
      obtain ⟨cs0, _, hl0, hc0⟩ := hQ 0 (by omega)
      have hc1 := hc0 0 hp
      rw [List.getElem?_eq_getElem (by omega)] at hc1
      have hspot : spot = none := by
        have := World.cell?_spot hc1
        simpa [Addr.add] using this
      subst hspot
      have ea : ∀ i j, ((⟨b, off, none⟩ : Addr).add i).add j = ⟨b, off + i + j, none⟩ := fun i j => by
        rw [Addr.add_mid, Addr.add_mid]
      refine ⟨b, off, rfl, ?_, fun i hi => ?_⟩
      · rw [ea] at hc1
        exact World.block_lt_of_cell? _ _ hc1
      · have hi2 : i < len := by simpa using hi
        obtain ⟨cs', h1, h2, h3⟩ := hQ i hi2
        simp only [List.getElem_map, List.getElem_range]
        refine ⟨cs', h1, fun j u hu => ?_⟩
        have hj : j < size := by
          have := (List.getElem?_eq_some_iff.1 hu).1
          omega
        have := h3 j hj
        rw [ea] at this
        rw [this, hu]

theorem slice_cells {t e : TypeId} {fuel : Nat} {cs : List Value} {x : DataW H × List MemPlace} (ht : Tryd.prog.underlying t = some (.slice e)) (hf : DataW.trod enc Tryd.prog W base sp held fuel t cs = some x) : ∃ a len cap, cs = [.slice a len cap] := by
  rcases open_slice ht hf with ⟨hcs, _⟩ | ⟨ad, l, c, m, n, D, Pl, hcs, _⟩
  · exact ⟨none, 0, 0, hcs⟩
  · exact ⟨some ad, l, c, hcs⟩

theorem Tryd.cells_int1 : Tryd.prog.cellsOf 3 = 1 := by kernel_rfl
theorem Tryd.cells_str1 : Tryd.prog.cellsOf 9 = 1 := by kernel_rfl
theorem Tryd.cells_bool1 : Tryd.prog.cellsOf 4 = 1 := by kernel_rfl
theorem Tryd.cells_ints1 : Tryd.prog.cellsOf 26 = 1 := by kernel_rfl
theorem Tryd.cells_cols1 : Tryd.prog.cellsOf 25 = 1 := by kernel_rfl
theorem Tryd.cells_idxs1 : Tryd.prog.cellsOf 27 = 1 := by kernel_rfl

theorem ints_arg {fuel len cap : Nat} {a : Option Addr} {cs : List Value} {x : DataW H × List MemPlace} (hc : cs = [.slice a len cap]) (hf : DataW.trod enc Tryd.prog W base sp held fuel 26 cs = some x) : ∃ ls : List Int, len = ls.length ∧ Ints W a ls :=
  row_arg 0 Tryd.underlying26 Tryd.cells_int1 (by decide) (fun n cs' y h _ => by
    obtain ⟨k, e, _, wk⟩ := DataW.trod_int Tryd.underlying3 h
    exact ⟨k, e, wk⟩) hc hf

theorem cols_arg {fuel len cap : Nat} {a : Option Addr} {cs : List Value} {x : DataW H × List MemPlace} (hc : cs = [.slice a len cap]) (hf : DataW.trod enc Tryd.prog W base sp held fuel 25 cs = some x) : ∃ ls : List TCol, len = ls.length ∧ Cols W a ls :=
  row_arg ⟨[], 0, false⟩ Tryd.underlying25 (by kernel_rfl) (by decide) (fun n cs' y h hlen => by
    obtain ⟨y0, y1, y2, n', _, _, g0, g1, g2⟩ := trod_struct3 Tryd.underlying35 h
    rw [Tryd.cells_str1] at g0
    rw [Tryd.cells_int1] at g1
    rw [Tryd.cells_bool1] at g2
    obtain ⟨s, e0, _, ws⟩ := DataW.trod_string Tryd.underlying9 g0
    obtain ⟨k, e1, _, _⟩ := DataW.trod_int Tryd.underlying3 g1
    obtain ⟨v, e2, _⟩ := DataW.trod_bool Tryd.underlying4 g2
    match cs', hlen with
    | [v0, v1, v2], _ =>
      simp at e0 e1 e2
      subst e0 e1 e2
      exact ⟨⟨bts s, k, v⟩, by simp [str_bts], by rw [← size_bytes]; exact ws⟩) hc hf

theorem idxs_arg {fuel len cap : Nat} {a : Option Addr} {cs : List Value} {x : DataW H × List MemPlace} (hc : cs = [.slice a len cap]) (hf : DataW.trod enc Tryd.prog W base sp held fuel 27 cs = some x) : ∃ ls : List Idx, len = ls.length ∧ Idxs W a ls :=
  row_arg ⟨[], []⟩ Tryd.underlying27 (by kernel_rfl) (by decide) (fun n cs' y h hlen => by
    obtain ⟨y0, y1, n', _, _, g0, g1⟩ := trod_struct2 Tryd.underlying37 h
    rw [Tryd.cells_str1] at g0
    rw [Tryd.cells_ints1] at g1
    obtain ⟨s, e0, _, ws⟩ := DataW.trod_string Tryd.underlying9 g0
    obtain ⟨a', len', cap', e1⟩ := slice_cells Tryd.underlying26 g1
    obtain ⟨ls, hl, hI⟩ := ints_arg e1 g1
    match cs', hlen with
    | [v0, v1], _ =>
      simp at e0 e1
      subst e0 e1 hl
      exact ⟨⟨bts s, ls⟩, a', cap', by simp [str_bts], by rw [← size_bytes]; exact ws, hI⟩) hc hf

theorem tabs_arg {fuel len cap : Nat} {a : Option Addr} {cs : List Value} {x : DataW H × List MemPlace} (hc : cs = [.slice a len cap]) (hf : DataW.trod enc Tryd.prog W base sp held fuel 22 cs = some x) : ∃ ls : List Tab, len = ls.length ∧ Tabs W a ls :=
  row_arg ⟨[], [], [], []⟩ Tryd.underlying22 (by kernel_rfl) (by decide) (fun n cs' y h hlen => by
    obtain ⟨xs, n', _, _, _, hxl, hg⟩ := DataW.trod_struct Tryd.underlying29 h
    match xs, hxl with
    | [y0, y1, y2, y3], _ =>
      have g0 : DataW.trod enc Tryd.prog W base sp held n' 9 ((cs'.drop 0).take (Tryd.prog.cellsOf 9)) = some y0 := hg 0 _ rfl
      have g1 : DataW.trod enc Tryd.prog W base sp held n' 25 ((cs'.drop 1).take (Tryd.prog.cellsOf 25)) = some y1 := hg 1 _ rfl
      have g2 : DataW.trod enc Tryd.prog W base sp held n' 26 ((cs'.drop 2).take (Tryd.prog.cellsOf 26)) = some y2 := hg 2 _ rfl
      have g3 : DataW.trod enc Tryd.prog W base sp held n' 27 ((cs'.drop 3).take (Tryd.prog.cellsOf 27)) = some y3 := hg 3 _ rfl
      rw [Tryd.cells_str1] at g0
      rw [Tryd.cells_cols1] at g1
      rw [Tryd.cells_ints1] at g2
      rw [Tryd.cells_idxs1] at g3
      obtain ⟨s, e0, _, ws⟩ := DataW.trod_string Tryd.underlying9 g0
      obtain ⟨a1, l1, p1, e1⟩ := slice_cells Tryd.underlying25 g1
      obtain ⟨a2, l2, p2, e2⟩ := slice_cells Tryd.underlying26 g2
      obtain ⟨a3, l3, p3, e3⟩ := slice_cells Tryd.underlying27 g3
      obtain ⟨ls1, h1, i1⟩ := cols_arg e1 g1
      obtain ⟨ls2, h2, i2⟩ := ints_arg e2 g2
      obtain ⟨ls3, h3, i3⟩ := idxs_arg e3 g3
      match cs', hlen with
      | [v0, v1, v2, v3], _ =>
        simp at e0 e1 e2 e3
        subst e0 e1 e2 e3 h1 h2 h3
        exact ⟨⟨bts s, ls1, ls2, ls3⟩, a1, p1, a2, p2, a3, p3, by simp [str_bts], by rw [← size_bytes]; exact ws, i1, i2, i3⟩) hc hf

end
end Go.Proofs.YtojfcafdegbkjaaDoor
