/- A slice of what tokens are made of that came in as an argument: what it holds. -/
import Derived.Test.YtogkghifpocgmaaDoorKeepToks
import Derived.Test.YtogkghifpocgmaaDoorTokArg
import Derived.Deep.Strs
import Derived.Deep.Slices
namespace Go.Proofs.YtogkghifpocgmaaDoor
open Go.ChangeShapes Go.WideShapes Go.ChangeAt Go.RowKit Go.Deep

theorem Tryd.cells_scrap : Tryd.prog.cellsOf 50 = 3 := by kernel_rfl

set_option maxRecDepth 100000 in
theorem scr_arg {H : Type} {enc : TypeId × Value → H} {W : World} {base fuel len cap : Nat} {sp : Nat → Bool} {held : Bool} {x : DataW H × List MemPlace} {a : Option Addr} {cs : List Value} (hc : cs = [.slice a len cap])
    (hf : DataW.trod enc Tryd.prog W base sp held fuel 34 cs = some x) : ∃ ls : List Tok, len = ls.length ∧ Scr W a cap ls ∧ len ≤ 9223372036854775807 := by
  rcases open_slice Tryd.underlying34 hf with ⟨hcs, _⟩ | ⟨ad, l, c, m, n, D, Pl, hcs, _, hl, hm, hmm, _, hx⟩
  · rw [hc] at hcs
    simp only [List.cons.injEq, Value.slice.injEq, and_true] at hcs
    obtain ⟨rfl, rfl, rfl⟩ := hcs
    exact ⟨[], rfl, ⟨Nat.zero_le _, (fun t h => by cases h), .inl rfl⟩, by omega⟩
  · rw [hc] at hcs
    simp only [List.cons.injEq, Value.slice.injEq, and_true] at hcs
    obtain ⟨rfl, rfl, rfl⟩ := hcs
    have hlm : len ≤ m := by rw [hmm]; split <;> omega
    have each : ∀ i, i < len → ∃ q : Tok, W.cell? ((ad.add (i * 3)).add 0) = some (.int .i64 q.kind) ∧ W.cell? ((ad.add (i * 3)).add 1) = some (.int .i64 q.int) ∧ W.cell? ((ad.add (i * 3)).add 2) = some (.string (str q.text)) ∧ (Lit.int .i64 q.int).wf = true ∧ q.text.length ≤ maxLen := by
      intro i hi
      obtain ⟨cs', h1, h2⟩ := hx i (by omega)
      rw [Tryd.cells_scrap] at h1
      obtain ⟨_, hlen, hcell⟩ := World.cells?_some h1
      obtain ⟨y0, y1, y2, n', _, _, g0, g1, g2⟩ := trod_struct3 Tryd.underlying50 h2
      rw [Tryd.cells_int] at g0 g1
      rw [Tryd.cells_string] at g2
      obtain ⟨k, e0, _, _⟩ := DataW.trod_int Tryd.underlying3 g0
      obtain ⟨j, e1, _, wj⟩ := DataW.trod_int Tryd.underlying3 g1
      obtain ⟨s, e2, _, ws⟩ := DataW.trod_string Tryd.underlying9 g2
      match cs', hlen with
      | [v0, v1, v2], _ =>
        simp at e0 e1 e2
        subst e0 e1 e2
        refine ⟨⟨k, j, bts s⟩, ?_, ?_, ?_, wj, ?_⟩
        · exact hcell 0 (by omega)
        · exact hcell 1 (by omega)
        · rw [str_bts]
          exact hcell 2 (by omega)
        · rw [← size_bytes]
          exact ws
    have : Inhabited Tok := ⟨zeroTok⟩
    obtain ⟨Q, hQ⟩ := choose_lt each
    refine ⟨(List.range len).map Q, by simp, ⟨by simpa using hl, ?_, ?_⟩, by unfold maxLen at hm; omega⟩
    · intro t ht
      obtain ⟨i, hi, rfl⟩ := List.mem_map.1 ht
      exact (hQ i (by simpa using hi)).2.2.2
    · by_cases h0 : len = 0
      · left
        subst h0
        rfl
      · right
        obtain ⟨b, off, spot⟩ := ad
        have hc0 := (hQ 0 (by omega)).1
        have hspot : spot = none := by
          have := World.cell?_spot hc0
          simpa [Addr.add] using this
        subst hspot
        have ea : ∀ i j, ((⟨b, off, none⟩ : Addr).add i).add j = ⟨b, off + i + j, none⟩ := fun i j => by
          rw [Addr.add_mid, Addr.add_mid]
        refine ⟨b, off, rfl, ?_, fun i hi => ?_⟩
        · rw [ea] at hc0
          exact World.block_lt_of_cell? _ _ hc0
        · have hi2 : i < len := by simpa using hi
          obtain ⟨q0, q1, q2, _⟩ := hQ i hi2
          rw [ea] at q0 q1 q2
          simp only [List.getElem_map, List.getElem_range]
          exact ⟨q0, q1, q2⟩

end Go.Proofs.YtogkghifpocgmaaDoor
