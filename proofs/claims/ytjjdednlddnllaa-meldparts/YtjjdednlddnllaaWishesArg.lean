/- Rows of wishes that came in as arguments: what they hold. -/
import Derived.Test.YtjjdednlddnllaaRtSameP
namespace Go.Proofs.Ytjjdednlddnllaa
open Go.ChangeShapes Go.WideShapes Go.ChangeAt Go.RowKit Go.Deep

/-- a wish -/
structure Wsh where
  c : Int
  n : Int
  s : Int
  xs : List Int
  ys : List Int
  g : Bool

/-- a wish in memory -/
def kWi : Kd Wsh 6 where
  rel ok w x cs := ∃ xa xc ya yc, cs = [.int .i64 x.c, .int .i64 x.n, .int .i64 x.s, .slice xa x.xs.length xc, .slice ya x.ys.length yc, .bool x.g] ∧ Lies kI ok w xa xc x.xs ∧ Lies kI ok w ya yc x.ys
  move hk hok _ _ := by
    rintro ⟨xa, xc, ya, yc, rfl, h1, h2⟩
    exact ⟨xa, xc, ya, yc, rfl, h1.move hk hok, h2.move hk hok⟩
  len := by
    rintro _ _ _ _ ⟨xa, xc, ya, yc, rfl, _, _⟩
    rfl
  one := by
    rintro _ _ _ _ ⟨xa, xc, ya, yc, rfl, _, _⟩ x hx
    simp only [List.mem_cons, List.not_mem_nil, or_false] at hx
    rcases hx with rfl | rfl | rfl | rfl | rfl | rfl <;> rfl

/-- a wish of a row -/
theorem wi_at {ok : Nat → Prop} {w : World} {ao : Option Addr} {cap : Nat} {l : List Wsh} (hL : Lies kWi ok w ao cap l) {k : Nat} (hk : k < l.length) :
    ∃ bb off xa xc ya yc, ao = some ⟨bb, off, none⟩ ∧ Lies kI ok w xa xc (l[k]).xs ∧ Lies kI ok w ya yc (l[k]).ys ∧ ∀ W : World, Below w.heap.size w W → W.cell? ⟨bb, off + k * 6, none⟩ = some (.int .i64 (l[k]).c) ∧ W.cell? ⟨bb, off + k * 6 + 1, none⟩ = some (.int .i64 (l[k]).n) ∧ W.cell? ⟨bb, off + k * 6 + 2, none⟩ = some (.int .i64 (l[k]).s) ∧ W.cell? ⟨bb, off + k * 6 + 3, none⟩ = some (.slice xa (l[k]).xs.length xc) ∧ W.cell? ⟨bb, off + k * 6 + 4, none⟩ = some (.slice ya (l[k]).ys.length yc) ∧ W.cell? ⟨bb, off + k * 6 + 5, none⟩ = some (.bool (l[k]).g) := by
  obtain ⟨bb, off, e, hb, _, cs, ⟨xa, xc, ya, yc, rfl, h1, h2⟩, hc⟩ := hL.at hk
  exact ⟨bb, off, xa, xc, ya, yc, e, h1, h2, fun W hW => ⟨(hW.cell (p := ⟨bb, off + k * 6, none⟩) hb).trans (by simpa using hc 0 _ rfl), (hW.cell (p := ⟨bb, off + k * 6 + 1, none⟩) hb).trans (hc 1 _ rfl), (hW.cell (p := ⟨bb, off + k * 6 + 2, none⟩) hb).trans (hc 2 _ rfl), (hW.cell (p := ⟨bb, off + k * 6 + 3, none⟩) hb).trans (hc 3 _ rfl), (hW.cell (p := ⟨bb, off + k * 6 + 4, none⟩) hb).trans (hc 4 _ rfl), (hW.cell (p := ⟨bb, off + k * 6 + 5, none⟩) hb).trans (hc 5 _ rfl)⟩⟩

section
variable {H : Type} {enc : TypeId × Value → H} {W : World} {base : Nat} {sp : Nat → Bool} {held : Bool}

set_option maxRecDepth 100000 in
theorem wishrow_arg {fuel len cap j : Nat} {ts : List TypeId} {ds : List (DataW H)} {x : DataW H × List MemPlace} {a : Option Addr} {cs : List Value}
    (_ : (DataW.weightsEach Try.prog ts ds).all (· ≤ reachBytes) = true) (_ : ts[j]? = some 46) (_ : ds[j]? = some x.1) (hc : cs = [.slice a len cap])
    (hf : DataW.trod enc Try.prog W base sp held fuel 46 cs = some x) : ∃ ls : List Wsh, len = ls.length ∧ Lies kWi (fun _ => True) W a cap ls := by
  rcases open_slice Try.underlying46 hf with ⟨hcs, _⟩ | ⟨ad, l, c, m, n, D, Pl, hcs, _, hl, hm, hmm, hxx, hx⟩
  · rw [hc] at hcs
    simp only [List.cons.injEq, Value.slice.injEq, and_true] at hcs
    obtain ⟨rfl, rfl, rfl⟩ := hcs
    exact ⟨[], rfl, Lies.nil _ _ _ (fun _ => rfl)⟩
  · rw [hc] at hcs
    simp only [List.cons.injEq, Value.slice.injEq, and_true] at hcs
    obtain ⟨rfl, rfl, rfl⟩ := hcs
    subst hxx
    have hlm : len ≤ m := by rw [hmm]; split <;> omega
    have each : ∀ i, i < len → ∃ d : Wsh, ∃ cs', kWi.rel (fun _ => True) W d cs' ∧ cs'.length = 6 ∧ ∀ j, j < 6 → W.cell? ((ad.add (i * 6)).add j) = cs'[j]? := by
      intro i hi
      obtain ⟨cs', h1, h2⟩ := hx i (by omega)
      rw [show Try.prog.cellsOf 81 = 6 by kernel_rfl] at h1
      obtain ⟨_, hlen, hcell⟩ := World.cells?_some h1
      obtain ⟨xs, n', _, hxs, _, hxl, hg⟩ := DataW.trod_struct Try.underlying81 h2
      match xs, hxl with
      | [y0, y1, y2, y3, y4, y5], _ =>
        have g0 : DataW.trod enc Try.prog W base sp held n' 3 ((cs'.drop 0).take (Try.prog.cellsOf 3)) = some y0 := hg 0 _ rfl
        have g1 : DataW.trod enc Try.prog W base sp held n' 3 ((cs'.drop 1).take (Try.prog.cellsOf 3)) = some y1 := hg 1 _ rfl
        have g2 : DataW.trod enc Try.prog W base sp held n' 3 ((cs'.drop 2).take (Try.prog.cellsOf 3)) = some y2 := hg 2 _ rfl
        have g3 : DataW.trod enc Try.prog W base sp held n' 79 ((cs'.drop 3).take (Try.prog.cellsOf 79)) = some y3 := hg 3 _ rfl
        have g4 : DataW.trod enc Try.prog W base sp held n' 79 ((cs'.drop 4).take (Try.prog.cellsOf 79)) = some y4 := hg 4 _ rfl
        have g5 : DataW.trod enc Try.prog W base sp held n' 4 ((cs'.drop 5).take (Try.prog.cellsOf 4)) = some y5 := hg 5 _ rfl
        rw [Try.cells_intD] at g0 g1 g2
        rw [Try.cells_nums] at g3 g4
        rw [Try.cells_boolD] at g5
        obtain ⟨k0, e0, _⟩ := DataW.trod_int Try.underlying3 g0
        obtain ⟨k1, e1, _⟩ := DataW.trod_int Try.underlying3 g1
        obtain ⟨k2, e2, _⟩ := DataW.trod_int Try.underlying3 g2
        obtain ⟨xa, xls, xc, e3, l3⟩ := nums_in g3
        obtain ⟨ya, yls, yc, e4, l4⟩ := nums_in g4
        obtain ⟨k5, e5, _⟩ := DataW.trod_bool Try.underlying4 g5
        match cs', hlen with
        | [v0, v1, v2, v3, v4, v5], _ =>
          simp at e0 e1 e2 e3 e4 e5
          subst e0 e1 e2 e3 e4 e5
          exact ⟨⟨k0, k1, k2, xls, yls, k5⟩, _, ⟨xa, xc, ya, yc, rfl, l3, l4⟩, rfl, hcell⟩
    have : Inhabited Wsh := ⟨⟨0, 0, 0, [], [], false⟩⟩
    obtain ⟨Q, hQ⟩ := choose_lt each
    refine ⟨(List.range len).map Q, by simp, ?_⟩
    by_cases h0 : len = 0
    · subst h0
      exact Lies.nil _ _ _ (fun h => by cases h)
    · obtain ⟨b, off, spot⟩ := ad
      obtain ⟨cs0, _, hl0, hc0⟩ := hQ 0 (by omega)
      have hc1 := hc0 0 (by omega)
      rw [List.getElem?_eq_getElem (by omega)] at hc1
      have hspot : spot = none := by
        have := World.cell?_spot hc1
        simpa [Addr.add] using this
      subst hspot
      have ea : ∀ i j, ((⟨b, off, none⟩ : Addr).add i).add j = ⟨b, off + i + j, none⟩ := fun i j => by
        rw [Addr.add_mid, Addr.add_mid]
      refine lies_of (by decide) (by simpa using hl) (by rw [ea] at hc1; exact World.block_lt_of_cell? _ _ hc1) trivial (fun i hi => ?_)
      have hi2 : i < len := by simpa using hi
      obtain ⟨cs', h1, h2, h3⟩ := hQ i hi2
      simp only [List.getElem_map, List.getElem_range]
      refine ⟨cs', h1, fun j u hu => ?_⟩
      have hj : j < 6 := by
        have := (List.getElem?_eq_some_iff.1 hu).1
        omega
      have := h3 j hj
      rw [ea] at this
      rw [this, hu]

end
end Go.Proofs.Ytjjdednlddnllaa
