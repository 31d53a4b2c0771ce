/- Wishes that came in as arguments: what they hold. -/
import Derived.Test.YtjilcljchdmbjaaItArg
import Derived.Test.YtjilcljchdmbjaaWishPlain
namespace Go.Proofs.Ytjilcljchdmbjaa
open Go.ChangeShapes Go.WideShapes Go.ChangeAt Go.RowKit Go.Deep

section
variable {H : Type} {enc : TypeId × Value → H} {W : World} {base : Nat} {sp : Nat → Bool} {held : Bool}

set_option maxRecDepth 100000 in
theorem nums_in {fuel : Nat} {cs : List Value} {x : DataW H × List MemPlace} (hf : DataW.trod enc Try.prog W base sp held fuel 33 cs = some x) :
    ∃ (a : Option Addr) (ls : List Int) (cap : Nat), cs = [.slice a ls.length cap] ∧ Lies kI (fun _ => True) W a cap ls := by
  rcases open_slice Try.underlying33 hf with ⟨hcs, _⟩ | ⟨ad, len, cap, m, n, D, Pl, hcs, _, hl, hm, hmm, hxx, hx⟩
  · exact ⟨none, [], 0, hcs, Lies.nil _ _ _ (fun _ => rfl)⟩
  · subst hxx
    have hlm : len ≤ m := by rw [hmm]; split <;> omega
    have each : ∀ i, i < len → ∃ d : Int, ∃ cs', kI.rel (fun _ => True) W d cs' ∧ cs'.length = 1 ∧ ∀ j, j < 1 → W.cell? ((ad.add (i * 1)).add j) = cs'[j]? := by
      intro i hi
      obtain ⟨cs', h1, h2⟩ := hx i (by omega)
      rw [show Try.prog.cellsOf 3 = 1 by kernel_rfl] at h1
      obtain ⟨_, hlen, hcell⟩ := World.cells?_some h1
      obtain ⟨k, e, _⟩ := DataW.trod_int Try.underlying3 h2
      subst e
      exact ⟨k, _, rfl, rfl, hcell⟩
    have : Inhabited Int := ⟨0⟩
    obtain ⟨Q, hQ⟩ := choose_lt each
    refine ⟨some ad, (List.range len).map Q, cap, by simpa using hcs, ?_⟩
    by_cases h0 : len = 0
    · subst h0
      exact Lies.nil _ _ _ (fun h => by cases h)
    · obtain ⟨b, off, spot⟩ := ad
      obtain ⟨cs0, _, hl0, hc0⟩ := hQ 0 (by omega)
      have hc1 := hc0 0 (by omega)
      rw [List.getElem?_eq_getElem (by omega)] at hc1
      have hspot : spot = none := by
        have := World.cell?_spot hc1
        simpa [Addr.add] using this
      subst hspot
      have ea : ∀ i j, ((⟨b, off, none⟩ : Addr).add i).add j = ⟨b, off + i + j, none⟩ := fun i j => by
        rw [Addr.add_mid, Addr.add_mid]
      refine lies_of (by decide) (by simpa using hl) (by rw [ea] at hc1; exact World.block_lt_of_cell? _ _ hc1) trivial (fun i hi => ?_)
      have hi2 : i < len := by simpa using hi
      obtain ⟨cs', h1, h2, h3⟩ := hQ i hi2
      simp only [List.getElem_map, List.getElem_range]
      refine ⟨cs', h1, fun j u hu => ?_⟩
      have hj : j < 1 := by
        have := (List.getElem?_eq_some_iff.1 hu).1
        omega
      have := h3 j hj
      rw [ea] at this
      rw [this, hu]

theorem Try.cells_nums : Try.prog.cellsOf 33 = 1 := by kernel_rfl

/-- a wish, as a value -/
def WishArg (w : World) (v : Value) : Prop := ∃ (c n s : Int) (xs ys : List Int) (xa : Option Addr) (xc : Nat) (ya : Option Addr) (yc : Nat) (g : Bool), v = .agg #[.int .i64 c, .int .i64 n, .int .i64 s, .slice xa xs.length xc, .slice ya ys.length yc, .bool g] ∧ Lies kI (fun _ => True) w xa xc xs ∧ Lies kI (fun _ => True) w ya yc ys

set_option maxRecDepth 100000 in
theorem wish_arg {r : Reach} {b0 j : Nat} {ts : List TypeId} {ds : List (DataW H)} {v : Value} {d : DataW H} {ps : List MemPlace}
    (_ : (DataW.weightsEach Try.prog ts ds).all (· ≤ reachBytes) = true) (_ : ts[j]? = some 35) (_ : ds[j]? = some d) (hval : Value.okWide Try.prog W r b0 35 v) (hf : DataW.Trod enc Try.prog W base sp held 35 v d ps) : WishArg W v := by
  obtain ⟨cs, rfl, hcs⟩ := okWide_struct Try.underlying35 hval
  obtain ⟨fuel, hf⟩ := hf
  obtain ⟨xs, n', _, hxs, _, hxl, hg⟩ := DataW.trod_struct Try.underlying35 hf
  rw [show Try.prog.cellsOf 35 = 6 by kernel_rfl] at hcs
  match xs, hxl with
  | [y0, y1, y2, y3, y4, y5], _ =>
    have g0 : DataW.trod enc Try.prog W base sp held n' 3 (((Value.agg cs).cells.toList.drop 0).take (Try.prog.cellsOf 3)) = some y0 := hg 0 _ rfl
    have g1 : DataW.trod enc Try.prog W base sp held n' 3 (((Value.agg cs).cells.toList.drop 1).take (Try.prog.cellsOf 3)) = some y1 := hg 1 _ rfl
    have g2 : DataW.trod enc Try.prog W base sp held n' 3 (((Value.agg cs).cells.toList.drop 2).take (Try.prog.cellsOf 3)) = some y2 := hg 2 _ rfl
    have g3 : DataW.trod enc Try.prog W base sp held n' 33 (((Value.agg cs).cells.toList.drop 3).take (Try.prog.cellsOf 33)) = some y3 := hg 3 _ rfl
    have g4 : DataW.trod enc Try.prog W base sp held n' 33 (((Value.agg cs).cells.toList.drop 4).take (Try.prog.cellsOf 33)) = some y4 := hg 4 _ rfl
    have g5 : DataW.trod enc Try.prog W base sp held n' 4 (((Value.agg cs).cells.toList.drop 5).take (Try.prog.cellsOf 4)) = some y5 := hg 5 _ rfl
    rw [Try.cells_intD] at g0 g1 g2
    rw [Try.cells_nums] at g3 g4
    rw [Try.cells_boolD] at g5
    obtain ⟨c, e0, _⟩ := DataW.trod_int Try.underlying3 g0
    obtain ⟨n, e1, _⟩ := DataW.trod_int Try.underlying3 g1
    obtain ⟨s, e2, _⟩ := DataW.trod_int Try.underlying3 g2
    obtain ⟨xa, xls, xc, e3, l3⟩ := nums_in g3
    obtain ⟨ya, yls, yc, e4, l4⟩ := nums_in g4
    obtain ⟨g, e5, _⟩ := DataW.trod_bool Try.underlying4 g5
    obtain ⟨l⟩ := cs
    match l, hcs with
    | [v0, v1, v2, v3, v4, v5], _ =>
      simp [Value.cells] at e0 e1 e2 e3 e4 e5
      subst e0 e1 e2 e3 e4 e5
      exact ⟨c, n, s, xls, yls, xa, xc, ya, yc, g, rfl, l3, l4⟩

end
end Go.Proofs.Ytjilcljchdmbjaa
