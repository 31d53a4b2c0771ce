/- Layouts that came in as arguments: what they hold. -/
import Derived.Test.YtcffikfjbpeggaaLyMay
import Derived.Test.YtcffikfjbpeggaaLyBaseB
import Derived.Deep.Slices
import Derived.Deep.Strs
import Derived.SizedLaws
import Derived.Deep.RegionHeld3
import Derived.Deep.Cut
namespace Go.Proofs.Ytcffikfjbpeggaa
open Go.ChangeShapes Go.WideShapes Go.ChangeAt Go.RowKit Go.Deep

theorem weights_in_list {H : Type} {P : Program} {e : TypeId} {d : DataW H} {n : Nat} (hn : n ∈ d.weights P e) : ∀ {l : List (DataW H)}, d ∈ l → n ∈ DataW.weightsAll P e l
  | x :: r, hd => by
    rw [DataW.weightsAll, List.mem_append]
    rcases List.mem_cons.1 hd with h | h
    · subst h; exact .inl hn
    · exact .inr (weights_in_list hn h)

section
variable {H : Type} {enc : TypeId × Value → H} {W : World} {base : Nat} {sp : Nat → Bool} {held : Bool}

theorem ints_in {fuel : Nat} {cs : List Value} {y : DataW H × List MemPlace} (hf : DataW.trod enc Try.prog W base sp held fuel 33 cs = some y) (hw : ∀ n ∈ y.1.weights Try.prog 33, n ≤ reachBytes) :
    ∃ (a : Option Addr) (xs : List Int) (cap : Nat), cs = [.slice a xs.length cap] ∧ xs.length * 8 ≤ 140737488351232 ∧ (∀ x ∈ xs, (Lit.int .i64 x).wf = true) ∧ Lies kInt (fun _ => True) W a cap xs := by
  rcases open_ints Try.underlying33 Try.underlying3 (by kernel_rfl) hf with ⟨hcs, _⟩ | ⟨ad, len, cap, zs, hcs, _, hl, hm, hz, hx, hc, hwf⟩
  · exact ⟨none, [], 0, hcs, by simp, by simp, Lies.nil _ _ _ (fun _ => rfl)⟩
  · have hzl : len ≤ zs.length := by rw [hz]; split <;> omega
    have hmem : ((lits (H := H) .i64 (zs.take len)).length + (lits (H := H) .i64 (zs.drop len)).length) * Try.prog.bytesOf 3 ∈ y.1.weights Try.prog 33 := by
      rw [hx]
      simp [DataW.weights, Try.underlying33]
    have hin := hw _ hmem
    rw [show Try.prog.bytesOf 3 = 8 by kernel_rfl] at hin
    simp only [lits, List.length_map, List.length_take, List.length_drop, reachBytes] at hin
    have hlen : (zs.take len).length = len := by rw [List.length_take]; omega
    refine ⟨some ad, zs.take len, cap, by rw [hlen]; exact hcs, by rw [hlen]; omega, fun x hx => hwf x (List.mem_of_mem_take hx), ?_⟩
    by_cases h0 : len = 0
    · subst h0
      exact Lies.nil _ _ _ (fun h => by cases h)
    · obtain ⟨b, off, spot⟩ := ad
      have hc0 := hc 0 (by omega)
      have hspot : spot = none := by simpa [Addr.add] using World.cell?_spot hc0
      subst hspot
      rw [addr_add] at hc0
      refine lies_of (by decide) (by rw [hlen]; exact hl) (World.block_lt_of_cell? _ _ hc0) trivial (fun i hi => ?_)
      rw [hlen] at hi
      refine ⟨_, rfl, fun j u hu => ?_⟩
      have hj : j = 0 := by
        have := (List.getElem?_eq_some_iff.1 hu).1
        simp at this
        omega
      subst hj
      have := hc i (by omega)
      rw [addr_add] at this
      simp only [List.getElem?_cons_zero, Option.some.injEq] at hu
      subst hu
      rw [Nat.mul_one, Nat.add_zero, this]
      simp [List.getD, List.getElem?_eq_getElem (show i < zs.length by omega)]

theorem Try.cells_intD : Try.prog.cellsOf 3 = 1 := by kernel_rfl
theorem Try.cells_intsD : Try.prog.cellsOf 33 = 1 := by kernel_rfl
theorem Try.cells_introwsD : Try.prog.cellsOf 22 = 1 := by kernel_rfl

set_option maxRecDepth 100000 in
theorem introws_in {fuel : Nat} {cs : List Value} {x : DataW H × List MemPlace} (hf : DataW.trod enc Try.prog W base sp held fuel 22 cs = some x) (hw : ∀ q ∈ x.1.weights Try.prog 22, q ≤ reachBytes) :
    ∃ (a : Option Addr) (ls : List (List Int)) (cap : Nat), cs = [.slice a ls.length cap] ∧ LyFew ls ∧ Lies (kRow kInt) (fun _ => True) W a cap ls := by
  rcases open_slice Try.underlying22 hf with ⟨hcs, _⟩ | ⟨ad, len, cap, m, n, D, Pl, hcs, _, hl, hm, hmm, hxx, hx⟩
  · exact ⟨none, [], 0, hcs, ⟨by simp, by simp⟩, Lies.nil _ _ _ (fun _ => rfl)⟩
  · subst hxx
    have hlm : len ≤ m := by rw [hmm]; split <;> omega
    have hfew : len ≤ 140737488351232 := by
      have h1 := hw _ (by simp only [DataW.weights, Try.underlying22]; exact List.mem_cons_self)
      rw [show Try.prog.bytesOf 33 = 24 by kernel_rfl] at h1
      simp only [List.length_map, List.length_range, reachBytes] at h1
      omega
    have hin : ∀ i, i < len → ∀ q ∈ (D i).weights Try.prog 33, q ≤ reachBytes := fun i hi q hq => hw q (by
      simp only [DataW.weights, Try.underlying22, List.mem_cons, List.mem_append]
      exact .inr (.inl (weights_in_list hq (List.mem_map.2 ⟨i, List.mem_range.2 hi, rfl⟩))))
    have each : ∀ i, i < len → ∃ d : List Int, ∃ cs', (kRow kInt).rel (fun _ => True) W d cs' ∧ cs'.length = 1 ∧ d.length ≤ 140737488351232 ∧ ∀ j, j < 1 → W.cell? ((ad.add (i * 1)).add j) = cs'[j]? := by
      intro i hi
      obtain ⟨cs', h1, h2⟩ := hx i (by omega)
      rw [show Try.prog.cellsOf 33 = 1 by kernel_rfl] at h1
      obtain ⟨_, hlen, hcell⟩ := World.cells?_some h1
      obtain ⟨a0, x0, c0, e0, f0, -, o0⟩ := ints_in h2 (hin i hi)
      subst e0
      exact ⟨x0, _, ⟨a0, c0, rfl, o0⟩, rfl, by omega, hcell⟩
    have : Inhabited (List Int) := ⟨[]⟩
    obtain ⟨Q, hQ⟩ := choose_lt each
    refine ⟨some ad, (List.range len).map Q, cap, by simpa using hcs, ⟨by simpa using hfew, fun c hc => ?_⟩, ?_⟩
    · obtain ⟨i, hi, rfl⟩ := List.mem_map.1 hc
      obtain ⟨_, _, _, h, _⟩ := hQ i (List.mem_range.1 hi)
      exact h
    by_cases h0 : len = 0
    · subst h0
      exact Lies.nil _ _ _ (fun h => by cases h)
    · obtain ⟨b, off, spot⟩ := ad
      obtain ⟨cs0, _, hl0, _, hc0⟩ := hQ 0 (by omega)
      have hc1 := hc0 0 (by omega)
      rw [List.getElem?_eq_getElem (by omega)] at hc1
      have hspot : spot = none := by
        have := World.cell?_spot hc1
        simpa [Addr.add] using this
      subst hspot
      have ea : ∀ i j, ((⟨b, off, none⟩ : Addr).add i).add j = ⟨b, off + i + j, none⟩ := fun i j => by
        rw [addr_add, addr_add]
      refine lies_of (by decide) (by simpa using hl) (by rw [ea] at hc1; exact World.block_lt_of_cell? _ _ hc1) trivial (fun i hi => ?_)
      have hi2 : i < len := by simpa using hi
      obtain ⟨cs', h1, h2, _, h3⟩ := hQ i hi2
      simp only [List.getElem_map, List.getElem_range]
      refine ⟨cs', h1, fun j u hu => ?_⟩
      have hj : j < 1 := by
        have := (List.getElem?_eq_some_iff.1 hu).1
        omega
      have := h3 j hj
      rw [ea] at this
      rw [this, hu]

/-- a layout, as a value -/
def LayArg (w : World) (v : Value) : Prop := ∃ (ep : Int) (cs : List (List Int)) (a : Option Addr) (c : Nat), v = .agg #[.int .i64 ep, .slice a cs.length c] ∧ LyFew cs ∧ Lies (kRow kInt) (fun b => b < w.heap.size) w a c cs ∧ -9223372036854775808 ≤ ep ∧ ep ≤ 9223372036854775807

set_option maxRecDepth 100000 in
theorem lay_arg {r : Reach} {b0 j : Nat} {ts : List TypeId} {ds : List (DataW H)} {v : Value} {d : DataW H} {ps : List MemPlace}
    (hsz : (DataW.weightsEach Try.prog ts ds).all (· ≤ reachBytes) = true) (ht : ts[j]? = some 24) (hd : ds[j]? = some d) (hval : Value.okWide Try.prog W r b0 24 v) (hf : DataW.Trod enc Try.prog W base sp held 24 v d ps) : LayArg W v := by
  obtain ⟨cs, rfl, hcs⟩ := okWide_struct Try.underlying24 hval
  obtain ⟨fuel, hf⟩ := hf
  obtain ⟨xs, n', _, hxs, _, hxl, hg⟩ := DataW.trod_struct Try.underlying24 hf
  have hwi : ∀ q ∈ d.weights Try.prog 24, q ≤ reachBytes := fun q hq => by
    have := List.all_eq_true.1 hsz q (DataW.weights_mem_each ht hd q hq)
    simpa using this
  rw [show Try.prog.cellsOf 24 = 2 by kernel_rfl] at hcs
  match xs, hxl with
  | [y0, y1], _ =>
    have g0 : DataW.trod enc Try.prog W base sp held n' 3 (((Value.agg cs).cells.toList.drop 0).take (Try.prog.cellsOf 3)) = some y0 := hg 0 _ rfl
    have g1 : DataW.trod enc Try.prog W base sp held n' 22 (((Value.agg cs).cells.toList.drop 1).take (Try.prog.cellsOf 22)) = some y1 := hg 1 _ rfl
    rw [Try.cells_intD] at g0
    rw [Try.cells_introwsD] at g1
    have hD : d = .agg ([y0, y1].map (·.1)) := congrArg Prod.fst hxs
    have w1 : ∀ q ∈ y1.1.weights Try.prog 22, q ≤ reachBytes := fun q hq => hwi q (by
      rw [hD]
      simp only [DataW.weights, Try.underlying24]
      exact DataW.weights_mem_each (j := 1) rfl rfl q hq)
    obtain ⟨k, e0, hk⟩ := DataW.trod_int Try.underlying3 g0
    have hlo : -9223372036854775808 ≤ k := by have := hk.2; simp [Lit.wf, IntKind.min, IntKind.max, IntKind.bits, IntKind.signed] at this; omega
    have hhi : k ≤ 9223372036854775807 := by have := hk.2; simp [Lit.wf, IntKind.min, IntKind.max, IntKind.bits, IntKind.signed] at this; omega
    obtain ⟨ca, cls, cc, e1, f1, l1⟩ := introws_in g1 w1
    obtain ⟨l⟩ := cs
    match l, hcs with
    | [v0, v1], _ =>
      simp [Value.cells] at e0 e1
      subst e0 e1
      exact ⟨k, cls, ca, cc, rfl, f1, l1.move (Kept.of_below (Below.refl _ _)) (fun b hb _ => hb), hlo, hhi⟩

end
end Go.Proofs.Ytcffikfjbpeggaa
