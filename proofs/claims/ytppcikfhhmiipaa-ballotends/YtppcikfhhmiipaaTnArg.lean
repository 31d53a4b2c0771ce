/- Turns and pushes that came in as arguments: what they hold. -/
import Derived.Test.YtppcikfhhmiipaaBlTs
import Derived.Deep.Slices
import Derived.Deep.Strs
import Derived.SizedLaws
namespace Go.Proofs.Ytppcikfhhmiipaa
open Go.ChangeShapes Go.WideShapes Go.ChangeAt Go.RowKit Go.Deep

/-- a push: what a turn is made of -/
def kPu : Kd Tn 4 where
  rel _ _ t cs := cs = [.int .i64 t.kind, .int .i64 t.who, .int .i64 t.round, .int .i64 t.value]
  move _ _ _ _ h := h
  len := by
    rintro _ _ _ _ rfl
    rfl
  one := by
    rintro _ _ t _ rfl x hx
    simp only [List.mem_cons, List.not_mem_nil, or_false] at hx
    rcases hx with rfl | rfl | rfl | rfl <;> rfl

theorem weights_in_list {H : Type} {P : Program} {e : TypeId} {d : DataW H} {n : Nat} (hn : n ∈ d.weights P e) : ∀ {l : List (DataW H)}, d ∈ l → n ∈ DataW.weightsAll P e l
  | x :: r, hd => by
    rw [DataW.weightsAll, List.mem_append]
    rcases List.mem_cons.1 hd with h | h
    · subst h; exact .inl hn
    · exact .inr (weights_in_list hn h)

section
variable {H : Type} {enc : TypeId × Value → H} {W : World} {base : Nat} {sp : Nat → Bool} {held : Bool}

theorem Try.cells_intD : Try.prog.cellsOf 3 = 1 := by kernel_rfl

set_option maxRecDepth 100000 in
theorem turns_in {fuel : Nat} {cs : List Value} {x : DataW H × List MemPlace} (hf : DataW.trod enc Try.prog W base sp held fuel 22 cs = some x) (hw : ∀ q ∈ x.1.weights Try.prog 22, q ≤ reachBytes) :
    ∃ (a : Option Addr) (ls : List Tn) (cap : Nat), cs = [.slice a ls.length cap] ∧ ls.length * 32 ≤ 140737488351232 ∧ Lies kTn (fun _ => True) W a cap ls := by
  rcases open_slice Try.underlying22 hf with ⟨hcs, _⟩ | ⟨ad, len, cap, m, n, D, Pl, hcs, _, hl, hm, hmm, hxx, hx⟩
  · exact ⟨none, [], 0, hcs, by simp, Lies.nil _ _ _ (fun _ => rfl)⟩
  · subst hxx
    have hlm : len ≤ m := by rw [hmm]; split <;> omega
    have hfew : len * 32 ≤ 140737488351232 := by
      have h1 := hw _ (by simp only [DataW.weights, Try.underlying22]; exact List.mem_cons_self)
      rw [show Try.prog.bytesOf 34 = 32 by kernel_rfl] at h1
      simp only [List.length_map, List.length_range, reachBytes] at h1
      omega
    have each : ∀ i, i < len → ∃ d : Tn, ∃ cs', kTn.rel (fun _ => True) W d cs' ∧ cs'.length = 4 ∧ ∀ j, j < 4 → W.cell? ((ad.add (i * 4)).add j) = cs'[j]? := by
      intro i hi
      obtain ⟨cs', h1, h2⟩ := hx i (by omega)
      rw [show Try.prog.cellsOf 34 = 4 by kernel_rfl] at h1
      obtain ⟨_, hlen, hcell⟩ := World.cells?_some h1
      obtain ⟨xs, n', _, hxs, _, hxl, hg⟩ := DataW.trod_struct Try.underlying34 h2
      match xs, hxl with
      | [y0, y1, y2, y3], _ =>
        have g0 : DataW.trod enc Try.prog W base sp held n' 3 ((cs'.drop 0).take (Try.prog.cellsOf 3)) = some y0 := hg 0 _ rfl
        have g1 : DataW.trod enc Try.prog W base sp held n' 3 ((cs'.drop 1).take (Try.prog.cellsOf 3)) = some y1 := hg 1 _ rfl
        have g2 : DataW.trod enc Try.prog W base sp held n' 3 ((cs'.drop 2).take (Try.prog.cellsOf 3)) = some y2 := hg 2 _ rfl
        have g3 : DataW.trod enc Try.prog W base sp held n' 3 ((cs'.drop 3).take (Try.prog.cellsOf 3)) = some y3 := hg 3 _ rfl
        rw [Try.cells_intD] at g0 g1 g2 g3
        obtain ⟨k0, e0, _⟩ := DataW.trod_int Try.underlying3 g0
        obtain ⟨k1, e1, _⟩ := DataW.trod_int Try.underlying3 g1
        obtain ⟨k2, e2, f2⟩ := DataW.trod_int Try.underlying3 g2
        obtain ⟨k3, e3, _⟩ := DataW.trod_int Try.underlying3 g3
        match cs', hlen with
        | [v0, v1, v2, v3], _ =>
          simp at e0 e1 e2 e3
          subst e0 e1 e2 e3
          exact ⟨⟨k0, k1, k2, k3⟩, _, ⟨rfl, show InI k2 by simp [Lit.wf, IntKind.min, IntKind.max, IntKind.bits, IntKind.signed] at f2; unfold InI; omega⟩, rfl, hcell⟩
    have : Inhabited Tn := ⟨⟨0, 0, 0, 0⟩⟩
    obtain ⟨Q, hQ⟩ := choose_lt each
    refine ⟨some ad, (List.range len).map Q, cap, by simpa using hcs, by simpa using hfew, ?_⟩
    by_cases h0 : len = 0
    · subst h0
      exact Lies.nil _ _ _ (fun h => by cases h)
    · obtain ⟨b, off, spot⟩ := ad
      obtain ⟨cs0, _, hl0, hc0⟩ := hQ 0 (by omega)
      have hc1 := hc0 0 (by omega)
      rw [List.getElem?_eq_getElem (by omega)] at hc1
      have hspot : spot = none := by
        have := World.cell?_spot hc1
        simpa [Addr.add] using this
      subst hspot
      have ea : ∀ i j, ((⟨b, off, none⟩ : Addr).add i).add j = ⟨b, off + i + j, none⟩ := fun i j => by
        rw [Addr.add_mid, Addr.add_mid]
      refine lies_of (by decide) (by simpa using hl) (by rw [ea] at hc1; exact World.block_lt_of_cell? _ _ hc1) trivial (fun i hi => ?_)
      have hi2 : i < len := by simpa using hi
      obtain ⟨cs', h1, h2, h3⟩ := hQ i hi2
      simp only [List.getElem_map, List.getElem_range]
      refine ⟨cs', h1, fun j u hu => ?_⟩
      have hj : j < 4 := by
        have := (List.getElem?_eq_some_iff.1 hu).1
        omega
      have := h3 j hj
      rw [ea] at this
      rw [this, hu]

set_option maxRecDepth 100000 in
theorem turns_arg {fuel len cap j : Nat} {ts : List TypeId} {ds : List (DataW H)} {x : DataW H × List MemPlace} {a : Option Addr} {cs : List Value}
    (hsz : (DataW.weightsEach Try.prog ts ds).all (· ≤ reachBytes) = true) (ht : ts[j]? = some 22) (hd : ds[j]? = some x.1) (hc : cs = [.slice a len cap])
    (hf : DataW.trod enc Try.prog W base sp held fuel 22 cs = some x) : ∃ ls : List Tn, len = ls.length ∧ Lies kTn (fun _ => True) W a cap ls := by
  obtain ⟨a', ls, cap', e, -, h⟩ := turns_in hf (fun q hq => by
    have := List.all_eq_true.1 hsz q (DataW.weights_mem_each ht hd q hq)
    simpa using this)
  rw [hc] at e
  simp only [List.cons.injEq, Value.slice.injEq, and_true] at e
  obtain ⟨rfl, rfl, rfl⟩ := e
  exact ⟨ls, rfl, h⟩

set_option maxRecDepth 100000 in
theorem pushes_in {fuel : Nat} {cs : List Value} {x : DataW H × List MemPlace} (hf : DataW.trod enc Try.prog W base sp held fuel 30 cs = some x) (hw : ∀ q ∈ x.1.weights Try.prog 30, q ≤ reachBytes) :
    ∃ (a : Option Addr) (ls : List Tn) (cap : Nat), cs = [.slice a ls.length cap] ∧ ls.length * 32 ≤ 140737488351232 ∧ Lies kPu (fun _ => True) W a cap ls := by
  rcases open_slice Try.underlying30 hf with ⟨hcs, _⟩ | ⟨ad, len, cap, m, n, D, Pl, hcs, _, hl, hm, hmm, hxx, hx⟩
  · exact ⟨none, [], 0, hcs, by simp, Lies.nil _ _ _ (fun _ => rfl)⟩
  · subst hxx
    have hlm : len ≤ m := by rw [hmm]; split <;> omega
    have hfew : len * 32 ≤ 140737488351232 := by
      have h1 := hw _ (by simp only [DataW.weights, Try.underlying30]; exact List.mem_cons_self)
      rw [show Try.prog.bytesOf 61 = 32 by kernel_rfl] at h1
      simp only [List.length_map, List.length_range, reachBytes] at h1
      omega
    have each : ∀ i, i < len → ∃ d : Tn, ∃ cs', kPu.rel (fun _ => True) W d cs' ∧ cs'.length = 4 ∧ ∀ j, j < 4 → W.cell? ((ad.add (i * 4)).add j) = cs'[j]? := by
      intro i hi
      obtain ⟨cs', h1, h2⟩ := hx i (by omega)
      rw [show Try.prog.cellsOf 61 = 4 by kernel_rfl] at h1
      obtain ⟨_, hlen, hcell⟩ := World.cells?_some h1
      obtain ⟨xs, n', _, hxs, _, hxl, hg⟩ := DataW.trod_struct Try.underlying61 h2
      match xs, hxl with
      | [y0, y1, y2, y3], _ =>
        have g0 : DataW.trod enc Try.prog W base sp held n' 3 ((cs'.drop 0).take (Try.prog.cellsOf 3)) = some y0 := hg 0 _ rfl
        have g1 : DataW.trod enc Try.prog W base sp held n' 3 ((cs'.drop 1).take (Try.prog.cellsOf 3)) = some y1 := hg 1 _ rfl
        have g2 : DataW.trod enc Try.prog W base sp held n' 3 ((cs'.drop 2).take (Try.prog.cellsOf 3)) = some y2 := hg 2 _ rfl
        have g3 : DataW.trod enc Try.prog W base sp held n' 3 ((cs'.drop 3).take (Try.prog.cellsOf 3)) = some y3 := hg 3 _ rfl
        rw [Try.cells_intD] at g0 g1 g2 g3
        obtain ⟨k0, e0, _⟩ := DataW.trod_int Try.underlying3 g0
        obtain ⟨k1, e1, _⟩ := DataW.trod_int Try.underlying3 g1
        obtain ⟨k2, e2, f2⟩ := DataW.trod_int Try.underlying3 g2
        obtain ⟨k3, e3, _⟩ := DataW.trod_int Try.underlying3 g3
        match cs', hlen with
        | [v0, v1, v2, v3], _ =>
          simp at e0 e1 e2 e3
          subst e0 e1 e2 e3
          exact ⟨⟨k0, k1, k2, k3⟩, _, rfl, rfl, hcell⟩
    have : Inhabited Tn := ⟨⟨0, 0, 0, 0⟩⟩
    obtain ⟨Q, hQ⟩ := choose_lt each
    refine ⟨some ad, (List.range len).map Q, cap, by simpa using hcs, by simpa using hfew, ?_⟩
    by_cases h0 : len = 0
    · subst h0
      exact Lies.nil _ _ _ (fun h => by cases h)
    · obtain ⟨b, off, spot⟩ := ad
      obtain ⟨cs0, _, hl0, hc0⟩ := hQ 0 (by omega)
      have hc1 := hc0 0 (by omega)
      rw [List.getElem?_eq_getElem (by omega)] at hc1
      have hspot : spot = none := by
        have := World.cell?_spot hc1
        simpa [Addr.add] using this
      subst hspot
      have ea : ∀ i j, ((⟨b, off, none⟩ : Addr).add i).add j = ⟨b, off + i + j, none⟩ := fun i j => by
        rw [Addr.add_mid, Addr.add_mid]
      refine lies_of (by decide) (by simpa using hl) (by rw [ea] at hc1; exact World.block_lt_of_cell? _ _ hc1) trivial (fun i hi => ?_)
      have hi2 : i < len := by simpa using hi
      obtain ⟨cs', h1, h2, h3⟩ := hQ i hi2
      simp only [List.getElem_map, List.getElem_range]
      refine ⟨cs', h1, fun j u hu => ?_⟩
      have hj : j < 4 := by
        have := (List.getElem?_eq_some_iff.1 hu).1
        omega
      have := h3 j hj
      rw [ea] at this
      rw [this, hu]

set_option maxRecDepth 100000 in
theorem pushes_arg {fuel len cap j : Nat} {ts : List TypeId} {ds : List (DataW H)} {x : DataW H × List MemPlace} {a : Option Addr} {cs : List Value}
    (hsz : (DataW.weightsEach Try.prog ts ds).all (· ≤ reachBytes) = true) (ht : ts[j]? = some 30) (hd : ds[j]? = some x.1) (hc : cs = [.slice a len cap])
    (hf : DataW.trod enc Try.prog W base sp held fuel 30 cs = some x) : ∃ ls : List Tn, len = ls.length ∧ Lies kPu (fun _ => True) W a cap ls := by
  obtain ⟨a', ls, cap', e, -, h⟩ := pushes_in hf (fun q hq => by
    have := List.all_eq_true.1 hsz q (DataW.weights_mem_each ht hd q hq)
    simpa using this)
  rw [hc] at e
  simp only [List.cons.injEq, Value.slice.injEq, and_true] at e
  obtain ⟨rfl, rfl, rfl⟩ := e
  exact ⟨ls, rfl, h⟩

end
end Go.Proofs.Ytppcikfhhmiipaa
