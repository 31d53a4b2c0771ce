/- Intents that came in as arguments: what they hold. -/
import Derived.Test.YtndnbkgejdindaaItMem
import Derived.Deep.Slices
import Derived.Deep.Strs
import Derived.SizedLaws
import Derived.Test.YtndnbkgejdindaaMlMem
import Derived.Test.YtndnbkgejdindaaRows
import Derived.Test.YtndnbkgejdindaaMlTellS
namespace Go.Proofs.Ytndnbkgejdindaa
open Go.ChangeShapes Go.WideShapes Go.ChangeAt Go.RowKit Go.Deep

theorem weights_in_list {H : Type} {P : Program} {e : TypeId} {d : DataW H} {n : Nat} (hn : n ∈ d.weights P e) : ∀ {l : List (DataW H)}, d ∈ l → n ∈ DataW.weightsAll P e l
  | x :: r, hd => by
    rw [DataW.weightsAll, List.mem_append]
    rcases List.mem_cons.1 hd with h | h
    · subst h; exact .inl hn
    · exact .inr (weights_in_list hn h)

theorem all2_of_at {α β : Type} {R : α → β → Prop} : ∀ {xs : List α} {ys : List β} (_ : xs.length = ys.length) (_ : ∀ i (h1 : i < xs.length) (h2 : i < ys.length), R xs[i] ys[i]), All2 R xs ys
  | [], [], _, _ => trivial
  | x :: xs, y :: ys, hl, h => ⟨h 0 (by simp) (by simp), all2_of_at (by simpa using hl) (fun i h1 h2 => by have := h (i + 1) (by simpa using h1) (by simpa using h2); simpa using this)⟩
  | [], _ :: _, hl, _ => by simp at hl
  | _ :: _, [], hl, _ => by simp at hl

/-- things that lie one behind the other -/
theorem lies_of {α : Type} {size : Nat} {K : Kd α size} {ok : Nat → Prop} {W : World} {b off cap : Nat} {l : List α} (hs : 0 < size) (hcap : l.length ≤ cap) (hb : b < W.heap.size) (hok : ok b) (h : ∀ i (hi : i < l.length), ∃ cs, K.rel ok W l[i] cs ∧ ∀ j u, cs[j]? = some u → W.cell? ⟨b, off + i * size + j, none⟩ = some u) :
    Lies K ok W (some ⟨b, off, none⟩) cap l := by
  have h' : ∀ i, ∃ cs : List Value, ∀ hi : i < l.length, K.rel ok W l[i] cs ∧ ∀ j u, cs[j]? = some u → W.cell? ⟨b, off + i * size + j, none⟩ = some u := fun i => by
    by_cases hi : i < l.length
    · obtain ⟨cs, hc⟩ := h i hi
      exact ⟨cs, fun _ => hc⟩
    · exact ⟨[], fun hi2 => absurd hi2 hi⟩
  obtain ⟨C, hC⟩ := Classical.skolem.1 h'
  refine ⟨hcap, (fun e => by cases e), .inr ⟨b, off, (List.range l.length).map C, rfl, hb, hok, all2_of_at (by simp) (fun i h1 h2 => ?_), fun j u hj => ?_⟩⟩
  · simp only [List.getElem_map, List.getElem_range]
    exact (hC i h1).1
  · have hlen : ∀ c ∈ (List.range l.length).map C, c.length = size := fun c hc => by
      obtain ⟨i, hi, rfl⟩ := List.mem_map.1 hc
      exact K.len (hC i (by simpa using hi)).1
    have hj2 : j < l.length * size := by
      have := (List.getElem?_eq_some_iff.1 hj).1
      rw [flatten_len hlen] at this
      simpa using this
    have hk : j / size < l.length := Nat.div_lt_of_lt_mul (by rw [Nat.mul_comm]; exact hj2)
    have hr : j % size < size := Nat.mod_lt _ hs
    have e : j = j / size * size + j % size := by rw [Nat.mul_comm]; exact (Nat.div_add_mod _ _).symm
    have hat := flatten_at (css := (List.range l.length).map C) (k := j / size) (c := C (j / size)) hlen (by rw [List.getElem?_map, List.getElem?_range hk]; rfl) (j % size) hr
    rw [← e] at hat
    rw [hat] at hj
    have := (hC (j / size) hk).2 _ _ hj
    rw [Nat.add_assoc, ← e] at this
    exact this

section
variable {H : Type} {enc : TypeId × Value → H} {W : World} {base : Nat} {sp : Nat → Bool} {held : Bool}

theorem octs_in {fuel : Nat} {cs : List Value} {y : DataW H × List MemPlace} (hf : DataW.trod enc Try.prog W base sp held fuel 34 cs = some y) (hw : ∀ n ∈ y.1.weights Try.prog 34, n ≤ reachBytes) :
    ∃ (a : Option Addr) (xs : List Int) (cap : Nat), cs = [.slice a xs.length cap] ∧ Octs W a cap xs := by
  rcases open_ints Try.underlying34 Try.underlying5 (by kernel_rfl) hf with ⟨hcs, _⟩ | ⟨ad, len, cap, zs, hcs, _, hl, hm, hz, hx, hc, hwf⟩
  · exact ⟨none, [], 0, hcs, Octs.nil _ _ _ (fun _ => rfl)⟩
  · have hzl : len ≤ zs.length := by rw [hz]; split <;> omega
    have hmem : ((lits (H := H) .u8 (zs.take len)).length + (lits (H := H) .u8 (zs.drop len)).length) * Try.prog.bytesOf 5 ∈ y.1.weights Try.prog 34 := by
      rw [hx]
      simp [DataW.weights, Try.underlying34]
    have hin := hw _ hmem
    rw [show Try.prog.bytesOf 5 = 1 by kernel_rfl] at hin
    simp only [lits, List.length_map, List.length_take, List.length_drop, reachBytes] at hin
    have hlen : (zs.take len).length = len := by rw [List.length_take]; omega
    refine ⟨some ad, zs.take len, cap, by rw [hlen]; exact hcs, by rw [hlen]; exact hl, by rw [hlen]; omega, (fun h => by cases h), ?_, ?_⟩
    · intro q hq
      have := hwf q (List.mem_of_mem_take hq)
      simp [Lit.wf, IntKind.min, IntKind.max, IntKind.bits, IntKind.signed] at this
      omega
    · by_cases h0 : len = 0
      · left; subst h0; simp
      · right
        obtain ⟨b, off, spot⟩ := ad
        have hspot : spot = none := by simpa [Addr.add] using World.cell?_spot (hc 0 (by omega))
        subst hspot
        refine ⟨b, off, rfl, fun q hq => ?_⟩
        rw [hlen] at hq
        have := hc q (by omega)
        rw [addr_add] at this
        rw [this]
        simp [List.getD, hq]

theorem Try.cells_octD : Try.prog.cellsOf 34 = 1 := by kernel_rfl
theorem Try.cells_boolD : Try.prog.cellsOf 4 = 1 := by kernel_rfl

set_option maxRecDepth 100000 in
theorem rngs_in {fuel : Nat} {cs : List Value} {x : DataW H × List MemPlace} (hf : DataW.trod enc Try.prog W base sp held fuel 62 cs = some x) (hw : ∀ q ∈ x.1.weights Try.prog 62, q ≤ reachBytes) :
    ∃ (a : Option Addr) (ls : List Ent) (cap : Nat), cs = [.slice a ls.length cap] ∧ ls.length ≤ 140737488351232 ∧ Lies kEnt (fun _ => True) W a cap ls := by
  rcases open_slice Try.underlying62 hf with ⟨hcs, _⟩ | ⟨ad, len, cap, m, n, D, Pl, hcs, _, hl, hm, hmm, hxx, hx⟩
  · exact ⟨none, [], 0, hcs, by simp, Lies.nil _ _ _ (fun _ => rfl)⟩
  · subst hxx
    have hlm : len ≤ m := by rw [hmm]; split <;> omega
    have hfew : len ≤ 140737488351232 := by
      have h1 := hw _ (by simp only [DataW.weights, Try.underlying62]; exact List.mem_cons_self)
      rw [show Try.prog.bytesOf 76 = 48 by kernel_rfl] at h1
      simp only [List.length_map, List.length_range, reachBytes] at h1
      omega
    have hin : ∀ i, i < len → ∀ q ∈ (D i).weights Try.prog 76, q ≤ reachBytes := fun i hi q hq => hw q (by
      simp only [DataW.weights, Try.underlying62, List.mem_cons, List.mem_append]
      exact .inr (.inl (weights_in_list hq (List.mem_map.2 ⟨i, List.mem_range.2 hi, rfl⟩))))
    have each : ∀ i, i < len → ∃ d : Ent, ∃ cs', kEnt.rel (fun _ => True) W d cs' ∧ cs'.length = 2 ∧ ∀ j, j < 2 → W.cell? ((ad.add (i * 2)).add j) = cs'[j]? := by
      intro i hi
      obtain ⟨cs', h1, h2⟩ := hx i (by omega)
      rw [show Try.prog.cellsOf 76 = 2 by kernel_rfl] at h1
      obtain ⟨_, hlen, hcell⟩ := World.cells?_some h1
      have hwi := hin i hi
      obtain ⟨xs, n', _, hxs, _, hxl, hg⟩ := DataW.trod_struct Try.underlying76 h2
      match xs, hxl with
      | [y0, y1], _ =>
        have g0 : DataW.trod enc Try.prog W base sp held n' 34 ((cs'.drop 0).take (Try.prog.cellsOf 34)) = some y0 := hg 0 _ rfl
        have g1 : DataW.trod enc Try.prog W base sp held n' 34 ((cs'.drop 1).take (Try.prog.cellsOf 34)) = some y1 := hg 1 _ rfl
        rw [Try.cells_octD] at g0 g1
        have hD : D i = .agg ([y0, y1].map (·.1)) := congrArg Prod.fst hxs
        have w0 : ∀ q ∈ y0.1.weights Try.prog 34, q ≤ reachBytes := fun q hq => hwi q (by
          rw [hD]
          simp only [DataW.weights, Try.underlying76]
          exact DataW.weights_mem_each (j := 0) rfl rfl q hq)
        have w1 : ∀ q ∈ y1.1.weights Try.prog 34, q ≤ reachBytes := fun q hq => hwi q (by
          rw [hD]
          simp only [DataW.weights, Try.underlying76]
          exact DataW.weights_mem_each (j := 1) rfl rfl q hq)
        obtain ⟨a0, x0, c0, e0, o0⟩ := octs_in g0 w0
        obtain ⟨a1, x1, c1, e1, o1⟩ := octs_in g1 w1
        match cs', hlen with
        | [v0, v1], _ =>
          simp at e0 e1
          subst e0 e1
          exact ⟨(x0, x1), _, ⟨_, _, rfl, ⟨a0, c0, rfl, o0, fun _ _ _ => trivial⟩, ⟨a1, c1, rfl, o1, fun _ _ _ => trivial⟩⟩, rfl, hcell⟩
    have : Inhabited Ent := ⟨([], [])⟩
    obtain ⟨Q, hQ⟩ := choose_lt each
    refine ⟨some ad, (List.range len).map Q, cap, by simpa using hcs, by simpa using hfew, ?_⟩
    by_cases h0 : len = 0
    · subst h0
      exact Lies.nil _ _ _ (fun h => by cases h)
    · obtain ⟨b, off, spot⟩ := ad
      obtain ⟨cs0, _, hl0, hc0⟩ := hQ 0 (by omega)
      have hc1 := hc0 0 (by omega)
      rw [List.getElem?_eq_getElem (by omega)] at hc1
      have hspot : spot = none := by
        have := World.cell?_spot hc1
        simpa [Addr.add] using this
      subst hspot
      have ea : ∀ i j, ((⟨b, off, none⟩ : Addr).add i).add j = ⟨b, off + i + j, none⟩ := fun i j => by
        rw [Addr.add_mid, Addr.add_mid]
      refine lies_of (by decide) (by simpa using hl) (by rw [ea] at hc1; exact World.block_lt_of_cell? _ _ hc1) trivial (fun i hi => ?_)
      have hi2 : i < len := by simpa using hi
      obtain ⟨cs', h1, h2, h3⟩ := hQ i hi2
      simp only [List.getElem_map, List.getElem_range]
      refine ⟨cs', h1, fun j u hu => ?_⟩
      have hj : j < 2 := by
        have := (List.getElem?_eq_some_iff.1 hu).1
        omega
      have := h3 j hj
      rw [ea] at this
      rw [this, hu]

set_option maxRecDepth 100000 in
theorem wts_in {fuel : Nat} {cs : List Value} {x : DataW H × List MemPlace} (hf : DataW.trod enc Try.prog W base sp held fuel 63 cs = some x) (hw : ∀ q ∈ x.1.weights Try.prog 63, q ≤ reachBytes) :
    ∃ (a : Option Addr) (ls : List Wt) (cap : Nat), cs = [.slice a ls.length cap] ∧ ls.length ≤ 140737488351232 ∧ Lies kWt (fun _ => True) W a cap ls := by
  rcases open_slice Try.underlying63 hf with ⟨hcs, _⟩ | ⟨ad, len, cap, m, n, D, Pl, hcs, _, hl, hm, hmm, hxx, hx⟩
  · exact ⟨none, [], 0, hcs, by simp, Lies.nil _ _ _ (fun _ => rfl)⟩
  · subst hxx
    have hlm : len ≤ m := by rw [hmm]; split <;> omega
    have hfew : len ≤ 140737488351232 := by
      have h1 := hw _ (by simp only [DataW.weights, Try.underlying63]; exact List.mem_cons_self)
      rw [show Try.prog.bytesOf 79 = 56 by kernel_rfl] at h1
      simp only [List.length_map, List.length_range, reachBytes] at h1
      omega
    have hin : ∀ i, i < len → ∀ q ∈ (D i).weights Try.prog 79, q ≤ reachBytes := fun i hi q hq => hw q (by
      simp only [DataW.weights, Try.underlying63, List.mem_cons, List.mem_append]
      exact .inr (.inl (weights_in_list hq (List.mem_map.2 ⟨i, List.mem_range.2 hi, rfl⟩))))
    have each : ∀ i, i < len → ∃ d : Wt, ∃ cs', kWt.rel (fun _ => True) W d cs' ∧ cs'.length = 3 ∧ ∀ j, j < 3 → W.cell? ((ad.add (i * 3)).add j) = cs'[j]? := by
      intro i hi
      obtain ⟨cs', h1, h2⟩ := hx i (by omega)
      rw [show Try.prog.cellsOf 79 = 3 by kernel_rfl] at h1
      obtain ⟨_, hlen, hcell⟩ := World.cells?_some h1
      have hwi := hin i hi
      obtain ⟨xs, n', _, hxs, _, hxl, hg⟩ := DataW.trod_struct Try.underlying79 h2
      match xs, hxl with
      | [y0, y1, y2], _ =>
        have g0 : DataW.trod enc Try.prog W base sp held n' 34 ((cs'.drop 0).take (Try.prog.cellsOf 34)) = some y0 := hg 0 _ rfl
        have g1 : DataW.trod enc Try.prog W base sp held n' 34 ((cs'.drop 1).take (Try.prog.cellsOf 34)) = some y1 := hg 1 _ rfl
        have g2 : DataW.trod enc Try.prog W base sp held n' 4 ((cs'.drop 2).take (Try.prog.cellsOf 4)) = some y2 := hg 2 _ rfl
        rw [Try.cells_octD] at g0 g1
        rw [Try.cells_boolD] at g2
        have hD : D i = .agg ([y0, y1, y2].map (·.1)) := congrArg Prod.fst hxs
        have w0 : ∀ q ∈ y0.1.weights Try.prog 34, q ≤ reachBytes := fun q hq => hwi q (by
          rw [hD]
          simp only [DataW.weights, Try.underlying79]
          exact DataW.weights_mem_each (j := 0) rfl rfl q hq)
        have w1 : ∀ q ∈ y1.1.weights Try.prog 34, q ≤ reachBytes := fun q hq => hwi q (by
          rw [hD]
          simp only [DataW.weights, Try.underlying79]
          exact DataW.weights_mem_each (j := 1) rfl rfl q hq)
        obtain ⟨a0, x0, c0, e0, o0⟩ := octs_in g0 w0
        obtain ⟨a1, x1, c1, e1, o1⟩ := octs_in g1 w1
        obtain ⟨k2, e2, _⟩ := DataW.trod_bool Try.underlying4 g2
        match cs', hlen with
        | [v0, v1, v2], _ =>
          simp at e0 e1 e2
          subst e0 e1 e2
          exact ⟨⟨x0, x1, k2⟩, _, ⟨_, _, rfl, ⟨a0, c0, rfl, o0, fun _ _ _ => trivial⟩, ⟨a1, c1, rfl, o1, fun _ _ _ => trivial⟩⟩, rfl, hcell⟩
    have : Inhabited Wt := ⟨⟨[], [], false⟩⟩
    obtain ⟨Q, hQ⟩ := choose_lt each
    refine ⟨some ad, (List.range len).map Q, cap, by simpa using hcs, by simpa using hfew, ?_⟩
    by_cases h0 : len = 0
    · subst h0
      exact Lies.nil _ _ _ (fun h => by cases h)
    · obtain ⟨b, off, spot⟩ := ad
      obtain ⟨cs0, _, hl0, hc0⟩ := hQ 0 (by omega)
      have hc1 := hc0 0 (by omega)
      rw [List.getElem?_eq_getElem (by omega)] at hc1
      have hspot : spot = none := by
        have := World.cell?_spot hc1
        simpa [Addr.add] using this
      subst hspot
      have ea : ∀ i j, ((⟨b, off, none⟩ : Addr).add i).add j = ⟨b, off + i + j, none⟩ := fun i j => by
        rw [Addr.add_mid, Addr.add_mid]
      refine lies_of (by decide) (by simpa using hl) (by rw [ea] at hc1; exact World.block_lt_of_cell? _ _ hc1) trivial (fun i hi => ?_)
      have hi2 : i < len := by simpa using hi
      obtain ⟨cs', h1, h2, h3⟩ := hQ i hi2
      simp only [List.getElem_map, List.getElem_range]
      refine ⟨cs', h1, fun j u hu => ?_⟩
      have hj : j < 3 := by
        have := (List.getElem?_eq_some_iff.1 hu).1
        omega
      have := h3 j hj
      rw [ea] at this
      rw [this, hu]

theorem Try.cells_intD : Try.prog.cellsOf 3 = 1 := by kernel_rfl
theorem Try.cells_rngs : Try.prog.cellsOf 62 = 1 := by kernel_rfl
theorem Try.cells_wts : Try.prog.cellsOf 63 = 1 := by kernel_rfl

/-- an intent, as a value -/
def IttArg (w : World) (v : Value) : Prop := ∃ (c n s : Int) (rs : List Ent) (ws : List Wt) (ra : Option Addr) (rc : Nat) (wa : Option Addr) (wc : Nat), v = .agg #[.int .i64 c, .int .i64 n, .int .i64 s, .slice ra rs.length rc, .slice wa ws.length wc] ∧ ItIs (fun _ => True) w rs ws ra rc wa wc

set_option maxRecDepth 100000 in
theorem itt_arg {r : Reach} {b0 j : Nat} {ts : List TypeId} {ds : List (DataW H)} {v : Value} {d : DataW H} {ps : List MemPlace}
    (hsz : (DataW.weightsEach Try.prog ts ds).all (· ≤ reachBytes) = true) (ht : ts[j]? = some 65) (hd : ds[j]? = some d) (hval : Value.okWide Try.prog W r b0 65 v) (hf : DataW.Trod enc Try.prog W base sp held 65 v d ps) : IttArg W v := by
  obtain ⟨cs, rfl, hcs⟩ := okWide_struct Try.underlying65 hval
  obtain ⟨fuel, hf⟩ := hf
  obtain ⟨xs, n', _, hxs, _, hxl, hg⟩ := DataW.trod_struct Try.underlying65 hf
  have hwi : ∀ q ∈ d.weights Try.prog 65, q ≤ reachBytes := fun q hq => by
    have := List.all_eq_true.1 hsz q (DataW.weights_mem_each ht hd q hq)
    simpa using this
  rw [show Try.prog.cellsOf 65 = 5 by kernel_rfl] at hcs
  match xs, hxl with
  | [y0, y1, y2, y3, y4], _ =>
    have g0 : DataW.trod enc Try.prog W base sp held n' 3 (((Value.agg cs).cells.toList.drop 0).take (Try.prog.cellsOf 3)) = some y0 := hg 0 _ rfl
    have g1 : DataW.trod enc Try.prog W base sp held n' 3 (((Value.agg cs).cells.toList.drop 1).take (Try.prog.cellsOf 3)) = some y1 := hg 1 _ rfl
    have g2 : DataW.trod enc Try.prog W base sp held n' 3 (((Value.agg cs).cells.toList.drop 2).take (Try.prog.cellsOf 3)) = some y2 := hg 2 _ rfl
    have g3 : DataW.trod enc Try.prog W base sp held n' 62 (((Value.agg cs).cells.toList.drop 3).take (Try.prog.cellsOf 62)) = some y3 := hg 3 _ rfl
    have g4 : DataW.trod enc Try.prog W base sp held n' 63 (((Value.agg cs).cells.toList.drop 4).take (Try.prog.cellsOf 63)) = some y4 := hg 4 _ rfl
    rw [Try.cells_intD] at g0 g1 g2
    rw [Try.cells_rngs] at g3
    rw [Try.cells_wts] at g4
    have hD : d = .agg ([y0, y1, y2, y3, y4].map (·.1)) := congrArg Prod.fst hxs
    have w3 : ∀ q ∈ y3.1.weights Try.prog 62, q ≤ reachBytes := fun q hq => hwi q (by
      rw [hD]
      simp only [DataW.weights, Try.underlying65]
      exact DataW.weights_mem_each (j := 3) rfl rfl q hq)
    have w4 : ∀ q ∈ y4.1.weights Try.prog 63, q ≤ reachBytes := fun q hq => hwi q (by
      rw [hD]
      simp only [DataW.weights, Try.underlying65]
      exact DataW.weights_mem_each (j := 4) rfl rfl q hq)
    obtain ⟨c, e0, _⟩ := DataW.trod_int Try.underlying3 g0
    obtain ⟨n, e1, _⟩ := DataW.trod_int Try.underlying3 g1
    obtain ⟨s, e2, _⟩ := DataW.trod_int Try.underlying3 g2
    obtain ⟨ra, rs, rc, e3, f3, l3⟩ := rngs_in g3 w3
    obtain ⟨wa, ws, wc, e4, f4, l4⟩ := wts_in g4 w4
    obtain ⟨l⟩ := cs
    match l, hcs with
    | [v0, v1, v2, v3, v4], _ =>
      simp [Value.cells] at e0 e1 e2 e3 e4
      subst e0 e1 e2 e3 e4
      exact ⟨c, n, s, rs, ws, ra, rc, wa, wc, rfl, l3, l4, f3, f4⟩

end
end Go.Proofs.Ytndnbkgejdindaa

/- States that came in as arguments: what they hold. -/
namespace Go.Proofs.Ytndnbkgejdindaa
open Go.ChangeShapes Go.WideShapes Go.ChangeAt Go.RowKit Go.Deep

section
variable {H : Type} {enc : TypeId × Value → H} {W : World} {base : Nat} {sp : Nat → Bool} {held : Bool}

set_option maxRecDepth 100000 in
theorem cels_in {fuel : Nat} {cs : List Value} {x : DataW H × List MemPlace} (hf : DataW.trod enc Try.prog W base sp held fuel 22 cs = some x) (hw : ∀ q ∈ x.1.weights Try.prog 22, q ≤ reachBytes) :
    ∃ (a : Option Addr) (ls : List Cel) (cap : Nat), cs = [.slice a ls.length cap] ∧ ls.length * 64 ≤ 140737488351232 ∧ Lies kCel (fun _ => True) W a cap ls := by
  rcases open_slice Try.underlying22 hf with ⟨hcs, _⟩ | ⟨ad, len, cap, m, n, D, Pl, hcs, _, hl, hm, hmm, hxx, hx⟩
  · exact ⟨none, [], 0, hcs, by simp, Lies.nil _ _ _ (fun _ => rfl)⟩
  · subst hxx
    have hlm : len ≤ m := by rw [hmm]; split <;> omega
    have hfew : len * 64 ≤ 140737488351232 := by
      have h1 := hw _ (by simp only [DataW.weights, Try.underlying22]; exact List.mem_cons_self)
      rw [show Try.prog.bytesOf 51 = 64 by kernel_rfl] at h1
      simp only [List.length_map, List.length_range, reachBytes] at h1
      omega
    have hin : ∀ i, i < len → ∀ q ∈ (D i).weights Try.prog 51, q ≤ reachBytes := fun i hi q hq => hw q (by
      simp only [DataW.weights, Try.underlying22, List.mem_cons, List.mem_append]
      exact .inr (.inl (weights_in_list hq (List.mem_map.2 ⟨i, List.mem_range.2 hi, rfl⟩))))
    have each : ∀ i, i < len → ∃ d : Cel, ∃ cs', kCel.rel (fun _ => True) W d cs' ∧ cs'.length = 4 ∧ ∀ j, j < 4 → W.cell? ((ad.add (i * 4)).add j) = cs'[j]? := by
      intro i hi
      obtain ⟨cs', h1, h2⟩ := hx i (by omega)
      rw [show Try.prog.cellsOf 51 = 4 by kernel_rfl] at h1
      obtain ⟨_, hlen, hcell⟩ := World.cells?_some h1
      have hwi := hin i hi
      obtain ⟨xs, n', _, hxs, _, hxl, hg⟩ := DataW.trod_struct Try.underlying51 h2
      match xs, hxl with
      | [y0, y1, y2, y3], _ =>
        have g0 : DataW.trod enc Try.prog W base sp held n' 34 ((cs'.drop 0).take (Try.prog.cellsOf 34)) = some y0 := hg 0 _ rfl
        have g1 : DataW.trod enc Try.prog W base sp held n' 34 ((cs'.drop 1).take (Try.prog.cellsOf 34)) = some y1 := hg 1 _ rfl
        have g2 : DataW.trod enc Try.prog W base sp held n' 4 ((cs'.drop 2).take (Try.prog.cellsOf 4)) = some y2 := hg 2 _ rfl
        have g3 : DataW.trod enc Try.prog W base sp held n' 3 ((cs'.drop 3).take (Try.prog.cellsOf 3)) = some y3 := hg 3 _ rfl
        rw [Try.cells_octD] at g0 g1
        rw [Try.cells_boolD] at g2
        rw [Try.cells_intD] at g3
        have hD : D i = .agg ([y0, y1, y2, y3].map (·.1)) := congrArg Prod.fst hxs
        have w0 : ∀ q ∈ y0.1.weights Try.prog 34, q ≤ reachBytes := fun q hq => hwi q (by
          rw [hD]
          simp only [DataW.weights, Try.underlying51]
          exact DataW.weights_mem_each (j := 0) rfl rfl q hq)
        have w1 : ∀ q ∈ y1.1.weights Try.prog 34, q ≤ reachBytes := fun q hq => hwi q (by
          rw [hD]
          simp only [DataW.weights, Try.underlying51]
          exact DataW.weights_mem_each (j := 1) rfl rfl q hq)
        obtain ⟨a0, x0, c0, e0, o0⟩ := octs_in g0 w0
        obtain ⟨a1, x1, c1, e1, o1⟩ := octs_in g1 w1
        obtain ⟨k2, e2, _⟩ := DataW.trod_bool Try.underlying4 g2
        obtain ⟨k3, e3, _⟩ := DataW.trod_int Try.underlying3 g3
        match cs', hlen with
        | [v0, v1, v2, v3], _ =>
          simp at e0 e1 e2 e3
          subst e0 e1 e2 e3
          exact ⟨⟨x0, x1, k2, k3⟩, _, ⟨_, _, rfl, ⟨a0, c0, rfl, o0, fun _ _ _ => trivial⟩, ⟨a1, c1, rfl, o1, fun _ _ _ => trivial⟩⟩, rfl, hcell⟩
    have : Inhabited Cel := ⟨⟨[], [], false, 0⟩⟩
    obtain ⟨Q, hQ⟩ := choose_lt each
    refine ⟨some ad, (List.range len).map Q, cap, by simpa using hcs, by simpa using hfew, ?_⟩
    by_cases h0 : len = 0
    · subst h0
      exact Lies.nil _ _ _ (fun h => by cases h)
    · obtain ⟨b, off, spot⟩ := ad
      obtain ⟨cs0, _, hl0, hc0⟩ := hQ 0 (by omega)
      have hc1 := hc0 0 (by omega)
      rw [List.getElem?_eq_getElem (by omega)] at hc1
      have hspot : spot = none := by
        have := World.cell?_spot hc1
        simpa [Addr.add] using this
      subst hspot
      have ea : ∀ i j, ((⟨b, off, none⟩ : Addr).add i).add j = ⟨b, off + i + j, none⟩ := fun i j => by
        rw [Addr.add_mid, Addr.add_mid]
      refine lies_of (by decide) (by simpa using hl) (by rw [ea] at hc1; exact World.block_lt_of_cell? _ _ hc1) trivial (fun i hi => ?_)
      have hi2 : i < len := by simpa using hi
      obtain ⟨cs', h1, h2, h3⟩ := hQ i hi2
      simp only [List.getElem_map, List.getElem_range]
      refine ⟨cs', h1, fun j u hu => ?_⟩
      have hj : j < 4 := by
        have := (List.getElem?_eq_some_iff.1 hu).1
        omega
      have := h3 j hj
      rw [ea] at this
      rw [this, hu]

set_option maxRecDepth 100000 in
theorem dns_in {fuel : Nat} {cs : List Value} {x : DataW H × List MemPlace} (hf : DataW.trod enc Try.prog W base sp held fuel 23 cs = some x) (hw : ∀ q ∈ x.1.weights Try.prog 23, q ≤ reachBytes) :
    ∃ (a : Option Addr) (ls : List Dn) (cap : Nat), cs = [.slice a ls.length cap] ∧ ls.length * 32 ≤ 140737488351232 ∧ Lies kDn (fun _ => True) W a cap ls := by
  rcases open_slice Try.underlying23 hf with ⟨hcs, _⟩ | ⟨ad, len, cap, m, n, D, Pl, hcs, _, hl, hm, hmm, hxx, hx⟩
  · exact ⟨none, [], 0, hcs, by simp, Lies.nil _ _ _ (fun _ => rfl)⟩
  · subst hxx
    have hlm : len ≤ m := by rw [hmm]; split <;> omega
    have hfew : len * 32 ≤ 140737488351232 := by
      have h1 := hw _ (by simp only [DataW.weights, Try.underlying23]; exact List.mem_cons_self)
      rw [show Try.prog.bytesOf 53 = 32 by kernel_rfl] at h1
      simp only [List.length_map, List.length_range, reachBytes] at h1
      omega
    have each : ∀ i, i < len → ∃ d : Dn, ∃ cs', kDn.rel (fun _ => True) W d cs' ∧ cs'.length = 4 ∧ ∀ j, j < 4 → W.cell? ((ad.add (i * 4)).add j) = cs'[j]? := by
      intro i hi
      obtain ⟨cs', h1, h2⟩ := hx i (by omega)
      rw [show Try.prog.cellsOf 53 = 4 by kernel_rfl] at h1
      obtain ⟨_, hlen, hcell⟩ := World.cells?_some h1
      obtain ⟨xs, n', _, hxs, _, hxl, hg⟩ := DataW.trod_struct Try.underlying53 h2
      match xs, hxl with
      | [y0, y1, y2, y3], _ =>
        have g0 : DataW.trod enc Try.prog W base sp held n' 3 ((cs'.drop 0).take (Try.prog.cellsOf 3)) = some y0 := hg 0 _ rfl
        have g1 : DataW.trod enc Try.prog W base sp held n' 3 ((cs'.drop 1).take (Try.prog.cellsOf 3)) = some y1 := hg 1 _ rfl
        have g2 : DataW.trod enc Try.prog W base sp held n' 3 ((cs'.drop 2).take (Try.prog.cellsOf 3)) = some y2 := hg 2 _ rfl
        have g3 : DataW.trod enc Try.prog W base sp held n' 4 ((cs'.drop 3).take (Try.prog.cellsOf 4)) = some y3 := hg 3 _ rfl
        rw [Try.cells_boolD] at g3
        rw [Try.cells_intD] at g0 g1 g2
        obtain ⟨k0, e0, _⟩ := DataW.trod_int Try.underlying3 g0
        obtain ⟨k1, e1, _⟩ := DataW.trod_int Try.underlying3 g1
        obtain ⟨k2, e2, _⟩ := DataW.trod_int Try.underlying3 g2
        obtain ⟨k3, e3, _⟩ := DataW.trod_bool Try.underlying4 g3
        match cs', hlen with
        | [v0, v1, v2, v3], _ =>
          simp at e0 e1 e2 e3
          subst e0 e1 e2 e3
          exact ⟨⟨k0, k1, k2, k3⟩, _, rfl, rfl, hcell⟩
    have : Inhabited Dn := ⟨⟨0, 0, 0, false⟩⟩
    obtain ⟨Q, hQ⟩ := choose_lt each
    refine ⟨some ad, (List.range len).map Q, cap, by simpa using hcs, by simpa using hfew, ?_⟩
    by_cases h0 : len = 0
    · subst h0
      exact Lies.nil _ _ _ (fun h => by cases h)
    · obtain ⟨b, off, spot⟩ := ad
      obtain ⟨cs0, _, hl0, hc0⟩ := hQ 0 (by omega)
      have hc1 := hc0 0 (by omega)
      rw [List.getElem?_eq_getElem (by omega)] at hc1
      have hspot : spot = none := by
        have := World.cell?_spot hc1
        simpa [Addr.add] using this
      subst hspot
      have ea : ∀ i j, ((⟨b, off, none⟩ : Addr).add i).add j = ⟨b, off + i + j, none⟩ := fun i j => by
        rw [Addr.add_mid, Addr.add_mid]
      refine lies_of (by decide) (by simpa using hl) (by rw [ea] at hc1; exact World.block_lt_of_cell? _ _ hc1) trivial (fun i hi => ?_)
      have hi2 : i < len := by simpa using hi
      obtain ⟨cs', h1, h2, h3⟩ := hQ i hi2
      simp only [List.getElem_map, List.getElem_range]
      refine ⟨cs', h1, fun j u hu => ?_⟩
      have hj : j < 4 := by
        have := (List.getElem?_eq_some_iff.1 hu).1
        omega
      have := h3 j hj
      rw [ea] at this
      rw [this, hu]

theorem Try.cells_cels : Try.prog.cellsOf 22 = 1 := by kernel_rfl
theorem Try.cells_dns : Try.prog.cellsOf 23 = 1 := by kernel_rfl

/-- a state, as a value -/
def StaArg (w : World) (v : Value) : Prop := ∃ (p : Int) (cs : List Cel) (ds : List Dn) (ca : Option Addr) (cc : Nat) (da : Option Addr) (dc : Nat), v = .agg #[.int .i64 p, .slice ca cs.length cc, .slice da ds.length dc] ∧ StIs (fun _ => True) w cs ds ca cc da dc

set_option maxRecDepth 100000 in
theorem sta_arg {r : Reach} {b0 j : Nat} {ts : List TypeId} {ds : List (DataW H)} {v : Value} {d : DataW H} {ps : List MemPlace}
    (hsz : (DataW.weightsEach Try.prog ts ds).all (· ≤ reachBytes) = true) (ht : ts[j]? = some 25) (hd : ds[j]? = some d) (hval : Value.okWide Try.prog W r b0 25 v) (hf : DataW.Trod enc Try.prog W base sp held 25 v d ps) : StaArg W v := by
  obtain ⟨cs, rfl, hcs⟩ := okWide_struct Try.underlying25 hval
  obtain ⟨fuel, hf⟩ := hf
  obtain ⟨xs, n', _, hxs, _, hxl, hg⟩ := DataW.trod_struct Try.underlying25 hf
  have hwi : ∀ q ∈ d.weights Try.prog 25, q ≤ reachBytes := fun q hq => by
    have := List.all_eq_true.1 hsz q (DataW.weights_mem_each ht hd q hq)
    simpa using this
  rw [show Try.prog.cellsOf 25 = 3 by kernel_rfl] at hcs
  match xs, hxl with
  | [y0, y1, y2], _ =>
    have g0 : DataW.trod enc Try.prog W base sp held n' 3 (((Value.agg cs).cells.toList.drop 0).take (Try.prog.cellsOf 3)) = some y0 := hg 0 _ rfl
    have g1 : DataW.trod enc Try.prog W base sp held n' 22 (((Value.agg cs).cells.toList.drop 1).take (Try.prog.cellsOf 22)) = some y1 := hg 1 _ rfl
    have g2 : DataW.trod enc Try.prog W base sp held n' 23 (((Value.agg cs).cells.toList.drop 2).take (Try.prog.cellsOf 23)) = some y2 := hg 2 _ rfl
    rw [Try.cells_intD] at g0
    rw [Try.cells_cels] at g1
    rw [Try.cells_dns] at g2
    have hD : d = .agg ([y0, y1, y2].map (·.1)) := congrArg Prod.fst hxs
    have w1 : ∀ q ∈ y1.1.weights Try.prog 22, q ≤ reachBytes := fun q hq => hwi q (by
      rw [hD]
      simp only [DataW.weights, Try.underlying25]
      exact DataW.weights_mem_each (j := 1) rfl rfl q hq)
    have w2 : ∀ q ∈ y2.1.weights Try.prog 23, q ≤ reachBytes := fun q hq => hwi q (by
      rw [hD]
      simp only [DataW.weights, Try.underlying25]
      exact DataW.weights_mem_each (j := 2) rfl rfl q hq)
    obtain ⟨c, e0, _⟩ := DataW.trod_int Try.underlying3 g0
    obtain ⟨ca, cls, cc, e1, f1, l1⟩ := cels_in g1 w1
    obtain ⟨da, dls, dc, e2, f2, l2⟩ := dns_in g2 w2
    obtain ⟨l⟩ := cs
    match l, hcs with
    | [v0, v1, v2], _ =>
      simp [Value.cells] at e0 e1 e2
      subst e0 e1 e2
      exact ⟨c, cls, dls, ca, cc, da, dc, rfl, l1, l2, f1, f2⟩

end
end Go.Proofs.Ytndnbkgejdindaa

/- States that came in as arguments, of small bulk: what they hold, and that their bytes are few. -/
namespace Go.Proofs.Ytndnbkgejdindaa
open Go.ChangeShapes Go.WideShapes Go.ChangeAt Go.RowKit Go.Deep

theorem bulk_one {H : Type} (d : DataW H) : 1 ≤ Rows.uptoBulk d := by
  cases d with
  | lit l => cases l <;> simp [Rows.uptoBulk]
  | nil => simp [Rows.uptoBulk]
  | ptr d => simp [Rows.uptoBulk]
  | slice xs ys => simp [Rows.uptoBulk]
  | agg xs => simp [Rows.uptoBulk]
  | iface t d => simp [Rows.uptoBulk]
  | map es => simp [Rows.uptoBulk]
  | held h => simp [Rows.uptoBulk]

theorem bulk_many {H : Type} : ∀ l : List (DataW H), l.length ≤ Rows.uptoBulkAll l
  | [] => by simp
  | d :: l => by
    have := bulk_one d
    have := bulk_many l
    simp only [Rows.uptoBulkAll, List.length_cons]
    omega

theorem bulk_slice {H : Type} (xs ys : List (DataW H)) : xs.length + ys.length + 1 ≤ Rows.uptoBulk (.slice xs ys) := by
  have := bulk_many xs
  have := bulk_many ys
  simp only [Rows.uptoBulk]
  omega

theorem bulk_elems {H : Type} (xs ys : List (DataW H)) : Rows.uptoBulkAll xs + 1 ≤ Rows.uptoBulk (.slice xs ys) := by
  simp only [Rows.uptoBulk]
  omega

theorem bulk_part {H : Type} {d : DataW H} : ∀ {l : List (DataW H)}, d ∈ l → Rows.uptoBulk d ≤ Rows.uptoBulkAll l
  | x :: l, h => by
    simp only [Rows.uptoBulkAll]
    rcases List.mem_cons.1 h with rfl | h
    · omega
    · have := bulk_part h
      omega

/-- what the narrower form says of one argument -/
theorem bulk_in {H : Type} {d : DataW H} {l : List (DataW H)} (hk : Rows.uptoSmall H l = true) (hd : d ∈ l) : Rows.uptoBulk d ≤ 1048576 :=
  Nat.le_trans (bulk_part hd) (of_decide_eq_true hk)

theorem bulk_flat {H α : Type} {Q : Nat → α} {D : Nat → DataW H} {e : α → List Int} : ∀ {l : List Nat}, (∀ i ∈ l, (e (Q i)).length ≤ 13 * Rows.uptoBulk (D i)) → ((l.map Q).flatMap e).length ≤ 13 * Rows.uptoBulkAll (l.map D)
  | [], _ => by simp
  | i :: l, h => by
    have h1 := h i List.mem_cons_self
    have h2 := bulk_flat (l := l) (fun j hj => h j (List.mem_cons_of_mem _ hj))
    simp only [List.map_cons, List.flatMap_cons, List.length_append, Rows.uptoBulkAll]
    omega

section
variable {H : Type} {enc : TypeId × Value → H} {W : World} {base : Nat} {sp : Nat → Bool} {held : Bool}

theorem octs_inU {fuel : Nat} {cs : List Value} {y : DataW H × List MemPlace} (hf : DataW.trod enc Try.prog W base sp held fuel 34 cs = some y) (hw : ∀ n ∈ y.1.weights Try.prog 34, n ≤ reachBytes) :
    ∃ (a : Option Addr) (xs : List Int) (cap : Nat), cs = [.slice a xs.length cap] ∧ Octs W a cap xs ∧ xs.length + 1 ≤ Rows.uptoBulk y.1 := by
  rcases open_ints Try.underlying34 Try.underlying5 (by kernel_rfl) hf with ⟨hcs, _⟩ | ⟨ad, len, cap, zs, hcs, _, hl, hm, hz, hx, hc, hwf⟩
  · exact ⟨none, [], 0, hcs, Octs.nil _ _ _ (fun _ => rfl), bulk_one _⟩
  · have hzl : len ≤ zs.length := by rw [hz]; split <;> omega
    have hmem : ((lits (H := H) .u8 (zs.take len)).length + (lits (H := H) .u8 (zs.drop len)).length) * Try.prog.bytesOf 5 ∈ y.1.weights Try.prog 34 := by
      rw [hx]
      simp [DataW.weights, Try.underlying34]
    have hin := hw _ hmem
    rw [show Try.prog.bytesOf 5 = 1 by kernel_rfl] at hin
    simp only [lits, List.length_map, List.length_take, List.length_drop, reachBytes] at hin
    have hlen : (zs.take len).length = len := by rw [List.length_take]; omega
    have hbk : (zs.take len).length + 1 ≤ Rows.uptoBulk y.1 := by
      rw [hx]
      have := bulk_slice (lits (H := H) .u8 (zs.take len)) (lits (H := H) .u8 (zs.drop len))
      simp only [lits, List.length_map] at this
      exact Nat.le_trans (by omega) this
    refine ⟨some ad, zs.take len, cap, by rw [hlen]; exact hcs, ⟨by rw [hlen]; exact hl, by rw [hlen]; omega, (fun h => by cases h), ?_, ?_⟩, hbk⟩
    · intro q hq
      have := hwf q (List.mem_of_mem_take hq)
      simp [Lit.wf, IntKind.min, IntKind.max, IntKind.bits, IntKind.signed] at this
      omega
    · by_cases h0 : len = 0
      · left; subst h0; simp
      · right
        obtain ⟨b, off, spot⟩ := ad
        have hspot : spot = none := by simpa [Addr.add] using World.cell?_spot (hc 0 (by omega))
        subst hspot
        refine ⟨b, off, rfl, fun q hq => ?_⟩
        rw [hlen] at hq
        have := hc q (by omega)
        rw [addr_add] at this
        rw [this]
        simp [List.getD, hq]

set_option maxRecDepth 100000 in
theorem cels_inU {fuel : Nat} {cs : List Value} {x : DataW H × List MemPlace} (hf : DataW.trod enc Try.prog W base sp held fuel 22 cs = some x) (hw : ∀ q ∈ x.1.weights Try.prog 22, q ≤ reachBytes) :
    ∃ (a : Option Addr) (ls : List Cel) (cap : Nat), cs = [.slice a ls.length cap] ∧ ls.length * 64 ≤ 140737488351232 ∧ Lies kCel (fun _ => True) W a cap ls ∧ (ls.flatMap encC).length ≤ 13 * Rows.uptoBulk x.1 := by
  rcases open_slice Try.underlying22 hf with ⟨hcs, _⟩ | ⟨ad, len, cap, m, n, D, Pl, hcs, _, hl, hm, hmm, hxx, hx⟩
  · exact ⟨none, [], 0, hcs, by simp, Lies.nil _ _ _ (fun _ => rfl), by simp⟩
  · subst hxx
    have hlm : len ≤ m := by rw [hmm]; split <;> omega
    have hfew : len * 64 ≤ 140737488351232 := by
      have h1 := hw _ (by simp only [DataW.weights, Try.underlying22]; exact List.mem_cons_self)
      rw [show Try.prog.bytesOf 51 = 64 by kernel_rfl] at h1
      simp only [List.length_map, List.length_range, reachBytes] at h1
      omega
    have hin : ∀ i, i < len → ∀ q ∈ (D i).weights Try.prog 51, q ≤ reachBytes := fun i hi q hq => hw q (by
      simp only [DataW.weights, Try.underlying22, List.mem_cons, List.mem_append]
      exact .inr (.inl (weights_in_list hq (List.mem_map.2 ⟨i, List.mem_range.2 hi, rfl⟩))))
    have each : ∀ i, i < len → ∃ d : Cel, ∃ cs', kCel.rel (fun _ => True) W d cs' ∧ cs'.length = 4 ∧ (encC d).length ≤ 13 * Rows.uptoBulk (D i) ∧ ∀ j, j < 4 → W.cell? ((ad.add (i * 4)).add j) = cs'[j]? := by
      intro i hi
      obtain ⟨cs', h1, h2⟩ := hx i (by omega)
      rw [show Try.prog.cellsOf 51 = 4 by kernel_rfl] at h1
      obtain ⟨_, hlen, hcell⟩ := World.cells?_some h1
      have hwi := hin i hi
      obtain ⟨xs, n', _, hxs, _, hxl, hg⟩ := DataW.trod_struct Try.underlying51 h2
      match xs, hxl with
      | [y0, y1, y2, y3], _ =>
        have g0 : DataW.trod enc Try.prog W base sp held n' 34 ((cs'.drop 0).take (Try.prog.cellsOf 34)) = some y0 := hg 0 _ rfl
        have g1 : DataW.trod enc Try.prog W base sp held n' 34 ((cs'.drop 1).take (Try.prog.cellsOf 34)) = some y1 := hg 1 _ rfl
        have g2 : DataW.trod enc Try.prog W base sp held n' 4 ((cs'.drop 2).take (Try.prog.cellsOf 4)) = some y2 := hg 2 _ rfl
        have g3 : DataW.trod enc Try.prog W base sp held n' 3 ((cs'.drop 3).take (Try.prog.cellsOf 3)) = some y3 := hg 3 _ rfl
        rw [Try.cells_octD] at g0 g1
        rw [Try.cells_boolD] at g2
        rw [Try.cells_intD] at g3
        have hD : D i = .agg ([y0, y1, y2, y3].map (·.1)) := congrArg Prod.fst hxs
        have w0 : ∀ q ∈ y0.1.weights Try.prog 34, q ≤ reachBytes := fun q hq => hwi q (by
          rw [hD]
          simp only [DataW.weights, Try.underlying51]
          exact DataW.weights_mem_each (j := 0) rfl rfl q hq)
        have w1 : ∀ q ∈ y1.1.weights Try.prog 34, q ≤ reachBytes := fun q hq => hwi q (by
          rw [hD]
          simp only [DataW.weights, Try.underlying51]
          exact DataW.weights_mem_each (j := 1) rfl rfl q hq)
        obtain ⟨a0, x0, c0, e0, o0, bk0⟩ := octs_inU g0 w0
        obtain ⟨a1, x1, c1, e1, o1, bk1⟩ := octs_inU g1 w1
        obtain ⟨k2, e2, _⟩ := DataW.trod_bool Try.underlying4 g2
        obtain ⟨k3, e3, _⟩ := DataW.trod_int Try.underlying3 g3
        match cs', hlen with
        | [v0, v1, v2, v3], _ =>
          simp at e0 e1 e2 e3
          subst e0 e1 e2 e3
          exact ⟨⟨x0, x1, k2, k3⟩, _, ⟨_, _, rfl, ⟨a0, c0, rfl, o0, fun _ _ _ => trivial⟩, ⟨a1, c1, rfl, o1, fun _ _ _ => trivial⟩⟩, rfl, by
            rw [encC_length, hD]
            simp only [List.map_cons, List.map_nil, Rows.uptoBulk, Rows.uptoBulkAll]
            have := bulk_one y2.1
            have := bulk_one y3.1
            show 13 + x0.length + x1.length ≤ _
            omega, hcell⟩
    have : Inhabited Cel := ⟨⟨[], [], false, 0⟩⟩
    obtain ⟨Q, hQ⟩ := choose_lt each
    refine ⟨some ad, (List.range len).map Q, cap, by simpa using hcs, by simpa using hfew, ?_, Nat.le_trans (bulk_flat (fun i hi => by obtain ⟨_, _, _, h, _⟩ := hQ i (List.mem_range.1 hi); exact h)) (Nat.mul_le_mul_left _ (Nat.le_of_succ_le (bulk_elems _ _)))⟩
    by_cases h0 : len = 0
    · subst h0
      exact Lies.nil _ _ _ (fun h => by cases h)
    · obtain ⟨b, off, spot⟩ := ad
      obtain ⟨cs0, _, hl0, _, hc0⟩ := hQ 0 (by omega)
      have hc1 := hc0 0 (by omega)
      rw [List.getElem?_eq_getElem (by omega)] at hc1
      have hspot : spot = none := by
        have := World.cell?_spot hc1
        simpa [Addr.add] using this
      subst hspot
      have ea : ∀ i j, ((⟨b, off, none⟩ : Addr).add i).add j = ⟨b, off + i + j, none⟩ := fun i j => by
        rw [Addr.add_mid, Addr.add_mid]
      refine lies_of (by decide) (by simpa using hl) (by rw [ea] at hc1; exact World.block_lt_of_cell? _ _ hc1) trivial (fun i hi => ?_)
      have hi2 : i < len := by simpa using hi
      obtain ⟨cs', h1, h2, _, h3⟩ := hQ i hi2
      simp only [List.getElem_map, List.getElem_range]
      refine ⟨cs', h1, fun j u hu => ?_⟩
      have hj : j < 4 := by
        have := (List.getElem?_eq_some_iff.1 hu).1
        omega
      have := h3 j hj
      rw [ea] at this
      rw [this, hu]

set_option maxRecDepth 100000 in
theorem dns_inU {fuel : Nat} {cs : List Value} {x : DataW H × List MemPlace} (hf : DataW.trod enc Try.prog W base sp held fuel 23 cs = some x) (hw : ∀ q ∈ x.1.weights Try.prog 23, q ≤ reachBytes) :
    ∃ (a : Option Addr) (ls : List Dn) (cap : Nat), cs = [.slice a ls.length cap] ∧ ls.length * 32 ≤ 140737488351232 ∧ Lies kDn (fun _ => True) W a cap ls ∧ (ls.flatMap encD).length ≤ 13 * Rows.uptoBulk x.1 := by
  rcases open_slice Try.underlying23 hf with ⟨hcs, _⟩ | ⟨ad, len, cap, m, n, D, Pl, hcs, _, hl, hm, hmm, hxx, hx⟩
  · exact ⟨none, [], 0, hcs, by simp, Lies.nil _ _ _ (fun _ => rfl), by simp⟩
  · subst hxx
    have hlm : len ≤ m := by rw [hmm]; split <;> omega
    have hfew : len * 32 ≤ 140737488351232 := by
      have h1 := hw _ (by simp only [DataW.weights, Try.underlying23]; exact List.mem_cons_self)
      rw [show Try.prog.bytesOf 53 = 32 by kernel_rfl] at h1
      simp only [List.length_map, List.length_range, reachBytes] at h1
      omega
    have each : ∀ i, i < len → ∃ d : Dn, ∃ cs', kDn.rel (fun _ => True) W d cs' ∧ cs'.length = 4 ∧ (encD d).length ≤ 13 * Rows.uptoBulk (D i) ∧ ∀ j, j < 4 → W.cell? ((ad.add (i * 4)).add j) = cs'[j]? := by
      intro i hi
      obtain ⟨cs', h1, h2⟩ := hx i (by omega)
      rw [show Try.prog.cellsOf 53 = 4 by kernel_rfl] at h1
      obtain ⟨_, hlen, hcell⟩ := World.cells?_some h1
      obtain ⟨xs, n', _, hxs, _, hxl, hg⟩ := DataW.trod_struct Try.underlying53 h2
      match xs, hxl with
      | [y0, y1, y2, y3], _ =>
        have g0 : DataW.trod enc Try.prog W base sp held n' 3 ((cs'.drop 0).take (Try.prog.cellsOf 3)) = some y0 := hg 0 _ rfl
        have g1 : DataW.trod enc Try.prog W base sp held n' 3 ((cs'.drop 1).take (Try.prog.cellsOf 3)) = some y1 := hg 1 _ rfl
        have g2 : DataW.trod enc Try.prog W base sp held n' 3 ((cs'.drop 2).take (Try.prog.cellsOf 3)) = some y2 := hg 2 _ rfl
        have g3 : DataW.trod enc Try.prog W base sp held n' 4 ((cs'.drop 3).take (Try.prog.cellsOf 4)) = some y3 := hg 3 _ rfl
        rw [Try.cells_boolD] at g3
        rw [Try.cells_intD] at g0 g1 g2
        obtain ⟨k0, e0, _⟩ := DataW.trod_int Try.underlying3 g0
        obtain ⟨k1, e1, _⟩ := DataW.trod_int Try.underlying3 g1
        obtain ⟨k2, e2, _⟩ := DataW.trod_int Try.underlying3 g2
        obtain ⟨k3, e3, _⟩ := DataW.trod_bool Try.underlying4 g3
        match cs', hlen with
        | [v0, v1, v2, v3], _ =>
          simp at e0 e1 e2 e3
          subst e0 e1 e2 e3
          exact ⟨⟨k0, k1, k2, k3⟩, _, rfl, rfl, by
            rw [encD_length]
            have := bulk_one (D i)
            omega, hcell⟩
    have : Inhabited Dn := ⟨⟨0, 0, 0, false⟩⟩
    obtain ⟨Q, hQ⟩ := choose_lt each
    refine ⟨some ad, (List.range len).map Q, cap, by simpa using hcs, by simpa using hfew, ?_, Nat.le_trans (bulk_flat (fun i hi => by obtain ⟨_, _, _, h, _⟩ := hQ i (List.mem_range.1 hi); exact h)) (Nat.mul_le_mul_left _ (Nat.le_of_succ_le (bulk_elems _ _)))⟩
    by_cases h0 : len = 0
    · subst h0
      exact Lies.nil _ _ _ (fun h => by cases h)
    · obtain ⟨b, off, spot⟩ := ad
      obtain ⟨cs0, _, hl0, _, hc0⟩ := hQ 0 (by omega)
      have hc1 := hc0 0 (by omega)
      rw [List.getElem?_eq_getElem (by omega)] at hc1
      have hspot : spot = none := by
        have := World.cell?_spot hc1
        simpa [Addr.add] using this
      subst hspot
      have ea : ∀ i j, ((⟨b, off, none⟩ : Addr).add i).add j = ⟨b, off + i + j, none⟩ := fun i j => by
        rw [Addr.add_mid, Addr.add_mid]
      refine lies_of (by decide) (by simpa using hl) (by rw [ea] at hc1; exact World.block_lt_of_cell? _ _ hc1) trivial (fun i hi => ?_)
      have hi2 : i < len := by simpa using hi
      obtain ⟨cs', h1, h2, _, h3⟩ := hQ i hi2
      simp only [List.getElem_map, List.getElem_range]
      refine ⟨cs', h1, fun j u hu => ?_⟩
      have hj : j < 4 := by
        have := (List.getElem?_eq_some_iff.1 hu).1
        omega
      have := h3 j hj
      rw [ea] at this
      rw [this, hu]

theorem Try.cells_celsU : Try.prog.cellsOf 22 = 1 := by kernel_rfl
theorem Try.cells_dnsU : Try.prog.cellsOf 23 = 1 := by kernel_rfl

/-- a state, as a value -/
def StaArgU (w : World) (v : Value) : Prop := ∃ (p : Int) (cs : List Cel) (ds : List Dn) (ca : Option Addr) (cc : Nat) (da : Option Addr) (dc : Nat), v = .agg #[.int .i64 p, .slice ca cs.length cc, .slice da ds.length dc] ∧ StIs (fun _ => True) w cs ds ca cc da dc ∧ (encS ⟨p, cs, ds⟩).length ≤ 900000000

set_option maxRecDepth 100000 in
theorem sta_argU {r : Reach} {b0 j : Nat} {ts : List TypeId} {ds : List (DataW H)} {v : Value} {d : DataW H} {ps : List MemPlace}
    (hbk : Rows.uptoBulk d ≤ 1048576) (hsz : (DataW.weightsEach Try.prog ts ds).all (· ≤ reachBytes) = true) (ht : ts[j]? = some 25) (hd : ds[j]? = some d) (hval : Value.okWide Try.prog W r b0 25 v) (hf : DataW.Trod enc Try.prog W base sp held 25 v d ps) : StaArgU W v := by
  obtain ⟨cs, rfl, hcs⟩ := okWide_struct Try.underlying25 hval
  obtain ⟨fuel, hf⟩ := hf
  obtain ⟨xs, n', _, hxs, _, hxl, hg⟩ := DataW.trod_struct Try.underlying25 hf
  have hwi : ∀ q ∈ d.weights Try.prog 25, q ≤ reachBytes := fun q hq => by
    have := List.all_eq_true.1 hsz q (DataW.weights_mem_each ht hd q hq)
    simpa using this
  rw [show Try.prog.cellsOf 25 = 3 by kernel_rfl] at hcs
  match xs, hxl with
  | [y0, y1, y2], _ =>
    have g0 : DataW.trod enc Try.prog W base sp held n' 3 (((Value.agg cs).cells.toList.drop 0).take (Try.prog.cellsOf 3)) = some y0 := hg 0 _ rfl
    have g1 : DataW.trod enc Try.prog W base sp held n' 22 (((Value.agg cs).cells.toList.drop 1).take (Try.prog.cellsOf 22)) = some y1 := hg 1 _ rfl
    have g2 : DataW.trod enc Try.prog W base sp held n' 23 (((Value.agg cs).cells.toList.drop 2).take (Try.prog.cellsOf 23)) = some y2 := hg 2 _ rfl
    rw [Try.cells_intD] at g0
    rw [Try.cells_celsU] at g1
    rw [Try.cells_dnsU] at g2
    have hD : d = .agg ([y0, y1, y2].map (·.1)) := congrArg Prod.fst hxs
    have w1 : ∀ q ∈ y1.1.weights Try.prog 22, q ≤ reachBytes := fun q hq => hwi q (by
      rw [hD]
      simp only [DataW.weights, Try.underlying25]
      exact DataW.weights_mem_each (j := 1) rfl rfl q hq)
    have w2 : ∀ q ∈ y2.1.weights Try.prog 23, q ≤ reachBytes := fun q hq => hwi q (by
      rw [hD]
      simp only [DataW.weights, Try.underlying25]
      exact DataW.weights_mem_each (j := 2) rfl rfl q hq)
    obtain ⟨c, e0, _⟩ := DataW.trod_int Try.underlying3 g0
    obtain ⟨ca, cls, cc, e1, f1, l1, bk1⟩ := cels_inU g1 w1
    obtain ⟨da, dls, dc, e2, f2, l2, bk2⟩ := dns_inU g2 w2
    have hTot : (encS ⟨c, cls, dls⟩).length ≤ 900000000 := by
      rw [hD] at hbk
      simp only [List.map_cons, List.map_nil, Rows.uptoBulk, Rows.uptoBulkAll] at hbk
      simp only [encS, List.length_append, le4_length]
      omega
    obtain ⟨l⟩ := cs
    match l, hcs with
    | [v0, v1, v2], _ =>
      simp [Value.cells] at e0 e1 e2
      subst e0 e1 e2
      exact ⟨c, cls, dls, ca, cc, da, dc, rfl, ⟨l1, l2, f1, f2⟩, hTot⟩

end
end Go.Proofs.Ytndnbkgejdindaa
