/- Intents that came in as arguments: what they hold. -/
import Derived.Test.YtndnbkgejdindaaItMem
import Derived.Deep.Slices
import Derived.Deep.Strs
import Derived.SizedLaws
namespace Go.Proofs.Ytndnbkgejdindaa
open Go.ChangeShapes Go.WideShapes Go.ChangeAt Go.RowKit Go.Deep

theorem weights_in_list {H : Type} {P : Program} {e : TypeId} {d : DataW H} {n : Nat} (hn : n ∈ d.weights P e) : ∀ {l : List (DataW H)}, d ∈ l → n ∈ DataW.weightsAll P e l
  | x :: r, hd => by
    rw [DataW.weightsAll, List.mem_append]
    rcases List.mem_cons.1 hd with h | h
    · subst h; exact .inl hn
    · exact .inr (weights_in_list hn h)

theorem all2_of_at {α β : Type} {R : α → β → Prop} : ∀ {xs : List α} {ys : List β} (_ : xs.length = ys.length) (_ : ∀ i (h1 : i < xs.length) (h2 : i < ys.length), R xs[i] ys[i]), All2 R xs ys
  | [], [], _, _ => trivial
  | x :: xs, y :: ys, hl, h => ⟨h 0 (by simp) (by simp), all2_of_at (by simpa using hl) (fun i h1 h2 => by have := h (i + 1) (by simpa using h1) (by simpa using h2); simpa using this)⟩
  | [], _ :: _, hl, _ => by simp at hl
  | _ :: _, [], hl, _ => by simp at hl

/-- things that lie one behind the other -/
theorem lies_of {α : Type} {size : Nat} {K : Kd α size} {ok : Nat → Prop} {W : World} {b off cap : Nat} {l : List α} (hs : 0 < size) (hcap : l.length ≤ cap) (hb : b < W.heap.size) (hok : ok b) (h : ∀ i (hi : i < l.length), ∃ cs, K.rel ok W l[i] cs ∧ ∀ j u, cs[j]? = some u → W.cell? ⟨b, off + i * size + j, none⟩ = some u) :
    Lies K ok W (some ⟨b, off, none⟩) cap l := by
  have h' : ∀ i, ∃ cs : List Value, ∀ hi : i < l.length, K.rel ok W l[i] cs ∧ ∀ j u, cs[j]? = some u → W.cell? ⟨b, off + i * size + j, none⟩ = some u := fun i => by
    by_cases hi : i < l.length
    · obtain ⟨cs, hc⟩ := h i hi
      exact ⟨cs, fun _ => hc⟩
    · exact ⟨[], fun hi2 => absurd hi2 hi⟩
  obtain ⟨C, hC⟩ := Classical.skolem.1 h'
  refine ⟨hcap, (fun e => by cases e), .inr ⟨b, off, (List.range l.length).map C, rfl, hb, hok, all2_of_at (by simp) (fun i h1 h2 => ?_), fun j u hj => ?_⟩⟩
  · simp only [List.getElem_map, List.getElem_range]
    exact (hC i h1).1
  · have hlen : ∀ c ∈ (List.range l.length).map C, c.length = size := fun c hc => by
      obtain ⟨i, hi, rfl⟩ := List.mem_map.1 hc
      exact K.len (hC i (by simpa using hi)).1
    have hj2 : j < l.length * size := by
      have := (List.getElem?_eq_some_iff.1 hj).1
      rw [flatten_len hlen] at this
      simpa using this
    have hk : j / size < l.length := Nat.div_lt_of_lt_mul (by rw [Nat.mul_comm]; exact hj2)
    have hr : j % size < size := Nat.mod_lt _ hs
    have e : j = j / size * size + j % size := by rw [Nat.mul_comm]; exact (Nat.div_add_mod _ _).symm
    have hat := flatten_at (css := (List.range l.length).map C) (k := j / size) (c := C (j / size)) hlen (by rw [List.getElem?_map, List.getElem?_range hk]; rfl) (j % size) hr
    rw [← e] at hat
    rw [hat] at hj
    have := (hC (j / size) hk).2 _ _ hj
    rw [Nat.add_assoc, ← e] at this
    exact this

section
variable {H : Type} {enc : TypeId × Value → H} {W : World} {base : Nat} {sp : Nat → Bool} {held : Bool}

theorem octs_in {fuel : Nat} {cs : List Value} {y : DataW H × List MemPlace} (hf : DataW.trod enc Try.prog W base sp held fuel 34 cs = some y) (hw : ∀ n ∈ y.1.weights Try.prog 34, n ≤ reachBytes) :
    ∃ (a : Option Addr) (xs : List Int) (cap : Nat), cs = [.slice a xs.length cap] ∧ Octs W a cap xs := by
  rcases open_ints Try.underlying34 Try.underlying5 (by kernel_rfl) hf with ⟨hcs, _⟩ | ⟨ad, len, cap, zs, hcs, _, hl, hm, hz, hx, hc, hwf⟩
  · exact ⟨none, [], 0, hcs, Octs.nil _ _ _ (fun _ => rfl)⟩
  · have hzl : len ≤ zs.length := by rw [hz]; split <;> omega
    have hmem : ((lits (H := H) .u8 (zs.take len)).length + (lits (H := H) .u8 (zs.drop len)).length) * Try.prog.bytesOf 5 ∈ y.1.weights Try.prog 34 := by
      rw [hx]
      simp [DataW.weights, Try.underlying34]
    have hin := hw _ hmem
    rw [show Try.prog.bytesOf 5 = 1 by kernel_rfl] at hin
    simp only [lits, List.length_map, List.length_take, List.length_drop, reachBytes] at hin
    have hlen : (zs.take len).length = len := by rw [List.length_take]; omega
    refine ⟨some ad, zs.take len, cap, by rw [hlen]; exact hcs, by rw [hlen]; exact hl, by rw [hlen]; omega, (fun h => by cases h), ?_, ?_⟩
    · intro q hq
      have := hwf q (List.mem_of_mem_take hq)
      simp [Lit.wf, IntKind.min, IntKind.max, IntKind.bits, IntKind.signed] at this
      omega
    · by_cases h0 : len = 0
      · left; subst h0; simp
      · right
        obtain ⟨b, off, spot⟩ := ad
        have hspot : spot = none := by simpa [Addr.add] using World.cell?_spot (hc 0 (by omega))
        subst hspot
        refine ⟨b, off, rfl, fun q hq => ?_⟩
        rw [hlen] at hq
        have := hc q (by omega)
        rw [addr_add] at this
        rw [this]
        simp [List.getD, hq]

theorem Try.cells_octD : Try.prog.cellsOf 34 = 1 := by kernel_rfl
theorem Try.cells_boolD : Try.prog.cellsOf 4 = 1 := by kernel_rfl

set_option maxRecDepth 100000 in
theorem rngs_in {fuel : Nat} {cs : List Value} {x : DataW H × List MemPlace} (hf : DataW.trod enc Try.prog W base sp held fuel 62 cs = some x) (hw : ∀ q ∈ x.1.weights Try.prog 62, q ≤ reachBytes) :
    ∃ (a : Option Addr) (ls : List Ent) (cap : Nat), cs = [.slice a ls.length cap] ∧ ls.length ≤ 140737488351232 ∧ Lies kEnt (fun _ => True) W a cap ls := by
  rcases open_slice Try.underlying62 hf with ⟨hcs, _⟩ | ⟨ad, len, cap, m, n, D, Pl, hcs, _, hl, hm, hmm, hxx, hx⟩
  · exact ⟨none, [], 0, hcs, by simp, Lies.nil _ _ _ (fun _ => rfl)⟩
  · subst hxx
    have hlm : len ≤ m := by rw [hmm]; split <;> omega
    have hfew : len ≤ 140737488351232 := by
      have h1 := hw _ (by simp only [DataW.weights, Try.underlying62]; exact List.mem_cons_self)
      rw [show Try.prog.bytesOf 76 = 48 by kernel_rfl] at h1
      simp only [List.length_map, List.length_range, reachBytes] at h1
      omega
    have hin : ∀ i, i < len → ∀ q ∈ (D i).weights Try.prog 76, q ≤ reachBytes := fun i hi q hq => hw q (by
      simp only [DataW.weights, Try.underlying62, List.mem_cons, List.mem_append]
      exact .inr (.inl (weights_in_list hq (List.mem_map.2 ⟨i, List.mem_range.2 hi, rfl⟩))))
    have each : ∀ i, i < len → ∃ d : Ent, ∃ cs', kEnt.rel (fun _ => True) W d cs' ∧ cs'.length = 2 ∧ ∀ j, j < 2 → W.cell? ((ad.add (i * 2)).add j) = cs'[j]? := by
      intro i hi
      obtain ⟨cs', h1, h2⟩ := hx i (by omega)
      rw [show Try.prog.cellsOf 76 = 2 by kernel_rfl] at h1
      obtain ⟨_, hlen, hcell⟩ := World.cells?_some h1
      have hwi := hin i hi
      obtain ⟨xs, n', _, hxs, _, hxl, hg⟩ := DataW.trod_struct Try.underlying76 h2
      match xs, hxl with
      | [y0, y1], _ =>
        have g0 : DataW.trod enc Try.prog W base sp held n' 34 ((cs'.drop 0).take (Try.prog.cellsOf 34)) = some y0 := hg 0 _ rfl
        have g1 : DataW.trod enc Try.prog W base sp held n' 34 ((cs'.drop 1).take (Try.prog.cellsOf 34)) = some y1 := hg 1 _ rfl
        rw [Try.cells_octD] at g0 g1
        have hD : D i = .agg ([y0, y1].map (·.1)) := congrArg Prod.fst hxs
        have w0 : ∀ q ∈ y0.1.weights Try.prog 34, q ≤ reachBytes := fun q hq => hwi q (by
          rw [hD]
          simp only [DataW.weights, Try.underlying76]
          exact DataW.weights_mem_each (j := 0) rfl rfl q hq)
        have w1 : ∀ q ∈ y1.1.weights Try.prog 34, q ≤ reachBytes := fun q hq => hwi q (by
          rw [hD]
          simp only [DataW.weights, Try.underlying76]
          exact DataW.weights_mem_each (j := 1) rfl rfl q hq)
        obtain ⟨a0, x0, c0, e0, o0⟩ := octs_in g0 w0
        obtain ⟨a1, x1, c1, e1, o1⟩ := octs_in g1 w1
        match cs', hlen with
        | [v0, v1], _ =>
          simp at e0 e1
          subst e0 e1
          exact ⟨(x0, x1), _, ⟨_, _, rfl, ⟨a0, c0, rfl, o0, fun _ _ _ => trivial⟩, ⟨a1, c1, rfl, o1, fun _ _ _ => trivial⟩⟩, rfl, hcell⟩
    have : Inhabited Ent := ⟨([], [])⟩
    obtain ⟨Q, hQ⟩ := choose_lt each
    refine ⟨some ad, (List.range len).map Q, cap, by simpa using hcs, by simpa using hfew, ?_⟩
    by_cases h0 : len = 0
    · subst h0
      exact Lies.nil _ _ _ (fun h => by cases h)
    · obtain ⟨b, off, spot⟩ := ad
      obtain ⟨cs0, _, hl0, hc0⟩ := hQ 0 (by omega)
      have hc1 := hc0 0 (by omega)
      rw [List.getElem?_eq_getElem (by omega)] at hc1
      have hspot : spot = none := by
        have := World.cell?_spot hc1
        simpa [Addr.add] using this
      subst hspot
      have ea : ∀ i j, ((⟨b, off, none⟩ : Addr).add i).add j = ⟨b, off + i + j, none⟩ := fun i j => by
        rw [Addr.add_mid, Addr.add_mid]
      refine lies_of (by decide) (by simpa using hl) (by rw [ea] at hc1; exact World.block_lt_of_cell? _ _ hc1) trivial (fun i hi => ?_)
      have hi2 : i < len := by simpa using hi
      obtain ⟨cs', h1, h2, h3⟩ := hQ i hi2
      simp only [List.getElem_map, List.getElem_range]
      refine ⟨cs', h1, fun j u hu => ?_⟩
      have hj : j < 2 := by
        have := (List.getElem?_eq_some_iff.1 hu).1
        omega
      have := h3 j hj
      rw [ea] at this
      rw [this, hu]

set_option maxRecDepth 100000 in
theorem wts_in {fuel : Nat} {cs : List Value} {x : DataW H × List MemPlace} (hf : DataW.trod enc Try.prog W base sp held fuel 63 cs = some x) (hw : ∀ q ∈ x.1.weights Try.prog 63, q ≤ reachBytes) :
    ∃ (a : Option Addr) (ls : List Wt) (cap : Nat), cs = [.slice a ls.length cap] ∧ ls.length ≤ 140737488351232 ∧ Lies kWt (fun _ => True) W a cap ls := by
  rcases open_slice Try.underlying63 hf with ⟨hcs, _⟩ | ⟨ad, len, cap, m, n, D, Pl, hcs, _, hl, hm, hmm, hxx, hx⟩
  · exact ⟨none, [], 0, hcs, by simp, Lies.nil _ _ _ (fun _ => rfl)⟩
  · subst hxx
    have hlm : len ≤ m := by rw [hmm]; split <;> omega
    have hfew : len ≤ 140737488351232 := by
      have h1 := hw _ (by simp only [DataW.weights, Try.underlying63]; exact List.mem_cons_self)
      rw [show Try.prog.bytesOf 79 = 56 by kernel_rfl] at h1
      simp only [List.length_map, List.length_range, reachBytes] at h1
      omega
    have hin : ∀ i, i < len → ∀ q ∈ (D i).weights Try.prog 79, q ≤ reachBytes := fun i hi q hq => hw q (by
      simp only [DataW.weights, Try.underlying63, List.mem_cons, List.mem_append]
      exact .inr (.inl (weights_in_list hq (List.mem_map.2 ⟨i, List.mem_range.2 hi, rfl⟩))))
    have each : ∀ i, i < len → ∃ d : Wt, ∃ cs', kWt.rel (fun _ => True) W d cs' ∧ cs'.length = 3 ∧ ∀ j, j < 3 → W.cell? ((ad.add (i * 3)).add j) = cs'[j]? := by
      intro i hi
      obtain ⟨cs', h1, h2⟩ := hx i (by omega)
      rw [show Try.prog.cellsOf 79 = 3 by kernel_rfl] at h1
      obtain ⟨_, hlen, hcell⟩ := World.cells?_some h1
      have hwi := hin i hi
      obtain ⟨xs, n', _, hxs, _, hxl, hg⟩ := DataW.trod_struct Try.underlying79 h2
      match xs, hxl with
      | [y0, y1, y2], _ =>
        have g0 : DataW.trod enc Try.prog W base sp held n' 34 ((cs'.drop 0).take (Try.prog.cellsOf 34)) = some y0 := hg 0 _ rfl
        have g1 : DataW.trod enc Try.prog W base sp held n' 34 ((cs'.drop 1).take (Try.prog.cellsOf 34)) = some y1 := hg 1 _ rfl
        have g2 : DataW.trod enc Try.prog W base sp held n' 4 ((cs'.drop 2).take (Try.prog.cellsOf 4)) = some y2 := hg 2 _ rfl
        rw [Try.cells_octD] at g0 g1
        rw [Try.cells_boolD] at g2
        have hD : D i = .agg ([y0, y1, y2].map (·.1)) := congrArg Prod.fst hxs
        have w0 : ∀ q ∈ y0.1.weights Try.prog 34, q ≤ reachBytes := fun q hq => hwi q (by
          rw [hD]
          simp only [DataW.weights, Try.underlying79]
          exact DataW.weights_mem_each (j := 0) rfl rfl q hq)
        have w1 : ∀ q ∈ y1.1.weights Try.prog 34, q ≤ reachBytes := fun q hq => hwi q (by
          rw [hD]
          simp only [DataW.weights, Try.underlying79]
          exact DataW.weights_mem_each (j := 1) rfl rfl q hq)
        obtain ⟨a0, x0, c0, e0, o0⟩ := octs_in g0 w0
        obtain ⟨a1, x1, c1, e1, o1⟩ := octs_in g1 w1
        obtain ⟨k2, e2, _⟩ := DataW.trod_bool Try.underlying4 g2
        match cs', hlen with
        | [v0, v1, v2], _ =>
          simp at e0 e1 e2
          subst e0 e1 e2
          exact ⟨⟨x0, x1, k2⟩, _, ⟨_, _, rfl, ⟨a0, c0, rfl, o0, fun _ _ _ => trivial⟩, ⟨a1, c1, rfl, o1, fun _ _ _ => trivial⟩⟩, rfl, hcell⟩
    have : Inhabited Wt := ⟨⟨[], [], false⟩⟩
    obtain ⟨Q, hQ⟩ := choose_lt each
    refine ⟨some ad, (List.range len).map Q, cap, by simpa using hcs, by simpa using hfew, ?_⟩
    by_cases h0 : len = 0
    · subst h0
      exact Lies.nil _ _ _ (fun h => by cases h)
    · obtain ⟨b, off, spot⟩ := ad
      obtain ⟨cs0, _, hl0, hc0⟩ := hQ 0 (by omega)
      have hc1 := hc0 0 (by omega)
      rw [List.getElem?_eq_getElem (by omega)] at hc1
      have hspot : spot = none := by
        have := World.cell?_spot hc1
        simpa [Addr.add] using this
      subst hspot
      have ea : ∀ i j, ((⟨b, off, none⟩ : Addr).add i).add j = ⟨b, off + i + j, none⟩ := fun i j => by
        rw [Addr.add_mid, Addr.add_mid]
      refine lies_of (by decide) (by simpa using hl) (by rw [ea] at hc1; exact World.block_lt_of_cell? _ _ hc1) trivial (fun i hi => ?_)
      have hi2 : i < len := by simpa using hi
      obtain ⟨cs', h1, h2, h3⟩ := hQ i hi2
      simp only [List.getElem_map, List.getElem_range]
      refine ⟨cs', h1, fun j u hu => ?_⟩
      have hj : j < 3 := by
        have := (List.getElem?_eq_some_iff.1 hu).1
        omega
      have := h3 j hj
      rw [ea] at this
      rw [this, hu]

theorem Try.cells_intD : Try.prog.cellsOf 3 = 1 := by kernel_rfl
theorem Try.cells_rngs : Try.prog.cellsOf 62 = 1 := by kernel_rfl
theorem Try.cells_wts : Try.prog.cellsOf 63 = 1 := by kernel_rfl

/-- an intent, as a value -/
def IttArg (w : World) (v : Value) : Prop := ∃ (c n s : Int) (rs : List Ent) (ws : List Wt) (ra : Option Addr) (rc : Nat) (wa : Option Addr) (wc : Nat), v = .agg #[.int .i64 c, .int .i64 n, .int .i64 s, .slice ra rs.length rc, .slice wa ws.length wc] ∧ ItIs (fun _ => True) w rs ws ra rc wa wc

set_option maxRecDepth 100000 in
theorem itt_arg {r : Reach} {b0 j : Nat} {ts : List TypeId} {ds : List (DataW H)} {v : Value} {d : DataW H} {ps : List MemPlace}
    (hsz : (DataW.weightsEach Try.prog ts ds).all (· ≤ reachBytes) = true) (ht : ts[j]? = some 65) (hd : ds[j]? = some d) (hval : Value.okWide Try.prog W r b0 65 v) (hf : DataW.Trod enc Try.prog W base sp held 65 v d ps) : IttArg W v := by
  obtain ⟨cs, rfl, hcs⟩ := okWide_struct Try.underlying65 hval
  obtain ⟨fuel, hf⟩ := hf
  obtain ⟨xs, n', _, hxs, _, hxl, hg⟩ := DataW.trod_struct Try.underlying65 hf
  have hwi : ∀ q ∈ d.weights Try.prog 65, q ≤ reachBytes := fun q hq => by
    have := List.all_eq_true.1 hsz q (DataW.weights_mem_each ht hd q hq)
    simpa using this
  rw [show Try.prog.cellsOf 65 = 5 by kernel_rfl] at hcs
  match xs, hxl with
  | [y0, y1, y2, y3, y4], _ =>
    have g0 : DataW.trod enc Try.prog W base sp held n' 3 (((Value.agg cs).cells.toList.drop 0).take (Try.prog.cellsOf 3)) = some y0 := hg 0 _ rfl
    have g1 : DataW.trod enc Try.prog W base sp held n' 3 (((Value.agg cs).cells.toList.drop 1).take (Try.prog.cellsOf 3)) = some y1 := hg 1 _ rfl
    have g2 : DataW.trod enc Try.prog W base sp held n' 3 (((Value.agg cs).cells.toList.drop 2).take (Try.prog.cellsOf 3)) = some y2 := hg 2 _ rfl
    have g3 : DataW.trod enc Try.prog W base sp held n' 62 (((Value.agg cs).cells.toList.drop 3).take (Try.prog.cellsOf 62)) = some y3 := hg 3 _ rfl
    have g4 : DataW.trod enc Try.prog W base sp held n' 63 (((Value.agg cs).cells.toList.drop 4).take (Try.prog.cellsOf 63)) = some y4 := hg 4 _ rfl
    rw [Try.cells_intD] at g0 g1 g2
    rw [Try.cells_rngs] at g3
    rw [Try.cells_wts] at g4
    have hD : d = .agg ([y0, y1, y2, y3, y4].map (·.1)) := congrArg Prod.fst hxs
    have w3 : ∀ q ∈ y3.1.weights Try.prog 62, q ≤ reachBytes := fun q hq => hwi q (by
      rw [hD]
      simp only [DataW.weights, Try.underlying65]
      exact DataW.weights_mem_each (j := 3) rfl rfl q hq)
    have w4 : ∀ q ∈ y4.1.weights Try.prog 63, q ≤ reachBytes := fun q hq => hwi q (by
      rw [hD]
      simp only [DataW.weights, Try.underlying65]
      exact DataW.weights_mem_each (j := 4) rfl rfl q hq)
    obtain ⟨c, e0, _⟩ := DataW.trod_int Try.underlying3 g0
    obtain ⟨n, e1, _⟩ := DataW.trod_int Try.underlying3 g1
    obtain ⟨s, e2, _⟩ := DataW.trod_int Try.underlying3 g2
    obtain ⟨ra, rs, rc, e3, f3, l3⟩ := rngs_in g3 w3
    obtain ⟨wa, ws, wc, e4, f4, l4⟩ := wts_in g4 w4
    obtain ⟨l⟩ := cs
    match l, hcs with
    | [v0, v1, v2, v3, v4], _ =>
      simp [Value.cells] at e0 e1 e2 e3 e4
      subst e0 e1 e2 e3 e4
      exact ⟨c, n, s, rs, ws, ra, rc, wa, wc, rfl, l3, l4, f3, f4⟩

end
end Go.Proofs.Ytndnbkgejdindaa
