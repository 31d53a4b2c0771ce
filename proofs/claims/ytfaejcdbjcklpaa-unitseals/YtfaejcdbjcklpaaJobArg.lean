/- Jobs and tasks that came in as arguments: what they hold. -/
import Derived.Test.YtfaejcdbjcklpaaUnMem
import Derived.Deep.Slices
import Derived.Deep.Strs
import Derived.SizedLaws
namespace Go.Proofs.Ytfaejcdbjcklpaa
open Go.ChangeShapes Go.WideShapes Go.ChangeAt Go.RowKit Go.Deep

/-- what a job of a unit is made of -/
structure Tsk where
  kind : Int
  addr : Int
  epoch : Int
  data : List Int

def kTs : Kd Tsk 4 where
  rel ok w j cs := ∃ u, cs = [.int .i64 j.kind, .int .i64 j.addr, .int .i64 j.epoch, u] ∧ IsBody w ok u j.data
  move hk hok _ _ := by
    rintro ⟨u, rfl, h1⟩
    exact ⟨u, rfl, h1.move hk hok⟩
  len := by
    rintro _ _ _ _ ⟨u, rfl, _⟩
    rfl
  one := by
    rintro _ _ _ _ ⟨u, rfl, ⟨_, _, rfl, _⟩⟩ x hx
    simp only [List.mem_cons, List.not_mem_nil, or_false] at hx
    rcases hx with rfl | rfl | rfl | rfl <;> rfl

theorem weights_in_list {H : Type} {P : Program} {e : TypeId} {d : DataW H} {n : Nat} (hn : n ∈ d.weights P e) : ∀ {l : List (DataW H)}, d ∈ l → n ∈ DataW.weightsAll P e l
  | x :: r, hd => by
    rw [DataW.weightsAll, List.mem_append]
    rcases List.mem_cons.1 hd with h | h
    · subst h; exact .inl hn
    · exact .inr (weights_in_list hn h)

theorem all2_of_at {α β : Type} {R : α → β → Prop} : ∀ {xs : List α} {ys : List β} (_ : xs.length = ys.length) (_ : ∀ i (h1 : i < xs.length) (h2 : i < ys.length), R xs[i] ys[i]), All2 R xs ys
  | [], [], _, _ => trivial
  | x :: xs, y :: ys, hl, h => ⟨h 0 (by simp) (by simp), all2_of_at (by simpa using hl) (fun i h1 h2 => by have := h (i + 1) (by simpa using h1) (by simpa using h2); simpa using this)⟩
  | [], _ :: _, hl, _ => by simp at hl
  | _ :: _, [], hl, _ => by simp at hl

/-- things that lie one behind the other -/
theorem lies_of {α : Type} {size : Nat} {K : Kd α size} {ok : Nat → Prop} {W : World} {b off cap : Nat} {l : List α} (hs : 0 < size) (hcap : l.length ≤ cap) (hb : b < W.heap.size) (hok : ok b) (h : ∀ i (hi : i < l.length), ∃ cs, K.rel ok W l[i] cs ∧ ∀ j u, cs[j]? = some u → W.cell? ⟨b, off + i * size + j, none⟩ = some u) :
    Lies K ok W (some ⟨b, off, none⟩) cap l := by
  have h' : ∀ i, ∃ cs : List Value, ∀ hi : i < l.length, K.rel ok W l[i] cs ∧ ∀ j u, cs[j]? = some u → W.cell? ⟨b, off + i * size + j, none⟩ = some u := fun i => by
    by_cases hi : i < l.length
    · obtain ⟨cs, hc⟩ := h i hi
      exact ⟨cs, fun _ => hc⟩
    · exact ⟨[], fun hi2 => absurd hi2 hi⟩
  obtain ⟨C, hC⟩ := Classical.skolem.1 h'
  refine ⟨hcap, (fun e => by cases e), .inr ⟨b, off, (List.range l.length).map C, rfl, hb, hok, all2_of_at (by simp) (fun i h1 h2 => ?_), fun j u hj => ?_⟩⟩
  · simp only [List.getElem_map, List.getElem_range]
    exact (hC i h1).1
  · have hlen : ∀ c ∈ (List.range l.length).map C, c.length = size := fun c hc => by
      obtain ⟨i, hi, rfl⟩ := List.mem_map.1 hc
      exact K.len (hC i (by simpa using hi)).1
    have hj2 : j < l.length * size := by
      have := (List.getElem?_eq_some_iff.1 hj).1
      rw [flatten_len hlen] at this
      simpa using this
    have hk : j / size < l.length := Nat.div_lt_of_lt_mul (by rw [Nat.mul_comm]; exact hj2)
    have hr : j % size < size := Nat.mod_lt _ hs
    have e : j = j / size * size + j % size := by rw [Nat.mul_comm]; exact (Nat.div_add_mod _ _).symm
    have hat := flatten_at (css := (List.range l.length).map C) (k := j / size) (c := C (j / size)) hlen (by rw [List.getElem?_map, List.getElem?_range hk]; rfl) (j % size) hr
    rw [← e] at hat
    rw [hat] at hj
    have := (hC (j / size) hk).2 _ _ hj
    rw [Nat.add_assoc, ← e] at this
    exact this

section
variable {H : Type} {enc : TypeId × Value → H} {W : World} {base : Nat} {sp : Nat → Bool} {held : Bool}

theorem octs_in {fuel : Nat} {cs : List Value} {y : DataW H × List MemPlace} (hf : DataW.trod enc Try.prog W base sp held fuel 27 cs = some y) (hw : ∀ n ∈ y.1.weights Try.prog 27, n ≤ reachBytes) :
    ∃ (a : Option Addr) (xs : List Int) (cap : Nat), cs = [.slice a xs.length cap] ∧ Octs W a cap xs := by
  rcases open_ints Try.underlying27 Try.underlying5 (by kernel_rfl) hf with ⟨hcs, _⟩ | ⟨ad, len, cap, zs, hcs, _, hl, hm, hz, hx, hc, hwf⟩
  · exact ⟨none, [], 0, hcs, Octs.nil _ _ _ (fun _ => rfl)⟩
  · have hzl : len ≤ zs.length := by rw [hz]; split <;> omega
    have hmem : ((lits (H := H) .u8 (zs.take len)).length + (lits (H := H) .u8 (zs.drop len)).length) * Try.prog.bytesOf 5 ∈ y.1.weights Try.prog 27 := by
      rw [hx]
      simp [DataW.weights, Try.underlying27]
    have hin := hw _ hmem
    rw [show Try.prog.bytesOf 5 = 1 by kernel_rfl] at hin
    simp only [lits, List.length_map, List.length_take, List.length_drop, reachBytes] at hin
    have hlen : (zs.take len).length = len := by rw [List.length_take]; omega
    refine ⟨some ad, zs.take len, cap, by rw [hlen]; exact hcs, by rw [hlen]; exact hl, by rw [hlen]; omega, (fun h => by cases h), ?_, ?_⟩
    · intro q hq
      have := hwf q (List.mem_of_mem_take hq)
      simp [Lit.wf, IntKind.min, IntKind.max, IntKind.bits, IntKind.signed] at this
      omega
    · by_cases h0 : len = 0
      · left; subst h0; simp
      · right
        obtain ⟨b, off, spot⟩ := ad
        have hspot : spot = none := by simpa [Addr.add] using World.cell?_spot (hc 0 (by omega))
        subst hspot
        refine ⟨b, off, rfl, fun q hq => ?_⟩
        rw [hlen] at hq
        have := hc q (by omega)
        rw [addr_add] at this
        rw [this]
        simp [List.getD, hq]

theorem Try.cells_intD : Try.prog.cellsOf 3 = 1 := by kernel_rfl
theorem Try.cells_octD : Try.prog.cellsOf 27 = 1 := by kernel_rfl

set_option maxRecDepth 100000 in
theorem jobs_in {fuel : Nat} {cs : List Value} {x : DataW H × List MemPlace} (hf : DataW.trod enc Try.prog W base sp held fuel 23 cs = some x) (hw : ∀ q ∈ x.1.weights Try.prog 23, q ≤ reachBytes) :
    ∃ (a : Option Addr) (ls : List Jb) (cap : Nat), cs = [.slice a ls.length cap] ∧ ls.length * 48 ≤ 140737488351232 ∧ Lies kJb (fun _ => True) W a cap ls := by
  rcases open_slice Try.underlying23 hf with ⟨hcs, _⟩ | ⟨ad, len, cap, m, n, D, Pl, hcs, _, hl, hm, hmm, hxx, hx⟩
  · exact ⟨none, [], 0, hcs, by simp, Lies.nil _ _ _ (fun _ => rfl)⟩
  · subst hxx
    have hlm : len ≤ m := by rw [hmm]; split <;> omega
    have hfew : len * 48 ≤ 140737488351232 := by
      have h1 := hw _ (by simp only [DataW.weights, Try.underlying23]; exact List.mem_cons_self)
      rw [show Try.prog.bytesOf 29 = 48 by kernel_rfl] at h1
      simp only [List.length_map, List.length_range, reachBytes] at h1
      omega
    have hin : ∀ i, i < len → ∀ q ∈ (D i).weights Try.prog 29, q ≤ reachBytes := fun i hi q hq => hw q (by
      simp only [DataW.weights, Try.underlying23, List.mem_cons, List.mem_append]
      exact .inr (.inl (weights_in_list hq (List.mem_map.2 ⟨i, List.mem_range.2 hi, rfl⟩))))
    have each : ∀ i, i < len → ∃ d : Jb, ∃ cs', kJb.rel (fun _ => True) W d cs' ∧ cs'.length = 4 ∧ ∀ j, j < 4 → W.cell? ((ad.add (i * 4)).add j) = cs'[j]? := by
      intro i hi
      obtain ⟨cs', h1, h2⟩ := hx i (by omega)
      rw [show Try.prog.cellsOf 29 = 4 by kernel_rfl] at h1
      obtain ⟨_, hlen, hcell⟩ := World.cells?_some h1
      have hwi := hin i hi
      obtain ⟨xs, n', _, hxs, _, hxl, hg⟩ := DataW.trod_struct Try.underlying29 h2
      match xs, hxl with
      | [y0, y1, y2, y3], _ =>
        have g0 : DataW.trod enc Try.prog W base sp held n' 3 ((cs'.drop 0).take (Try.prog.cellsOf 3)) = some y0 := hg 0 _ rfl
        have g1 : DataW.trod enc Try.prog W base sp held n' 3 ((cs'.drop 1).take (Try.prog.cellsOf 3)) = some y1 := hg 1 _ rfl
        have g2 : DataW.trod enc Try.prog W base sp held n' 3 ((cs'.drop 2).take (Try.prog.cellsOf 3)) = some y2 := hg 2 _ rfl
        have g3 : DataW.trod enc Try.prog W base sp held n' 27 ((cs'.drop 3).take (Try.prog.cellsOf 27)) = some y3 := hg 3 _ rfl
        rw [Try.cells_octD] at g3
        rw [Try.cells_intD] at g0 g1 g2
        have hD : D i = .agg ([y0, y1, y2, y3].map (·.1)) := congrArg Prod.fst hxs
        have w3 : ∀ q ∈ y3.1.weights Try.prog 27, q ≤ reachBytes := fun q hq => hwi q (by
          rw [hD]
          simp only [DataW.weights, Try.underlying29]
          exact DataW.weights_mem_each (j := 3) rfl rfl q hq)
        obtain ⟨k0, e0, _⟩ := DataW.trod_int Try.underlying3 g0
        obtain ⟨k1, e1, _⟩ := DataW.trod_int Try.underlying3 g1
        obtain ⟨k2, e2, _⟩ := DataW.trod_int Try.underlying3 g2
        obtain ⟨a3, x3, c3, e3, o3⟩ := octs_in g3 w3
        match cs', hlen with
        | [v0, v1, v2, v3], _ =>
          simp at e0 e1 e2 e3
          subst e0 e1 e2 e3
          exact ⟨⟨k0, k1, k2, x3⟩, _, ⟨_, rfl, ⟨a3, c3, rfl, o3, fun _ _ _ => trivial⟩⟩, rfl, hcell⟩
    have : Inhabited Jb := ⟨⟨0, 0, 0, []⟩⟩
    obtain ⟨Q, hQ⟩ := choose_lt each
    refine ⟨some ad, (List.range len).map Q, cap, by simpa using hcs, by simpa using hfew, ?_⟩
    by_cases h0 : len = 0
    · subst h0
      exact Lies.nil _ _ _ (fun h => by cases h)
    · obtain ⟨b, off, spot⟩ := ad
      obtain ⟨cs0, _, hl0, hc0⟩ := hQ 0 (by omega)
      have hc1 := hc0 0 (by omega)
      rw [List.getElem?_eq_getElem (by omega)] at hc1
      have hspot : spot = none := by
        have := World.cell?_spot hc1
        simpa [Addr.add] using this
      subst hspot
      have ea : ∀ i j, ((⟨b, off, none⟩ : Addr).add i).add j = ⟨b, off + i + j, none⟩ := fun i j => by
        rw [Addr.add_mid, Addr.add_mid]
      refine lies_of (by decide) (by simpa using hl) (by rw [ea] at hc1; exact World.block_lt_of_cell? _ _ hc1) trivial (fun i hi => ?_)
      have hi2 : i < len := by simpa using hi
      obtain ⟨cs', h1, h2, h3⟩ := hQ i hi2
      simp only [List.getElem_map, List.getElem_range]
      refine ⟨cs', h1, fun j u hu => ?_⟩
      have hj : j < 4 := by
        have := (List.getElem?_eq_some_iff.1 hu).1
        omega
      have := h3 j hj
      rw [ea] at this
      rw [this, hu]

set_option maxRecDepth 100000 in
theorem jobs_arg {fuel len cap j : Nat} {ts : List TypeId} {ds : List (DataW H)} {x : DataW H × List MemPlace} {a : Option Addr} {cs : List Value}
    (hsz : (DataW.weightsEach Try.prog ts ds).all (· ≤ reachBytes) = true) (ht : ts[j]? = some 23) (hd : ds[j]? = some x.1) (hc : cs = [.slice a len cap])
    (hf : DataW.trod enc Try.prog W base sp held fuel 23 cs = some x) : ∃ ls : List Jb, len = ls.length ∧ Lies kJb (fun _ => True) W a cap ls := by
  obtain ⟨a', ls, cap', e, -, h⟩ := jobs_in hf (fun q hq => by
    have := List.all_eq_true.1 hsz q (DataW.weights_mem_each ht hd q hq)
    simpa using this)
  rw [hc] at e
  simp only [List.cons.injEq, Value.slice.injEq, and_true] at e
  obtain ⟨rfl, rfl, rfl⟩ := e
  exact ⟨ls, rfl, h⟩

set_option maxRecDepth 100000 in
theorem tasks_in {fuel : Nat} {cs : List Value} {x : DataW H × List MemPlace} (hf : DataW.trod enc Try.prog W base sp held fuel 22 cs = some x) (hw : ∀ q ∈ x.1.weights Try.prog 22, q ≤ reachBytes) :
    ∃ (a : Option Addr) (ls : List Tsk) (cap : Nat), cs = [.slice a ls.length cap] ∧ ls.length * 48 ≤ 140737488351232 ∧ Lies kTs (fun _ => True) W a cap ls := by
  rcases open_slice Try.underlying22 hf with ⟨hcs, _⟩ | ⟨ad, len, cap, m, n, D, Pl, hcs, _, hl, hm, hmm, hxx, hx⟩
  · exact ⟨none, [], 0, hcs, by simp, Lies.nil _ _ _ (fun _ => rfl)⟩
  · subst hxx
    have hlm : len ≤ m := by rw [hmm]; split <;> omega
    have hfew : len * 48 ≤ 140737488351232 := by
      have h1 := hw _ (by simp only [DataW.weights, Try.underlying22]; exact List.mem_cons_self)
      rw [show Try.prog.bytesOf 31 = 48 by kernel_rfl] at h1
      simp only [List.length_map, List.length_range, reachBytes] at h1
      omega
    have hin : ∀ i, i < len → ∀ q ∈ (D i).weights Try.prog 31, q ≤ reachBytes := fun i hi q hq => hw q (by
      simp only [DataW.weights, Try.underlying22, List.mem_cons, List.mem_append]
      exact .inr (.inl (weights_in_list hq (List.mem_map.2 ⟨i, List.mem_range.2 hi, rfl⟩))))
    have each : ∀ i, i < len → ∃ d : Tsk, ∃ cs', kTs.rel (fun _ => True) W d cs' ∧ cs'.length = 4 ∧ ∀ j, j < 4 → W.cell? ((ad.add (i * 4)).add j) = cs'[j]? := by
      intro i hi
      obtain ⟨cs', h1, h2⟩ := hx i (by omega)
      rw [show Try.prog.cellsOf 31 = 4 by kernel_rfl] at h1
      obtain ⟨_, hlen, hcell⟩ := World.cells?_some h1
      have hwi := hin i hi
      obtain ⟨xs, n', _, hxs, _, hxl, hg⟩ := DataW.trod_struct Try.underlying31 h2
      match xs, hxl with
      | [y0, y1, y2, y3], _ =>
        have g0 : DataW.trod enc Try.prog W base sp held n' 3 ((cs'.drop 0).take (Try.prog.cellsOf 3)) = some y0 := hg 0 _ rfl
        have g1 : DataW.trod enc Try.prog W base sp held n' 3 ((cs'.drop 1).take (Try.prog.cellsOf 3)) = some y1 := hg 1 _ rfl
        have g2 : DataW.trod enc Try.prog W base sp held n' 3 ((cs'.drop 2).take (Try.prog.cellsOf 3)) = some y2 := hg 2 _ rfl
        have g3 : DataW.trod enc Try.prog W base sp held n' 27 ((cs'.drop 3).take (Try.prog.cellsOf 27)) = some y3 := hg 3 _ rfl
        rw [Try.cells_octD] at g3
        rw [Try.cells_intD] at g0 g1 g2
        have hD : D i = .agg ([y0, y1, y2, y3].map (·.1)) := congrArg Prod.fst hxs
        have w3 : ∀ q ∈ y3.1.weights Try.prog 27, q ≤ reachBytes := fun q hq => hwi q (by
          rw [hD]
          simp only [DataW.weights, Try.underlying31]
          exact DataW.weights_mem_each (j := 3) rfl rfl q hq)
        obtain ⟨k0, e0, _⟩ := DataW.trod_int Try.underlying3 g0
        obtain ⟨k1, e1, _⟩ := DataW.trod_int Try.underlying3 g1
        obtain ⟨k2, e2, _⟩ := DataW.trod_int Try.underlying3 g2
        obtain ⟨a3, x3, c3, e3, o3⟩ := octs_in g3 w3
        match cs', hlen with
        | [v0, v1, v2, v3], _ =>
          simp at e0 e1 e2 e3
          subst e0 e1 e2 e3
          exact ⟨⟨k0, k1, k2, x3⟩, _, ⟨_, rfl, ⟨a3, c3, rfl, o3, fun _ _ _ => trivial⟩⟩, rfl, hcell⟩
    have : Inhabited Tsk := ⟨⟨0, 0, 0, []⟩⟩
    obtain ⟨Q, hQ⟩ := choose_lt each
    refine ⟨some ad, (List.range len).map Q, cap, by simpa using hcs, by simpa using hfew, ?_⟩
    by_cases h0 : len = 0
    · subst h0
      exact Lies.nil _ _ _ (fun h => by cases h)
    · obtain ⟨b, off, spot⟩ := ad
      obtain ⟨cs0, _, hl0, hc0⟩ := hQ 0 (by omega)
      have hc1 := hc0 0 (by omega)
      rw [List.getElem?_eq_getElem (by omega)] at hc1
      have hspot : spot = none := by
        have := World.cell?_spot hc1
        simpa [Addr.add] using this
      subst hspot
      have ea : ∀ i j, ((⟨b, off, none⟩ : Addr).add i).add j = ⟨b, off + i + j, none⟩ := fun i j => by
        rw [Addr.add_mid, Addr.add_mid]
      refine lies_of (by decide) (by simpa using hl) (by rw [ea] at hc1; exact World.block_lt_of_cell? _ _ hc1) trivial (fun i hi => ?_)
      have hi2 : i < len := by simpa using hi
      obtain ⟨cs', h1, h2, h3⟩ := hQ i hi2
      simp only [List.getElem_map, List.getElem_range]
      refine ⟨cs', h1, fun j u hu => ?_⟩
      have hj : j < 4 := by
        have := (List.getElem?_eq_some_iff.1 hu).1
        omega
      have := h3 j hj
      rw [ea] at this
      rw [this, hu]

set_option maxRecDepth 100000 in
theorem tasks_arg {fuel len cap j : Nat} {ts : List TypeId} {ds : List (DataW H)} {x : DataW H × List MemPlace} {a : Option Addr} {cs : List Value}
    (hsz : (DataW.weightsEach Try.prog ts ds).all (· ≤ reachBytes) = true) (ht : ts[j]? = some 22) (hd : ds[j]? = some x.1) (hc : cs = [.slice a len cap])
    (hf : DataW.trod enc Try.prog W base sp held fuel 22 cs = some x) : ∃ ls : List Tsk, len = ls.length ∧ Lies kTs (fun _ => True) W a cap ls := by
  obtain ⟨a', ls, cap', e, -, h⟩ := tasks_in hf (fun q hq => by
    have := List.all_eq_true.1 hsz q (DataW.weights_mem_each ht hd q hq)
    simpa using this)
  rw [hc] at e
  simp only [List.cons.injEq, Value.slice.injEq, and_true] at e
  obtain ⟨rfl, rfl, rfl⟩ := e
  exact ⟨ls, rfl, h⟩

end
end Go.Proofs.Ytfaejcdbjcklpaa
