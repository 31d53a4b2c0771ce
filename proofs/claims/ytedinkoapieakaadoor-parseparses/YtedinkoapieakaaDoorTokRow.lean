/- A slice of tokens that came in as an argument, by itself (where lex.Cut is not reached): what it holds, how long it is, where it lies; appended to nothing. -/
import Derived.Test.YtedinkoapieakaaDoorLexToks
import Derived.Test.YtedinkoapieakaaDoorLexWord
import Derived.Deep.DeepAppendWide
import Derived.Deep.Strs
import Derived.Deep.Slices
import Derived.SizedLaws
import Derived.Deep.RegionWith
import Derived.Deep.MidRow
import Derived.Laws.AppendOwnNone
namespace Go.Proofs.YtedinkoapieakaaDoor
open Go.ChangeShapes Go.WideShapes Go.ChangeAt Go.RowKit Go.Deep

theorem Tryd.cells_int : Tryd.prog.cellsOf 3 = 1 := by kernel_rfl
theorem Tryd.cells_string : Tryd.prog.cellsOf 9 = 1 := by kernel_rfl
theorem Tryd.cells_tok : Tryd.prog.cellsOf 44 = 3 := by kernel_rfl
theorem Tryd.infoTok : (Tryd.prog.info? 44).map (fun i => (i.zero, i.size, i.bytes)) = some (some (.agg #[.int .i64 0, .int .i64 0, .string ⟨#[]⟩]), 3, 32) := by kernel_rfl

/-- the cells of a row of tokens -/
def tokCells (ts : List Tok) : List Value := ts.flatMap fun t => [.int .i64 t.kind, .int .i64 t.int, .string (str t.text)]

theorem tokCells_length (ts : List Tok) : (tokCells ts).length = ts.length * 3 := by
  induction ts with
  | nil => rfl
  | cons t ts ih => simp [tokCells] at ih ⊢; omega

theorem tok_oneCells (t : Tok) : ∀ u ∈ tokCells [t], u.oneCell' = true := by
  intro u hu
  simp only [tokCells, List.flatMap_cons, List.flatMap_nil, List.append_nil, List.mem_cons, List.not_mem_nil, or_false] at hu
  rcases hu with rfl | rfl | rfl <;> rfl

theorem own_shape {w : World} {base n size : Nat} {e : TypeId} {v : Value} {xs : List Value} (h : w.ownsRow base e size v n xs) : ∃ ao cap, v = .slice ao n cap := by
  rcases h.2 with ⟨rfl, rfl⟩ | ⟨g, cap, cur, rfl, _⟩
  · exact ⟨_, _, rfl⟩
  · exact ⟨_, _, rfl⟩

theorem add_off (g j : Nat) : (⟨g, 0, none⟩ : Addr).add j = ⟨g, j, none⟩ := by unfold Addr.add; split <;> simp_all

theorem tokCells_get (ts : List Tok) : ∀ i (hi : i < ts.length), (tokCells ts)[i * 3]? = some (.int .i64 ts[i].kind) ∧ (tokCells ts)[i * 3 + 1]? = some (.int .i64 ts[i].int) ∧ (tokCells ts)[i * 3 + 2]? = some (.string (str ts[i].text)) := by
  induction ts with
  | nil => intro i hi; cases hi
  | cons t ts ih =>
    intro i hi
    have e : tokCells (t :: ts) = .int .i64 t.kind :: .int .i64 t.int :: .string (str t.text) :: tokCells ts := by simp [tokCells]
    rw [e]
    cases i with
    | zero => simp
    | succ i =>
      have := ih i (by simpa using hi)
      rw [show (i + 1) * 3 = i * 3 + 1 + 1 + 1 by omega, show i * 3 + 1 + 1 + 1 + 1 = (i * 3 + 1) + 1 + 1 + 1 by omega, show i * 3 + 1 + 1 + 1 + 2 = (i * 3 + 2) + 1 + 1 + 1 by omega]
      simpa using this

theorem toks_of_own {w : World} {base cap n : Nat} {ao : Option Addr} {ts : List Tok} (hn : n = ts.length) (hi : ∀ t ∈ ts, t.int ≤ 9223372036854775807) (h : w.ownsRow base 44 3 (.slice ao n cap) n (tokCells ts)) : Toks w ao cap ts := by
  subst hn
  have h0 := h
  rcases h.2 with ⟨h1, h2⟩ | ⟨g, cap', cur, h1, h2, h3, h4, _⟩
  · have : ts = [] := List.length_eq_zero_iff.1 h2
    subst this
    exact ⟨Nat.zero_le _, hi, .inl rfl⟩
  · simp only [Value.slice.injEq] at h1
    obtain ⟨rfl, -, rfl⟩ := h1
    have hc := h0.cells (g := g) rfl
    refine ⟨h4, hi, .inr ⟨g, 0, rfl, (Array.getElem?_eq_some_iff.1 h3).1, fun i hl => ?_⟩⟩
    obtain ⟨c0, c1, c2⟩ := tokCells_get ts i hl
    have d0 := hc _ _ c0
    have d1 := hc _ _ c1
    have d2 := hc _ _ c2
    rw [add_off] at d0 d1 d2
    rw [Nat.zero_add]
    exact ⟨d0, d1, d2⟩

/-- a slice of what tokens are made of -/
def Scr (w : World) (ao : Option Addr) (cap : Nat) (ls : List Tok) : Prop :=
  ls.length ≤ cap ∧ (∀ t ∈ ls, (Lit.int .i64 t.int).wf = true ∧ t.text.length ≤ maxLen) ∧
    (ls = [] ∨ ∃ b off, ao = some ⟨b, off, none⟩ ∧ b < w.heap.size ∧ ∀ i (hi : i < ls.length), w.cell? ⟨b, off + i * 3, none⟩ = some (.int .i64 ls[i].kind) ∧ w.cell? ⟨b, off + i * 3 + 1, none⟩ = some (.int .i64 ls[i].int) ∧ w.cell? ⟨b, off + i * 3 + 2, none⟩ = some (.string (str ls[i].text)))

theorem Scr.later {w w' : World} {ao : Option Addr} {cap : Nat} {ts : List Tok} (h : Scr w ao cap ts) (hb : Below w.heap.size w w') : Scr w' ao cap ts := by
  refine ⟨h.1, h.2.1, ?_⟩
  rcases h.2.2 with h0 | ⟨b, off, h1, h2, h3⟩
  · exact .inl h0
  · exact .inr ⟨b, off, h1, Nat.lt_of_lt_of_le h2 hb.size, fun i hi => ⟨(hb.cell h2).trans (h3 i hi).1, (hb.cell h2).trans (h3 i hi).2.1, (hb.cell h2).trans (h3 i hi).2.2⟩⟩

set_option maxRecDepth 100000 in
theorem toks_arg {H : Type} {enc : TypeId × Value → H} {W : World} {base fuel len cap j : Nat} {sp : Nat → Bool} {held : Bool} {ts : List TypeId} {ds : List (DataW H)} {x : DataW H × List MemPlace} {a : Option Addr} {cs : List Value}
    (hsz : (DataW.weightsEach Tryd.prog ts ds).all (· ≤ reachBytes) = true) (ht : ts[j]? = some 22) (hd : ds[j]? = some x.1) (hc : cs = [.slice a len cap])
    (hf : DataW.trod enc Tryd.prog W base sp held fuel 22 cs = some x) : ∃ ls : List Tok, len = ls.length ∧ Scr W a cap ls ∧ len * 32 ≤ 140737488351232 ∧ (a = none → cap = 0) := by
  rcases open_slice Tryd.underlying22 hf with ⟨hcs, _⟩ | ⟨ad, l, c, m, n, D, Pl, hcs, _, hl, hm, hmm, hxx, hx⟩
  · rw [hc] at hcs
    simp only [List.cons.injEq, Value.slice.injEq, and_true] at hcs
    obtain ⟨rfl, rfl, rfl⟩ := hcs
    exact ⟨[], rfl, ⟨Nat.zero_le _, (fun t h => by cases h), .inl rfl⟩, by omega, fun _ => rfl⟩
  · rw [hc] at hcs
    simp only [List.cons.injEq, Value.slice.injEq, and_true] at hcs
    obtain ⟨rfl, rfl, rfl⟩ := hcs
    subst hxx
    have hs := sized_slice hsz ht hd Tryd.underlying22
    rw [show Tryd.prog.bytesOf 44 = 32 by kernel_rfl] at hs
    simp only [List.length_map, List.length_range, reachBytes] at hs
    have hlm : len ≤ m := by rw [hmm]; split <;> omega
    have each : ∀ i, i < len → ∃ q : Tok, W.cell? ((ad.add (i * 3)).add 0) = some (.int .i64 q.kind) ∧ W.cell? ((ad.add (i * 3)).add 1) = some (.int .i64 q.int) ∧ W.cell? ((ad.add (i * 3)).add 2) = some (.string (str q.text)) ∧ (Lit.int .i64 q.int).wf = true ∧ q.text.length ≤ maxLen := by
      intro i hi
      obtain ⟨cs', h1, h2⟩ := hx i (by omega)
      rw [Tryd.cells_tok] at h1
      obtain ⟨_, hlen, hcell⟩ := World.cells?_some h1
      obtain ⟨y0, y1, y2, n', _, _, g0, g1, g2⟩ := trod_struct3 Tryd.underlying44 h2
      rw [Tryd.cells_int] at g0 g1
      rw [Tryd.cells_string] at g2
      obtain ⟨k, e0, _, _⟩ := DataW.trod_int Tryd.underlying3 g0
      obtain ⟨j, e1, _, wj⟩ := DataW.trod_int Tryd.underlying3 g1
      obtain ⟨s, e2, _, ws⟩ := DataW.trod_string Tryd.underlying9 g2
      match cs', hlen with
      | [v0, v1, v2], _ =>
        simp at e0 e1 e2
        subst e0 e1 e2
        refine ⟨⟨k, j, bts s⟩, ?_, ?_, ?_, wj, ?_⟩
        · exact hcell 0 (by omega)
        · exact hcell 1 (by omega)
        · rw [str_bts]
          exact hcell 2 (by omega)
        · rw [← size_bytes]
          exact ws
    have : Inhabited Tok := ⟨zeroTok⟩
    obtain ⟨Q, hQ⟩ := choose_lt each
    refine ⟨(List.range len).map Q, by simp, ⟨by simpa using hl, ?_, ?_⟩, by omega, fun h => by cases h⟩
    · intro t ht
      obtain ⟨i, hi, rfl⟩ := List.mem_map.1 ht
      exact (hQ i (by simpa using hi)).2.2.2
    · by_cases h0 : len = 0
      · left
        subst h0
        rfl
      · right
        obtain ⟨b, off, spot⟩ := ad
        have hc0 := (hQ 0 (by omega)).1
        have hspot : spot = none := by
          have := World.cell?_spot hc0
          simpa [Addr.add] using this
        subst hspot
        have ea : ∀ i j, ((⟨b, off, none⟩ : Addr).add i).add j = ⟨b, off + i + j, none⟩ := fun i j => by
          rw [Addr.add_mid, Addr.add_mid]
        refine ⟨b, off, rfl, ?_, fun i hi => ?_⟩
        · rw [ea] at hc0
          exact World.block_lt_of_cell? _ _ hc0
        · have hi2 : i < len := by simpa using hi
          obtain ⟨q0, q1, q2, _⟩ := hQ i hi2
          rw [ea] at q0 q1 q2
          simp only [List.getElem_map, List.getElem_range]
          exact ⟨q0, q1, q2⟩

theorem Scr.toks {w : World} {ao : Option Addr} {cap : Nat} {ts : List Tok} (h : Scr w ao cap ts) : Toks w ao cap ts := by
  refine ⟨h.1, fun t ht => ?_, h.2.2⟩
  have := (h.2.1 t ht).1
  simp [Lit.wf] at this
  exact this.2

theorem toks_oneCells (ts : List Tok) : ∀ u ∈ tokCells ts, u.oneCell' = true := by
  intro u hu
  obtain ⟨t, _, h⟩ := List.mem_flatMap.1 hu
  exact tok_oneCells t u (by simpa [tokCells] using h)

theorem scr_news {w : World} {ad : Addr} {cap : Nat} {ts : List Tok} (h : Scr w (some ad) cap ts) : ∀ j u, (tokCells ts)[j]? = some u → w.cell? (ad.add j) = some u := by
  intro j u hu
  have hj : j < ts.length * 3 := by
    have := (List.getElem?_eq_some_iff.1 hu).1
    rw [tokCells_length] at this
    exact this
  rcases h.2.2 with h0 | ⟨b, off, h1, _, h3⟩
  · subst h0
    simp at hj
  · cases h1
    obtain ⟨i, hi, he⟩ : ∃ i, i < ts.length ∧ (j = i * 3 ∨ j = i * 3 + 1 ∨ j = i * 3 + 2) := ⟨j / 3, by omega, by omega⟩
    obtain ⟨g0, g1, g2⟩ := tokCells_get ts i hi
    obtain ⟨d0, d1, d2⟩ := h3 i hi
    rw [Addr.add_mid]
    rcases he with rfl | rfl | rfl
    · rw [g0] at hu
      cases hu
      exact d0
    · rw [g1] at hu
      cases hu
      exact d1
    · rw [g2] at hu
      cases hu
      exact d2

theorem own_in {w : World} {base n size cap : Nat} {e : TypeId} {ao : Option Addr} {xs : List Value} (h : w.ownsRow base e size (.slice ao n cap) n xs) : ∀ x, ao = some x → x.block < w.heap.size := by
  intro x hx
  rcases h.2 with ⟨h1, _⟩ | ⟨g, cap', cur, h1, _, h3, _⟩
  · simp only [Value.slice.injEq] at h1
    rw [h1.1] at hx
    cases hx
  · simp only [Value.slice.injEq] at h1
    rw [h1.1] at hx
    cases hx
    exact (Array.getElem?_eq_some_iff.1 h3).1

theorem wpList_append_toks {w : World} {ops : Array Oper} {rest : List Oper} {o : Oper} {a : Act} {Q : Exit → Act → World → Prop} (hgd : o.guard = none) (s x : Operand)
    (ho : o.op = .call { callee := .builtin .append, args := #[s, x], argTypes := #[22, 22] }) (hs : a.eval s = .slice none 0 0)
    (ao : Option Addr) (cap m : Nat) (ts : List Tok) (hx : a.eval x = .slice ao m cap) (hm : m = ts.length) (ht : Scr w ao cap ts) (hl : m * 32 ≤ 140737488351232) (hnil : ao = none → cap = 0)
    (h : ∀ ao' cap' w', Toks w' ao' cap' ts ∧ (∀ x, ao' = some x → x.block < w'.heap.size) → Below w.heap.size w w' → wpList Tryd.prog ops Q rest (a.put o.dst (.slice ao' m cap')) w') : wpList Tryd.prog ops Q (o :: rest) a w := by
  obtain ⟨i0, hi, hz0, hz1, hz2⟩ := info_parts Tryd.infoTok
  subst hm
  have hT := ht.toks
  cases ao with
  | none =>
    have h0 : cap = 0 := hnil rfl
    have h1 : ts = [] := List.length_eq_zero_iff.1 (by have := ht.1; omega)
    subst h0 h1
    refine wpList_append_own_none hgd s x 22 ho w.heap.size 44 i0 3 Tryd.underlying22 hi _ 0 [] hs (World.ownsRow_nil _ _ _ _) hx ?_
    exact h none 0 w ⟨hT, fun x hx => by cases hx⟩ (Below.refl _ _)
  | some ad =>
    refine wpList_append_own w hgd s x 22 ho w.heap.size 44 i0 (.agg #[.int .i64 0, .int .i64 0, .string ⟨#[]⟩]) 3 32 Tryd.underlying22 hi hz0 hz1 hz2 rfl (by decide) _ 0 [] hs (World.ownsRow_nil _ _ _ _) ad ts.length cap (tokCells ts) hx (tokCells_length ts) (scr_news ht) (toks_oneCells ts)
      (by unfold maxLen; omega) (by omega) (Nat.le_refl _) (fun v' w' h1 h2 _ => ?_)
    rw [Nat.zero_add, List.nil_append] at h1
    obtain ⟨ao', cap', rfl⟩ := own_shape h1
    exact h ao' cap' w' ⟨toks_of_own rfl hT.2.1 h1, own_in h1⟩ ((Below.refl _ w).grown h2 (Nat.le_refl _) (fun k hk => by cases hk))

set_option maxRecDepth 100000 in
theorem slice_in {t e : TypeId} {W : World} {r : Reach} {base len cap : Nat} {a : Addr} (ht : Tryd.prog.underlying t = some (.slice e)) (h : Value.okWide Tryd.prog W r base t (.slice (some a) len cap)) : a.block < W.heap.size := by
  simp only [Value.okWide, ht, Cell.okWide, Cell.ok] at h
  obtain ⟨_, _, _, _, row, cells, hs, _⟩ := h
  unfold World.shape? at hs
  cases hb : W.heap[a.block]? with
  | none => simp [hb] at hs
  | some o => exact (Array.getElem?_eq_some_iff.1 hb).1

end Go.Proofs.YtedinkoapieakaaDoor
