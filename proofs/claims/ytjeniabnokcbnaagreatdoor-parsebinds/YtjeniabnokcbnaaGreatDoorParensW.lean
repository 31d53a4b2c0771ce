/- What sameExpr comes to at two expressions in memory that are the same. -/
import Derived.Test.YtjeniabnokcbnaaGreatDoorParseEx
import Derived.Deep.RegionWith
import Derived.Test.YtjeniabnokcbnaaGreatDoorParseLaws
import Derived.KernelRfl
namespace Go.Proofs.YtjeniabnokcbnaaGreatDoor
open Go.ChangeShapes Go.WideShapes Go.ChangeAt Go.RowKit

/-- sameExpr says of these two that they are the same -/
def Same2 (e : Ex) : Prop := ∀ (ok ok' : Nat → Prop) (d d' : ED) (W : World), IsEx ok W e d → IsEx ok' W e d' →
  Calls Tryz.prog 7 #[exval d, exval d'] W fun r w' => r = .returned (.bool true) ∧ Below W.heap.size W w'

/-- a row of expressions in memory -/
def ExRow (ok : Nat → Prop) (W : World) (ao : Option Addr) (es : List Ex) : Prop := es = [] ∨ ∃ b, ao = some ⟨b, 0, none⟩ ∧ b < W.heap.size ∧ ∀ i (hi : i < es.length), ∃ d, Cell8 W b (i * 8) d ∧ IsEx ok W es[i] d

theorem cell8_at {W : World} {b off : Nat} {d : ED} (h : Cell8 W b off d) : W.cell? ⟨b, off, none⟩ = some (.int .i64 d.op) ∧ W.cell? ⟨b, off + 1, none⟩ = some (.int .i64 d.vk) ∧ W.cell? ⟨b, off + 2, none⟩ = some (.int .i64 d.vi) ∧ W.cell? ⟨b, off + 3, none⟩ = some (.string d.vt) ∧
    W.cell? ⟨b, off + 4, none⟩ = some (.string d.tb) ∧ W.cell? ⟨b, off + 5, none⟩ = some (.string d.nm) ∧ W.cell? ⟨b, off + 6, none⟩ = some (.int .i64 0) ∧ W.cell? ⟨b, off + 7, none⟩ = some (.slice d.ao d.n d.cap) :=
  ⟨h 0 _ rfl, h 1 _ rfl, h 2 _ rfl, h 3 _ rfl, h 4 _ rfl, h 5 _ rfl, h 6 _ rfl, h 7 _ rfl⟩

set_option maxRecDepth 100000 in
set_option maxHeartbeats 4000000 in
theorem sameExprs_same {ok ok' : Nat → Prop} (es : List Ex) (ao bo : Option Addr) (cap cbp : Nat) (w : World) (he : ExRow ok w ao es) (hf : ExRow ok' w bo es) (hP : ∀ e ∈ es, Same2 e) (n : Nat) (hn : n = es.length) (hn9 : n ≤ 9) :
    Calls Tryz.prog 11 #[.slice ao n cap, .slice bo n cbp] w fun e w' => e = .returned (.bool true) ∧ Below w.heap.size w w' := by
  have HE := hide he
  have HF := hide hf
  have HP := hide hP
  have HN := hide hn
  clear he hf hP hn
  go_enter Tryz.func11, Tryz.ntmps11
  go_wp2
  go_loopw [5] (fun i wr => ∃ k : Nat, k ≤ n ∧ i = .int .i64 k ∧ Hid (Below w.heap.size w wr)) (fun i _ => n - (intOf i).toNat)
  case atStart => exact ⟨0, Nat.zero_le _, rfl, Below.refl _ _⟩
  case round =>
    obtain ⟨k, hk, rfl, HB⟩ := hrel
    by_cases hlt : k < n
    · have hx : k < es.length := by rw [← HN.out]; exact hlt
      rcases HE.out with h0 | ⟨b, rfl, hb, h1⟩
      · rw [h0] at hx; exact absurd hx (Nat.not_lt_zero _)
      rcases HF.out with h0 | ⟨b', rfl, hb', h1'⟩
      · rw [h0] at hx; exact absurd hx (Nat.not_lt_zero _)
      obtain ⟨d, hc, hi⟩ := h1 k hx
      obtain ⟨d', hc', hi'⟩ := h1' k hx
      have HS : ∀ v1, Below w.heap.size w v1 → Calls Tryz.prog 7 #[exval d, exval d'] v1 fun e w' => e = .returned (.bool true) ∧ Below w.heap.size w w' := by
        intro v1 h1
        exact (HP.out _ (List.getElem_mem hx) ok ok' d d' v1 (hi.later h1) (hi'.later h1)).mono (fun e w' h => ⟨h.1, h1.trans (h.2.mono h1.size)⟩)
      have hcw : Cell8 wr b (k * 8) d := fun j u hu => (HB.out.cell hb).trans (hc j u hu)
      have hcw' : Cell8 wr b' (k * 8) d' := fun j u hu => (HB.out.cell hb').trans (hc' j u hu)
      obtain ⟨c0, c1, c2, c3, c4, c5, c6, c7⟩ := cell8_at hcw
      obtain ⟨e0, e1, e2, e3, e4, e5, e6, e7⟩ := cell8_at hcw'
      clear h1 h1' hc hc' hi hi' hcw hcw' hx
      have bx : Below w.heap.size w wr.drew := HB.out.drew
      go_wp2
      go_region_with (go_at_call 7; (with_reducible refine (HS _ ?_).mono ?_); assumption; rintro e w3 ⟨rfl, b3⟩)
      all_goals
        go_wp2
        go_roundw
        case rel => exact ⟨k + 1, by omega, by go_num, b3⟩
        case measure => simp [intOf]; omega
    · have hkn : k = n := by omega
      subst hkn
      go_wp2
      go_ret
      exact ⟨rfl, HB.out⟩

/-- the same beside the parts -/
def Like (d d' : ED) : Prop := d.op = d'.op ∧ d.vk = d'.vk ∧ d.vi = d'.vi ∧ d.vt = d'.vt ∧ d.tb = d'.tb ∧ d.nm = d'.nm ∧ d.n = d'.n

set_option maxRecDepth 100000 in
set_option maxHeartbeats 4000000 in
theorem sameExpr_like (d d' : ED) (W : World) (hl : Like d d') (hS : ∀ v, Below W.heap.size W v → Calls Tryz.prog 11 #[.slice d.ao d.n d.cap, .slice d'.ao d'.n d'.cap] v fun r w' => r = .returned (.bool true) ∧ Below W.heap.size W w') :
    Calls Tryz.prog 7 #[exval d, exval d'] W fun r w' => r = .returned (.bool true) ∧ Below W.heap.size W w' := by
  obtain ⟨op, vk, vi, vt, tb, nm, ao, n, cap⟩ := d
  obtain ⟨op', vk', vi', vt', tb', nm', ao', n', cap'⟩ := d'
  obtain ⟨h1, h2, h3, h4, h5, h6, h7⟩ := hl
  simp only at h1 h2 h3 h4 h5 h6 h7 hS
  subst h1 h2 h3 h4 h5 h6 h7
  have hb : Below W.heap.size W ((W.alloc (.cells #[.int .i64 op, .int .i64 vk, .int .i64 vi, .string vt, .string tb, .string nm, .int .i64 0, .slice ao n cap] 31)).alloc (.cells #[.int .i64 op, .int .i64 vk, .int .i64 vi, .string vt, .string tb, .string nm, .int .i64 0, .slice ao' n cap'] 31)) :=
    ((Below.refl _ W).alloc (Nat.le_refl _) _).alloc (by simp) _
  have HS := hide (hS _ hb)
  clear hS hb
  go_enter Tryz.func7, Tryz.ntmps7
  go_wp2_with (go_at_call 11; (with_reducible refine HS.out.mono ?_); rintro e w3 ⟨rfl, b3⟩)
  go_ret
  exact ⟨rfl, b3⟩

theorem Bare.like {op : Int} {n : Nat} {d d' : ED} (h : Bare op n d) (h' : Bare op n d') : Like d d' := by
  obtain ⟨a0, a1, a2, a3, a4, a5, a6⟩ := h
  obtain ⟨b0, b1, b2, b3, b4, b5, b6⟩ := h'
  exact ⟨a0.trans b0.symm, a1.trans b1.symm, a2.trans b2.symm, a3.trans b3.symm, a4.trans b4.symm, a5.trans b5.symm, a6.trans b6.symm⟩

theorem sameExpr_same (e : Ex) : Same2 e := by
  induction e with
  | leaf op v tb nm =>
    intro ok ok' d d' W ⟨a0, a1, a2, a3, a4, a5, a6⟩ ⟨b0, b1, b2, b3, b4, b5, b6⟩
    refine sameExpr_like d d' W ⟨a0.trans b0.symm, a1.trans b1.symm, a2.trans b2.symm, a3.trans b3.symm, a4.trans b4.symm, a5.trans b5.symm, a6.trans b6.symm⟩ fun v hv => ?_
    rw [a6, b6]
    exact (sameExprs_same (ok := ok) (ok' := ok') [] d.ao d'.ao d.cap d'.cap v (.inl rfl) (.inl rfl) (fun e he => by cases he) 0 rfl (by omega)).mono fun r w' h => ⟨h.1, hv.trans (h.2.mono hv.size)⟩
  | un op a ih =>
    intro ok ok' d d' W ⟨h0, b, d1, h1, h2, h3, h4, h5⟩ ⟨h0', b', d1', h1', h2', h3', h4', h5'⟩
    refine sameExpr_like d d' W (h0.like h0') fun v hv => ?_
    rw [h0.2.2.2.2.2.2, h0'.2.2.2.2.2.2]
    have r1 : ExRow ok v d.ao [a] := .inr ⟨b, h1, Nat.lt_of_lt_of_le h3 hv.size, fun i hi => by
      match i, hi with
      | 0, _ => exact ⟨d1, fun j u hu => (hv.cell h3).trans (h4 j u hu), h5.later hv⟩⟩
    have r2 : ExRow ok' v d'.ao [a] := .inr ⟨b', h1', Nat.lt_of_lt_of_le h3' hv.size, fun i hi => by
      match i, hi with
      | 0, _ => exact ⟨d1', fun j u hu => (hv.cell h3').trans (h4' j u hu), h5'.later hv⟩⟩
    exact (sameExprs_same [a] d.ao d'.ao d.cap d'.cap v r1 r2 (fun e he => by rw [List.mem_singleton.1 he]; exact ih) 1 rfl (by omega)).mono fun r w' h => ⟨h.1, hv.trans (h.2.mono hv.size)⟩
  | bi op a a2 ih ih2 =>
    intro ok ok' d d' W ⟨h0, b, d1, d2, h1, h2, h3, h4, h5, h6, h7⟩ ⟨h0', b', d1', d2', h1', h2', h3', h4', h5', h6', h7'⟩
    refine sameExpr_like d d' W (h0.like h0') fun v hv => ?_
    rw [h0.2.2.2.2.2.2, h0'.2.2.2.2.2.2]
    have r1 : ExRow ok v d.ao [a, a2] := .inr ⟨b, h1, Nat.lt_of_lt_of_le h3 hv.size, fun i hi => by
      match i, hi with
      | 0, _ => exact ⟨d1, fun j u hu => (hv.cell h3).trans (h4 j u hu), h6.later hv⟩
      | 1, _ => exact ⟨d2, fun j u hu => (hv.cell h3).trans (h5 j u hu), h7.later hv⟩⟩
    have r2 : ExRow ok' v d'.ao [a, a2] := .inr ⟨b', h1', Nat.lt_of_lt_of_le h3' hv.size, fun i hi => by
      match i, hi with
      | 0, _ => exact ⟨d1', fun j u hu => (hv.cell h3').trans (h4' j u hu), h6'.later hv⟩
      | 1, _ => exact ⟨d2', fun j u hu => (hv.cell h3').trans (h5' j u hu), h7'.later hv⟩⟩
    exact (sameExprs_same [a, a2] d.ao d'.ao d.cap d'.cap v r1 r2 (fun e he => by
      rcases List.mem_cons.1 he with h | h
      · rw [h]; exact ih
      · rw [List.mem_singleton.1 h]; exact ih2) 2 rfl (by omega)).mono fun r w' h => ⟨h.1, hv.trans (h.2.mono hv.size)⟩

end Go.Proofs.YtjeniabnokcbnaaGreatDoor

/- A source that is made of tokens, one blank between two: cut, and read: parsed of the statements' package. -/
namespace Go.Proofs.YtjeniabnokcbnaaGreatDoor
open Go.ChangeShapes Go.WideShapes Go.ChangeAt Go.RowKit

/-- tokens that a source may hold -/
structure Src (ts : List Tok) : Prop where
  may : AllMay' ts = true
  len : ts.length ≤ 300
  size : (joined ts).length ≤ 2000
  some : 1 ≤ ts.length

theorem Cut_src {ts : List Tok} (hs : Src ts) (k : Nat) (hk : ts.length = k) {w W : World} (tabs : ParseTabs w) (hb : Hid (Below w.heap.size w W)) :
    Calls Tryz.prog 9 #[.string (str (joined ts))] W fun e W' => ∃ g cap, e = .returned (.tuple #[.slice (some ⟨g, 0, none⟩) k cap, .int .i64 0, .int .i64 0]) ∧ Hid (Below W.heap.size W W' ∧ Toks W' (some ⟨g, 0, none⟩) cap ts ∧ ∀ a, some (⟨g, 0, none⟩ : Addr) = some a → a.block < W'.heap.size) := by
  subst hk
  refine (Cut_any (str (joined ts)) W ((tabs.later hb.out).lex)).mono fun e W' ⟨v, ts', p', c', h1, h2, h3, h4⟩ => ?_
  rw [bts_str] at h2
  obtain ⟨rfl, rfl, rfl⟩ := (joined_cut hs.may hs.len hs.size).one_answer h2
  have h4' := hs.some
  have h5 := own_shape h3
  rcases h3.2 with ⟨_, h6⟩ | ⟨g, cap, cur, rfl, h6, h7, h8, _⟩
  · omega
  · exact ⟨g, cap, h1, h4, own_toks rfl (AllMay'.int hs.may) h3⟩

theorem Parse_src {ts : List Tok} (hs : Src ts) (k : Nat) (hk : ts.length = k) {ao : Option Addr} {cap : Nat} {w W : World} (tabs : ParseTabs w) (hb : Below w.heap.size w W) (h : Toks W ao cap ts ∧ ∀ a, ao = some a → a.block < W.heap.size) :
    Calls Tryz.prog 10 #[.slice ao k cap] W fun e W' => ∃ x : SD, e = .returned (.tuple #[stmval x, .int .i64 ((readP ts).2.1 : Int), .int .i64 (readP ts).2.2]) ∧ Hid (Below W.heap.size W W' ∧ IsStm W.heap.size W' (readP ts).1 x) :=
  (Parse_read ts hs.may hs.len k hk.symm tabs ⟨hb, h⟩).mono fun _ _ ⟨x, h1, h2⟩ => ⟨x, h1, h2.out.2.1, h2.out.2.2⟩

set_option maxRecDepth 100000 in
set_option maxHeartbeats 4000000 in
theorem parsed_any {ts : List Tok} (hs : Src ts) (s : ByteArray) (es : s = str (joined ts)) {w W : World} (tabs : ParseTabs w) (hb : Hid (Below w.heap.size w W)) :
    Calls Tryz.prog 5 #[.string s] W fun e W' => ∃ x : SD, e = .returned (.tuple #[stmval x, .int .i64 ((readP ts).2.1 : Int), .int .i64 (readP ts).2.2]) ∧ Hid (Below W.heap.size W W' ∧ IsStm W.heap.size W' (readP ts).1 x) := by
  subst es
  have b1 : Below W.heap.size W (W.alloc zeroStm) := (Below.refl _ W).alloc (Nat.le_refl _) _
  have hb1 : Hid (Below w.heap.size w (W.alloc zeroStm)) := hb.out.trans (b1.mono hb.out.size)
  obtain ⟨k, hk⟩ : ∃ k, ts.length = k := ⟨_, rfl⟩
  have cC := Cut_src hs k hk tabs hb1
  have cP := hide (fun (ao : Option Addr) (cap : Nat) (W1 : World) (h : Hid (Below (W.alloc zeroStm).heap.size (W.alloc zeroStm) W1 ∧ Toks W1 ao cap ts ∧ ∀ a, ao = some a → a.block < W1.heap.size)) => Parse_src hs k hk (ao := ao) (cap := cap) tabs (hb1.out.trans (h.out.1.mono hb1.out.size)) h.out.2)
  generalize readP ts = r at cP ⊢
  obtain ⟨t, p, c⟩ := r
  simp only at cP ⊢
  generalize str (joined ts) = s at cC ⊢
  clear tabs hk hs b1
  go_enter Tryz.func5, Tryz.ntmps5
  go_wp2_with (first
    | (go_at_call 9; refine cC.mono ?_; rintro e w2 ⟨g, cap, rfl, HB2⟩)
    | (go_at_call 10; (with_reducible refine (cP.out _ _ _ HB2).mono ?_); rintro e w3 ⟨x, rfl, HB3⟩)
    | (refine wpList_store_mid rfl 34 (.tmp 2) (.tmp 20) rfl W.heap.size 0 (stmCells x).toArray rfl rfl (parse_there (HB2.out.1.trans (HB3.out.1.mono HB2.out.1.size)) _) (stm_size _) (stm_one _) ?_; obtain ⟨wf, ef, HR, HF⟩ := parse_fin (x := x) (t := t) (HB2.out.1.trans (HB3.out.1.mono HB2.out.1.size)) (HB3.out.2.weak (by have := HB2.out.1.size; simp at this; omega)); rw [ef]; clear ef))
  exact bodyPost_ret (results_parse rfl rfl rfl rfl HR.out) rfl ⟨x, rfl, HF⟩

end Go.Proofs.YtjeniabnokcbnaaGreatDoor

/- The expression of a text: one of the statements' package, at texts that are made of tokens. -/
namespace Go.Proofs.YtjeniabnokcbnaaGreatDoor
open Go.ChangeShapes Go.WideShapes Go.ChangeAt Go.RowKit

theorem results_cell_one {fn : Func} {p u : Tmp} {ty : TypeId} (h : fn.results = #[.cell p ty, .tmp u]) (tmps : Array Value) (P : Program) (w : World) :
    (results fn tmps).run P w = ((asAddr (tmps.getD p undef)).run P w).andThen fun a w₁ => ((loadVar ty a).run P w₁).andThen fun x w₂ => .ok (.tuple #[x, tmps.getD u undef]) w₂ := by
  simp only [results, h]
  simp [Sem.run_bind, Result.andThen]

set_option maxRecDepth 100000 in
theorem results_one {fn : Func} {p u : Tmp} (h : fn.results = #[.cell p 31, .tmp u]) {tmps : Array Value} {w : World} {B : Nat} {d : ED} {y : Value} (hp : tmps.getD p undef = .pointer (some ⟨B, 0, none⟩)) (hu : tmps.getD u undef = y) (hr : w.rangeAt B 0 (exCells d)) :
    (results fn tmps).run Tryz.prog w = .ok (.tuple #[exval d, y]) w := by
  rw [results_cell_one h, hp, hu]
  simp only [asAddr, Sem.run_pure, Result.andThen_ok]
  rw [run_loadVar_mid w B 0 31 (exCells d) _ hr Tryz.underlying31 rfl Tryz.infoExpr]
  rfl

theorem one_val {lo : Nat} {W : World} {t : Stm} {x : SD} {e : Ex} (h : IsStm lo W t x) (hv : t.values = [e]) :
    ∃ b d, x.va.ao = some ⟨b, 0, none⟩ ∧ x.va.n = 1 ∧ lo ≤ b ∧ b < W.heap.size ∧ Cell8 W b 0 d ∧ IsEx (fun b => lo ≤ b) W e d := by
  obtain ⟨ds, ⟨hown, heach⟩, hn, _⟩ := h.va
  rw [hv] at heach
  match ds, heach with
  | [d], heach =>
    have h0 := hown
    rcases hown.2 with ⟨h1, h2⟩ | ⟨g, cap, cur, h1, h2, h3, _⟩
    · exact absurd h2 (by simp)
    · simp only [Value.slice.injEq] at h1
      obtain ⟨h5, h6, h7⟩ := h1
      rw [h5, h6, h7] at h0
      refine ⟨g, d, h5, h6, h2, (Array.getElem?_eq_some_iff.1 h3).1, fun j u hu => ?_, IsEx.weak heach.1 (fun b hb _ => hb.1)⟩
      have := h0.cells (g := g) rfl j u (by simpa [kEx] using hu)
      rw [add_off] at this
      rw [Nat.zero_add]
      exact this

theorem cell8_zero {W : World} {b : Nat} {d : ED} (h : Cell8 W b 0 d) : W.cell? ⟨b, 0, none⟩ = some (.int .i64 d.op) ∧ W.cell? ⟨b, 1, none⟩ = some (.int .i64 d.vk) ∧ W.cell? ⟨b, 2, none⟩ = some (.int .i64 d.vi) ∧ W.cell? ⟨b, 3, none⟩ = some (.string d.vt) ∧
    W.cell? ⟨b, 4, none⟩ = some (.string d.tb) ∧ W.cell? ⟨b, 5, none⟩ = some (.string d.nm) ∧ W.cell? ⟨b, 6, none⟩ = some (.int .i64 0) ∧ W.cell? ⟨b, 7, none⟩ = some (.slice d.ao d.n d.cap) :=
  ⟨h 0 _ rfl, h 1 _ rfl, h 2 _ rfl, h 3 _ rfl, h 4 _ rfl, h 5 _ rfl, h 6 _ rfl, h 7 _ rfl⟩

/-- an expression's tokens, as the source of a statement -/
def sel (es : List Tok) : List Tok := ⟨1, 0, [115, 101, 108, 101, 99, 116]⟩ :: (es ++ [⟨1, 0, [102, 114, 111, 109]⟩, ⟨1, 0, [116]⟩])

/-- the result's variable, stored -/
theorem one_fin {W W3 : World} {e : Ex} {d : ED} (h : Below (W.alloc zeroEx).heap.size (W.alloc zeroEx) W3) (hI : IsEx (fun b => W.heap.size + 1 ≤ b) W3 e d) :
    W3.there W.heap.size 0 (exCells d).toArray.size ∧ ∃ W', W3.setCells W.heap.size 0 (exCells d).toArray.toList = W' ∧ Hid (W'.rangeAt W.heap.size 0 (exCells d)) ∧ Hid (Below W.heap.size W W' ∧ IsEx (fun b => W.heap.size ≤ b) W' e d) := by
  have hv : VarB W3 W.heap.size _ := (VarB.new W #[.int .i64 0, .int .i64 0, .int .i64 0, .string ⟨#[]⟩, .string ⟨#[]⟩, .string ⟨#[]⟩, .int .i64 0, .slice none 0 0] 31).move (R := W.heap.size + 1) (.of_below h) (by omega)
  have hk := setFrom_keeps W.heap.size (exCells d) W3 0
  refine ⟨hv.there (Nat.le_refl 8), _, rfl, (hv.all (exCells d) rfl).range, ?_, (hI.keep hk (by show ¬ W.heap.size + 1 ≤ W.heap.size; omega)).weak (fun b (hb : W.heap.size + 1 ≤ b) _ => by show W.heap.size ≤ b; omega)⟩
  have h1 : Below W.heap.size W W3 := ((Below.refl _ W).alloc (Nat.le_refl _) zeroEx).trans (h.mono (by simp))
  exact h1.trans (hk.below (Nat.le_refl _) h1.size)

set_option maxRecDepth 100000 in
set_option maxHeartbeats 4000000 in
theorem one_any {es : List Tok} {e : Ex} {t : Stm} (hs : Src (sel es)) (hr : readP (sel es) = (t, 0, 0)) (hv : t.values = [e]) (s : ByteArray) (hj : ⟨#[115, 101, 108, 101, 99, 116, 32]⟩ ++ s ++ ⟨#[32, 102, 114, 111, 109, 32, 116]⟩ = str (joined (sel es))) {w W : World} (tabs : ParseTabs w) (hb : Hid (Below w.heap.size w W)) :
    Calls Tryz.prog 6 #[.string s] W fun r W' => ∃ d : ED, r = .returned (.tuple #[exval d, .bool true]) ∧ Hid (Below W.heap.size W W' ∧ IsEx (fun b => W.heap.size ≤ b) W' e d) := by
  have b1 : Below W.heap.size W (W.alloc zeroEx) := (Below.refl _ W).alloc (Nat.le_refl _) _
  have hb1 : Hid (Below w.heap.size w (W.alloc zeroEx)) := hb.out.trans (b1.mono hb.out.size)
  have cP := parsed_any hs _ hj tabs hb1
  rw [hr] at cP
  simp only at cP
  have HV := hide hv
  have hsz : s.size ≤ 2000 := by
    have h1 := congrArg ByteArray.size hj
    rw [ByteArray.size_append, ByteArray.size_append, size_bytes (str _), bts_str] at h1
    have h2 := hs.size
    omega
  have hsz1 : (⟨#[115, 101, 108, 101, 99, 116, 32]⟩ ++ s : ByteArray).size = 7 + s.size := by rw [ByteArray.size_append]; rfl
  clear tabs hs hr hj hv b1 hb1 hb
  go_enter Tryz.func6, Tryz.ntmps6
  go_wp2_with (first
    | (go_at_call 5; refine cP.mono ?_; rintro e w2 ⟨x, rfl, HB2⟩; obtain ⟨b, d, h1, h2, h3, h4, h5, h6⟩ := one_val HB2.out.2 HV.out)
    | (refine wpList_store_mid rfl 34 (.tmp 4) (.tmp 12) rfl w2.heap.size 0 (stmCells x).toArray rfl rfl (init_there _ _) (stm_size _) (stm_one _) ?_; obtain ⟨w3, e3, HB3⟩ := law_var HB2.out.1 x; rw [e3]; clear e3; have z6 : w3.cell? ⟨w2.heap.size, 6, none⟩ = some (.slice (some ⟨b, 0, none⟩) 1 x.va.cap) := (by have := HB3.out.2.2.2.1 6 _ rfl; rw [h1, h2] at this; exact this); obtain ⟨c0, c1, c2, c3, c4, c5, c6, c7⟩ := cell8_zero (d := d) (W := w3) (b := b) (fun j u hu => (HB3.out.2.1.cell h4).trans (h5 j u hu)); obtain ⟨ht, w4, e4, HR, HF⟩ := one_fin (W := W) HB3.out.1 (IsEx.weak (IsEx.later HB3.out.2.1 h6) (fun k (hk : (W.alloc zeroEx).heap.size ≤ k) _ => by show W.heap.size + 1 ≤ k; simp at hk; exact hk)); have HT := hide (And.intro ht e4); clear ht e4)
    | (refine wpList_store_mid rfl 31 (.tmp 2) (.tmp 27) rfl W.heap.size 0 (exCells d).toArray rfl rfl HT.out.1 (ex_size _) (ex_one _) ?_; rw [HT.out.2]))
  exact bodyPost_ret (results_one rfl rfl rfl HR.out) rfl ⟨d, rfl, HF⟩

end Go.Proofs.YtjeniabnokcbnaaGreatDoor

/- An expression in ( ), however many, is read as what stands within; the sources that ParseParens makes. -/
namespace Go.Proofs.YtjeniabnokcbnaaGreatDoor

def lpT : Tok := ⟨4, 0, [40]⟩
def rpT : Tok := ⟨4, 0, [41]⟩
def fromT : Tok := ⟨1, 0, [102, 114, 111, 109]⟩
def nameT : Tok := ⟨1, 0, [116]⟩
def selT : Tok := ⟨1, 0, [115, 101, 108, 101, 99, 116]⟩

theorem mayBe_no {f : List UInt8} {b : List (List UInt8)} {s : St} (h : isOne [f] s.next = false) : mayBe f b s = (false, s) := by simp [mayBe, anyOf_no h]

theorem left_quiet {part : St → Ex × St} {signs : List (List UInt8)} {s s' : St} {e : Ex} (h : part s = (e, s')) (hq : isOne signs s'.next = false) : leftward part signs s = (e, s') := by
  unfold leftward
  rw [h]
  simp only
  rw [leftLoop_end (by rw [anyOf_no hq]; exact opOf_nil), anyOf_no hq]

/-- what goes on with no operator -/
def Quiet (t : Tok) : Prop := t = rpT ∨ t = fromT

theorem Quiet.no {t : Tok} (h : Quiet t) : isOne [[42], [47], [37]] t = false ∧ isOne [[43], [45]] t = false ∧ isOne cmpSigns t = false ∧ isOne [[105, 115]] t = false ∧ isOne [[97, 110, 100]] t = false ∧ isOne [[111, 114]] t = false := by
  rcases h with rfl | rfl <;> decide +kernel

theorem levels_quiet {n : Nat} {s : St} {t : Tok} {r : List Tok} {e : Ex} (ht : Quiet t) (hn : isOne [[110, 111, 116]] s.next = false) (h : minusP (exprN n) s = (e, ⟨t :: r, false⟩)) : exprN (n + 1) s = (e, ⟨t :: r, false⟩) := by
  obtain ⟨q1, q2, q3, q4, q5, q6⟩ := ht.no
  have h1 : timesP (exprN n) s = (e, ⟨t :: r, false⟩) := left_quiet h q1
  have h2 : sumP (exprN n) s = (e, ⟨t :: r, false⟩) := left_quiet h1 q2
  have h3 : testP (exprN n) s = (e, ⟨t :: r, false⟩) := by
    unfold testP
    rw [h2]
    unfold testOn
    simp only
    rw [anyOf_no (s := ⟨t :: r, false⟩) q3, if_pos opOf_nil]
    unfold isP
    rw [mayBe_no (s := ⟨t :: r, false⟩) q4]
    rfl
  have h4 : noP (exprN n) s = (e, ⟨t :: r, false⟩) := by
    have hm := mayBe_no (b := []) hn
    rw [noP_end (by rw [hm]), hm]
    exact h3
  have h5 : bothP (exprN n) s = (e, ⟨t :: r, false⟩) := left_quiet h4 q5
  exact (left_quiet h5 q6 : orP (exprN n) s = _)

theorem paren_step {n : Nat} {ts r : List Tok} {e : Ex} {t : Tok} (ht : Quiet t) (h : exprN n ⟨ts, false⟩ = (e, ⟨rpT :: t :: r, false⟩)) : exprN (n + 1) ⟨lpT :: ts, false⟩ = (e, ⟨t :: r, false⟩) := by
  refine levels_quiet ht (by show isOne [[110, 111, 116]] lpT = false; decide +kernel) ?_
  have hm : mayBe [45] [] ⟨lpT :: ts, false⟩ = (false, ⟨lpT :: ts, false⟩) := mayBe_no (by show isOne [[45]] lpT = false; decide +kernel)
  rw [minusP_end (by rw [hm]), hm]
  have ha : anyOf oneWords ⟨lpT :: ts, false⟩ = ([40], ⟨ts, false⟩) := anyOf_yes (by show isOne oneWords lpT = true; decide +kernel)
  have hc : closedP (exprN n) ⟨ts, false⟩ = (e, ⟨t :: r, false⟩) := by
    unfold closedP
    rw [h]
    have hb : anyOf [[41]] ⟨rpT :: t :: r, false⟩ = ([41], ⟨t :: r, false⟩) := anyOf_yes (by show isOne [[41]] rpT = true; decide +kernel)
    simp [needs, oneOf, hb]
  show oneP (exprN n) ⟨lpT :: ts, false⟩ = _
  unfold oneP
  rw [ha]
  simp only
  rw [if_neg (by show ¬ lpT.kind = 2; decide), if_neg (by show ¬ lpT.kind = 3; decide)]
  simp only [wordP]
  simp [hc]

def pTs : List (List Tok) := [
  [⟨2, 1, []⟩, ⟨4, 0, [43]⟩, ⟨2, 2, []⟩, ⟨4, 0, [42]⟩, ⟨1, 0, [120]⟩],
  [⟨1, 0, [110, 111, 116]⟩, ⟨1, 0, [97]⟩, ⟨1, 0, [97, 110, 100]⟩, ⟨1, 0, [98]⟩],
  [⟨4, 0, [45]⟩, ⟨1, 0, [120]⟩, ⟨4, 0, [46]⟩, ⟨1, 0, [121]⟩],
  [⟨3, 0, [105, 116, 39, 115]⟩, ⟨4, 0, [61]⟩, ⟨1, 0, [98]⟩, ⟨1, 0, [111, 114]⟩, ⟨1, 0, [97]⟩, ⟨1, 0, [105, 115]⟩, ⟨1, 0, [110, 111, 116]⟩, ⟨1, 0, [110, 117, 108, 108]⟩],
  [⟨1, 0, [99, 111, 117, 110, 116]⟩, lpT, ⟨4, 0, [42]⟩, rpT, ⟨4, 0, [43]⟩, ⟨1, 0, [115, 117, 109]⟩, lpT, ⟨1, 0, [120]⟩, rpT]]
def pT (i : Nat) : List Tok := pTs.getD i []
def pBs : List (List UInt8) := [[49, 32, 43, 32, 50, 32, 42, 32, 120], [110, 111, 116, 32, 97, 32, 97, 110, 100, 32, 98], [45, 32, 120, 32, 46, 32, 121], [39, 105, 116, 39, 39, 115, 39, 32, 61, 32, 98, 32, 111, 114, 32, 97, 32, 105, 115, 32, 110, 111, 116, 32, 110, 117, 108, 108], [99, 111, 117, 110, 116, 32, 40, 32, 42, 32, 41, 32, 43, 32, 115, 117, 109, 32, 40, 32, 120, 32, 41]]
def pB (i : Nat) : List UInt8 := pBs.getD i []
def eT (i : Nat) : Ex := (exprN 10 ⟨pT i ++ [fromT], false⟩).1

theorem text_rp (i : Nat) (hi : i < 5) (m : Nat) (r : List Tok) : exprN (m + 3) ⟨pT i ++ rpT :: r, false⟩ = (eT i, ⟨rpT :: r, false⟩) := by
  rcases (show i = 0 ∨ i = 1 ∨ i = 2 ∨ i = 3 ∨ i = 4 by omega) with rfl | rfl | rfl | rfl | rfl <;> kernel_rfl
theorem text_from (i : Nat) (hi : i < 5) (m : Nat) (r : List Tok) : exprN (m + 3) ⟨pT i ++ fromT :: r, false⟩ = (eT i, ⟨fromT :: r, false⟩) := by
  rcases (show i = 0 ∨ i = 1 ∨ i = 2 ∨ i = 3 ∨ i = 4 by omega) with rfl | rfl | rfl | rfl | rfl <;> kernel_rfl

theorem text_read (i : Nat) (hi : i < 5) (m : Nat) (t : Tok) (ht : Quiet t) (r : List Tok) : exprN (m + 3) ⟨pT i ++ t :: r, false⟩ = (eT i, ⟨t :: r, false⟩) := by
  rcases ht with rfl | rfl
  · exact text_rp i hi m r
  · exact text_from i hi m r

theorem par_read (i : Nat) (hi : i < 5) (m c : Nat) : ∀ (t : Tok) (_ : Quiet t) (r : List Tok), exprN (m + 3 + c) ⟨List.replicate c lpT ++ (pT i ++ (List.replicate c rpT ++ t :: r)), false⟩ = (eT i, ⟨t :: r, false⟩) := by
  induction c with
  | zero => exact fun t ht r => text_read i hi m t ht r
  | succ c ih =>
    intro t ht r
    have := ih rpT (.inl rfl) (t :: r)
    have e : List.replicate (c + 1) rpT ++ t :: r = List.replicate c rpT ++ rpT :: t :: r := by
      rw [List.replicate_succ', List.append_assoc]
      rfl
    rw [e, List.replicate_succ]
    exact paren_step ht this

def parT (c i : Nat) : List Tok := List.replicate c lpT ++ (pT i ++ List.replicate c rpT)

end Go.Proofs.YtjeniabnokcbnaaGreatDoor

/- The sources that ParseParens makes: their tokens, their bytes, and what they are read as. -/
namespace Go.Proofs.YtjeniabnokcbnaaGreatDoor

theorem joined_two {a b : List Tok} (ha : a ≠ []) (hb : b ≠ []) : joined (a ++ b) = joined a ++ 32 :: joined b := by
  induction a with
  | nil => exact absurd rfl ha
  | cons t r ih =>
    rw [List.cons_append, joined_cons, joined_cons]
    by_cases hr : r = []
    · subst hr
      simp [hb]
    · rw [if_neg (by simp [hb]), if_neg hr, ih hr]
      simp

def opn : Nat → List UInt8
  | 0 => []
  | c + 1 => [40, 32] ++ opn c
def shu : Nat → List UInt8
  | 0 => []
  | c + 1 => [32, 41] ++ shu c

theorem opn_push (c : Nat) : opn (c + 1) = opn c ++ [40, 32] := by
  induction c with
  | zero => rfl
  | succ c ih =>
    show [40, 32] ++ opn (c + 1) = ([40, 32] ++ opn c) ++ [40, 32]
    rw [ih, List.append_assoc]
theorem shu_push (c : Nat) : shu (c + 1) = shu c ++ [32, 41] := by
  induction c with
  | zero => rfl
  | succ c ih =>
    show [32, 41] ++ shu (c + 1) = ([32, 41] ++ shu c) ++ [32, 41]
    rw [ih, List.append_assoc]
theorem opn_len (c : Nat) : (opn c).length = 2 * c := by
  induction c with
  | zero => rfl
  | succ c ih => rw [opn_push, List.length_append, ih]; simp; omega
theorem shu_len (c : Nat) : (shu c).length = 2 * c := by
  induction c with
  | zero => rfl
  | succ c ih => rw [shu_push, List.length_append, ih]; simp; omega

theorem joined_open (c : Nat) (Y : List Tok) (hY : Y ≠ []) : joined (List.replicate c lpT ++ Y) = opn c ++ joined Y := by
  induction c with
  | zero => rfl
  | succ c ih =>
    rw [List.replicate_succ, List.cons_append, joined_cons, if_neg (by simp [hY]), ih]
    rfl
theorem joined_shut (c : Nat) : 32 :: joined (List.replicate c rpT ++ [fromT, nameT]) = shu c ++ [32, 102, 114, 111, 109, 32, 116] := by
  induction c with
  | zero => decide +kernel
  | succ c ih =>
    rw [List.replicate_succ, List.cons_append, joined_cons, if_neg (by simp), ih]
    rfl
theorem joined_text : ∀ i, i < 5 → joined (pT i) = pB i ∧ pT i ≠ [] ∧ AllMay' (pT i) = true ∧ (pT i).length ≤ 9 ∧ (pB i).length ≤ 60 := by decide +kernel

theorem parT_row (c i : Nat) : parT c i ++ [fromT, nameT] = List.replicate c lpT ++ (pT i ++ (List.replicate c rpT ++ [fromT, nameT])) := by
  unfold parT
  rw [List.append_assoc, List.append_assoc]

theorem joined_par (c i : Nat) (hi : i < 5) : joined (sel (parT c i)) = [115, 101, 108, 101, 99, 116, 32] ++ (opn c ++ pB i ++ shu c) ++ [32, 102, 114, 111, 109, 32, 116] := by
  obtain ⟨h1, h2, _⟩ := joined_text i hi
  show joined (selT :: (parT c i ++ [fromT, nameT])) = _
  rw [joined_cons, if_neg (by simp), parT_row, joined_open c _ (by simp), joined_two h2 (by simp), joined_shut, h1]
  show [115, 101, 108, 101, 99, 116] ++ 32 :: (opn c ++ (pB i ++ (shu c ++ [32, 102, 114, 111, 109, 32, 116]))) = _
  simp

theorem par_src (c i : Nat) (hi : i < 5) (hc : c < 130) : Src (sel (parT c i)) := by
  obtain ⟨h1, h2, h3, h4, h5⟩ := joined_text i hi
  refine ⟨?_, ?_, ?_, ?_⟩
  · show AllMay' (selT :: (parT c i ++ [fromT, nameT])) = true
    refine List.all_eq_true.2 fun t ht => ?_
    rcases List.mem_cons.1 ht with rfl | ht
    · decide +kernel
    rw [parT_row] at ht
    rcases List.mem_append.1 ht with ht | ht
    · rw [List.eq_of_mem_replicate ht]
      decide +kernel
    rcases List.mem_append.1 ht with ht | ht
    · exact List.all_eq_true.1 h3 t ht
    rcases List.mem_append.1 ht with ht | ht
    · rw [List.eq_of_mem_replicate ht]
      decide +kernel
    simp only [List.mem_cons, List.not_mem_nil, or_false] at ht
    rcases ht with rfl | rfl <;> decide +kernel
  · simp [sel, parT]
    omega
  · rw [joined_par c i hi]
    simp [opn_len, shu_len]
    omega
  · simp [sel]

theorem par_head (c i : Nat) (hi : i < 5) (r : List Tok) : isOne [[42]] (St.next ⟨List.replicate c lpT ++ (pT i ++ r), false⟩) = false := by
  cases c with
  | zero => rcases (show i = 0 ∨ i = 1 ∨ i = 2 ∨ i = 3 ∨ i = 4 by omega) with rfl | rfl | rfl | rfl | rfl <;> kernel_rfl
  | succ c => rw [List.replicate_succ]; show isOne [[42]] lpT = false; decide +kernel

theorem choose_end (e : Ex) (s : St) (h : itemsP s = ([e], ⟨[fromT, nameT], false⟩)) : chooseP s = (⟨6, [], [116], [], [], [], [e], [], noEx, noEx, [], [], false, 0⟩, ⟨[], false⟩) := by
  unfold chooseP
  rw [h]
  kernel_rfl

theorem par_parse (c i : Nat) (hi : i < 5) : readP (sel (parT c i)) = (⟨6, [], [116], [], [], [], [eT i], [], noEx, noEx, [], [], false, 0⟩, 0, 0) := by
  obtain ⟨h1, h2, h3, h4, h5⟩ := joined_text i hi
  have hx : exprP ⟨parT c i ++ [fromT, nameT], false⟩ = (eT i, ⟨[fromT, nameT], false⟩) := by
    unfold exprP
    obtain ⟨m, hm⟩ : ∃ m, St.len ⟨parT c i ++ [fromT, nameT], false⟩ + 1 = m + 3 + c := ⟨St.len ⟨parT c i ++ [fromT, nameT], false⟩ + 1 - (3 + c), by simp [St.len, parT]; omega⟩
    rw [hm, parT_row]
    exact par_read i hi m c fromT (.inr rfl) [nameT]
  have hl : exprsP ⟨parT c i ++ [fromT, nameT], false⟩ = ([eT i], ⟨[fromT, nameT], false⟩) := by
    unfold exprsP listP
    rw [hx]
    have hm : comma ⟨[fromT, nameT], false⟩ = (false, ⟨[fromT, nameT], false⟩) := mayBe_no (by show isOne [[44]] fromT = false; decide +kernel)
    simp only
    rw [listLoop_end (by rw [hm]), hm]
  have hi2 : itemsP ⟨parT c i ++ [fromT, nameT], false⟩ = ([eT i], ⟨[fromT, nameT], false⟩) := by
    have hm : mayBe [42] [] ⟨parT c i ++ [fromT, nameT], false⟩ = (false, ⟨parT c i ++ [fromT, nameT], false⟩) := mayBe_no (by rw [parT_row]; exact par_head c i hi _)
    unfold itemsP
    rw [hm]
    exact hl
  have ha : anyOf [[99, 114, 101, 97, 116, 101], [105, 110, 115, 101, 114, 116], [117, 112, 100, 97, 116, 101], [100, 101, 108, 101, 116, 101], [115, 101, 108, 101, 99, 116]] ⟨selT :: (parT c i ++ [fromT, nameT]), false⟩ = ([115, 101, 108, 101, 99, 116], ⟨parT c i ++ [fromT, nameT], false⟩) := anyOf_yes (by show isOne [[99, 114, 101, 97, 116, 101], [105, 110, 115, 101, 114, 116], [117, 112, 100, 97, 116, 101], [100, 101, 108, 101, 116, 101], [115, 101, 108, 101, 99, 116]] selT = true; decide +kernel)
  have hs : statementP ⟨selT :: (parT c i ++ [fromT, nameT]), false⟩ = chooseP ⟨parT c i ++ [fromT, nameT], false⟩ := by
    simp [statementP, oneOf, ha]
  have hr : statementP ⟨sel (parT c i), false⟩ = _ := hs.trans (choose_end _ _ hi2)
  simp [readP, hr]

theorem eT_op : ∀ i, i < 5 → (match eT i with | .leaf op _ _ _ => op | .un op _ => op | .bi op _ _ => op) ≠ 0 := by decide +kernel

end Go.Proofs.YtjeniabnokcbnaaGreatDoor

/- ParseParens' walk: what stands in ( ) is what stands within, however many there are. -/
namespace Go.Proofs.YtjeniabnokcbnaaGreatDoor
open Go.ChangeShapes Go.WideShapes Go.ChangeAt Go.RowKit

theorem str_two (a b : List UInt8) : str a ++ str b = str (a ++ b) := ByteArray.mk_append_mk a b

def exOp : Ex → Int
  | .leaf op _ _ _ => op
  | .un op _ => op
  | .bi op _ _ => op
theorem IsEx.exOp {ok : Nat → Prop} {w : World} {e : Ex} {d : ED} (h : IsEx ok w e d) : d.op = exOp e := by
  cases e with
  | leaf op v tb nm => exact h.1
  | un op a => exact h.1.1
  | bi op a b => exact h.1.1
theorem eT_exOp : ∀ i, i < 5 → exOp (eT i) ≠ 0 := by decide +kernel

theorem ex_there (W : World) (d : ED) : (W.alloc zeroEx).there W.heap.size 0 (exCells d).toArray.size := (VarB.new W #[.int .i64 0, .int .i64 0, .int .i64 0, .string ⟨#[]⟩, .string ⟨#[]⟩, .string ⟨#[]⟩, .int .i64 0, .slice none 0 0] 31).there (Nat.le_refl 8)

/-- a variable of an expression, laid by a law -/
theorem ex_var {w W : World} (hb : Below w.heap.size w W) (d : ED) : ∃ W', (W.alloc zeroEx).setCells W.heap.size 0 (exCells d).toArray.toList = W' ∧ Hid (Below w.heap.size w W' ∧ Below W.heap.size W W' ∧ VarB W' W.heap.size (exCells d)) := by
  have h1 : Below W.heap.size W (W.alloc zeroEx) := (Below.refl _ W).alloc (Nat.le_refl _) _
  have h2 := h1.trans ((setFrom_keeps W.heap.size (exCells d) (W.alloc zeroEx) 0).below (Nat.le_refl _) h1.size)
  exact ⟨_, rfl, hb.trans (h2.mono hb.size), h2, (VarB.new W _ 31).all (exCells d) rfl⟩

theorem VarB.ex {W : World} {b : Nat} {d : ED} (h : VarB W b (exCells d)) : W.cell? ⟨b, 0, none⟩ = some (.int .i64 d.op) ∧ W.cell? ⟨b, 1, none⟩ = some (.int .i64 d.vk) ∧ W.cell? ⟨b, 2, none⟩ = some (.int .i64 d.vi) ∧ W.cell? ⟨b, 3, none⟩ = some (.string d.vt) ∧
    W.cell? ⟨b, 4, none⟩ = some (.string d.tb) ∧ W.cell? ⟨b, 5, none⟩ = some (.string d.nm) ∧ W.cell? ⟨b, 6, none⟩ = some (.int .i64 0) ∧ W.cell? ⟨b, 7, none⟩ = some (.slice d.ao d.n d.cap) :=
  ⟨h.2.1 0 _ rfl, h.2.1 1 _ rfl, h.2.1 2 _ rfl, h.2.1 3 _ rfl, h.2.1 4 _ rfl, h.2.1 5 _ rfl, h.2.1 6 _ rfl, h.2.1 7 _ rfl⟩


end Go.Proofs.YtjeniabnokcbnaaGreatDoor
