/- Ranging over entries that a function hands out: what a round does, and a law for the whole loop. -/
import Derived.Test.YtcegkgobkpakiaaTrTop
import Derived.RangeFuncNested
import Derived.RangeFuncBound
import Derived.RangeFuncCalls
import Derived.RangeFuncLeaves
import Derived.Shelf.Abstract
import Derived.Shelf.RegionOpen
import Derived.OwnWalkIn
import Derived.TacticsInMore
import Derived.LoopNIn
import Derived.LoopIn
namespace Go.Proofs.Ytcegkgobkpakiaa
open Go.ChangeShapes Go.WideShapes Go.ChangeAt Go.RowKit

/-- all blocks but those that are M's are as they were -/
def KptX (M : World → Nat → Prop) (W W' : World) : Prop := W.heap.size ≤ W'.heap.size ∧ ∀ b, b < W.heap.size → ¬ M W b → W'.heap[b]? = W.heap[b]?

/-- and none of them has become one -/
def Kpt (M : World → Nat → Prop) (W W' : World) : Prop := W.heap.size ≤ W'.heap.size ∧ ∀ b, b < W.heap.size → ¬ M W b → W'.heap[b]? = W.heap[b]? ∧ ¬ M W' b

theorem Kpt.refl (M : World → Nat → Prop) (W : World) : Kpt M W W := ⟨Nat.le_refl _, fun _ _ h => ⟨rfl, h⟩⟩

theorem Kpt.trans {M : World → Nat → Prop} {A B C : World} (h : Kpt M A B) (k : Kpt M B C) : Kpt M A C :=
  ⟨Nat.le_trans h.1 k.1, fun b hb hm => by
    obtain ⟨h1, h2⟩ := h.2 b hb hm
    obtain ⟨k1, k2⟩ := k.2 b (Nat.lt_of_lt_of_le hb h.1) h2
    exact ⟨k1.trans h1, k2⟩⟩

theorem Kpt.transX {M : World → Nat → Prop} {A B C : World} (h : Kpt M A B) (k : KptX M B C) : KptX M A C :=
  ⟨Nat.le_trans h.1 k.1, fun b hb hm => by
    obtain ⟨h1, h2⟩ := h.2 b hb hm
    exact (k.2 b (Nat.lt_of_lt_of_le hb h.1) h2).trans h1⟩

/-- what turns in a step that is no round: new blocks, and one that holds no cells, from B on -/
def StepFrom (B : Nat) (W W' : World) (row : Option Nat) : Prop := W.grownBy W' row ∧ ∀ r, row = some r → B ≤ r ∧ ∃ o : Obj, W.heap[r]? = some o ∧ o.isCells = false

/-- what calling yield does: entries come one by one, as long as it says so, N at most -/
structure Yl (ok : Nat → Prop) (w0 : World) (l B N : Nat) (M : World → Nat → Prop) (J Jx : List Ent → World → Prop) : Prop where
  round : ∀ (m : Nat) (pre : List Ent) (x : Ent) (u v : Value) (W : World), pre.length < N → J pre W → kEnt.rel ok w0 x [u, v] → YieldAt Fence.wide m Try.prog l #[.agg #[u, v]] W fun e W' =>
    (e = .returned (.bool true) ∧ J (pre ++ [x]) W' ∧ Kpt M W W') ∨ (e = .returned (.bool false) ∧ Jx (pre ++ [x]) W' ∧ KptX M W W')
  own : OwnFrom B J
  ownx : OwnFrom B Jx
  low : ∀ pre W, J pre W → Below w0.heap.size w0 W ∧ B ≤ W.heap.size
  kind : ∀ pre W, J pre W → ∀ b, M W b → b < B ∨ ∃ o : Obj, W.heap[b]? = some o ∧ o.isCells = true
  same : ∀ pre W W' row, J pre W → StepFrom B W W' row → ∀ b, M W' b → M W b

/-- how a round may end -/
def roundEnd (c0 : Code) (M : World → Nat → Prop) (I Ix : List Ent → World → Prop) (pre : List Ent) (x : Ent) (W : World) : Exit → Act → World → Prop
  | .normal, _, W' => I (pre ++ [x]) W' ∧ Kpt M W W'
  | .ret, _, W' => c0 = .ret ∧ Ix (pre ++ [x]) W' ∧ KptX M W W'
  | .exit id, _, W' => c0 = .exit id ∧ Ix (pre ++ [x]) W' ∧ KptX M W W'
  | _, _, _ => False

set_option maxHeartbeats 2000000 in
theorem range_ents {ok : Nat → Prop} {w0 : World} {g : Operand} {ps : Array Tmp} {assign body : Code} {Q : Exit → Act → World → Prop} {a : Act} {w : World} {gf : Nat} {lb : Array Value} {xs : List Ent} {c0 : Code} {n N : Nat}
    (hg : a.eval g = .func (.func gf) #[] lb) (eg : ∀ args w, (callFunc gf args).run Try.prog w = .ok (.enter gf args) w) (hps : ps.size = 1)
    (I Ix : List Ent → World → Prop) (M : World → Nat → Prop) (hI : OwnFrom w.heap.size I) (hIx : OwnFrom w.heap.size Ix)
    (hlow : ∀ pre W, I pre W → Below w0.heap.size w0 W ∧ w.heap.size ≤ W.heap.size)
    (hkind : ∀ pre W, I pre W → ∀ b, M W b → b < w.heap.size ∨ ∃ o : Obj, W.heap[b]? = some o ∧ o.isCells = true)
    (hsame : ∀ pre W W' row, I pre W → StepFrom w.heap.size W W' row → ∀ b, M W' b → M W b)
    (h0 : I [] w) (a₁ : Value → Value → Nat → Act)
    (hassign : ∀ (l m : Nat) (x1 : Option Addr) (y1 z1 : Nat) (x2 : Option Addr) (y2 z2 : Nat) (W : World) (K : Act → World → Prop), K (a₁ (.slice x1 y1 z1) (.slice x2 y2 z2) W.heap.size) (W.alloc (.cells #[.slice x1 y1 z1, .slice x2 y2 z2] 62)) →
      assign.wpIn (Fence.wide.inRound l) m Try.prog (Exit.then K (fun _ _ _ => False)) { tmps := (ps.zip #[Value.agg #[.slice x1 y1 z1, .slice x2 y2 z2]]).foldl (fun t (p, v) => t.setIfInBounds p v) a.tmps, defers := [] } W)
    (hbody : ∀ (l m : Nat) (pre : List Ent) (x : Ent) (u v : Value) (E : Nat) (W : World), pre.length < N → I pre W → kEnt.rel ok w0 x [u, v] → Two W E u v → ¬ M W E → body.wpIn (Fence.wide.inRound l) m Try.prog (roundEnd c0 M I Ix pre x W) (a₁ u v E) W)
    (hiter : ∀ (l B : Nat) (J Jx : List Ent → World → Prop) (M' : World → Nat → Prop) (W : World) (m : Nat), Yl ok w0 l B N M' J Jx → (∀ b, b < w.heap.size → W.heap[b]? = w.heap[b]?) → w.heap.size ≤ W.heap.size → (∀ b, M' W b → M w b ∨ w.heap.size ≤ b) → J [] W →
      CallsIn Fence.wide m Try.prog gf (#[.func (.yield l) #[] #[]] ++ lb) W fun e W' => (∃ v, e = .returned v) ∧ (J xs W' ∨ ∃ q, q <+: xs ∧ Jx q W'))
    (hdone : ∀ (D : Nat) (W : World), w.heap.size ≤ D → I xs W → W.heap[D]? = some (.deferred (some [])) → Q .normal { a with defers := { target := .collected D, args := #[] } :: a.defers } W)
    (hstop : ∀ (D : Nat) (q : List Ent) (W : World), w.heap.size ≤ D → q <+: xs → Ix q W → W.heap[D]? = some (.deferred (some [])) → c0.wpIn Fence.wide n Try.prog Q { a with defers := { target := .collected D, args := #[] } :: a.defers } W) :
    (Code.rangeFunc g ps assign body).wpIn Fence.wide n Try.prog Q a w := by
  refine wpIn_rangeFunc ?_
  intro fn hfn
  obtain ⟨rc, hrc⟩ : ∃ rc : LoopState → Option Code → Loop, rc = fun st pe => { state := st, pending := pe, fn, tmps := a.tmps, params := ps, assign, body, defers := w.heap.size } := ⟨_, rfl⟩
  obtain ⟨L, hL⟩ : ∃ L, L = w.heap.size + 1 := ⟨_, rfl⟩
  obtain ⟨W1, hW1⟩ : ∃ W1, (w.alloc (.deferred (some []))).alloc (.loop (rc .ready none)) = W1 := ⟨_, rfl⟩
  have hsz : W1.heap.size = w.heap.size + 2 := by rw [← hW1]; simp
  have hL1 : W1.heap[L]? = some (.loop (rc .ready none)) := by
    rw [← hW1, hL]
    have := heap_alloc_new (w.alloc (.deferred (some []))) (.loop (rc .ready none))
    rwa [World.size_alloc] at this
  have hD1 : W1.heap[w.heap.size]? = some (.deferred (some [])) := by
    rw [← hW1]
    exact (Below.heap_alloc _ _ _ (by simp)).trans (heap_alloc_new w _)
  have hold : ∀ b, b < w.heap.size → W1.heap[b]? = w.heap[b]? := fun b hb => by
    rw [← hW1]
    exact (Below.heap_alloc _ _ _ (by simp; omega)).trans (Below.heap_alloc _ _ _ hb)
  have hI1 : I [] W1 := by rw [← hW1]; exact hI.alloc _ (hI.alloc _ h0)
  refine ⟨L, [{ target := .collected w.heap.size, args := #[] }], W1, { target := .fn (.func gf) lb, args := #[.func (.yield L) #[] #[]] }, W1, gf, #[.func (.yield L) #[] #[]] ++ lb, W1, ?_, ?_, fun _ _ => trivial, ?_, (fun h => by cases h), ?_⟩
  · rw [← hW1, hrc, hL]
    exact run_enterLoop_outer _ _ _ _ _
  · simp only [resolve, hg]
    simp [go_sem]
  · simp [invoke, go_sem, eg]
  · have hst : ∀ {W W' : World} {row : Option Nat}, StepFrom W1.heap.size W W' row → StepFrom w.heap.size W W' row := fun h => ⟨h.1, fun r e => ⟨by have := (h.2 r e).1; omega, (h.2 r e).2⟩⟩
    have hkeep : ∀ {W W' : World} {row : Option Nat} {o : Obj} {b : Nat}, StepFrom W1.heap.size W W' row → b < W1.heap.size → W.heap[b]? = some o → W'.heap[b]? = some o := fun h hb e =>
      (h.1.block _ (Array.getElem?_eq_some_iff.1 e).1 (fun e2 => by have := (h.2 _ e2.symm).1; omega)).trans e
    have put : ∀ (W : World) (st : LoopState) (pe : Option Code) {o : Obj}, W.heap[L]? = some o → o.isCells = false → StepFrom w.heap.size W (W.putObj L (.loop (rc st pe))) (some L) := fun W st pe o e ho => ⟨grownBy_putObj' _ _ _, fun r q => by cases q; exact ⟨by omega, o, e, ho⟩⟩
    have hY : Yl ok w0 L W1.heap.size N (fun W b => M W b ∨ b = L)
        (fun pre W => I pre W ∧ W.heap[L]? = some (.loop (rc .ready none)) ∧ W.heap[w.heap.size]? = some (.deferred (some [])))
        (fun pre W => Ix pre W ∧ W.heap[L]? = some (.loop (rc .done (some c0))) ∧ W.heap[w.heap.size]? = some (.deferred (some []))) := by
      refine ⟨?_, ?_, ?_, ?_, ?_, ?_⟩
      · rintro m pre x u v W hN ⟨hi, hl, hk⟩ hr
        obtain ⟨u', v', e9, ⟨x1, z1, e10, -⟩, ⟨x2, z2, e11, -⟩⟩ := id hr
        simp only [List.cons.injEq, and_true] at e9
        obtain ⟨rfl, rfl⟩ := e9
        subst e10 e11
        have hlt : L < W.heap.size := (Array.getElem?_eq_some_iff.1 hl).1
        have hy := run_yield (P := Try.prog) (args := #[.agg #[.slice x1 x.1.length z1, .slice x2 x.2.length z2]]) hl (by rw [hrc]; exact hps.symm)
        rw [hrc] at hy
        refine ⟨fn, _, assign, body, hy, roundIn_of_wpIn trivial (hassign _ _ x1 x.1.length z1 x2 x.2.length z2 W _ ?_)⟩
        clear hy
        -- the entry's variable is laid; the round begins
        have hla : (W.alloc (.cells #[.slice x1 x.1.length z1, .slice x2 x.2.length z2] 62)).heap[L]? = some (.loop (rc .ready none)) := (Below.heap_alloc _ _ _ hlt).trans hl
        have hka : (W.alloc (.cells #[.slice x1 x.1.length z1, .slice x2 x.2.length z2] 62)).heap[w.heap.size]? = some (.deferred (some [])) := (Below.heap_alloc _ _ _ (by omega)).trans hk
        have hia : I pre (W.alloc (.cells #[.slice x1 x.1.length z1, .slice x2 x.2.length z2] 62)) := hI.alloc _ hi
        have hTa := Two.new W (.slice x1 x.1.length z1) (.slice x2 x.2.length z2) 62
        have hka2 : Kpt M W (W.alloc (.cells #[.slice x1 x.1.length z1, .slice x2 x.2.length z2] 62)) := ⟨by simp, fun b hb hm => ⟨Below.heap_alloc _ _ _ hb, fun hm2 => hm (hsame pre _ _ none hi ⟨World.grownBy_alloc W _ none, fun r e => by cases e⟩ b hm2)⟩⟩
        have hEM : ¬ M (W.alloc (.cells #[.slice x1 x.1.length z1, .slice x2 x.2.length z2] 62)) W.heap.size := fun hm2 => by
          have := hsame pre _ _ none hi ⟨World.grownBy_alloc W _ none, fun r e => by cases e⟩ _ hm2
          rcases hkind pre W hi _ this with q | ⟨o, q, _⟩
          · have := (hlow pre W hi).2; omega
          · have := (Array.getElem?_eq_some_iff.1 q).1; omega
        have hEL : W.heap.size ≠ L := by omega
        have hsa : (W.alloc (.cells #[.slice x1 x.1.length z1, .slice x2 x.2.length z2] 62)).heap.size = W.heap.size + 1 := by simp
        generalize W.alloc (.cells #[.slice x1 x.1.length z1, .slice x2 x.2.length z2] 62) = Wa at hla hka hia hTa hka2 hEM hsa ⊢
        refine ⟨_, run_beginRound hla (by rw [hrc]), ?_⟩
        have ebusy : ({ rc .ready none with state := .busy } : Loop) = rc .busy none := by rw [hrc]
        rw [ebusy]
        have hsb := put Wa .busy none hla rfl
        have hlta : L < Wa.heap.size := by omega
        have hlb : (Wa.putObj L (.loop (rc .busy none))).heap[L]? = some (.loop (rc .busy none)) := World.putObj_heap_same hlta
        have hkb : (Wa.putObj L (.loop (rc .busy none))).heap[w.heap.size]? = some (.deferred (some [])) := (World.putObj_heap_other (by omega)).trans hka
        have hib := hI pre _ _ _ hia hsb.1 hsb.2
        have hTb : Two (Wa.putObj L (.loop (rc .busy none))) W.heap.size (.slice x1 x.1.length z1) (.slice x2 x.2.length z2) := by
          have e : (Wa.putObj L (.loop (rc .busy none))).heap[W.heap.size]? = Wa.heap[W.heap.size]? := World.putObj_heap_other hEL
          exact ⟨(World.cell?_of_block (w := Wa) e).trans hTa.c0, (World.cell?_of_block (w := Wa) e).trans hTa.c1, (World.frozen?_of_block (w := Wa) e).trans hTa.f0, (World.frozen?_of_block (w := Wa) e).trans hTa.f1⟩
        have hEMb : ¬ M (Wa.putObj L (.loop (rc .busy none))) W.heap.size := fun hm2 => hEM (hsame pre _ _ _ hia hsb _ hm2)
        have hkpb : ∀ b, b < Wa.heap.size → ¬ (M Wa b ∨ b = L) → (Wa.putObj L (.loop (rc .busy none))).heap[b]? = Wa.heap[b]? ∧ ¬ M (Wa.putObj L (.loop (rc .busy none))) b := fun b hb hm => ⟨World.putObj_heap_other (fun e => hm (.inr e)), fun hm2 => hm (.inl (hsame pre _ _ _ hia hsb b hm2))⟩
        have hszb : (Wa.putObj L (.loop (rc .busy none))).heap.size = Wa.heap.size := World.putObj_size
        have hnl : ∀ b, w.heap.size ≤ b → (∃ o : Obj, (Wa.putObj L (.loop (rc .busy none))).heap[b]? = some o ∧ o.isCells = false) → ¬ M (Wa.putObj L (.loop (rc .busy none))) b := fun b hb ⟨o, ho, hc⟩ hm => by
          rcases hkind pre _ hib b hm with q | ⟨o2, q, hc2⟩
          · omega
          · rw [ho] at q
            cases q
            rw [hc] at hc2
            cases hc2
        refine wpIn_mono (hbody L m pre x _ _ W.heap.size _ hN hib hr hTb hEMb) ?_
        generalize Wa.putObj L (.loop (rc .busy none)) = Wb at hlb hkb hib hTb hEMb hkpb hszb hnl ⊢
        have fin : ∀ (jump : Option Code) (W3 : World), KptX M Wb W3 → W3.heap[L]? = some (.loop (rc .busy none)) ∧ W3.heap[w.heap.size]? = some (.deferred (some [])) ∧ (Instr.endRound L jump).run Try.prog W3 = .ok (.bool jump.isNone) (W3.putObj L (.loop (rc (if jump.isNone then .ready else .done) jump))) := fun jump W3 hk3 => by
          have h1 := (hk3.2 L (by omega) (hnl L (by omega) ⟨_, hlb, rfl⟩)).trans hlb
          have h2 := (hk3.2 w.heap.size (by omega) (hnl _ (Nat.le_refl _) ⟨_, hkb, rfl⟩)).trans hkb
          have h3 := run_endRound (P := Try.prog) jump h1
          refine ⟨h1, h2, ?_⟩
          rw [h3, hrc]
        rintro e a3 W3 hp
        cases e with
        | normal =>
          obtain ⟨hi3, hk3⟩ := hp
          obtain ⟨f1, f2, f3⟩ := fin none W3 ⟨hk3.1, fun b hb hm => (hk3.2 b hb hm).1⟩
          have hs3 := put W3 .ready none f1 rfl
          refine ⟨_, _, f3, .inl ⟨rfl, ⟨hI _ _ _ _ hi3 hs3.1 hs3.2, World.putObj_heap_same (Array.getElem?_eq_some_iff.1 f1).1, (World.putObj_heap_other (by omega)).trans f2⟩, ?_⟩⟩
          refine ⟨by have := hk3.1; rw [World.putObj_size]; omega, fun b hb hm => ?_⟩
          obtain ⟨q1, q2⟩ := hka2.2 b hb (fun h => hm (.inl h))
          obtain ⟨q3, q4⟩ := hkpb b (by omega) (fun h => h.elim q2 (fun e => hm (.inr e)))
          obtain ⟨q5, q6⟩ := hk3.2 b (by omega) q4
          refine ⟨(World.putObj_heap_other (fun e => hm (.inr e))).trans (q5.trans (q3.trans q1)), fun h => ?_⟩
          rcases h with h | h
          · exact q6 (hsame _ _ _ _ hi3 hs3 b h)
          · exact hm (.inr h)
        | ret =>
          obtain ⟨hc, hi3, hk3⟩ := hp
          subst hc
          obtain ⟨f1, f2, f3⟩ := fin (some .ret) W3 hk3
          have hs3 := put W3 .done (some .ret) f1 rfl
          refine ⟨_, _, f3, .inr ⟨rfl, ⟨hIx _ _ _ _ hi3 hs3.1 hs3.2, World.putObj_heap_same (Array.getElem?_eq_some_iff.1 f1).1, (World.putObj_heap_other (by omega)).trans f2⟩, ?_⟩⟩
          refine ⟨by have := hk3.1; rw [World.putObj_size]; omega, fun b hb hm => ?_⟩
          obtain ⟨q1, q2⟩ := hka2.2 b hb (fun h => hm (.inl h))
          obtain ⟨q3, q4⟩ := hkpb b (by omega) (fun h => h.elim q2 (fun e => hm (.inr e)))
          exact (World.putObj_heap_other (fun e => hm (.inr e))).trans ((hk3.2 b (by omega) q4).trans (q3.trans q1))
        | exit id =>
          obtain ⟨hc, hi3, hk3⟩ := hp
          subst hc
          obtain ⟨f1, f2, f3⟩ := fin (some (.exit id)) W3 hk3
          have hs3 := put W3 .done (some (.exit id)) f1 rfl
          refine ⟨_, _, f3, .inr ⟨rfl, ⟨hIx _ _ _ _ hi3 hs3.1 hs3.2, World.putObj_heap_same (Array.getElem?_eq_some_iff.1 f1).1, (World.putObj_heap_other (by omega)).trans f2⟩, ?_⟩⟩
          refine ⟨by have := hk3.1; rw [World.putObj_size]; omega, fun b hb hm => ?_⟩
          obtain ⟨q1, q2⟩ := hka2.2 b hb (fun h => hm (.inl h))
          obtain ⟨q3, q4⟩ := hkpb b (by omega) (fun h => h.elim q2 (fun e => hm (.inr e)))
          exact (World.putObj_heap_other (fun e => hm (.inr e))).trans ((hk3.2 b (by omega) q4).trans (q3.trans q1))
        | goto t => exact hp.elim
        | panic ch => exact hp.elim
        | outgrown => exact hp.elim
      · exact fun s X Y row hs hg' hr => ⟨hI s X Y row hs.1 hg' (hst ⟨hg', hr⟩).2, hkeep ⟨hg', hr⟩ (by omega) hs.2.1, hkeep ⟨hg', hr⟩ (by omega) hs.2.2⟩
      · exact fun s X Y row hs hg' hr => ⟨hIx s X Y row hs.1 hg' (hst ⟨hg', hr⟩).2, hkeep ⟨hg', hr⟩ (by omega) hs.2.1, hkeep ⟨hg', hr⟩ (by omega) hs.2.2⟩
      · rintro pre W ⟨hi, hl, _⟩
        exact ⟨(hlow pre W hi).1, by have := (Array.getElem?_eq_some_iff.1 hl).1; omega⟩
      · rintro pre W ⟨hi, _, _⟩ b (hm | rfl)
        · rcases hkind pre W hi b hm with q | q
          · exact .inl (by omega)
          · exact .inr q
        · exact .inl (by omega)
      · rintro pre W W' row ⟨hi, _, _⟩ hs b (hm | rfl)
        · exact .inl (hsame pre W W' row hi (hst hs) b hm)
        · exact .inr rfl
    refine (hiter L W1.heap.size _ _ _ W1 _ hY hold (by omega) (fun b hb => ?_) ⟨hI1, hL1, hD1⟩).mono ?_
    · rcases hb with hb | rfl
      · left
        refine hsame [] w _ none h0 ⟨?_, fun r e => by cases e⟩ b (hsame [] _ _ none (hI.alloc _ h0) ⟨World.grownBy_alloc _ _ none, fun r e => by cases e⟩ b (hW1 ▸ hb))
        exact World.grownBy_alloc w _ none
      · exact .inr (by omega)
    · rintro e W2 ⟨⟨v, rfl⟩, (⟨hi, hl, hk⟩ | ⟨q, hq, hi, hl, hk⟩)⟩
      · have hs := put W2 .exhausted none hl rfl
        refine ⟨none, W2.putObj L (.loop (rc .exhausted none)), ?_, ?_⟩
        · have := run_endLoop (P := Try.prog) hl (by rw [hrc]; simp)
          rw [this, hrc]
        · exact hdone _ _ (Nat.le_refl _) (hI _ _ _ _ hi hs.1 hs.2) ((World.putObj_heap_other (by omega)).trans hk)
      · have hs := put W2 .exhausted (some c0) hl rfl
        refine ⟨some c0, W2.putObj L (.loop (rc .exhausted (some c0))), ?_, ?_⟩
        · have := run_endLoop (P := Try.prog) hl (by rw [hrc]; simp)
          rw [this, hrc]
        · exact hstop _ q _ (Nat.le_refl _) hq (hIx _ _ _ _ hi hs.1 hs.2) ((World.putObj_heap_other (by omega)).trans hk)

end Go.Proofs.Ytcegkgobkpakiaa
