/- The reference's Decode: what its reading comes to, and its variables in memory. -/
import Derived.Test.YtjilcljchdmbjaaRfCut
import Derived.Test.YtjilcljchdmbjaaItDec
namespace Go.Proofs.Ytjilcljchdmbjaa
open Go.ChangeShapes Go.WideShapes Go.ChangeAt Go.RowKit

/-- a write, whatever byte tells Gone -/
def cutWtL (b : List Int) : Option (Wt × List Int) := match cutT b with
  | some (k, r) => match r with
    | [] => none
    | y :: r => match cutT r with
      | some (v, r) => some (⟨k, v, decide (y = 1)⟩, r)
      | none => none
  | none => none

theorem cutWtL_of {b r : List Int} {x : Wt} (h : cutWt b = some (x, r)) : cutWtL b = some (x, r) := by
  unfold cutWt at h
  cases h1 : cutT b with
  | none => rw [h1] at h; cases h
  | some p =>
    obtain ⟨k, r1⟩ := p
    rw [h1] at h
    cases h2 : cutB r1 with
    | none => simp only [h2] at h; cases h
    | some p =>
      obtain ⟨g, r2⟩ := p
      have e2 := cutB_inv h2
      subst e2
      cases h3 : cutT r2 with
      | none => simp only [h2, h3] at h; cases h
      | some p =>
        obtain ⟨v, r3⟩ := p
        simp only [h2, h3, Option.some.injEq, Prod.mk.injEq] at h
        obtain ⟨rfl, rfl⟩ := h
        simp only [cutWtL, h1, h3]
        cases g <;> rfl

theorem cutWtL_len : ∀ (b : List Int) (x : Wt) (r : List Int), cutWtL b = some (x, r) → r.length < b.length := by
  intro b x r h
  unfold cutWtL at h
  cases h1 : cutT b with
  | none => rw [h1] at h; cases h
  | some p =>
    obtain ⟨k, r1⟩ := p
    rw [h1] at h
    cases r1 with
    | nil => cases h
    | cons y r2 =>
      simp only at h
      cases h3 : cutT r2 with
      | none => simp only [h3] at h; cases h
      | some p =>
        obtain ⟨v, r3⟩ := p
        simp only [h3, Option.some.injEq, Prod.mk.injEq] at h
        have h5 := cutT_len h1
        have h6 := cutT_len h3
        rw [List.length_cons] at h5
        rw [← h.2]
        omega

theorem cutN_mono {α : Type} {f g : List Int → Option (α × List Int)} (hfg : ∀ b x r, f b = some (x, r) → g b = some (x, r)) : ∀ {k : Nat} {b r : List Int} {l : List α}, cutN f k b = some (l, r) → cutN g k b = some (l, r)
  | 0, _, _, _, h => h
  | k + 1, b, r, l, h => by
    unfold cutN at h
    cases h1 : f b with
    | none => rw [h1] at h; cases h
    | some p =>
      obtain ⟨y, r1⟩ := p
      rw [h1] at h
      cases h2 : cutN f k r1 with
      | none => simp only [h2] at h; cases h
      | some p =>
        obtain ⟨l2, r2⟩ := p
        simp only [h2, Option.some.injEq, Prod.mk.injEq] at h
        obtain ⟨rfl, rfl⟩ := h
        simp only [cutN, hfg _ _ _ h1, cutN_mono hfg h2]

/-- what is read of an intent's bytes, one behind the other -/
structure ChainL (xs : List Int) (c n s : Int) (rs : List Ent) (ws : List Wt) (st : Option (List Int)) : Prop where
  ex : ∃ s1 s2 s3 s4, NumIs (some xs) c s1 ∧ NumIs s1 n s2 ∧ NumIs s2 s s3 ∧ ManyIs cutRd s3 rs s4 ∧ ManyIs cutWtL s4 ws st

theorem ChainL.same {x : Itt} {c n s : Int} {rs : List Ent} {ws : List Wt} {st : Option (List Int)} (hx : MayI x) (h : ChainL (encI x) c n s rs ws st) : st = some [] ∧ x = ⟨c, n, s, rs, ws⟩ := by
  obtain ⟨s1, s2, s3, s4, h1, h2, h3, h4, h5⟩ := h.ex
  obtain ⟨r1, r2, r3, r4, r5, a1, a2, a3, a4, a5, a6, a7⟩ := encI_cut hx
  replace a7 := cutN_mono (fun _ _ _ => cutWtL_of) a7
  have n1 : ∀ {b r : List Int} {q : Nat} {v : Int} {st' : Option (List Int)}, NumIs (some b) v st' → cut4 b = some (q, r) → st' = some r ∧ v = q := by
    intro b r q v st' h e
    rcases h with ⟨m, r', e', e2, rfl⟩ | ⟨e', _, _⟩
    · have e'' : cut4 b = some (m, r') := e'
      rw [e] at e''
      cases e''
      exact ⟨rfl, e2⟩
    · have e'' : cut4 b = none := e'
      rw [e] at e''
      cases e''
  have n2 : ∀ {α : Type} {f : List Int → Option (α × List Int)} {b r r' : List Int} {q : Nat} {l l' : List α} {st' : Option (List Int)}, ManyIs f (some b) l st' → cut4 b = some (q, r) → cutN f q r = some (l', r') → st' = some r' ∧ l = l' := by
    intro α f b r r' q l l' st' h e e2
    rcases h with ⟨m, b', r'', e', e3, rfl⟩ | ⟨e', _⟩
    · have e'' : cut4 b = some (m, b') := e'
      rw [e] at e''
      cases e''
      rw [e2] at e3
      cases e3
      exact ⟨rfl, rfl⟩
    · rw [e' q r e] at e2
      cases e2
  obtain ⟨rfl, q1⟩ := n1 h1 a1
  obtain ⟨rfl, q2⟩ := n1 h2 a2
  obtain ⟨rfl, q3⟩ := n1 h3 a3
  obtain ⟨rfl, q4⟩ := n2 h4 a4 a5
  obtain ⟨q6, q5⟩ := n2 h5 a6 a7
  refine ⟨q6, ?_⟩
  have m1 := hx.client
  have m2 := hx.number
  have m3 := hx.base
  cases x
  simp only at q1 q2 q3 q4 q5 m1 m2 m3
  subst q4 q5
  congr 1 <;> omega

/-- where reading does not end at the end, the bytes are none's -/
theorem ChainL.none {xs : List Int} {c n s : Int} {rs : List Ent} {ws : List Wt} {st : Option (List Int)} (h : ChainL xs c n s rs ws st) (hst : st ≠ some []) : ∀ y, ¬ DecIs xs y := fun y hy => by
  rw [← hy.2.1] at h
  exact hst (h.same hy.1).1

theorem encI_long (x : Itt) : 20 ≤ (encI x).length := by
  simp only [encI, List.length_append, le4_length]
  omega

/-- the variables: the result's, the intent's -/
structure RJ (w : World) (X : Nat) (vs : List Value) (W : World) : Prop where
  ord : w.heap.size < X ∧ X < W.heap.size
  below : Below w.heap.size w W
  res : Cls W w.heap.size [.int .i64 0, .int .i64 0, .int .i64 0, .slice none 0 0, .slice none 0 0]
  var : Cls W X vs

theorem RJ.later {w W W' : World} {X : Nat} {vs : List Value} (h : RJ w X vs W) (hb : Below W.heap.size W W') : RJ w X vs W' :=
  ⟨⟨h.ord.1, Nat.lt_of_lt_of_le h.ord.2 hb.size⟩, h.below.trans (hb.mono h.below.size), h.res.later hb, h.var.later hb⟩

/-- from some block behind the variables on, whatever -/
theorem RJ.from {w W W' : World} {X N : Nat} {vs : List Value} (h : RJ w X vs W) (hN : X < N) (hb : Below N W W') : RJ w X vs W' := by
  have ho := h.ord
  exact ⟨⟨h.ord.1, Nat.lt_of_lt_of_le h.ord.2 hb.size⟩, h.below.trans (hb.mono (by omega)), h.res.block (fun _ => hb.block _ (by omega)), h.var.block (fun _ => hb.block _ hN)⟩

theorem RJ.own {w W W' : World} {X : Nat} {o : Option Nat} {vs : List Value} (h : RJ w X vs W) (hg : W.grownBy W' o) (hn : ∀ g, o = some g → X < g) : RJ w X vs W' := by
  have ho := h.ord
  refine ⟨⟨h.ord.1, Nat.lt_of_lt_of_le h.ord.2 hg.size⟩, ⟨hg.os.trans h.below.os, hg.tape.trans h.below.tape, hg.output.trans h.below.output, Nat.le_trans h.below.size hg.size, fun b hb => (hg.block b (by omega) (fun e => by have := hn b e.symm; omega)).trans (h.below.block b hb)⟩, h.res.block (fun hb => hg.block _ hb (fun e => by have := hn _ e.symm; omega)), h.var.block (fun hb => hg.block _ hb (fun e => by have := hn _ e.symm; omega))⟩

theorem RJ.store {w W : World} {X : Nat} {vs : List Value} (h : RJ w X vs W) {k : Nat} (u : Value) : RJ w X (vs.set k u) (W.setCell ⟨X, k, none⟩ u) := by
  have ho := h.ord
  have hg : W.grownBy (W.setCell ⟨X, k, none⟩ u) (some X) := grown_set u
  exact ⟨⟨h.ord.1, by simpa using h.ord.2⟩, h.below.setCell (by show w.heap.size ≤ X; omega) u, h.res.grown hg (by omega), h.var.set u⟩

/-- the intent's variable, made or not yet -/
structure BJ (w W0 : World) (B : Option Nat) (V : World) : Prop where
  below : Below W0.heap.size W0 V
  old : w.heap.size < W0.heap.size
  from0 : Below w.heap.size w W0
  res : Cls W0 w.heap.size [.int .i64 0, .int .i64 0, .int .i64 0, .slice none 0 0, .slice none 0 0]
  var : ∀ X, B = some X → Cls V X [.int .i64 0, .int .i64 0, .int .i64 0, .slice none 0 0, .slice none 0 0] ∧ W0.heap.size ≤ X ∧ X < V.heap.size

theorem BJ.later {w W0 V V' : World} {B : Option Nat} (h : BJ w W0 B V) (hb : Below V.heap.size V V') : BJ w W0 B V' :=
  ⟨h.below.trans (hb.mono h.below.size), h.old, h.from0, h.res, fun X e => ⟨(h.var X e).1.later hb, (h.var X e).2.1, Nat.lt_of_lt_of_le (h.var X e).2.2 hb.size⟩⟩

theorem BJ.made {w W0 V : World} (h : BJ w W0 none V) (ty : TypeId) : BJ w W0 (some V.heap.size) (V.alloc (.cells #[.int .i64 0, .int .i64 0, .int .i64 0, .slice none 0 0, .slice none 0 0] ty)) := by
  have hb := (Below.refl V.heap.size V).alloc (Nat.le_refl _) (.cells #[.int .i64 0, .int .i64 0, .int .i64 0, .slice none 0 0, .slice none 0 0] ty)
  refine ⟨h.below.trans (hb.mono h.below.size), h.old, h.from0, h.res, fun X e => ?_⟩
  cases e
  exact ⟨Cls.new V [.int .i64 0, .int .i64 0, .int .i64 0, .slice none 0 0, .slice none 0 0] ty, h.below.size, by simp⟩

theorem BJ.set {w W0 V : World} {X : Nat} (h : BJ w W0 (some X) V) (c n s : Int) : RJ w X [.int .i64 c, .int .i64 n, .int .i64 s, .slice none 0 0, .slice none 0 0] (((((V.setCell ⟨X, 0, none⟩ (.int .i64 c)).setCell ⟨X, 1, none⟩ (.int .i64 n)).setCell ⟨X, 2, none⟩ (.int .i64 s)).setCell ⟨X, 3, none⟩ (.slice none 0 0)).setCell ⟨X, 4, none⟩ (.slice none 0 0)) := by
  obtain ⟨h1, h2, h3⟩ := h.var X rfl
  have h0 := h.old
  obtain ⟨g1, g2, -⟩ := five_set (N := W0.heap.size) h1 rfl h2 (.int .i64 c) (.int .i64 n) (.int .i64 s) (.slice none 0 0) (.slice none 0 0)
  have g3 := h.below.trans g2
  exact ⟨⟨by omega, by simpa using h3⟩, h.from0.trans (g3.mono h.from0.size), h.res.later g3, g1⟩

theorem BJ.new {w W0 V : World} (h : BJ w W0 none V) (c n s : Int) (ty : TypeId) : RJ w V.heap.size [.int .i64 c, .int .i64 n, .int .i64 s, .slice none 0 0, .slice none 0 0] (V.alloc (.cells #[.int .i64 c, .int .i64 n, .int .i64 s, .slice none 0 0, .slice none 0 0] ty)) := by
  have hb := (Below.refl V.heap.size V).alloc (Nat.le_refl _) (.cells #[.int .i64 c, .int .i64 n, .int .i64 s, .slice none 0 0, .slice none 0 0] ty)
  have h0 := h.old
  have h1 := h.below.size
  have g3 := h.below.trans (hb.mono h.below.size)
  exact ⟨⟨by omega, by simp⟩, h.from0.trans (g3.mono h.from0.size), h.res.later g3, Cls.new V [.int .i64 c, .int .i64 n, .int .i64 s, .slice none 0 0, .slice none 0 0] ty⟩

end Go.Proofs.Ytjilcljchdmbjaa
