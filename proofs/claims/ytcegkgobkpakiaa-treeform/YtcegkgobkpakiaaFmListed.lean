/- A node in the midst of being told: what lies where. -/
import Derived.Test.YtcegkgobkpakiaaFmCells
import Derived.Test.YtcegkgobkpakiaaKpMore
namespace Go.Proofs.Ytcegkgobkpakiaa
open Go.ChangeShapes Go.WideShapes Go.ChangeAt Go.RowKit

/-- a variable of three cells -/
structure Three (W : World) (B : Nat) (p q r : Value) : Prop where
  c0 : W.cell? ⟨B, 0, none⟩ = some p
  c1 : W.cell? ⟨B, 1, none⟩ = some q
  c2 : W.cell? ⟨B, 2, none⟩ = some r
  f0 : W.frozen? ⟨B, 0, none⟩ = false
  f1 : W.frozen? ⟨B, 1, none⟩ = false
  f2 : W.frozen? ⟨B, 2, none⟩ = false

theorem Three.move {W W' : World} {B : Nat} {p q r : Value} (h : Three W B p q r) (e : W'.heap[B]? = W.heap[B]?) : Three W' B p q r :=
  ⟨(World.cell?_of_block (w := W) e).trans h.c0, (World.cell?_of_block (w := W) e).trans h.c1, (World.cell?_of_block (w := W) e).trans h.c2,
   (World.frozen?_of_block (w := W) e).trans h.f0, (World.frozen?_of_block (w := W) e).trans h.f1, (World.frozen?_of_block (w := W) e).trans h.f2⟩

theorem Three.new (W : World) (p q r : Value) (ty : TypeId) : Three (W.alloc (.cells #[p, q, r] ty)) W.heap.size p q r := ⟨by simp, by simp, by simp, by simp, by simp, by simp⟩

theorem Three.lt {W : World} {B : Nat} {p q r : Value} (h : Three W B p q r) : B < W.heap.size := World.block_lt_of_cell? _ _ h.c0

theorem Three.later {W W' : World} {B : Nat} {p q r : Value} (h : Three W B p q r) (hb : Below W.heap.size W W') : Three W' B p q r := h.move (hb.block B h.lt)

theorem set_other {W : World} {B i j : Nat} {u : Value} (h : i ≠ j) : (W.setCell ⟨B, i, none⟩ u).cell? ⟨B, j, none⟩ = W.cell? ⟨B, j, none⟩ := World.cell?_setCell_other _ _ _ _ (by intro q; cases q; exact h rfl)

theorem Three.put0 {W : World} {B : Nat} {p q r : Value} (h : Three W B p q r) (u : Value) : Three (W.setCell ⟨B, 0, none⟩ u) B u q r := by
  refine ⟨World.cell?_setCell_same' _ _ _ (by rw [h.c0]; rfl), (set_other (by decide)).trans h.c1, (set_other (by decide)).trans h.c2, ?_, ?_, ?_⟩
  all_goals simp only [World.frozen?_setCell]
  · exact h.f0
  · exact h.f1
  · exact h.f2

theorem Three.put1 {W : World} {B : Nat} {p q r : Value} (h : Three W B p q r) (u : Value) : Three (W.setCell ⟨B, 1, none⟩ u) B p u r := by
  refine ⟨(set_other (by decide)).trans h.c0, World.cell?_setCell_same' _ _ _ (by rw [h.c1]; rfl), (set_other (by decide)).trans h.c2, ?_, ?_, ?_⟩
  all_goals simp only [World.frozen?_setCell]
  · exact h.f0
  · exact h.f1
  · exact h.f2

theorem Three.put2 {W : World} {B : Nat} {p q r : Value} (h : Three W B p q r) (u : Value) : Three (W.setCell ⟨B, 2, none⟩ u) B p q u := by
  refine ⟨(set_other (by decide)).trans h.c0, (set_other (by decide)).trans h.c1, World.cell?_setCell_same' _ _ _ (by rw [h.c2]; rfl), ?_, ?_, ?_⟩
  all_goals simp only [World.frozen?_setCell]
  · exact h.f0
  · exact h.f1
  · exact h.f2

/-- its entries so far -/
structure EntI (wr : World) (u : Value) (es : List Ent) (W : World) : Prop where
  base : Below wr.heap.size wr W
  var : Three W wr.heap.size u (.slice none 0 0) (.slice none 0 0)
  rows : Rows kEnt (fun b => wr.heap.size + 1 ≤ b) W (wr.heap.size + 1) 62 u es

theorem entI_new (wr : World) (ty : TypeId) : EntI wr (.slice none 0 0) [] (wr.alloc (.cells #[.slice none 0 0, .slice none 0 0, .slice none 0 0] ty)) :=
  ⟨(Below.refl _ wr).alloc (Nat.le_refl _) _, Three.new _ _ _ _ _, Rows.nil _ _ _ _ _⟩

theorem EntI.later {wr W W' : World} {u : Value} {es : List Ent} (h : EntI wr u es W) (hb : Below W.heap.size W W') : EntI wr u es W' :=
  ⟨h.base.trans (hb.mono h.base.size), h.var.later hb, h.rows.later hb⟩

theorem EntI.more {wr W w5 : World} {u u' : Value} {es es' : List Ent} (h : EntI wr u es W) (q1 : Rows kEnt (fun b => wr.heap.size + 1 ≤ b) w5 (wr.heap.size + 1) 62 u' es') (q2 : W.grownBy w5 u.ownBlock) :
    Three w5 wr.heap.size u (.slice none 0 0) (.slice none 0 0) ∧ EntI wr u' es' (w5.setCell ⟨wr.heap.size, 0, none⟩ u') := by
  have hu := rows_lt h.rows
  have e0 : w5.heap[wr.heap.size]? = W.heap[wr.heap.size]? := q2.block _ h.var.lt (fun e => by have := (hu _ e.symm).1; omega)
  have hv := h.var.move e0
  have hb := below_grown h.base h.base.size q2 (fun r e => by have := (hu r e).1; omega)
  refine ⟨hv, hb.setCell (p := ⟨wr.heap.size, 0, none⟩) (Nat.le_refl _) _, hv.put0 u', ?_⟩
  exact q1.move ⟨by simp, fun b _ ho => heap_setCell_other _ _ _ _ (by show b ≠ wr.heap.size; omega)⟩ (fun g hg => heap_setCell_other _ _ _ _ (by have := (rows_lt q1 g hg).1; show g ≠ wr.heap.size; omega))

theorem nums_move {ok ok' : Nat → Prop} {W W' : World} {base : Nat} {E : TypeId} {v : Value} {l : List Int} (h : Rows kInt ok W base E v l) (hv : ∀ g, v.ownBlock = some g → W'.heap[g]? = W.heap[g]?) : Rows kInt ok' W' base E v l := by
  obtain ⟨css, h1, h2⟩ := h
  exact ⟨css, own_kept h1 hv, h2⟩

/-- what the queue hangs on is neither what is told nor what is being told -/
def NOk (M : Nat) (lv kv iv : Value) (b : Nat) : Prop := b ≠ M ∧ kv.ownBlock ≠ some b ∧ iv.ownBlock ≠ some b ∧ lv.ownBlock ≠ some b

/-- its kids so far, and the queue behind them -/
structure KidI (w W1 : World) (M : Nat) (lv nv0 ev : Value) (q : List Nd) (ks : List (List Int)) (js : List Int) (nv kv iv : Value) (W : World) : Prop where
  below : Below w.heap.size w W
  kept : Kept (fun b => b ≠ M ∧ nv0.ownBlock ≠ some b) W1 W
  var : Three W M ev kv iv
  nodes : Rows kAny (NOk M lv kv iv) W w.heap.size 53 nv q
  keys : Rows kOct (fun b => W1.heap.size ≤ b ∧ iv.ownBlock ≠ some b ∧ nv.ownBlock ≠ some b) W W1.heap.size 40 kv ks
  nums : Rows kInt (fun b => W1.heap.size ≤ b) W W1.heap.size 3 iv js
  nvo : ∀ g, nv.ownBlock = some g → nv0.ownBlock = some g ∨ W1.heap.size ≤ g
  ki : ∀ g, kv.ownBlock = some g → iv.ownBlock ≠ some g
  nk : ∀ g, nv.ownBlock = some g → kv.ownBlock ≠ some g ∧ iv.ownBlock ≠ some g
  hM : w.heap.size ≤ M
  hM1 : M < W1.heap.size
  hn : ∀ g, nv0.ownBlock = some g → g < M
  hl : ∀ g, lv.ownBlock = some g → g < M

section
variable {w W1 W W' w5 : World} {M : Nat} {lv nv0 ev nv kv iv nv' kv' iv' : Value} {q q' : List Nd} {ks ks' : List (List Int)} {js js' : List Int}

theorem KidI.later (h : KidI w W1 M lv nv0 ev q ks js nv kv iv W) (hb : Below W.heap.size W W') : KidI w W1 M lv nv0 ev q ks js nv kv iv W' :=
  ⟨h.below.trans (hb.mono h.below.size), h.kept.trans (Kept.of_below hb), h.var.later hb, h.nodes.later hb, h.keys.later hb, h.nums.later hb, h.nvo, h.ki, h.nk, h.hM, h.hM1, h.hn, h.hl⟩

theorem KidI.nv_ne (h : KidI w W1 M lv nv0 ev q ks js nv kv iv W) : nv.ownBlock ≠ some M := fun e => by
  have h1 := h.hM1
  rcases h.nvo M e with e' | e'
  · have := h.hn M e'; omega
  · omega

/-- whatever is new will do for the queue -/
theorem KidI.fresh (h : KidI w W1 M lv nv0 ev q ks js nv kv iv W) : Fresh (NOk M lv kv iv) W := fun b hb => by
  have := h.var.lt
  have := h.hM1
  refine ⟨by omega, fun e => ?_, fun e => ?_, fun e => ?_⟩
  · have := (rows_lt h.keys b e).2; omega
  · have := (rows_lt h.nums b e).2; omega
  · have := h.hl b e; omega

theorem KidI.key (h : KidI w W1 M lv nv0 ev q ks js nv kv iv W) (q1 : Rows kOct (fun b => W1.heap.size ≤ b ∧ iv.ownBlock ≠ some b ∧ nv.ownBlock ≠ some b) w5 W1.heap.size 40 kv' ks') (q2 : W.grownBy w5 kv.ownBlock) (q3 : kv'.ownBlock = kv.ownBlock ∨ kv'.ownBlock = some (W.heap.size + 1)) :
    Three w5 M ev kv iv ∧ KidI w W1 M lv nv0 ev q ks' js nv kv' iv (w5.setCell ⟨M, 1, none⟩ kv') := by
  have hu := rows_lt h.keys
  have hM := h.hM
  have hM1 := h.hM1
  have hs := h.kept.1
  have e5 : ∀ b, b < W.heap.size → kv.ownBlock ≠ some b → w5.heap[b]? = W.heap[b]? := fun b hb hne => q2.block b hb (fun e => hne e.symm)
  have e9 : ∀ b, b < W.heap.size → kv.ownBlock ≠ some b → b ≠ M → (w5.setCell ⟨M, 1, none⟩ kv').heap[b]? = W.heap[b]? := fun b hb hne hm => (heap_setCell_other _ _ _ _ hm).trans (e5 b hb hne)
  have hv := h.var.move (e5 M h.var.lt (fun e => by have := (hu _ e).1; omega))
  have hb := below_grown h.below h.below.size q2 (fun r e => by have := (hu r e).1; omega)
  have hsz : W.heap.size ≤ (w5.setCell ⟨M, 1, none⟩ kv').heap.size := by simp; exact q2.size
  refine ⟨hv, hb.setCell (p := ⟨M, 1, none⟩) hM _, ⟨Nat.le_trans hs hsz, fun b hb ho => (e9 b (by omega) (fun e => by have := (hu _ e).1; omega) ho.1).trans (h.kept.2 b hb ho)⟩, hv.put1 kv', ?_, ?_, ?_, h.nvo, ?_, ?_, hM, hM1, h.hn, h.hl⟩
  · refine ((h.nodes.turned (ok2 := fun b => NOk M lv kv iv b ∧ b < W.heap.size) (fun b hb ho => ⟨ho, hb⟩)).move ⟨hsz, fun b hb ho => e9 b hb ho.1.2.1 ho.1.1⟩ (fun g hg => e9 g (rows_lt h.nodes g hg).2 (h.nk g hg).1 (fun e => h.nv_ne (e ▸ hg)))).turned (fun b _ ho => ⟨ho.1.1, fun e => ?_, ho.1.2.2⟩)
    rcases q3 with e' | e'
    · exact ho.1.2.1 (e' ▸ e)
    · rw [e'] at e
      have := Option.some.inj e
      have := ho.2
      omega
  · exact q1.move ⟨by simp, fun b _ ho => heap_setCell_other _ _ _ _ (by show b ≠ M; have := ho.1; omega)⟩ (fun g hg => heap_setCell_other _ _ _ _ (by have := (rows_lt q1 g hg).1; show g ≠ M; omega))
  · exact nums_move h.nums (fun g hg => e9 g (rows_lt h.nums g hg).2 (fun e => h.ki g e hg) (by have := (rows_lt h.nums g hg).1; omega))
  · intro g hg hi
    rcases q3 with e | e
    · exact h.ki g (e ▸ hg) hi
    · rw [e] at hg
      have := (rows_lt h.nums g hi).2
      have := Option.some.inj hg
      omega
  · intro g hg
    refine ⟨fun hk => ?_, (h.nk g hg).2⟩
    rcases q3 with e | e
    · exact (h.nk g hg).1 (e ▸ hk)
    · rw [e] at hk
      have := (rows_lt h.nodes g hg).2
      have := Option.some.inj hk
      omega

theorem KidI.num (h : KidI w W1 M lv nv0 ev q ks js nv kv iv W) (q1 : Rows kInt (fun b => W1.heap.size ≤ b) w5 W1.heap.size 3 iv' js') (q2 : W.grownBy w5 iv.ownBlock) (q3 : iv'.ownBlock = iv.ownBlock ∨ iv'.ownBlock = some (W.heap.size + 1)) :
    Three w5 M ev kv iv ∧ KidI w W1 M lv nv0 ev q ks js' nv kv iv' (w5.setCell ⟨M, 2, none⟩ iv') := by
  have hu := rows_lt h.nums
  have hM := h.hM
  have hM1 := h.hM1
  have hs := h.kept.1
  have e5 : ∀ b, b < W.heap.size → iv.ownBlock ≠ some b → w5.heap[b]? = W.heap[b]? := fun b hb hne => q2.block b hb (fun e => hne e.symm)
  have e9 : ∀ b, b < W.heap.size → iv.ownBlock ≠ some b → b ≠ M → (w5.setCell ⟨M, 2, none⟩ iv').heap[b]? = W.heap[b]? := fun b hb hne hm => (heap_setCell_other _ _ _ _ hm).trans (e5 b hb hne)
  have hv := h.var.move (e5 M h.var.lt (fun e => by have := (hu _ e).1; omega))
  have hb := below_grown h.below h.below.size q2 (fun r e => by have := (hu r e).1; omega)
  have hsz : W.heap.size ≤ (w5.setCell ⟨M, 2, none⟩ iv').heap.size := by simp; exact q2.size
  refine ⟨hv, hb.setCell (p := ⟨M, 2, none⟩) hM _, ⟨Nat.le_trans hs hsz, fun b hb ho => (e9 b (by omega) (fun e => by have := (hu _ e).1; omega) ho.1).trans (h.kept.2 b hb ho)⟩, hv.put2 iv', ?_, ?_, ?_, h.nvo, ?_, ?_, hM, hM1, h.hn, h.hl⟩
  · refine ((h.nodes.turned (ok2 := fun b => NOk M lv kv iv b ∧ b < W.heap.size) (fun b hb ho => ⟨ho, hb⟩)).move ⟨hsz, fun b hb ho => e9 b hb ho.1.2.2.1 ho.1.1⟩ (fun g hg => e9 g (rows_lt h.nodes g hg).2 (h.nk g hg).2 (fun e => h.nv_ne (e ▸ hg)))).turned (fun b _ ho => ⟨ho.1.1, ho.1.2.1, fun e => ?_, ho.1.2.2.2⟩)
    rcases q3 with e' | e'
    · exact ho.1.2.2.1 (e' ▸ e)
    · rw [e'] at e
      have := Option.some.inj e
      have := ho.2
      omega
  · refine ((h.keys.turned (ok2 := fun b => W1.heap.size ≤ b ∧ iv.ownBlock ≠ some b ∧ nv.ownBlock ≠ some b ∧ b < W.heap.size) (fun b hb ho => ⟨ho.1, ho.2.1, ho.2.2, hb⟩)).move ⟨hsz, fun b hb ho => e9 b hb ho.2.1 (by have := ho.1; omega)⟩ (fun g hg => e9 g (rows_lt h.keys g hg).2 (h.ki g hg) (by have := (rows_lt h.keys g hg).1; omega))).turned (fun b _ ho => ⟨ho.1, fun e => ?_, ho.2.2.1⟩)
    rcases q3 with e' | e'
    · exact ho.2.1 (e' ▸ e)
    · rw [e'] at e
      have := Option.some.inj e
      have := ho.2.2.2
      omega
  · exact nums_move q1 (fun g hg => heap_setCell_other _ _ _ _ (by have := (rows_lt q1 g hg).1; show g ≠ M; omega))
  · intro g hg hi
    rcases q3 with e | e
    · exact h.ki g hg (e ▸ hi)
    · rw [e] at hi
      have := (rows_lt h.keys g hg).2
      have := Option.some.inj hi
      omega
  · intro g hg
    refine ⟨(h.nk g hg).1, fun hk => ?_⟩
    rcases q3 with e | e
    · exact (h.nk g hg).2 (e ▸ hk)
    · rw [e] at hk
      have := (rows_lt h.nodes g hg).2
      have := Option.some.inj hk
      omega

theorem KidI.node (h : KidI w W1 M lv nv0 ev q ks js nv kv iv W) (q4 : Rows kAny (NOk M lv kv iv) w5 w.heap.size 53 nv' q') (q2 : W.grownBy w5 nv.ownBlock) (q3 : nv'.ownBlock = nv.ownBlock ∨ nv'.ownBlock = some (W.heap.size + 1)) :
    KidI w W1 M lv nv0 ev q' ks js nv' kv iv w5 := by
  have hu := rows_lt h.nodes
  have hM := h.hM
  have hM1 := h.hM1
  have hs := h.kept.1
  have hsz := q2.size
  have e5 : ∀ b, b < W.heap.size → nv.ownBlock ≠ some b → w5.heap[b]? = W.heap[b]? := fun b hb hne => q2.block b hb (fun e => hne e.symm)
  have hb := below_grown h.below h.below.size q2 (fun r e => (hu r e).1)
  refine ⟨hb, ⟨Nat.le_trans hs hsz, fun b hb ho => (e5 b (by omega) (fun e => ?_)).trans (h.kept.2 b hb ho)⟩, h.var.move (e5 M h.var.lt h.nv_ne), q4, ?_, ?_, ?_, h.ki, ?_, hM, hM1, h.hn, h.hl⟩
  · rcases h.nvo b e with e' | e'
    · exact ho.2 e'
    · omega
  · refine ((h.keys.turned (ok2 := fun b => W1.heap.size ≤ b ∧ iv.ownBlock ≠ some b ∧ nv.ownBlock ≠ some b ∧ b < W.heap.size) (fun b hb ho => ⟨ho.1, ho.2.1, ho.2.2, hb⟩)).move ⟨hsz, fun b hb ho => e5 b hb ho.2.2.1⟩ (fun g hg => e5 g (rows_lt h.keys g hg).2 (fun e => (h.nk g e).1 hg))).turned (fun b _ ho => ⟨ho.1, ho.2.1, fun e => ?_⟩)
    rcases q3 with e' | e'
    · exact ho.2.2.1 (e' ▸ e)
    · rw [e'] at e
      have := Option.some.inj e
      have := ho.2.2.2
      omega
  · exact nums_move h.nums (fun g hg => e5 g (rows_lt h.nums g hg).2 (fun e => (h.nk g e).2 hg))
  · intro g hg
    rcases q3 with e | e
    · exact h.nvo g (e ▸ hg)
    · rw [e] at hg
      have := Option.some.inj hg
      exact .inr (by omega)
  · intro g hg
    rcases q3 with e | e
    · exact h.nk g (e ▸ hg)
    · rw [e] at hg
      have := Option.some.inj hg
      refine ⟨fun hk => ?_, fun hk => ?_⟩
      · have := (rows_lt h.keys g hk).2
        omega
      · have := (rows_lt h.nums g hk).2
        omega

end

end Go.Proofs.Ytcegkgobkpakiaa

/- The queue when all is told: which node is whose kid. -/
namespace Go.Proofs.Ytcegkgobkpakiaa
open Go.ChangeShapes Go.WideShapes Go.ChangeAt Go.RowKit

/-- a queue in which each node's kids stand behind each other, from a number on -/
structure Bfs (F : List Nd) (s : Nat → Nat) : Prop where
  step : ∀ i (h : i < F.length), s (i + 1) = s i + (kidsOf F[i]).length
  kid : ∀ i (h : i < F.length) c (hc : c < (kidsOf F[i]).length), F[s i + c]? = some (kidsOf F[i])[c]
  gt : ∀ i, i < F.length → i < s i
  zero : s 0 = 1
  last : s F.length = F.length

theorem qK_le (x : Nd) : ∀ i, i ≤ cntN x → i ≤ (qK x i).length
  | 0, _ => Nat.zero_le _
  | i + 1, hi => by
    have ih := qK_le x i (by omega)
    have hlt : i < (qK x i).length := by
      rcases Nat.lt_or_ge i (qK x i).length with h | h
      · exact h
      · have hc := qK_count x i ih
        rw [List.drop_of_length_le h] at hc
        simp only [List.map_nil, List.sum_nil, Nat.add_zero] at hc
        omega
    rw [qK_step x hlt, List.length_append]
    omega

theorem qK_lt (x : Nd) {i : Nat} (hi : i < cntN x) : i < (qK x i).length := by
  have ih := qK_le x i (by omega)
  rcases Nat.lt_or_ge i (qK x i).length with h | h
  · exact h
  · have hc := qK_count x i ih
    rw [List.drop_of_length_le h] at hc
    simp only [List.map_nil, List.sum_nil, Nat.add_zero] at hc
    omega

theorem qK_pre (x : Nd) (i : Nat) : ∀ d, qK x i <+: qK x (i + d)
  | 0 => List.prefix_refl _
  | d + 1 => by
    refine (qK_pre x i d).trans ?_
    show qK x (i + d) <+: qK x (i + d + 1)
    simp only [qK]
    split
    · exact List.prefix_append _ _
    · exact List.prefix_refl _

theorem qK_len (x : Nd) : (qK x (cntN x)).length = cntN x := Nat.le_antisymm (qK_few x (qK_le x _ (Nat.le_refl _))) (qK_le x _ (Nat.le_refl _))

theorem pre_get {l m : List Nd} (h : l <+: m) {i : Nat} (hi : i < l.length) (hm : i < m.length) : m[i] = l[i] := by
  obtain ⟨t, rfl⟩ := h
  exact List.getElem_append_left hi

theorem qK_get (x : Nd) {i : Nat} (hi : i < cntN x) (hF : i < (qK x (cntN x)).length) : (qK x (cntN x))[i] = (qK x i)[i]'(qK_lt x hi) := by
  have h := qK_pre x i (cntN x - i)
  rw [show i + (cntN x - i) = cntN x by omega] at h
  exact pre_get h (qK_lt x hi) hF

theorem bfs_of (x : Nd) : Bfs (qK x (cntN x)) (fun i => (qK x i).length) := by
  have hl := qK_len x
  refine ⟨fun i h => ?_, fun i h c hc => ?_, fun i h => qK_lt x (by omega), rfl, ?_⟩
  · have hi : i < cntN x := by omega
    show (qK x (i + 1)).length = (qK x i).length + _
    rw [qK_get x hi h, qK_step x (qK_lt x hi), List.length_append]
  · have hi : i < cntN x := by omega
    have e := qK_get x hi h
    have hc' : c < (kidsOf ((qK x i)[i]'(qK_lt x hi))).length := by rw [← e]; exact hc
    have hs := qK_step x (qK_lt x hi)
    have hp := qK_pre x (i + 1) (cntN x - (i + 1))
    rw [show i + 1 + (cntN x - (i + 1)) = cntN x by omega] at hp
    obtain ⟨t, ht⟩ := hp
    have : (qK x (cntN x))[(qK x i).length + c]? = some ((kidsOf ((qK x i)[i]'(qK_lt x hi)))[c]'hc') := by
      rw [← ht, hs, List.append_assoc, List.getElem?_append_right (by omega), Nat.add_sub_cancel_left, List.getElem?_append_left hc', List.getElem?_eq_getElem hc']
    rw [this]
    congr 1
    congr 1
    rw [e]
  · show (qK x (qK x (cntN x)).length).length = _
    rw [hl]
    exact hl

theorem told_get (x : Nd) {i : Nat} (hi : i < cntN x) (hF : i < (qK x (cntN x)).length) : (toldK x (cntN x))[i]? = some (toldN (qK x (cntN x))[i] (qK x i).length) := by
  unfold toldK
  rw [List.getElem?_map, List.getElem?_range hi, qK_get x hi hF]
  simp only [Option.map_some, List.getElem?_eq_getElem (qK_lt x hi)]

section
variable {F : List Nd} {s : Nat → Nat}

theorem Bfs.mono (h : Bfs F s) : ∀ d i, i + d ≤ F.length → s i ≤ s (i + d)
  | 0, _, _ => Nat.le_refl _
  | d + 1, i, hi => by
    have h1 := h.mono d i (by omega)
    have h2 := h.step (i + d) (by omega)
    show s i ≤ s (i + d + 1)
    omega

theorem Bfs.le (h : Bfs F s) {i j : Nat} (hij : i ≤ j) (hj : j ≤ F.length) : s i ≤ s j := by
  have := h.mono (j - i) i (by omega)
  rwa [show i + (j - i) = j by omega] at this

/-- j stands below i, not deeper than so much -/
def UndK (s : Nat → Nat) (n : Nat) : Nat → Nat → Nat → Prop
  | 0, _, _ => False
  | k + 1, i, j => i < n ∧ ∃ m, s i ≤ m ∧ m < s (i + 1) ∧ (m = j ∨ UndK s n k m j)

/-- j stands somewhere below i -/
def Und (s : Nat → Nat) (n i j : Nat) : Prop := ∃ k, UndK s n k i j

theorem Und.kid {n i j : Nat} (hi : i < n) (h1 : s i ≤ j) (h2 : j < s (i + 1)) : Und s n i j := ⟨1, hi, j, h1, h2, .inl rfl⟩

theorem Und.more {n i m j : Nat} (hi : i < n) (h1 : s i ≤ m) (h2 : m < s (i + 1)) (h : Und s n m j) : Und s n i j := by
  obtain ⟨k, hk⟩ := h
  exact ⟨k + 1, hi, m, h1, h2, .inr hk⟩

theorem Und.rec' {n : Nat} {P : Nat → Nat → Prop} (kid : ∀ i j, i < n → s i ≤ j → j < s (i + 1) → P i j) (more : ∀ i m j, i < n → s i ≤ m → m < s (i + 1) → Und s n m j → P m j → P i j) {i j : Nat} (h : Und s n i j) : P i j := by
  obtain ⟨k, hk⟩ := h
  induction k generalizing i with
  | zero => exact hk.elim
  | succ k ih =>
    obtain ⟨hi, m, h1, h2, h3⟩ := hk
    rcases h3 with rfl | h3
    · exact kid i m hi h1 h2
    · exact more i m j hi h1 h2 ⟨k, h3⟩ (ih h3)

theorem Bfs.below (h : Bfs F s) {i j : Nat} (hi : i < F.length) (hj : j < s (i + 1)) : j < F.length := by
  have := h.le (show i + 1 ≤ F.length by omega) (Nat.le_refl _)
  have := h.last
  omega

theorem Bfs.und_lt (h : Bfs F s) {i j : Nat} (hu : Und s F.length i j) : i < j ∧ j < F.length := by
  refine Und.rec' (P := fun i j => i < j ∧ j < F.length) (fun i j hi h1 h2 => ?_) (fun i m j hi h1 h2 _ ih => ?_) hu
  · have := h.gt _ hi
    exact ⟨by omega, h.below hi h2⟩
  · have := h.gt _ hi
    exact ⟨by omega, ih.2⟩

theorem Und.snoc {n : Nat} {i p j : Nat} (hu : Und s n i p) (hp : p < n) (h1 : s p ≤ j) (h2 : j < s (p + 1)) : Und s n i j := by
  exact Und.rec' (P := fun i p => p < n → s p ≤ j → j < s (p + 1) → Und s n i j) (fun i p hi a b hp h1 h2 => .more hi a b (.kid hp h1 h2)) (fun i m p hi a b _ ih hp h1 h2 => .more hi a b (ih hp h1 h2)) hu hp h1 h2

theorem Und.parent {n : Nat} {i j : Nat} (hu : Und s n i j) : ∃ p, p < n ∧ s p ≤ j ∧ j < s (p + 1) ∧ (p = i ∨ Und s n i p) := by
  refine Und.rec' (P := fun i j => ∃ p, p < n ∧ s p ≤ j ∧ j < s (p + 1) ∧ (p = i ∨ Und s n i p)) (fun i j hi a b => ?_) (fun i m j hi a b _ ih => ?_) hu
  · exact ⟨_, hi, a, b, .inl rfl⟩
  · obtain ⟨p, h1, h2, h3, h4⟩ := ih
    refine ⟨p, h1, h2, h3, .inr ?_⟩
    rcases h4 with rfl | h4
    · exact .kid hi a b
    · exact .more hi a b h4

theorem Bfs.one_parent (h : Bfs F s) {p p' j : Nat} (hp : p < F.length) (h1 : s p ≤ j) (h2 : j < s (p + 1)) (hp' : p' < F.length) (h3 : s p' ≤ j) (h4 : j < s (p' + 1)) : p = p' := by
  rcases Nat.lt_trichotomy p p' with e | e | e
  · have := h.le (show p + 1 ≤ p' by omega) (by omega)
    omega
  · exact e
  · have := h.le (show p' + 1 ≤ p by omega) (by omega)
    omega

/-- what stands below one kid, or is it, does not below another one -/
theorem Bfs.apart (h : Bfs F s) {i m m' : Nat} (hi : i < F.length) (hm : s i ≤ m ∧ m < s (i + 1)) (hm' : s i ≤ m' ∧ m' < s (i + 1)) (hne : m ≠ m') : ∀ j, (m = j ∨ Und s F.length m j) → ¬ (m' = j ∨ Und s F.length m' j) := by
  intro j
  induction j using Nat.strongRecOn with
  | ind j ih =>
    have hg := h.gt i hi
    intro h1 h2
    rcases h1 with rfl | h1
    · rcases h2 with h2 | h2
      · exact hne h2.symm
      · obtain ⟨p, a, b, c, d⟩ := h2.parent
        have e := h.one_parent a b c hi hm.1 hm.2
        subst e
        rcases d with d | d
        · omega
        · have := (h.und_lt d).1
          omega
    · rcases h2 with rfl | h2
      · obtain ⟨p, a, b, c, d⟩ := h1.parent
        have e := h.one_parent a b c hi hm'.1 hm'.2
        subst e
        rcases d with d | d
        · omega
        · have := (h.und_lt d).1
          omega
      · obtain ⟨p, a, b, c, d⟩ := h1.parent
        obtain ⟨p', a', b', c', d'⟩ := h2.parent
        have e := h.one_parent a b c a' b' c'
        subst e
        have hlt := h.gt p a
        refine ih p (by omega) ?_ ?_
        · rcases d with d | d
          · exact .inl d.symm
          · exact .inr d
        · rcases d' with d' | d'
          · exact .inl d'.symm
          · exact .inr d'

theorem Und.cases_kid {n : Nat} {i j : Nat} (hu : Und s n i j) : ∃ m, s i ≤ m ∧ m < s (i + 1) ∧ (m = j ∨ Und s n m j) := by
  obtain ⟨k, hk⟩ := hu
  cases k with
  | zero => exact hk.elim
  | succ k =>
    obtain ⟨-, m, h1, h2, h3⟩ := hk
    exact ⟨m, h1, h2, h3.imp id (fun h => ⟨k, h⟩)⟩

theorem Bfs.has_parent (h : Bfs F s) {j : Nat} (h1 : 1 ≤ j) (hj : j < F.length) : ∃ p, p < F.length ∧ s p ≤ j ∧ j < s (p + 1) := by
  have key : ∀ k, k ≤ F.length → j < s k → ∃ p, p < k ∧ s p ≤ j ∧ j < s (p + 1) := by
    intro k
    induction k with
    | zero => intro _ h2; have := h.zero; omega
    | succ k ih =>
      intro hk h2
      by_cases h3 : j < s k
      · obtain ⟨p, a, b⟩ := ih (by omega) h3
        exact ⟨p, by omega, b⟩
      · exact ⟨k, by omega, by omega, h2⟩
  obtain ⟨p, a, b⟩ := key F.length (Nat.le_refl _) (by rw [h.last]; exact hj)
  exact ⟨p, a, b⟩

/-- all stand below the first one -/
theorem Bfs.all (h : Bfs F s) : ∀ j, 1 ≤ j → j < F.length → Und s F.length 0 j := by
  intro j
  induction j using Nat.strongRecOn with
  | ind j ih =>
    intro h1 hj
    obtain ⟨p, a, b, c⟩ := h.has_parent h1 hj
    have hlt := h.gt p a
    by_cases hp : p = 0
    · subst hp
      exact .kid a b c
    · exact (ih p (by omega) (by omega) a).snoc a b c

end

/-- a node below the root -/
def WnN (y : Nd) : Prop := Wn y.h y.t

theorem Wk_kids {y : Nd} (h : Wk y.h y.t) : ∀ z ∈ kidsOf y, WnN z := by
  obtain ⟨k, t⟩ := y
  cases k with
  | zero => intro z hz; cases hz
  | succ k =>
    intro z hz
    obtain ⟨c, hc, rfl⟩ := List.mem_map.1 hz
    exact (Wk_node _).1 h c hc

theorem qK_wk {x : Nd} (h : Wk x.h x.t) : ∀ i, ∀ y ∈ qK x i, Wk y.h y.t
  | 0, y, hy => by
    rw [List.mem_singleton.1 hy]
    exact h
  | i + 1, y, hy => by
    simp only [qK] at hy
    split at hy
    · rename_i z hz
      rcases List.mem_append.1 hy with hy | hy
      · exact qK_wk h i y hy
      · exact (Wk_kids (qK_wk h i z (List.mem_of_getElem? hz)) y hy).2.2
    · exact qK_wk h i y hy

/-- few entries, few nodes -/
theorem cnt_few : ∀ (h : Nat) (t : Tr h), 2 ≤ deg h t → Wk h t → cntT h t + 1 ≤ (flat h t).length
  | 0, es, hd, _ => by
    show 1 + 1 ≤ (show List Ent from es).length
    exact hd
  | h + 1, ks, hd, hw => by
    have key : ∀ l : List (Tr h), (∀ k ∈ l, Wn h k) → (l.map (cntT h)).sum + l.length ≤ (l.flatMap (flat h)).length := by
      intro l
      induction l with
      | nil => intro _; simp
      | cons k l ih =>
        intro hl
        have h1 := hl k List.mem_cons_self
        have h2 := cnt_few h k h1.1 h1.2.2
        have h3 := ih (fun z hz => hl z (List.mem_cons_of_mem _ hz))
        simp only [List.map_cons, List.sum_cons, List.length_cons, List.flatMap_cons, List.length_append]
        omega
    have h1 := key (show List (Tr h) from ks) ((Wk_node _).1 hw)
    have h2 : 2 ≤ (show List (Tr h) from ks).length := hd
    show 1 + (List.map (cntT h) (show List (Tr h) from ks)).sum + 1 ≤ ((show List (Tr h) from ks).flatMap (flat h)).length
    omega

theorem cnt_root {h : Nat} {t : Tr h} (hr : Wr h t) : cntT h t ≤ 1 + (flat h t).length := by
  cases h with
  | zero => show 1 ≤ _; omega
  | succ h =>
    have := cnt_few (h + 1) t (hr.2.1 (by omega)) hr.2.2
    omega

/-- a tree that is not flat has many entries -/
theorem flat_many : ∀ (h : Nat) (t : Tr h), 2 ≤ deg h t → Wk h t → 2 ^ (h + 1) ≤ (flat h t).length
  | 0, es, hd, _ => hd
  | h + 1, ks, hd, hw => by
    have key : ∀ l : List (Tr h), (∀ k ∈ l, Wn h k) → l.length * 2 ^ (h + 1) ≤ (l.flatMap (flat h)).length := by
      intro l
      induction l with
      | nil => intro _; simp
      | cons k l ih =>
        intro hl
        have h1 := hl k List.mem_cons_self
        have h2 := flat_many h k h1.1 h1.2.2
        have h3 := ih (fun z hz => hl z (List.mem_cons_of_mem _ hz))
        simp only [List.length_cons, List.flatMap_cons, List.length_append, Nat.succ_mul]
        omega
    have h1 := key (show List (Tr h) from ks) ((Wk_node _).1 hw)
    have h2 : 2 ≤ (show List (Tr h) from ks).length := hd
    have h3 : 2 * 2 ^ (h + 1) ≤ (show List (Tr h) from ks).length * 2 ^ (h + 1) := Nat.mul_le_mul_right _ h2
    show 2 ^ (h + 1 + 1) ≤ ((show List (Tr h) from ks).flatMap (flat h)).length
    rw [Nat.pow_succ]
    omega

end Go.Proofs.Ytcegkgobkpakiaa

/- The nodes of a tree, told level by level. -/
namespace Go.Proofs.Ytcegkgobkpakiaa
open Go.ChangeShapes Go.WideShapes Go.ChangeAt Go.RowKit

/-- when so many nodes have been told: the queue, what was told, all else as it was -/
structure ListI (w : World) (x : Nd) (k : Nat) (nv lv : Value) (W : World) : Prop where
  nodes : Rows kAny (fun b => lv.ownBlock ≠ some b) W w.heap.size 53 nv (qK x k)
  told : Rows kTn (fun b => w.heap.size ≤ b ∧ nv.ownBlock ≠ some b) W w.heap.size 60 lv (toldK x k)
  apart : ∀ g, nv.ownBlock = some g → lv.ownBlock ≠ some g
  below : Below w.heap.size w W

theorem listI_new (w : World) (x : Nd) (u v : Value) (t0 : TypeId) (h : (kNd x.h).rel (fun b => b < w.heap.size) w x.t [u, v]) :
    ListI w x 0 (.slice (some ⟨w.heap.size + 1, 0, none⟩) 1 1) (.slice none 0 0) ((w.alloc (.cells #[u, v] t0)).alloc (.cells #[u, v] 53)) := by
  have hb1 : Below w.heap.size w (w.alloc (.cells #[u, v] t0)) := (Below.refl _ w).alloc (Nat.le_refl _) _
  have hb2 := hb1.alloc hb1.size (.cells #[u, v] 53)
  have h1 := heap_alloc_new (w.alloc (.cells #[u, v] t0)) (.cells #[u, v] 53)
  rw [alloc_size] at h1
  generalize (w.alloc (.cells #[u, v] t0)).alloc (.cells #[u, v] 53) = W at hb2 h1 ⊢
  refine ⟨⟨[[u, v]], ⟨rfl, .inr ⟨w.heap.size + 1, 1, _, rfl, Nat.le_succ _, h1, Nat.le_refl _, by decide, rfl, rfl⟩⟩, ⟨(kNd x.h).move (Kept.of_below hb2) (fun b hb ho => ⟨(fun e => by cases e), fun e => by have e1 : w.heap.size + 1 = b := Option.some.inj e; omega⟩) h, trivial⟩⟩, Rows.nil _ _ _ _ _, (fun _ _ e => by cases e), hb2⟩

/-- the kids are still to be told -/
theorem kidI_new {w wr W1 : World} {x : Nd} {k : Nat} {nv lv ev : Value} {es : List Ent} (hL : ListI w x k nv lv wr) (hE : EntI wr ev es W1) : KidI w W1 wr.heap.size lv nv ev (qK x k) [] [] nv (.slice none 0 0) (.slice none 0 0) W1 :=
  ⟨hL.below.trans (hE.base.mono hL.below.size), ⟨Nat.le_refl _, fun _ _ _ => rfl⟩, hE.var, (hL.nodes.turned (fun b hb ho => ⟨by omega, (fun e => by cases e), (fun e => by cases e), ho⟩)).later hE.base, Rows.nil _ _ _ _ _, Rows.nil _ _ _ _ _, (fun _ e => .inl e), (fun _ e => by cases e), (fun _ _ => ⟨(fun e => by cases e), (fun e => by cases e)⟩), hL.below.size, hE.var.lt, (fun g e => (rows_lt hL.nodes g e).2), (fun g e => (rows_lt hL.told g e).2)⟩

section
variable {w wr W1 W w5 : World} {x y : Nd} {k : Nat} {nv nv' lv lv' : Value} {ea ka ia : Option Addr} {en ec kn kc im ic : Nat} {tn : Tn}

/-- a node has been told: ahead of the append -/
theorem list_ahead (hL : ListI w x k nv lv wr) (hE : EntI wr (.slice ea en ec) tn.ents W1) (hK : KidI w W1 wr.heap.size lv nv (.slice ea en ec) (qK x (k + 1)) tn.keys tn.kids nv' (.slice ka kn kc) (.slice ia im ic) W) :
    Rows kTn (fun b => w.heap.size ≤ b ∧ nv'.ownBlock ≠ some b) W w.heap.size 60 lv (toldK x k) ∧ kTn.rel (fun b => (w.heap.size ≤ b ∧ nv'.ownBlock ≠ some b) ∧ lv.ownBlock ≠ some b) W tn [.slice ea en ec, .slice ka kn kc, .slice ia im ic] ∧ Fresh (fun b => w.heap.size ≤ b ∧ nv'.ownBlock ≠ some b) W ∧ Three W wr.heap.size (.slice ea en ec) (.slice ka kn kc) (.slice ia im ic) ∧ w.heap.size ≤ W.heap.size := by
  have hM := hK.hM
  have hM1 := hK.hM1
  have hs := hK.kept.1
  have hno : ∀ b, b < W1.heap.size → nv.ownBlock ≠ some b → nv'.ownBlock ≠ some b := fun b hb hne e => by
    rcases hK.nvo b e with e' | e'
    · exact hne e'
    · omega
  have hlo : ∀ b, wr.heap.size ≤ b → lv.ownBlock ≠ some b := fun b hb e => by have := hK.hl b e; omega
  refine ⟨?_, ?_, ?_, hK.var, by omega⟩
  · refine (((hL.told.turned (ok2 := fun b => w.heap.size ≤ b ∧ nv.ownBlock ≠ some b ∧ b < wr.heap.size) (fun b hb ho => ⟨ho.1, ho.2, hb⟩)).later hE.base).move ⟨hs, fun b hb ho => hK.kept.2 b hb ⟨by have := ho.2.2; omega, ho.2.1⟩⟩ (fun g hg => ?_)).turned (fun b _ ho => ⟨ho.1, hno b (by have := ho.2.2; omega) ho.2.1⟩)
    have := hK.hl g hg
    exact hK.kept.2 g (by omega) ⟨by omega, fun e => hL.apart g e hg⟩
  · obtain ⟨a1, c1, e1, l1, -⟩ := hE.rows.lies (fun b e => (rows_lt hE.rows b e).1)
    obtain ⟨a2, c2, e2, l2, -⟩ := hK.keys.lies (fun b e => ⟨(rows_lt hK.keys b e).1, hK.ki b e, fun h => (hK.nk b h).1 e⟩)
    obtain ⟨a3, c3, e3, l3, -⟩ := (nums_move (ok' := fun b => W1.heap.size ≤ b ∧ nv'.ownBlock ≠ some b) hK.nums (fun _ _ => rfl)).lies (fun b e => ⟨(rows_lt hK.nums b e).1, fun h => (hK.nk b h).2 e⟩)
    simp only [Value.slice.injEq] at e1 e2 e3
    obtain ⟨rfl, rfl, rfl⟩ := e1
    obtain ⟨rfl, rfl, rfl⟩ := e2
    obtain ⟨rfl, rfl, rfl⟩ := e3
    refine ⟨_, _, _, _, _, _, rfl, ?_, ?_, ?_⟩
    · exact (l1.move (ok' := fun b => wr.heap.size + 1 ≤ b ∧ b < W1.heap.size) (Kept.of_below (Below.refl _ _)) (fun b hb ho => ⟨ho, hb⟩)).move ⟨hs, fun b hb ho => hK.kept.2 b hb ⟨by have := ho.1; omega, fun e => by have := hK.hn b e; have := ho.1; omega⟩⟩ (fun b hb ho => ⟨⟨by have := ho.1; omega, hno b ho.2 (fun e => by have := hK.hn b e; have := ho.1; omega)⟩, hlo b (by have := ho.1; omega)⟩)
    · exact l2.move (Kept.of_below (Below.refl _ _)) (fun b _ ho => ⟨⟨by have := ho.1; omega, ho.2.2⟩, hlo b (by have := ho.1; omega)⟩)
    · exact l3.move (Kept.of_below (Below.refl _ _)) (fun b _ ho => ⟨⟨by have := ho.1; omega, ho.2⟩, hlo b (by have := ho.1; omega)⟩)
  · intro b hb
    exact ⟨by omega, fun e => by have := (rows_lt hK.nodes b e).2; omega⟩

/-- and behind it -/
theorem list_behind (hL : ListI w x k nv lv wr) (hK : KidI w W1 wr.heap.size lv nv (.slice ea en ec) (qK x (k + 1)) tn.keys tn.kids nv' (.slice ka kn kc) (.slice ia im ic) W) (q1 : Rows kTn (fun b => w.heap.size ≤ b ∧ nv'.ownBlock ≠ some b) w5 w.heap.size 60 lv' (toldK x (k + 1))) (q2 : W.grownBy w5 lv.ownBlock) (q3 : lv'.ownBlock = lv.ownBlock ∨ lv'.ownBlock = some (W.heap.size + 1)) : ListI w x (k + 1) nv' lv' w5 := by
  have hM := hK.hM
  have hM1 := hK.hM1
  have hs := hK.kept.1
  have e5 : ∀ b, b < W.heap.size → lv.ownBlock ≠ some b → w5.heap[b]? = W.heap[b]? := fun b hb hne => q2.block b hb (fun e => hne e.symm)
  have hap : ∀ g, nv'.ownBlock = some g → lv.ownBlock ≠ some g := fun g e h => by
    have := hK.hl g h
    rcases hK.nvo g e with e' | e'
    · exact hL.apart g e' h
    · omega
  refine ⟨?_, q1, ?_, below_grown hK.below hK.below.size q2 (fun r e => (rows_lt hL.told r e).1)⟩
  · refine ((hK.nodes.turned (ok2 := fun b => lv.ownBlock ≠ some b ∧ b < W.heap.size) (fun b hb ho => ⟨ho.2.2.2, hb⟩)).move ⟨q2.size, fun b hb ho => e5 b hb ho.1⟩ (fun g hg => e5 g (rows_lt hK.nodes g hg).2 (hap g hg))).turned (fun b _ ho e => ?_)
    rcases q3 with e' | e'
    · exact ho.1 (e' ▸ e)
    · rw [e'] at e
      have := Option.some.inj e
      have := ho.2
      omega
  · intro g hg e
    rcases q3 with e' | e'
    · exact hap g hg (e' ▸ e)
    · rw [e'] at e
      have := Option.some.inj e
      have := (rows_lt hK.nodes g hg).2
      omega

end

theorem any_deg (y : Nd) : (entsOf y).length ≤ deg y.h y.t ∧ (kidsOf y).length ≤ deg y.h y.t := by
  obtain ⟨h, t⟩ := y
  cases h with
  | zero => exact ⟨Nat.le_refl _, Nat.zero_le _⟩
  | succ h => exact ⟨Nat.zero_le _, by show (List.map _ _).length ≤ _; rw [List.length_map]; exact Nat.le_refl _⟩

theorem qK_deg {x : Nd} (h : Wk x.h x.t) (hd : deg x.h x.t ≤ 4) : ∀ i, ∀ y ∈ qK x i, deg y.h y.t ≤ 4
  | 0, y, hy => by
    rw [List.mem_singleton.1 hy]
    exact hd
  | i + 1, y, hy => by
    simp only [qK] at hy
    split at hy
    · rename_i z hz
      rcases List.mem_append.1 hy with hy | hy
      · exact qK_deg h hd i y hy
      · exact (Wk_kids (qK_wk h i z (List.mem_of_getElem? hz)) y hy).2.1
    · exact qK_deg h hd i y hy

/-- an entry in its variable -/
def EntE (wr : World) (u : Value) (es : List Ent) (B : Nat) (p q : Value) (W : World) : Prop := EntI wr u es W ∧ Two W B p q

theorem EntE.later {wr W W' : World} {u : Value} {es : List Ent} {B : Nat} {p q : Value} (h : EntE wr u es B p q W) (hb : Below W.heap.size W W') : EntE wr u es B p q W' := ⟨h.1.later hb, h.2.later hb⟩

end Go.Proofs.Ytcegkgobkpakiaa
