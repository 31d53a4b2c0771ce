/- LyBaseB's words for seats without [][]int: append, bounded by bytes alone; the end of a walk in a list. -/
import Derived.Test.YtppcikfhhmiipaaLyBase
namespace Go.Proofs.Ytppcikfhhmiipaa
open Go.ChangeShapes Go.WideShapes Go.ChangeAt Go.RowKit

theorem few_of_bytes {n bytes : Nat} (hb : 0 < bytes) (h : n * bytes ≤ 140737488355328) : n ≤ maxLen := by
  have h1 : n * 1 ≤ n * bytes := Nat.mul_le_mul (Nat.le_refl n) hb
  unfold maxLen
  omega

theorem wpList_append_rowsB {α : Type} {size bytes : Nat} {K : Kd α size} {ok ok2 : Nat → Prop} {w : World} {ops : Array Oper} {rest : List Oper} {o : Oper} {a : Act} {Q : Exit → Act → World → Prop} {T E : TypeId} (et : Elt T E size bytes) (hgd : o.guard = none) (s x : Operand)
    (ho : o.op = .call { callee := .builtin .append, args := #[s, x], argTypes := #[T, T] })
    (base : Nat) (v : Value) (l : List α) (hs : a.eval s = v) (hown : Rows K ok w base E v l)
    (ao : Option Addr) (cap m : Nat) (l2 : List α) (hx : a.eval x = .slice ao m cap) (hm : m = l2.length) (he : Lies K ok2 w ao cap l2) (hok : ∀ b, b < w.heap.size → ok2 b → v.ownBlock ≠ some b → ok b) (hap : ∀ b, b < w.heap.size → ok2 b → v.ownBlock ≠ some b)
    (hlen : (l.length + m) * bytes ≤ 140737488355328) (hby : 0 < bytes) (hbase : base ≤ w.heap.size)
    (h : ∀ v' w', Rows K ok w' base E v' (l ++ l2) → w.grownBy w' v.ownBlock → (v'.ownBlock = v.ownBlock ∨ v'.ownBlock = some w.heap.size) → wpList Try.prog ops Q rest (a.put o.dst v') w') : wpList Try.prog ops Q (o :: rest) a w := by
  obtain ⟨i0, z, hi, hz0, hz1, hz2, hz3⟩ := et.info
  obtain ⟨css, h1, h2⟩ := hown
  subst hm
  by_cases hl2 : l2 = []
  · subst hl2
    have hh : Rows K ok w base E v (l ++ []) := by rw [List.append_nil]; exact ⟨css, h1, h2⟩
    cases ao with
    | none =>
      have h0 : cap = 0 := he.2.1 rfl
      subst h0
      refine wpList_append_own_none hgd s x T ho base E i0 size et.und hi v _ _ hs h1 hx ?_
      exact h v w hh ⟨rfl, rfl, rfl, Nat.le_refl _, fun _ _ _ => rfl⟩ (.inl rfl)
    | some ad =>
      refine wpList_append_own_at w hgd s x T ho base E i0 z size bytes et.und hi hz0 hz1 hz2 hz3 et.pos v _ _ hs h1 ad 0 cap [] hx (by simp) (by simp) (by simp) (by simp only [List.length_nil] at hlen; exact few_of_bytes hby hlen)
        (by simpa only [List.length_nil] using hlen) hbase (fun v' w' q1 q2 q3 q4 => ?_)
      refine h v' w' ?_ q2 q4
      refine ⟨css, by simpa using q1, ?_⟩
      rw [List.append_nil]
      refine All2.imp (fun y cs hr => K.move (ok := fun b => ok b ∧ v.ownBlock ≠ some b) (Kept.of_grown q2 (fun b hb => hb.2)) (fun b hb ho => ⟨ho.1, ?_⟩) hr) h2
      rcases q4 with e | e
      · rw [e]; exact ho.2
      · rw [e]; intro e2; have := Option.some.inj e2; omega
  · rcases he.2.2 with h' | ⟨b, off, css2, e, hb, hob, ha, hc⟩
    · exact absurd h' hl2
    · subst e
      have hlen2 : css2.flatten.length = l2.length * size := by rw [flatten_len (rel_len ha), ← ha.length]
      refine wpList_append_own_at w hgd s x T ho base E i0 z size bytes et.und hi hz0 hz1 hz2 hz3 et.pos v _ _ hs h1 ⟨b, off, none⟩ l2.length cap css2.flatten hx hlen2 (fun j u hj => by rw [addr_add]; exact hc j u hj) (rel_one ha) (few_of_bytes hby hlen)
        hlen hbase (fun v' w' q1 q2 q3 q4 => ?_)
      refine h v' w' ⟨css ++ css2, ?_, ?_⟩ q2 q4
      · rw [List.length_append, List.flatten_append]
        exact q1
      · have hv' : ∀ b, b < w.heap.size → v.ownBlock ≠ some b → v'.ownBlock ≠ some b := fun b hb hne => by
          rcases q4 with e | e
          · rw [e]; exact hne
          · rw [e]; intro e2; have := Option.some.inj e2; omega
        refine All2.append ?_ ?_
        · exact All2.imp (fun y cs hr => K.move (ok := fun b => ok b ∧ v.ownBlock ≠ some b) (Kept.of_grown q2 (fun b hb => hb.2)) (fun b hb ho => ⟨ho.1, hv' b hb ho.2⟩) hr) h2
        · refine All2.imp (fun y cs hr => ?_) ha
          have hr' : K.rel (fun b => ok b ∧ v.ownBlock ≠ some b) w y cs := K.move (Kept.of_below (Below.refl _ _)) (fun b hb ho => ⟨hok b hb ho (hap b hb ho), hap b hb ho⟩) hr
          exact K.move (ok := fun b => ok b ∧ v.ownBlock ≠ some b) (Kept.of_grown q2 (fun b hb => hb.2)) (fun b hb ho => ⟨ho.1, hv' b hb ho.2⟩) hr'

section
variable {α : Type} {size : Nat} {K : Kd α size} {ok : Nat → Prop} {W : World}

theorem wpList_append_oneB {bytes : Nat} {wr : World} {ops : Array Oper} {rest : List Oper} {o : Oper} {a : Act} {Q : Exit → Act → World → Prop} {T E : TypeId} (et : Elt T E size bytes) (hgd : o.guard = none) (s xo : Operand)
    (ho : o.op = .call { callee := .builtin .append, args := #[s, xo], argTypes := #[T, T] })
    (base : Nat) (v : Value) (l : List α) (hs : a.eval s = v) (hown : Rows K ok wr base E v l) (x : α) (cs : List Value) (zs : Array Value) (ty : TypeId) (hx : a.eval xo = .slice (some ⟨wr.heap.size, 0, none⟩) 1 1) (hz : zs = cs.toArray)
    (hr : K.rel (fun b => ok b ∧ v.ownBlock ≠ some b) wr x cs) (hok : Fresh ok wr) (hlen : (l.length + 1) * bytes ≤ 140737488355328) (hby : 0 < bytes) (hbase : base ≤ wr.heap.size)
    (h : ∀ v' w', Rows K ok w' base E v' (l ++ [x]) → wr.grownBy w' v.ownBlock → (v'.ownBlock = v.ownBlock ∨ v'.ownBlock = some (wr.heap.size + 1)) → wpList Try.prog ops Q rest (a.put o.dst v') w') : wpList Try.prog ops Q (o :: rest) a (wr.alloc (.cells zs ty)) := by
  have hb : Below wr.heap.size wr (wr.alloc (.cells zs ty)) := (Below.refl _ wr).alloc (Nat.le_refl _) _
  have hL : Lies K (fun b => ok b ∧ v.ownBlock ≠ some b) (wr.alloc (.cells zs ty)) (some ⟨wr.heap.size, 0, none⟩) 1 [x] := lies_one zs hz ty hr ⟨hok _ (Nat.le_refl _), fun e => by have := (rows_lt hown _ e).2; omega⟩
  refine wpList_append_rowsB et hgd s xo ho base v l hs (hown.later hb) _ _ 1 [x] hx rfl hL (fun _ _ h _ => h.1) (fun _ _ h => h.2) hlen hby (by simp; omega) (fun v' w' q1 q2 q3 => h v' w' q1 (grown_alloc q2) ?_)
  simpa using q3

end

/-- the walk stops here -/
theorem hidGoal {p : Prop} (h : Hid p) : p := h

/-- K behind it, Q at a panic -/
def thenQ (K : Act → World → Prop) (Q : Exit → Act → World → Prop) : Exit → Act → World → Prop
  | .normal, a, w => K a w
  | e, a, w => Q e a w

/-- what is known of an operation that comes last of a list -/
theorem wp_of_list {P : Program} {o : Oper} {a : Act} {w : World} {K : Act → World → Prop} {Q : Exit → Act → World → Prop} (hg : o.guard = none) (hL : ¬ LetsOut Q) (h : wpList P #[] (thenQ K Q) [o] a w) : o.wp P a w K Q := by
  simp only [wpList, Region.wanted, hg, if_true] at h
  rcases h with h | ⟨_, a', w', h⟩
  · unfold Oper.wp at h ⊢
    generalize (execOp a.eval o).run P w = r at h ⊢
    cases r with
    | ok x w' =>
      cases x <;> simp only [Oper.upon] at h ⊢
      case value => exact h
      case skip => exact h
      case defer => exact h
      case enter =>
        refine h.mono fun e w'' he => ?_
        cases e with
        | returned u => exact he
        | panicked c => exact he
        | outgrown => exact he
      case row => exact h.mono fun u w'' he => he
    | halt x w' => cases x <;> simp only [Oper.upon] at h ⊢ <;> exact h
  · exact absurd ⟨a', w', h⟩ hL

theorem list_end {P : Program} {ops : Array Oper} {K : Act → World → Prop} {Q : Exit → Act → World → Prop} {a : Act} {w : World} (h : K a w) : wpList P ops (thenQ K Q) [] a w := h

/-- what an append to nil has made lies in a new block -/
theorem own_not {v : Value} {W : World} {d : Nat} (h : v.ownBlock = (Value.slice none 0 0).ownBlock ∨ v.ownBlock = some (W.heap.size + d)) : ∀ b, b < W.heap.size → v.ownBlock ≠ some b := by
  intro b hb e
  rcases h with h | h
  · rw [h] at e
    cases e
  · rw [h] at e
    have := Option.some.inj e
    omega

theorem below_nil {W W' : World} (h : W.grownBy W' (Value.slice none 0 0).ownBlock) : Below W.heap.size W W' := ⟨h.os, h.tape, h.output, h.size, fun b hb => h.block b hb (fun e => by cases e)⟩

theorem all2_of_at {α β : Type} {R : α → β → Prop} : ∀ {xs : List α} {ys : List β} (_ : xs.length = ys.length) (_ : ∀ i (h1 : i < xs.length) (h2 : i < ys.length), R xs[i] ys[i]), All2 R xs ys
  | [], [], _, _ => trivial
  | x :: xs, y :: ys, hl, h => ⟨h 0 (by simp) (by simp), all2_of_at (by simpa using hl) (fun i h1 h2 => by have := h (i + 1) (by simpa using h1) (by simpa using h2); simpa using this)⟩
  | [], _ :: _, hl, _ => by simp at hl
  | _ :: _, [], hl, _ => by simp at hl

/-- things that lie one behind the other -/
theorem lies_of {α : Type} {size : Nat} {K : Kd α size} {ok : Nat → Prop} {W : World} {b off cap : Nat} {l : List α} (hs : 0 < size) (hcap : l.length ≤ cap) (hb : b < W.heap.size) (hok : ok b) (h : ∀ i (hi : i < l.length), ∃ cs, K.rel ok W l[i] cs ∧ ∀ j u, cs[j]? = some u → W.cell? ⟨b, off + i * size + j, none⟩ = some u) :
    Lies K ok W (some ⟨b, off, none⟩) cap l := by
  have h' : ∀ i, ∃ cs : List Value, ∀ hi : i < l.length, K.rel ok W l[i] cs ∧ ∀ j u, cs[j]? = some u → W.cell? ⟨b, off + i * size + j, none⟩ = some u := fun i => by
    by_cases hi : i < l.length
    · obtain ⟨cs, hc⟩ := h i hi
      exact ⟨cs, fun _ => hc⟩
    · exact ⟨[], fun hi2 => absurd hi2 hi⟩
  obtain ⟨C, hC⟩ := Classical.skolem.1 h'
  refine ⟨hcap, (fun e => by cases e), .inr ⟨b, off, (List.range l.length).map C, rfl, hb, hok, all2_of_at (by simp) (fun i h1 h2 => ?_), fun j u hj => ?_⟩⟩
  · simp only [List.getElem_map, List.getElem_range]
    exact (hC i h1).1
  · have hlen : ∀ c ∈ (List.range l.length).map C, c.length = size := fun c hc => by
      obtain ⟨i, hi, rfl⟩ := List.mem_map.1 hc
      exact K.len (hC i (by simpa using hi)).1
    have hj2 : j < l.length * size := by
      have := (List.getElem?_eq_some_iff.1 hj).1
      rw [flatten_len hlen] at this
      simpa using this
    have hk : j / size < l.length := Nat.div_lt_of_lt_mul (by rw [Nat.mul_comm]; exact hj2)
    have hr : j % size < size := Nat.mod_lt _ hs
    have e : j = j / size * size + j % size := by rw [Nat.mul_comm]; exact (Nat.div_add_mod _ _).symm
    have hat := flatten_at (css := (List.range l.length).map C) (k := j / size) (c := C (j / size)) hlen (by rw [List.getElem?_map, List.getElem?_range hk]; rfl) (j % size) hr
    rw [← e] at hat
    rw [hat] at hj
    have := (hC (j / size) hk).2 _ _ hj
    rw [Nat.add_assoc, ← e] at this
    exact this

theorem eltI : Elt 53 3 1 8 := ⟨Try.underlying53, by
  obtain ⟨i0, hi, hz0, hz1, hz2⟩ := info_parts (show (Try.prog.info? 3).map (fun i => (i.zero, i.size, i.bytes)) = some (some (.int .i64 0), 1, 8) by kernel_rfl)
  exact ⟨i0, _, hi, hz0, hz1, hz2, rfl⟩, by decide⟩

end Go.Proofs.Ytppcikfhhmiipaa
