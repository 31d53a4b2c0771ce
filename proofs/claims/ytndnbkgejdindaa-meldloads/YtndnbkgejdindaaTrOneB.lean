/- append, bounded by bytes alone. -/
import Derived.Test.YtndnbkgejdindaaTrOne
namespace Go.Proofs.Ytndnbkgejdindaa
open Go.ChangeShapes Go.WideShapes Go.ChangeAt Go.RowKit

theorem few_of_bytes {n bytes : Nat} (hb : 0 < bytes) (h : n * bytes ≤ 140737488355328) : n ≤ maxLen := by
  have h1 : n * 1 ≤ n * bytes := Nat.mul_le_mul (Nat.le_refl n) hb
  unfold maxLen
  omega

theorem wpList_append_rowsB {α : Type} {size bytes : Nat} {K : Kd α size} {ok ok2 : Nat → Prop} {w : World} {ops : Array Oper} {rest : List Oper} {o : Oper} {a : Act} {Q : Exit → Act → World → Prop} {T E : TypeId} (et : Elt T E size bytes) (hgd : o.guard = none) (s x : Operand)
    (ho : o.op = .call { callee := .builtin .append, args := #[s, x], argTypes := #[T, T] })
    (base : Nat) (v : Value) (l : List α) (hs : a.eval s = v) (hown : Rows K ok w base E v l)
    (ao : Option Addr) (cap m : Nat) (l2 : List α) (hx : a.eval x = .slice ao m cap) (hm : m = l2.length) (he : Lies K ok2 w ao cap l2) (hok : ∀ b, b < w.heap.size → ok2 b → v.ownBlock ≠ some b → ok b) (hap : ∀ b, b < w.heap.size → ok2 b → v.ownBlock ≠ some b)
    (hlen : (l.length + m) * bytes ≤ 140737488355328) (hby : 0 < bytes) (hbase : base ≤ w.heap.size)
    (h : ∀ v' w', Rows K ok w' base E v' (l ++ l2) → w.grownBy w' v.ownBlock → (v'.ownBlock = v.ownBlock ∨ v'.ownBlock = some w.heap.size) → wpList Try.prog ops Q rest (a.put o.dst v') w') : wpList Try.prog ops Q (o :: rest) a w := by
  obtain ⟨i0, z, hi, hz0, hz1, hz2, hz3⟩ := et.info
  obtain ⟨css, h1, h2⟩ := hown
  subst hm
  by_cases hl2 : l2 = []
  · subst hl2
    have hh : Rows K ok w base E v (l ++ []) := by rw [List.append_nil]; exact ⟨css, h1, h2⟩
    cases ao with
    | none =>
      have h0 : cap = 0 := he.2.1 rfl
      subst h0
      refine wpList_append_own_none hgd s x T ho base E i0 size et.und hi v _ _ hs h1 hx ?_
      exact h v w hh ⟨rfl, rfl, rfl, Nat.le_refl _, fun _ _ _ => rfl⟩ (.inl rfl)
    | some ad =>
      refine wpList_append_own_at w hgd s x T ho base E i0 z size bytes et.und hi hz0 hz1 hz2 hz3 et.pos v _ _ hs h1 ad 0 cap [] hx (by simp) (by simp) (by simp) (by simp only [List.length_nil] at hlen; exact few_of_bytes hby hlen)
        (by simpa only [List.length_nil] using hlen) hbase (fun v' w' q1 q2 q3 q4 => ?_)
      refine h v' w' ?_ q2 q4
      refine ⟨css, by simpa using q1, ?_⟩
      rw [List.append_nil]
      refine All2.imp (fun y cs hr => K.move (ok := fun b => ok b ∧ v.ownBlock ≠ some b) (Kept.of_grown q2 (fun b hb => hb.2)) (fun b hb ho => ⟨ho.1, ?_⟩) hr) h2
      rcases q4 with e | e
      · rw [e]; exact ho.2
      · rw [e]; intro e2; have := Option.some.inj e2; omega
  · rcases he.2.2 with h' | ⟨b, off, css2, e, hb, hob, ha, hc⟩
    · exact absurd h' hl2
    · subst e
      have hlen2 : css2.flatten.length = l2.length * size := by rw [flatten_len (rel_len ha), ← ha.length]
      refine wpList_append_own_at w hgd s x T ho base E i0 z size bytes et.und hi hz0 hz1 hz2 hz3 et.pos v _ _ hs h1 ⟨b, off, none⟩ l2.length cap css2.flatten hx hlen2 (fun j u hj => by rw [addr_add]; exact hc j u hj) (rel_one ha) (few_of_bytes hby hlen)
        hlen hbase (fun v' w' q1 q2 q3 q4 => ?_)
      refine h v' w' ⟨css ++ css2, ?_, ?_⟩ q2 q4
      · rw [List.length_append, List.flatten_append]
        exact q1
      · have hv' : ∀ b, b < w.heap.size → v.ownBlock ≠ some b → v'.ownBlock ≠ some b := fun b hb hne => by
          rcases q4 with e | e
          · rw [e]; exact hne
          · rw [e]; intro e2; have := Option.some.inj e2; omega
        refine All2.append ?_ ?_
        · exact All2.imp (fun y cs hr => K.move (ok := fun b => ok b ∧ v.ownBlock ≠ some b) (Kept.of_grown q2 (fun b hb => hb.2)) (fun b hb ho => ⟨ho.1, hv' b hb ho.2⟩) hr) h2
        · refine All2.imp (fun y cs hr => ?_) ha
          have hr' : K.rel (fun b => ok b ∧ v.ownBlock ≠ some b) w y cs := K.move (Kept.of_below (Below.refl _ _)) (fun b hb ho => ⟨hok b hb ho (hap b hb ho), hap b hb ho⟩) hr
          exact K.move (ok := fun b => ok b ∧ v.ownBlock ≠ some b) (Kept.of_grown q2 (fun b hb => hb.2)) (fun b hb ho => ⟨ho.1, hv' b hb ho.2⟩) hr'

section
variable {α : Type} {size : Nat} {K : Kd α size} {ok : Nat → Prop} {W : World}

theorem wpList_append_oneB {bytes : Nat} {wr : World} {ops : Array Oper} {rest : List Oper} {o : Oper} {a : Act} {Q : Exit → Act → World → Prop} {T E : TypeId} (et : Elt T E size bytes) (hgd : o.guard = none) (s xo : Operand)
    (ho : o.op = .call { callee := .builtin .append, args := #[s, xo], argTypes := #[T, T] })
    (base : Nat) (v : Value) (l : List α) (hs : a.eval s = v) (hown : Rows K ok wr base E v l) (x : α) (cs : List Value) (zs : Array Value) (ty : TypeId) (hx : a.eval xo = .slice (some ⟨wr.heap.size, 0, none⟩) 1 1) (hz : zs = cs.toArray)
    (hr : K.rel (fun b => ok b ∧ v.ownBlock ≠ some b) wr x cs) (hok : Fresh ok wr) (hlen : (l.length + 1) * bytes ≤ 140737488355328) (hby : 0 < bytes) (hbase : base ≤ wr.heap.size)
    (h : ∀ v' w', Rows K ok w' base E v' (l ++ [x]) → wr.grownBy w' v.ownBlock → (v'.ownBlock = v.ownBlock ∨ v'.ownBlock = some (wr.heap.size + 1)) → wpList Try.prog ops Q rest (a.put o.dst v') w') : wpList Try.prog ops Q (o :: rest) a (wr.alloc (.cells zs ty)) := by
  have hb : Below wr.heap.size wr (wr.alloc (.cells zs ty)) := (Below.refl _ wr).alloc (Nat.le_refl _) _
  have hL : Lies K (fun b => ok b ∧ v.ownBlock ≠ some b) (wr.alloc (.cells zs ty)) (some ⟨wr.heap.size, 0, none⟩) 1 [x] := lies_one zs hz ty hr ⟨hok _ (Nat.le_refl _), fun e => by have := (rows_lt hown _ e).2; omega⟩
  refine wpList_append_rowsB et hgd s xo ho base v l hs (hown.later hb) _ _ 1 [x] hx rfl hL (fun _ _ h _ => h.1) (fun _ _ h => h.2) hlen hby (by simp; omega) (fun v' w' q1 q2 q3 => h v' w' q1 (grown_alloc q2) ?_)
  simpa using q3


end
end Go.Proofs.Ytndnbkgejdindaa
