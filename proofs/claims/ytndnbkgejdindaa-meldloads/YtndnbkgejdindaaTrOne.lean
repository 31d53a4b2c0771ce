/- One thing more behind a row that the call itself lays. -/
import Derived.Test.YtndnbkgejdindaaTrSmall
namespace Go.Proofs.Ytndnbkgejdindaa
open Go.ChangeShapes Go.WideShapes Go.ChangeAt Go.RowKit

section
variable {α : Type} {size : Nat} {K : Kd α size} {ok : Nat → Prop} {W : World}

/-- a list of one, just laid -/
theorem lies_one {x : α} {cs : List Value} (zs : Array Value) (hz : zs = cs.toArray) (ty : TypeId) (hr : K.rel ok W x cs) (hok : ok W.heap.size) : Lies K ok (W.alloc (.cells zs ty)) (some ⟨W.heap.size, 0, none⟩) 1 [x] := by
  subst hz
  have hb : Below W.heap.size W (W.alloc (.cells cs.toArray ty)) := (Below.refl _ W).alloc (Nat.le_refl _) _
  refine ⟨Nat.le_refl _, (fun e => by cases e), .inr ⟨W.heap.size, 0, [cs], rfl, by simp, hok, ⟨K.move (Kept.of_below hb) (fun _ _ h => h) hr, trivial⟩, fun j u hj => ?_⟩⟩
  simp only [List.flatten_cons, List.flatten_nil, List.append_nil] at hj
  have hh := heap_alloc_new W (.cells cs.toArray ty)
  simp only [World.cell?, hh, Nat.zero_add]
  simpa using hj

theorem rows_lt {base : Nat} {E : TypeId} {v : Value} {l : List α} (h : Rows K ok W base E v l) : ∀ g, v.ownBlock = some g → base ≤ g ∧ g < W.heap.size := by
  obtain ⟨css, h1, _⟩ := h
  exact h1.lt

theorem rows_form {base : Nat} {E : TypeId} {v : Value} {l : List α} (h : Rows K ok W base E v l) : ∃ a c, v = .slice a l.length c := by
  obtain ⟨css, h1, _⟩ := h
  rcases h1.2 with ⟨e, h0⟩ | ⟨g, cap, cur, e, _⟩
  · exact ⟨none, 0, by rw [e, h0]⟩
  · exact ⟨_, cap, e⟩

/-- of a row that lies in new blocks it is all one what else will do -/
theorem rows_lies {base : Nat} {E : TypeId} {a : Option Addr} {n c : Nat} {l : List α} (h : Rows K ok W base E (.slice a n c) l) (hok : ∀ b, base ≤ b → ok b) : n = l.length ∧ Lies K ok W a c l ∧ Ples a c ∧ ∀ ad, a = some ad → base ≤ ad.block := by
  obtain ⟨a', c', e, h1, h2, _, h3⟩ := h.lies (fun b e => hok b (rows_lt h b e).1)
  simp only [Value.slice.injEq] at e
  obtain ⟨rfl, rfl, rfl⟩ := e
  exact ⟨rfl, h1, h2, h3⟩

theorem grown_alloc {w w' : World} {o : Obj} {row : Option Nat} (h : (w.alloc o).grownBy w' row) : w.grownBy w' row :=
  ⟨h.os, h.tape, h.output, by have := h.size; simp at this; omega, fun b hb hne => (h.block b (by simp; omega) hne).trans (Below.heap_alloc _ _ _ hb)⟩

theorem wpList_append_one {bytes : Nat} {wr : World} {ops : Array Oper} {rest : List Oper} {o : Oper} {a : Act} {Q : Exit → Act → World → Prop} {T E : TypeId} (et : Elt T E size bytes) (hgd : o.guard = none) (s xo : Operand)
    (ho : o.op = .call { callee := .builtin .append, args := #[s, xo], argTypes := #[T, T] })
    (base : Nat) (v : Value) (l : List α) (hs : a.eval s = v) (hown : Rows K ok wr base E v l) (x : α) (cs : List Value) (zs : Array Value) (ty : TypeId) (hx : a.eval xo = .slice (some ⟨wr.heap.size, 0, none⟩) 1 1) (hz : zs = cs.toArray)
    (hr : K.rel (fun b => ok b ∧ v.ownBlock ≠ some b) wr x cs) (hok : Fresh ok wr) (hlen : l.length + 1 ≤ 100000) (hby : bytes ≤ 1000) (hbase : base ≤ wr.heap.size)
    (h : ∀ v' w', Rows K ok w' base E v' (l ++ [x]) → wr.grownBy w' v.ownBlock → (v'.ownBlock = v.ownBlock ∨ v'.ownBlock = some (wr.heap.size + 1)) → wpList Try.prog ops Q rest (a.put o.dst v') w') : wpList Try.prog ops Q (o :: rest) a (wr.alloc (.cells zs ty)) := by
  have hb : Below wr.heap.size wr (wr.alloc (.cells zs ty)) := (Below.refl _ wr).alloc (Nat.le_refl _) _
  have hL : Lies K (fun b => ok b ∧ v.ownBlock ≠ some b) (wr.alloc (.cells zs ty)) (some ⟨wr.heap.size, 0, none⟩) 1 [x] := lies_one zs hz ty hr ⟨hok _ (Nat.le_refl _), fun e => by have := (rows_lt hown _ e).2; omega⟩
  refine wpList_append_rows et hgd s xo ho base v l hs (hown.later hb) _ _ 1 [x] hx rfl hL (fun _ _ h _ => h.1) (fun _ _ h => h.2) hlen hby (by simp; omega) (fun v' w' q1 q2 q3 => h v' w' q1 (grown_alloc q2) ?_)
  simpa using q3

end

end Go.Proofs.Ytndnbkgejdindaa
