/- An operation that comes last of a list, in a region that draws its order. -/
import Derived.Test.YtfaejcdbjcklpaaUnRows
namespace Go.Proofs.Ytfaejcdbjcklpaa
open Go.ChangeShapes Go.WideShapes Go.ChangeAt Go.RowKit

/-- K behind it, Q at a panic -/
def thenQ (K : Act → World → Prop) (Q : Exit → Act → World → Prop) : Exit → Act → World → Prop
  | .normal, a, w => K a w
  | e, a, w => Q e a w

/-- what is known of an operation that comes last of a list -/
theorem wp_of_list {P : Program} {o : Oper} {a : Act} {w : World} {K : Act → World → Prop} {Q : Exit → Act → World → Prop} (hg : o.guard = none) (hL : ¬ LetsOut Q) (h : wpList P #[] (thenQ K Q) [o] a w) : o.wp P a w K Q := by
  simp only [wpList, Region.wanted, hg, if_true] at h
  rcases h with h | ⟨_, a', w', h⟩
  · unfold Oper.wp at h ⊢
    generalize (execOp a.eval o).run P w = r at h ⊢
    cases r with
    | ok x w' =>
      cases x <;> simp only [Oper.upon] at h ⊢
      case value => exact h
      case skip => exact h
      case defer => exact h
      case enter =>
        refine h.mono fun e w'' he => ?_
        cases e with
        | returned u => exact he
        | panicked c => exact he
        | outgrown => exact he
      case row => exact h.mono fun u w'' he => he
    | halt x w' => cases x <;> simp only [Oper.upon] at h ⊢ <;> exact h
  · exact absurd ⟨a', w', h⟩ hL

theorem list_end {P : Program} {ops : Array Oper} {K : Act → World → Prop} {Q : Exit → Act → World → Prop} {a : Act} {w : World} (h : K a w) : wpList P ops (thenQ K Q) [] a w := h

/-- a slice literal of many -/
theorem lies_many {α : Type} {size : Nat} {K : Kd α size} {ok : Nat → Prop} {W : World} {l : List α} {css : List (List Value)} (zs : Array Value) (hz : zs = css.flatten.toArray) (ty : TypeId) (hr : All2 (K.rel ok W) l css) (hok : ok W.heap.size) (n : Nat) (hn : l.length ≤ n) : Lies K ok (W.alloc (.cells zs ty)) (some ⟨W.heap.size, 0, none⟩) n l := by
  have hb : Below W.heap.size W (W.alloc (.cells zs ty)) := (Below.refl _ W).alloc (Nat.le_refl _) _
  refine ⟨hn, (fun h => by cases h), .inr ⟨W.heap.size, 0, css, rfl, by simp, hok, All2.imp (fun x cs h => K.move (Kept.of_below hb) (fun _ _ q => q) h) hr, fun j u hj => ?_⟩⟩
  subst hz
  have hh := heap_alloc_new W (.cells css.flatten.toArray ty)
  simp only [World.cell?, hh, Nat.zero_add]
  simpa using hj

/-- two jobs in a slice literal -/
theorem lies_jobs {ok : Nat → Prop} {W : World} (x y : Jb) (u v : Value) (hu : IsBody W ok u x.data) (hv : IsBody W ok v y.data) (hok : ok W.heap.size) (ty : TypeId) :
    Lies kJb ok (W.alloc (.cells #[.int .i64 x.kind, .int .i64 x.epoch, .int .i64 x.addr, u, .int .i64 y.kind, .int .i64 y.epoch, .int .i64 y.addr, v] ty)) (some ⟨W.heap.size, 0, none⟩) 2 [x, y] := by
  have h : All2 (kJb.rel ok W) [x, y] [[.int .i64 x.kind, .int .i64 x.epoch, .int .i64 x.addr, u], [.int .i64 y.kind, .int .i64 y.epoch, .int .i64 y.addr, v]] := ⟨⟨u, rfl, hu⟩, ⟨v, rfl, hv⟩, trivial⟩
  exact lies_many _ rfl ty h hok 2 (Nat.le_refl _)

/-- what an append to nil has made lies in a new block -/
theorem own_not {v : Value} {W : World} {d : Nat} (h : v.ownBlock = (Value.slice none 0 0).ownBlock ∨ v.ownBlock = some (W.heap.size + d)) : ∀ b, b < W.heap.size → v.ownBlock ≠ some b := by
  intro b hb e
  rcases h with h | h
  · rw [h] at e
    cases e
  · rw [h] at e
    have := Option.some.inj e
    omega

theorem below_nil {W W' : World} (h : W.grownBy W' (Value.slice none 0 0).ownBlock) : Below W.heap.size W W' := ⟨h.os, h.tape, h.output, h.size, fun b hb => h.block b hb (fun e => by cases e)⟩

/-- four variables of four cells each, just laid -/
theorem four_vars (w : World) (a b c d e f g h i j k l m n o p : Value) (t1 t2 t3 t4 : TypeId) :
    ∃ V, V = ((((w.alloc (.cells #[a, b, c, d] t1)).alloc (.cells #[e, f, g, h] t2)).alloc (.cells #[i, j, k, l] t3)).alloc (.cells #[m, n, o, p] t4)) ∧
      Below w.heap.size w V ∧ Quad V w.heap.size a b c d ∧ Quad V (w.heap.size + 1) e f g h ∧ Quad V (w.heap.size + 1 + 1) i j k l ∧ Quad V (w.heap.size + 1 + 1 + 1) m n o p := by
  refine ⟨_, rfl, ?_⟩
  have b1 := (Below.refl w.heap.size w).alloc (Nat.le_refl _) (.cells #[a, b, c, d] t1)
  have q1 := Quad.new w a b c d t1
  have s1 : (w.alloc (.cells #[a, b, c, d] t1)).heap.size = w.heap.size + 1 := by simp
  generalize w.alloc (.cells #[a, b, c, d] t1) = W1 at *
  have b2 := (Below.refl W1.heap.size W1).alloc (Nat.le_refl _) (.cells #[e, f, g, h] t2)
  have q2 := Quad.new W1 e f g h t2
  have s2 : (W1.alloc (.cells #[e, f, g, h] t2)).heap.size = w.heap.size + 1 + 1 := by simp [s1]
  rw [s1] at q2
  generalize W1.alloc (.cells #[e, f, g, h] t2) = W2 at *
  have b3 := (Below.refl W2.heap.size W2).alloc (Nat.le_refl _) (.cells #[i, j, k, l] t3)
  have q3 := Quad.new W2 i j k l t3
  have s3 : (W2.alloc (.cells #[i, j, k, l] t3)).heap.size = w.heap.size + 1 + 1 + 1 := by simp [s2]
  rw [s2] at q3
  generalize W2.alloc (.cells #[i, j, k, l] t3) = W3 at *
  have b4 := (Below.refl W3.heap.size W3).alloc (Nat.le_refl _) (.cells #[m, n, o, p] t4)
  have q4 := Quad.new W3 m n o p t4
  rw [s3] at q4
  exact ⟨b1.trans ((b2.trans ((b3.trans (b4.mono (by omega))).mono (by omega))).mono (by omega)), ((q1.later b2).later b3).later b4, (q2.later b3).later b4, q3.later b4, q4⟩

end Go.Proofs.Ytfaejcdbjcklpaa
