/- Appending a slice of bytes, whichever it is, to a row that the call itself has laid. -/
import Derived.Test.YtndnbkgejdindaaOctPlain
namespace Go.Proofs.Ytndnbkgejdindaa
open Go.ChangeShapes Go.WideShapes Go.ChangeAt Go.RowKit

theorem Try.infoApp : (Try.prog.info? 5).map (fun i => (i.zero, i.size, i.bytes)) = some (some (.int .u8 0), 1, 1) := by kernel_rfl

theorem wpList_append_oct {w : World} {ops : Array Oper} {rest : List Oper} {o : Oper} {a : Act} {Q : Exit → Act → World → Prop} (hgd : o.guard = none) (s x : Operand)
    (ho : o.op = .call { callee := .builtin .append, args := #[s, x], argTypes := #[34, 34] })
    (base : Nat) (v : Value) (n : Nat) (vs : List Value) (hs : a.eval s = v) (hown : w.ownsRow base 5 1 v n vs)
    (ao : Option Addr) (cap m : Nat) (xs : List Int) (hx : a.eval x = .slice ao m cap) (hm : m = xs.length) (he : Octs w ao cap xs)
    (hbytes : n + m ≤ 140737488355328) (hbase : base ≤ w.heap.size)
    (h : ∀ v' w', w'.ownsRow base 5 1 v' (n + m) (vs ++ xs.map (Value.int .u8)) → w.grownBy w' v.ownBlock → wpList Try.prog ops Q rest (a.put o.dst v') w') : wpList Try.prog ops Q (o :: rest) a w := by
  obtain ⟨i0, hi, hz0, hz1, hz2⟩ := info_parts Try.infoApp
  subst hm
  cases ao with
  | none =>
    have h0 : cap = 0 := he.2.2.1 rfl
    have h1 : xs = [] := List.length_eq_zero_iff.1 (by have := he.1; omega)
    subst h0 h1
    refine wpList_append_own_none hgd s x 34 ho base 5 i0 1 Try.underlying34 hi v n vs hs hown hx ?_
    refine h v w ?_ ⟨rfl, rfl, rfl, Nat.le_refl _, fun _ _ _ => rfl⟩
    simpa using hown
  | some ad =>
    exact wpList_append_own w hgd s x 34 ho base 5 i0 (.int .u8 0) 1 1 Try.underlying34 hi hz0 hz1 hz2 rfl (by decide) v n vs hs hown ad xs.length cap (xs.map (Value.int .u8)) hx (by simp) he.news (octs_oneCells xs)
      (by unfold maxLen; omega) (by omega) hbase (fun v' w' h1 h2 _ => h v' w' h1 h2)

/-- a row of the call's own lies in new memory -/
theorem own_new {w : World} {base size n m cap : Nat} {e : TypeId} {ao : Option Addr} {vs : List Value} (h : w.ownsRow base e size (.slice ao m cap) n vs) : ∀ a, ao = some a → base ≤ a.block := by
  intro a ha
  subst ha
  exact (h.lt a.block rfl).1

end Go.Proofs.Ytndnbkgejdindaa
