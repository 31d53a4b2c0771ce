/- Appending a slice of bytes to a row of the call's own, and where the row lies then. -/
import Derived.Test.YtndnbkgejdindaaOctAppend
import Derived.Maps.AppendAt
namespace Go.Proofs.Ytndnbkgejdindaa
open Go.ChangeShapes Go.WideShapes Go.ChangeAt Go.RowKit

theorem wpList_append_oct_at {w : World} {ops : Array Oper} {rest : List Oper} {o : Oper} {a : Act} {Q : Exit → Act → World → Prop} (hgd : o.guard = none) (s x : Operand)
    (ho : o.op = .call { callee := .builtin .append, args := #[s, x], argTypes := #[34, 34] })
    (base : Nat) (v : Value) (n : Nat) (vs : List Value) (hs : a.eval s = v) (hown : w.ownsRow base 5 1 v n vs)
    (ao : Option Addr) (cap m : Nat) (xs : List Int) (hx : a.eval x = .slice ao m cap) (hm : m = xs.length) (he : Octs w ao cap xs)
    (hbytes : n + m ≤ 140737488355328) (hbase : base ≤ w.heap.size)
    (h : ∀ v' w', w'.ownsRow base 5 1 v' (n + m) (vs ++ xs.map (Value.int .u8)) → w.grownBy w' v.ownBlock → (v'.ownBlock = v.ownBlock ∨ v'.ownBlock = some w.heap.size) → wpList Try.prog ops Q rest (a.put o.dst v') w') : wpList Try.prog ops Q (o :: rest) a w := by
  obtain ⟨i0, hi, hz0, hz1, hz2⟩ := info_parts Try.infoApp
  subst hm
  cases ao with
  | none =>
    have h0 : cap = 0 := he.2.2.1 rfl
    have h1 : xs = [] := List.length_eq_zero_iff.1 (by have := he.1; omega)
    subst h0 h1
    refine wpList_append_own_none hgd s x 34 ho base 5 i0 1 Try.underlying34 hi v n vs hs hown hx ?_
    refine h v w ?_ ⟨rfl, rfl, rfl, Nat.le_refl _, fun _ _ _ => rfl⟩ (.inl rfl)
    simpa using hown
  | some ad =>
    exact wpList_append_own_at w hgd s x 34 ho base 5 i0 (.int .u8 0) 1 1 Try.underlying34 hi hz0 hz1 hz2 rfl (by decide) v n vs hs hown ad xs.length cap (xs.map (Value.int .u8)) hx (by simp) he.news (octs_oneCells xs)
      (by unfold maxLen; omega) (by omega) hbase (fun v' w' h1 h2 _ h4 => h v' w' h1 h2 h4)

/-- bytes in another block than the one that grows stay -/
theorem Octs.grown {w w' : World} {ao : Option Addr} {cap : Nat} {xs : List Int} {row : Option Nat} (h : Octs w ao cap xs) (hg : w.grownBy w' row) (hne : xs ≠ [] → ∀ a, ao = some a → row ≠ some a.block) : Octs w' ao cap xs := by
  refine ⟨h.1, h.2.1, h.2.2.1, h.2.2.2.1, ?_⟩
  by_cases hx : xs = []
  · exact .inl hx
  · rcases h.2.2.2.2 with h' | ⟨b, off, e, hc⟩
    · exact .inl h'
    · exact .inr ⟨b, off, e, fun i hi => hg.cell (hc i hi) (fun e' => hne hx _ e e'.symm)⟩

/-- a row that is older than the bytes lies in another block -/
theorem apart_old {v : Value} {ao : Option Addr} {lo hi B : Nat} (h1 : ∀ k, v.ownBlock = some k → lo ≤ k ∧ k < hi) (h2 : hi ≤ B) (h3 : ∀ a, ao = some a → B ≤ a.block) : ∀ a, ao = some a → v.ownBlock ≠ some a.block := by
  intro a ha e
  have := h1 _ e
  have := h3 a ha
  omega

/-- what an append has made of it, too -/
theorem apart_grown {v v' : Value} {ao : Option Addr} {w : World} {cap : Nat} {xs : List Int} (h : ∀ a, ao = some a → v.ownBlock ≠ some a.block) (he : Octs w ao cap xs) (hat : v'.ownBlock = v.ownBlock ∨ v'.ownBlock = some w.heap.size) : xs ≠ [] → ∀ a, ao = some a → v'.ownBlock ≠ some a.block := by
  intro hx a ha
  rcases hat with e | e
  · rw [e]; exact h a ha
  · rw [e]
    intro e2
    have := he.blocks hx a ha
    have e3 : w.heap.size = a.block := Option.some.inj e2
    omega

/-- a goal that the walk leaves as it is -/
theorem hidGoal {p : Prop} (h : Hid p) : p := h

end Go.Proofs.Ytndnbkgejdindaa
