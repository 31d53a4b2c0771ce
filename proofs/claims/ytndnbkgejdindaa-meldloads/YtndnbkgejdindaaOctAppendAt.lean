/- Rows of bytes: that came in, that an append has laid, or parts of them: as 'Octs'. -/
import Derived.Test.YtndnbkgejdindaaChecked
import Derived.WalkKit
import Derived.ProofKit
import Derived.OwnWalk
import Derived.OpenShut
import Derived.Laws.AppendOwnNone
import Derived.Laws.OwnMore
import Derived.Below
import Derived.Maps.AppendAt
namespace Go.Proofs.Ytndnbkgejdindaa
open Go.ChangeShapes Go.WideShapes Go.ChangeAt Go.RowKit

theorem addr_add (b off j : Nat) : (⟨b, off, none⟩ : Addr).add j = ⟨b, off + j, none⟩ := by unfold Addr.add; split <;> simp_all

/-- the slice at 'ao' of so much room holds the bytes xs -/
def Octs (w : World) (ao : Option Addr) (cap : Nat) (xs : List Int) : Prop :=
  xs.length ≤ cap ∧ xs.length ≤ 140737488351232 ∧ (ao = none → cap = 0) ∧ (∀ y ∈ xs, 0 ≤ y ∧ y ≤ 255) ∧
    (xs = [] ∨ ∃ b off, ao = some ⟨b, off, none⟩ ∧ ∀ i, i < xs.length → w.cell? ⟨b, off + i, none⟩ = some (.int .u8 (xs.getD i 0)))

theorem Octs.at {w : World} {ao : Option Addr} {cap : Nat} {xs : List Int} (h : Octs w ao cap xs) {k : Nat} (hk : k < xs.length) :
    ∃ b off, ao = some ⟨b, off, none⟩ ∧ w.cell? ⟨b, off + k, none⟩ = some (.int .u8 (xs.getD k 0)) ∧ 0 ≤ xs.getD k 0 ∧ xs.getD k 0 ≤ 255 := by
  have hb : xs.getD k 0 ∈ xs := by
    simp only [List.getD, List.getElem?_eq_getElem hk, Option.getD_some]
    exact List.getElem_mem hk
  rcases h.2.2.2.2 with h' | ⟨b, off, e, hc⟩
  · subst h'; simp at hk
  · exact ⟨b, off, e, hc k hk, h.2.2.2.1 _ hb⟩

theorem Octs.blocks {w : World} {ao : Option Addr} {cap : Nat} {xs : List Int} (h : Octs w ao cap xs) (hx : xs ≠ []) : ∀ a, ao = some a → a.block < w.heap.size := by
  intro a ha
  rcases h.2.2.2.2 with h | ⟨b, off, e, hc⟩
  · exact absurd h hx
  · rw [ha] at e
    cases e
    exact World.block_lt_of_cell? _ _ (hc 0 (by cases xs; exact absurd rfl hx; simp))

theorem Octs.below {w w' : World} {ao : Option Addr} {cap : Nat} {xs : List Int} {B : Nat} (h : Octs w ao cap xs) (hb : Below B w w') (hB : xs ≠ [] → ∀ a, ao = some a → a.block < B) : Octs w' ao cap xs := by
  refine ⟨h.1, h.2.1, h.2.2.1, h.2.2.2.1, ?_⟩
  rcases h.2.2.2.2 with h | ⟨b, off, e, hc⟩
  · exact .inl h
  · by_cases hx : xs = []
    · exact .inl hx
    · exact .inr ⟨b, off, e, fun i hi => (hb.cell (show b < B from hB hx _ e)).trans (hc i hi)⟩

/-- what a slice holds stands behind whatever lays new blocks alone -/
theorem Octs.later {w w' : World} {ao : Option Addr} {cap : Nat} {xs : List Int} (h : Octs w ao cap xs) (hb : Below w.heap.size w w') : Octs w' ao cap xs :=
  h.below hb h.blocks

/-- the first bytes of a slice -/
theorem Octs.take {w : World} {ao : Option Addr} {cap : Nat} {xs : List Int} (h : Octs w ao cap xs) (k : Nat) : Octs w ao cap (xs.take k) := by
  have h1 := h.1
  have h2 := h.2.1
  refine ⟨by simp; omega, by simp; omega, h.2.2.1, fun y hy => h.2.2.2.1 y (List.mem_of_mem_take hy), ?_⟩
  rcases h.2.2.2.2 with h' | ⟨b, off, e, hc⟩
  · left; subst h'; simp
  · right
    refine ⟨b, off, e, fun i hi => ?_⟩
    simp only [List.length_take] at hi
    rw [hc i (by omega)]
    simp [List.getD, show i < k by omega]

/-- a slice that holds nothing -/
theorem Octs.nil (w : World) (ao : Option Addr) (cap : Nat) (h : ao = none → cap = 0) : Octs w ao cap [] := ⟨by simp, by simp, h, by simp, .inl rfl⟩

/-- its cells, as an append reads them -/
theorem Octs.news {w : World} {x : Addr} {cap : Nat} {xs : List Int} (h : Octs w (some x) cap xs) : ∀ j u, (xs.map (Value.int .u8))[j]? = some u → w.cell? (x.add j) = some u := by
  intro j u hj
  by_cases hk : j < xs.length
  · rcases h.2.2.2.2 with h' | ⟨b, off, e, hc⟩
    · subst h'; simp at hk
    · cases e
      simp only [List.getElem?_map, List.getElem?_eq_getElem hk, Option.map_some, Option.some.injEq] at hj
      subst hj
      have := hc j hk
      simp only [List.getD, List.getElem?_eq_getElem hk, Option.getD_some] at this
      rw [addr_add]
      exact this
  · rw [List.getElem?_eq_none (by simpa using hk)] at hj
    cases hj

theorem octs_oneCells (xs : List Int) : ∀ u ∈ xs.map (Value.int .u8), u.oneCell' = true := by
  intro u hu
  obtain ⟨x, _, rfl⟩ := List.mem_map.1 hu
  rfl

/-- a slice of bytes that came in holds its first ones -/
theorem row_octs {w : World} {a : Option Addr} {len cap : Nat} {zs : List Int} (r : cap ≤ 140737488351232)
    (h : (a = none ∧ len = 0 ∧ cap = 0 ∧ zs = []) ∨ ∃ x, a = some x ∧ len ≤ cap ∧ cap ≤ maxLen ∧ zs.length = cap ∧ (∀ i, i < zs.length → w.cell? (x.add i) = some (.int .u8 (zs.getD i 0))) ∧ ∀ n ∈ zs, (Lit.int .u8 n).wf = true) :
    ∃ xs : List Int, len = xs.length ∧ Octs w a cap xs := by
  rcases h with ⟨rfl, rfl, rfl, rfl⟩ | ⟨x, rfl, hl, hm, hz, hc, hw⟩
  · exact ⟨[], rfl, Octs.nil _ _ _ (fun _ => rfl)⟩
  · refine ⟨zs.take len, by simp; omega, by simp; omega, by simp; omega, (fun h => by cases h), ?_, ?_⟩
    · intro y hy
      have := hw y (List.mem_of_mem_take hy)
      simp [Lit.wf, IntKind.min, IntKind.max, IntKind.bits, IntKind.signed] at this
      omega
    · by_cases h0 : len = 0
      · left; subst h0; simp
      · right
        obtain ⟨b, off, spot⟩ := x
        have h1 := hc 0 (by omega)
        have hspot : spot = none := by simpa [Addr.add] using World.cell?_spot h1
        subst hspot
        refine ⟨b, off, rfl, ?_⟩
        intro i hi
        simp only [List.length_take] at hi
        have h2 := hc i (by omega)
        rw [addr_add] at h2
        rw [h2]
        simp [List.getD, show i < len by omega]

/-- a row that the call itself has laid, where it is not empty -/
theorem own_form {w : World} {base size n : Nat} {e : TypeId} {v : Value} {vs : List Value} (h : w.ownsRow base e size v n vs) (hn : 0 < n) : ∃ g cap, v = .slice (some ⟨g, 0, none⟩) n cap := by
  rcases h.2 with ⟨_, h0⟩ | ⟨g, cap, cur, h1, _⟩
  · omega
  · exact ⟨g, cap, h1⟩

/-- a row that the call itself has laid holds its bytes -/
theorem own_octs {w : World} {base n : Nat} {e : TypeId} {v : Value} {xs : List Int} {vs : List Value} (hn : n = xs.length) (hv : vs = xs.map (Value.int .u8)) (hb : xs.length ≤ 140737488351232) (hy : ∀ y ∈ xs, 0 ≤ y ∧ y ≤ 255) (h : w.ownsRow base e 1 v n vs) :
    ∃ ao cap, v = .slice ao xs.length cap ∧ Octs w ao cap xs := by
  subst hn hv
  rcases h.2 with ⟨h1, h2⟩ | ⟨g, cap, cur, h1, h2, h3, h4, h5, h6, h7⟩
  · have : xs = [] := List.length_eq_zero_iff.1 h2
    subst this
    exact ⟨none, 0, h1, Octs.nil _ _ _ (fun _ => rfl)⟩
  · subst h1
    refine ⟨_, _, rfl, h4, hb, (fun h => by cases h), hy, .inr ⟨g, 0, rfl, fun i hi => ?_⟩⟩
    have hc := h.cellAt i (by omega)
    rw [Nat.zero_add, hc]
    simp [List.getD, List.getElem?_eq_getElem hi]

end Go.Proofs.Ytndnbkgejdindaa

/- Appending a slice of bytes, whichever it is, to a row that the call itself has laid. -/
namespace Go.Proofs.Ytndnbkgejdindaa
open Go.ChangeShapes Go.WideShapes Go.ChangeAt Go.RowKit

theorem Try.infoApp : (Try.prog.info? 5).map (fun i => (i.zero, i.size, i.bytes)) = some (some (.int .u8 0), 1, 1) := by kernel_rfl

theorem wpList_append_oct {w : World} {ops : Array Oper} {rest : List Oper} {o : Oper} {a : Act} {Q : Exit → Act → World → Prop} (hgd : o.guard = none) (s x : Operand)
    (ho : o.op = .call { callee := .builtin .append, args := #[s, x], argTypes := #[34, 34] })
    (base : Nat) (v : Value) (n : Nat) (vs : List Value) (hs : a.eval s = v) (hown : w.ownsRow base 5 1 v n vs)
    (ao : Option Addr) (cap m : Nat) (xs : List Int) (hx : a.eval x = .slice ao m cap) (hm : m = xs.length) (he : Octs w ao cap xs)
    (hbytes : n + m ≤ 140737488355328) (hbase : base ≤ w.heap.size)
    (h : ∀ v' w', w'.ownsRow base 5 1 v' (n + m) (vs ++ xs.map (Value.int .u8)) → w.grownBy w' v.ownBlock → wpList Try.prog ops Q rest (a.put o.dst v') w') : wpList Try.prog ops Q (o :: rest) a w := by
  obtain ⟨i0, hi, hz0, hz1, hz2⟩ := info_parts Try.infoApp
  subst hm
  cases ao with
  | none =>
    have h0 : cap = 0 := he.2.2.1 rfl
    have h1 : xs = [] := List.length_eq_zero_iff.1 (by have := he.1; omega)
    subst h0 h1
    refine wpList_append_own_none hgd s x 34 ho base 5 i0 1 Try.underlying34 hi v n vs hs hown hx ?_
    refine h v w ?_ ⟨rfl, rfl, rfl, Nat.le_refl _, fun _ _ _ => rfl⟩
    simpa using hown
  | some ad =>
    exact wpList_append_own w hgd s x 34 ho base 5 i0 (.int .u8 0) 1 1 Try.underlying34 hi hz0 hz1 hz2 rfl (by decide) v n vs hs hown ad xs.length cap (xs.map (Value.int .u8)) hx (by simp) he.news (octs_oneCells xs)
      (by unfold maxLen; omega) (by omega) hbase (fun v' w' h1 h2 _ => h v' w' h1 h2)

/-- a row of the call's own lies in new memory -/
theorem own_new {w : World} {base size n m cap : Nat} {e : TypeId} {ao : Option Addr} {vs : List Value} (h : w.ownsRow base e size (.slice ao m cap) n vs) : ∀ a, ao = some a → base ≤ a.block := by
  intro a ha
  subst ha
  exact (h.lt a.block rfl).1

end Go.Proofs.Ytndnbkgejdindaa

/- Appending a slice of bytes to a row of the call's own, and where the row lies then. -/
namespace Go.Proofs.Ytndnbkgejdindaa
open Go.ChangeShapes Go.WideShapes Go.ChangeAt Go.RowKit

theorem wpList_append_oct_at {w : World} {ops : Array Oper} {rest : List Oper} {o : Oper} {a : Act} {Q : Exit → Act → World → Prop} (hgd : o.guard = none) (s x : Operand)
    (ho : o.op = .call { callee := .builtin .append, args := #[s, x], argTypes := #[34, 34] })
    (base : Nat) (v : Value) (n : Nat) (vs : List Value) (hs : a.eval s = v) (hown : w.ownsRow base 5 1 v n vs)
    (ao : Option Addr) (cap m : Nat) (xs : List Int) (hx : a.eval x = .slice ao m cap) (hm : m = xs.length) (he : Octs w ao cap xs)
    (hbytes : n + m ≤ 140737488355328) (hbase : base ≤ w.heap.size)
    (h : ∀ v' w', w'.ownsRow base 5 1 v' (n + m) (vs ++ xs.map (Value.int .u8)) → w.grownBy w' v.ownBlock → (v'.ownBlock = v.ownBlock ∨ v'.ownBlock = some w.heap.size) → wpList Try.prog ops Q rest (a.put o.dst v') w') : wpList Try.prog ops Q (o :: rest) a w := by
  obtain ⟨i0, hi, hz0, hz1, hz2⟩ := info_parts Try.infoApp
  subst hm
  cases ao with
  | none =>
    have h0 : cap = 0 := he.2.2.1 rfl
    have h1 : xs = [] := List.length_eq_zero_iff.1 (by have := he.1; omega)
    subst h0 h1
    refine wpList_append_own_none hgd s x 34 ho base 5 i0 1 Try.underlying34 hi v n vs hs hown hx ?_
    refine h v w ?_ ⟨rfl, rfl, rfl, Nat.le_refl _, fun _ _ _ => rfl⟩ (.inl rfl)
    simpa using hown
  | some ad =>
    exact wpList_append_own_at w hgd s x 34 ho base 5 i0 (.int .u8 0) 1 1 Try.underlying34 hi hz0 hz1 hz2 rfl (by decide) v n vs hs hown ad xs.length cap (xs.map (Value.int .u8)) hx (by simp) he.news (octs_oneCells xs)
      (by unfold maxLen; omega) (by omega) hbase (fun v' w' h1 h2 _ h4 => h v' w' h1 h2 h4)

/-- bytes in another block than the one that grows stay -/
theorem Octs.grown {w w' : World} {ao : Option Addr} {cap : Nat} {xs : List Int} {row : Option Nat} (h : Octs w ao cap xs) (hg : w.grownBy w' row) (hne : xs ≠ [] → ∀ a, ao = some a → row ≠ some a.block) : Octs w' ao cap xs := by
  refine ⟨h.1, h.2.1, h.2.2.1, h.2.2.2.1, ?_⟩
  by_cases hx : xs = []
  · exact .inl hx
  · rcases h.2.2.2.2 with h' | ⟨b, off, e, hc⟩
    · exact .inl h'
    · exact .inr ⟨b, off, e, fun i hi => hg.cell (hc i hi) (fun e' => hne hx _ e e'.symm)⟩

/-- a row that is older than the bytes lies in another block -/
theorem apart_old {v : Value} {ao : Option Addr} {lo hi B : Nat} (h1 : ∀ k, v.ownBlock = some k → lo ≤ k ∧ k < hi) (h2 : hi ≤ B) (h3 : ∀ a, ao = some a → B ≤ a.block) : ∀ a, ao = some a → v.ownBlock ≠ some a.block := by
  intro a ha e
  have := h1 _ e
  have := h3 a ha
  omega

/-- what an append has made of it, too -/
theorem apart_grown {v v' : Value} {ao : Option Addr} {w : World} {cap : Nat} {xs : List Int} (h : ∀ a, ao = some a → v.ownBlock ≠ some a.block) (he : Octs w ao cap xs) (hat : v'.ownBlock = v.ownBlock ∨ v'.ownBlock = some w.heap.size) : xs ≠ [] → ∀ a, ao = some a → v'.ownBlock ≠ some a.block := by
  intro hx a ha
  rcases hat with e | e
  · rw [e]; exact h a ha
  · rw [e]
    intro e2
    have := he.blocks hx a ha
    have e3 : w.heap.size = a.block := Option.some.inj e2
    omega

/-- a goal that the walk leaves as it is -/
theorem hidGoal {p : Prop} (h : Hid p) : p := h

end Go.Proofs.Ytndnbkgejdindaa
