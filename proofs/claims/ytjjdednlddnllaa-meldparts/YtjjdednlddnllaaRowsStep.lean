/- Rows of bytes: that came in, that an append has laid, or parts of them: as 'Octs'. -/
import Derived.Test.YtjjdednlddnllaaChecked
import Derived.WalkKit
import Derived.ProofKit
import Derived.OwnWalk
import Derived.OpenShut
import Derived.Laws.AppendOwnNone
import Derived.Laws.OwnMore
import Derived.Below
import Derived.Maps.AppendAt
namespace Go.Proofs.Ytjjdednlddnllaa
open Go.ChangeShapes Go.WideShapes Go.ChangeAt Go.RowKit

theorem addr_add (b off j : Nat) : (⟨b, off, none⟩ : Addr).add j = ⟨b, off + j, none⟩ := by unfold Addr.add; split <;> simp_all

/-- the slice at 'ao' of so much room holds the bytes xs -/
def Octs (w : World) (ao : Option Addr) (cap : Nat) (xs : List Int) : Prop :=
  xs.length ≤ cap ∧ xs.length ≤ 140737488351232 ∧ (ao = none → cap = 0) ∧ (∀ y ∈ xs, 0 ≤ y ∧ y ≤ 255) ∧
    (xs = [] ∨ ∃ b off, ao = some ⟨b, off, none⟩ ∧ ∀ i, i < xs.length → w.cell? ⟨b, off + i, none⟩ = some (.int .u8 (xs.getD i 0)))

theorem Octs.at {w : World} {ao : Option Addr} {cap : Nat} {xs : List Int} (h : Octs w ao cap xs) {k : Nat} (hk : k < xs.length) :
    ∃ b off, ao = some ⟨b, off, none⟩ ∧ w.cell? ⟨b, off + k, none⟩ = some (.int .u8 (xs.getD k 0)) ∧ 0 ≤ xs.getD k 0 ∧ xs.getD k 0 ≤ 255 := by
  have hb : xs.getD k 0 ∈ xs := by
    simp only [List.getD, List.getElem?_eq_getElem hk, Option.getD_some]
    exact List.getElem_mem hk
  rcases h.2.2.2.2 with h' | ⟨b, off, e, hc⟩
  · subst h'; simp at hk
  · exact ⟨b, off, e, hc k hk, h.2.2.2.1 _ hb⟩

theorem Octs.blocks {w : World} {ao : Option Addr} {cap : Nat} {xs : List Int} (h : Octs w ao cap xs) (hx : xs ≠ []) : ∀ a, ao = some a → a.block < w.heap.size := by
  intro a ha
  rcases h.2.2.2.2 with h | ⟨b, off, e, hc⟩
  · exact absurd h hx
  · rw [ha] at e
    cases e
    exact World.block_lt_of_cell? _ _ (hc 0 (by cases xs; exact absurd rfl hx; simp))

theorem Octs.below {w w' : World} {ao : Option Addr} {cap : Nat} {xs : List Int} {B : Nat} (h : Octs w ao cap xs) (hb : Below B w w') (hB : xs ≠ [] → ∀ a, ao = some a → a.block < B) : Octs w' ao cap xs := by
  refine ⟨h.1, h.2.1, h.2.2.1, h.2.2.2.1, ?_⟩
  rcases h.2.2.2.2 with h | ⟨b, off, e, hc⟩
  · exact .inl h
  · by_cases hx : xs = []
    · exact .inl hx
    · exact .inr ⟨b, off, e, fun i hi => (hb.cell (show b < B from hB hx _ e)).trans (hc i hi)⟩

/-- what a slice holds stands behind whatever lays new blocks alone -/
theorem Octs.later {w w' : World} {ao : Option Addr} {cap : Nat} {xs : List Int} (h : Octs w ao cap xs) (hb : Below w.heap.size w w') : Octs w' ao cap xs :=
  h.below hb h.blocks

/-- the first bytes of a slice -/
theorem Octs.take {w : World} {ao : Option Addr} {cap : Nat} {xs : List Int} (h : Octs w ao cap xs) (k : Nat) : Octs w ao cap (xs.take k) := by
  have h1 := h.1
  have h2 := h.2.1
  refine ⟨by simp; omega, by simp; omega, h.2.2.1, fun y hy => h.2.2.2.1 y (List.mem_of_mem_take hy), ?_⟩
  rcases h.2.2.2.2 with h' | ⟨b, off, e, hc⟩
  · left; subst h'; simp
  · right
    refine ⟨b, off, e, fun i hi => ?_⟩
    simp only [List.length_take] at hi
    rw [hc i (by omega)]
    simp [List.getD, show i < k by omega]

/-- a slice that holds nothing -/
theorem Octs.nil (w : World) (ao : Option Addr) (cap : Nat) (h : ao = none → cap = 0) : Octs w ao cap [] := ⟨by simp, by simp, h, by simp, .inl rfl⟩

/-- its cells, as an append reads them -/
theorem Octs.news {w : World} {x : Addr} {cap : Nat} {xs : List Int} (h : Octs w (some x) cap xs) : ∀ j u, (xs.map (Value.int .u8))[j]? = some u → w.cell? (x.add j) = some u := by
  intro j u hj
  by_cases hk : j < xs.length
  · rcases h.2.2.2.2 with h' | ⟨b, off, e, hc⟩
    · subst h'; simp at hk
    · cases e
      simp only [List.getElem?_map, List.getElem?_eq_getElem hk, Option.map_some, Option.some.injEq] at hj
      subst hj
      have := hc j hk
      simp only [List.getD, List.getElem?_eq_getElem hk, Option.getD_some] at this
      rw [addr_add]
      exact this
  · rw [List.getElem?_eq_none (by simpa using hk)] at hj
    cases hj

theorem octs_oneCells (xs : List Int) : ∀ u ∈ xs.map (Value.int .u8), u.oneCell' = true := by
  intro u hu
  obtain ⟨x, _, rfl⟩ := List.mem_map.1 hu
  rfl

/-- a slice of bytes that came in holds its first ones -/
theorem row_octs {w : World} {a : Option Addr} {len cap : Nat} {zs : List Int} (r : cap ≤ 140737488351232)
    (h : (a = none ∧ len = 0 ∧ cap = 0 ∧ zs = []) ∨ ∃ x, a = some x ∧ len ≤ cap ∧ cap ≤ maxLen ∧ zs.length = cap ∧ (∀ i, i < zs.length → w.cell? (x.add i) = some (.int .u8 (zs.getD i 0))) ∧ ∀ n ∈ zs, (Lit.int .u8 n).wf = true) :
    ∃ xs : List Int, len = xs.length ∧ Octs w a cap xs := by
  rcases h with ⟨rfl, rfl, rfl, rfl⟩ | ⟨x, rfl, hl, hm, hz, hc, hw⟩
  · exact ⟨[], rfl, Octs.nil _ _ _ (fun _ => rfl)⟩
  · refine ⟨zs.take len, by simp; omega, by simp; omega, by simp; omega, (fun h => by cases h), ?_, ?_⟩
    · intro y hy
      have := hw y (List.mem_of_mem_take hy)
      simp [Lit.wf, IntKind.min, IntKind.max, IntKind.bits, IntKind.signed] at this
      omega
    · by_cases h0 : len = 0
      · left; subst h0; simp
      · right
        obtain ⟨b, off, spot⟩ := x
        have h1 := hc 0 (by omega)
        have hspot : spot = none := by simpa [Addr.add] using World.cell?_spot h1
        subst hspot
        refine ⟨b, off, rfl, ?_⟩
        intro i hi
        simp only [List.length_take] at hi
        have h2 := hc i (by omega)
        rw [addr_add] at h2
        rw [h2]
        simp [List.getD, show i < len by omega]

/-- a row that the call itself has laid, where it is not empty -/
theorem own_form {w : World} {base size n : Nat} {e : TypeId} {v : Value} {vs : List Value} (h : w.ownsRow base e size v n vs) (hn : 0 < n) : ∃ g cap, v = .slice (some ⟨g, 0, none⟩) n cap := by
  rcases h.2 with ⟨_, h0⟩ | ⟨g, cap, cur, h1, _⟩
  · omega
  · exact ⟨g, cap, h1⟩

/-- a row that the call itself has laid holds its bytes -/
theorem own_octs {w : World} {base n : Nat} {e : TypeId} {v : Value} {xs : List Int} {vs : List Value} (hn : n = xs.length) (hv : vs = xs.map (Value.int .u8)) (hb : xs.length ≤ 140737488351232) (hy : ∀ y ∈ xs, 0 ≤ y ∧ y ≤ 255) (h : w.ownsRow base e 1 v n vs) :
    ∃ ao cap, v = .slice ao xs.length cap ∧ Octs w ao cap xs := by
  subst hn hv
  rcases h.2 with ⟨h1, h2⟩ | ⟨g, cap, cur, h1, h2, h3, h4, h5, h6, h7⟩
  · have : xs = [] := List.length_eq_zero_iff.1 h2
    subst this
    exact ⟨none, 0, h1, Octs.nil _ _ _ (fun _ => rfl)⟩
  · subst h1
    refine ⟨_, _, rfl, h4, hb, (fun h => by cases h), hy, .inr ⟨g, 0, rfl, fun i hi => ?_⟩⟩
    have hc := h.cellAt i (by omega)
    rw [Nat.zero_add, hc]
    simp [List.getD, List.getElem?_eq_getElem hi]

end Go.Proofs.Ytjjdednlddnllaa

/- Appending a slice of bytes, whichever it is, to a row that the call itself has laid. -/
namespace Go.Proofs.Ytjjdednlddnllaa
open Go.ChangeShapes Go.WideShapes Go.ChangeAt Go.RowKit

theorem Try.infoApp : (Try.prog.info? 5).map (fun i => (i.zero, i.size, i.bytes)) = some (some (.int .u8 0), 1, 1) := by kernel_rfl

theorem wpList_append_oct {w : World} {ops : Array Oper} {rest : List Oper} {o : Oper} {a : Act} {Q : Exit → Act → World → Prop} (hgd : o.guard = none) (s x : Operand)
    (ho : o.op = .call { callee := .builtin .append, args := #[s, x], argTypes := #[38, 38] })
    (base : Nat) (v : Value) (n : Nat) (vs : List Value) (hs : a.eval s = v) (hown : w.ownsRow base 5 1 v n vs)
    (ao : Option Addr) (cap m : Nat) (xs : List Int) (hx : a.eval x = .slice ao m cap) (hm : m = xs.length) (he : Octs w ao cap xs)
    (hbytes : n + m ≤ 140737488355328) (hbase : base ≤ w.heap.size)
    (h : ∀ v' w', w'.ownsRow base 5 1 v' (n + m) (vs ++ xs.map (Value.int .u8)) → w.grownBy w' v.ownBlock → wpList Try.prog ops Q rest (a.put o.dst v') w') : wpList Try.prog ops Q (o :: rest) a w := by
  obtain ⟨i0, hi, hz0, hz1, hz2⟩ := info_parts Try.infoApp
  subst hm
  cases ao with
  | none =>
    have h0 : cap = 0 := he.2.2.1 rfl
    have h1 : xs = [] := List.length_eq_zero_iff.1 (by have := he.1; omega)
    subst h0 h1
    refine wpList_append_own_none hgd s x 38 ho base 5 i0 1 Try.underlying38 hi v n vs hs hown hx ?_
    refine h v w ?_ ⟨rfl, rfl, rfl, Nat.le_refl _, fun _ _ _ => rfl⟩
    simpa using hown
  | some ad =>
    exact wpList_append_own w hgd s x 38 ho base 5 i0 (.int .u8 0) 1 1 Try.underlying38 hi hz0 hz1 hz2 rfl (by decide) v n vs hs hown ad xs.length cap (xs.map (Value.int .u8)) hx (by simp) he.news (octs_oneCells xs)
      (by unfold maxLen; omega) (by omega) hbase (fun v' w' h1 h2 _ => h v' w' h1 h2)

/-- a row of the call's own lies in new memory -/
theorem own_new {w : World} {base size n m cap : Nat} {e : TypeId} {ao : Option Addr} {vs : List Value} (h : w.ownsRow base e size (.slice ao m cap) n vs) : ∀ a, ao = some a → base ≤ a.block := by
  intro a ha
  subst ha
  exact (h.lt a.block rfl).1

end Go.Proofs.Ytjjdednlddnllaa

/- Appending a slice of bytes to a row of the call's own, and where the row lies then. -/
namespace Go.Proofs.Ytjjdednlddnllaa
open Go.ChangeShapes Go.WideShapes Go.ChangeAt Go.RowKit

theorem wpList_append_oct_at {w : World} {ops : Array Oper} {rest : List Oper} {o : Oper} {a : Act} {Q : Exit → Act → World → Prop} (hgd : o.guard = none) (s x : Operand)
    (ho : o.op = .call { callee := .builtin .append, args := #[s, x], argTypes := #[38, 38] })
    (base : Nat) (v : Value) (n : Nat) (vs : List Value) (hs : a.eval s = v) (hown : w.ownsRow base 5 1 v n vs)
    (ao : Option Addr) (cap m : Nat) (xs : List Int) (hx : a.eval x = .slice ao m cap) (hm : m = xs.length) (he : Octs w ao cap xs)
    (hbytes : n + m ≤ 140737488355328) (hbase : base ≤ w.heap.size)
    (h : ∀ v' w', w'.ownsRow base 5 1 v' (n + m) (vs ++ xs.map (Value.int .u8)) → w.grownBy w' v.ownBlock → (v'.ownBlock = v.ownBlock ∨ v'.ownBlock = some w.heap.size) → wpList Try.prog ops Q rest (a.put o.dst v') w') : wpList Try.prog ops Q (o :: rest) a w := by
  obtain ⟨i0, hi, hz0, hz1, hz2⟩ := info_parts Try.infoApp
  subst hm
  cases ao with
  | none =>
    have h0 : cap = 0 := he.2.2.1 rfl
    have h1 : xs = [] := List.length_eq_zero_iff.1 (by have := he.1; omega)
    subst h0 h1
    refine wpList_append_own_none hgd s x 38 ho base 5 i0 1 Try.underlying38 hi v n vs hs hown hx ?_
    refine h v w ?_ ⟨rfl, rfl, rfl, Nat.le_refl _, fun _ _ _ => rfl⟩ (.inl rfl)
    simpa using hown
  | some ad =>
    exact wpList_append_own_at w hgd s x 38 ho base 5 i0 (.int .u8 0) 1 1 Try.underlying38 hi hz0 hz1 hz2 rfl (by decide) v n vs hs hown ad xs.length cap (xs.map (Value.int .u8)) hx (by simp) he.news (octs_oneCells xs)
      (by unfold maxLen; omega) (by omega) hbase (fun v' w' h1 h2 _ h4 => h v' w' h1 h2 h4)

/-- bytes in another block than the one that grows stay -/
theorem Octs.grown {w w' : World} {ao : Option Addr} {cap : Nat} {xs : List Int} {row : Option Nat} (h : Octs w ao cap xs) (hg : w.grownBy w' row) (hne : xs ≠ [] → ∀ a, ao = some a → row ≠ some a.block) : Octs w' ao cap xs := by
  refine ⟨h.1, h.2.1, h.2.2.1, h.2.2.2.1, ?_⟩
  by_cases hx : xs = []
  · exact .inl hx
  · rcases h.2.2.2.2 with h' | ⟨b, off, e, hc⟩
    · exact .inl h'
    · exact .inr ⟨b, off, e, fun i hi => hg.cell (hc i hi) (fun e' => hne hx _ e e'.symm)⟩

/-- a row that is older than the bytes lies in another block -/
theorem apart_old {v : Value} {ao : Option Addr} {lo hi B : Nat} (h1 : ∀ k, v.ownBlock = some k → lo ≤ k ∧ k < hi) (h2 : hi ≤ B) (h3 : ∀ a, ao = some a → B ≤ a.block) : ∀ a, ao = some a → v.ownBlock ≠ some a.block := by
  intro a ha e
  have := h1 _ e
  have := h3 a ha
  omega

/-- what an append has made of it, too -/
theorem apart_grown {v v' : Value} {ao : Option Addr} {w : World} {cap : Nat} {xs : List Int} (h : ∀ a, ao = some a → v.ownBlock ≠ some a.block) (he : Octs w ao cap xs) (hat : v'.ownBlock = v.ownBlock ∨ v'.ownBlock = some w.heap.size) : xs ≠ [] → ∀ a, ao = some a → v'.ownBlock ≠ some a.block := by
  intro hx a ha
  rcases hat with e | e
  · rw [e]; exact h a ha
  · rw [e]
    intro e2
    have := he.blocks hx a ha
    have e3 : w.heap.size = a.block := Option.some.inj e2
    omega

/-- a goal that the walk leaves as it is -/
theorem hidGoal {p : Prop} (h : Hid p) : p := h

end Go.Proofs.Ytjjdednlddnllaa

/- A row of the call's own stands behind whatever lays new blocks alone. -/
namespace Go.Proofs.Ytjjdednlddnllaa
open Go.ChangeShapes Go.WideShapes Go.ChangeAt Go.RowKit

theorem own_stays {w w' : World} {base size n : Nat} {e : TypeId} {v : Value} {vs : List Value} (h : w.ownsRow base e size v n vs) (hb : Below w.heap.size w w') : w'.ownsRow base e size v n vs := by
  refine ⟨h.1, ?_⟩
  rcases h.2 with h' | ⟨g, cap, cur, h', h1, h2, h3⟩
  · exact .inl h'
  · have hlt : g < w.heap.size := (h.lt g (by rw [h']; rfl)).2
    exact .inr ⟨g, cap, cur, h', h1, (hb.block g hlt).trans h2, h3⟩

end Go.Proofs.Ytjjdednlddnllaa

/- Rows of rows of bytes: that came in, or that appends have laid. -/
namespace Go.Proofs.Ytjjdednlddnllaa
open Go.ChangeShapes Go.WideShapes Go.ChangeAt Go.RowKit

/-- two lists that go together, place by place -/
def All2 {α β : Type} (R : α → β → Prop) : List α → List β → Prop
  | [], [] => True
  | x :: xs, y :: ys => R x y ∧ All2 R xs ys
  | _, _ => False

theorem All2.imp {α β : Type} {R S : α → β → Prop} (h : ∀ a b, R a b → S a b) : ∀ {xs : List α} {ys : List β}, All2 R xs ys → All2 S xs ys
  | [], [], _ => trivial
  | _ :: _, _ :: _, hh => ⟨h _ _ hh.1, All2.imp h hh.2⟩
  | [], _ :: _, hh => hh.elim
  | _ :: _, [], hh => hh.elim

theorem All2.length {α β : Type} {R : α → β → Prop} : ∀ {xs : List α} {ys : List β}, All2 R xs ys → xs.length = ys.length
  | [], [], _ => rfl
  | _ :: _, _ :: _, hh => by simp [All2.length hh.2]
  | [], _ :: _, hh => hh.elim
  | _ :: _, [], hh => hh.elim

theorem All2.snoc {α β : Type} {R : α → β → Prop} {a : α} {b : β} (hab : R a b) : ∀ {xs : List α} {ys : List β}, All2 R xs ys → All2 R (xs ++ [a]) (ys ++ [b])
  | [], [], _ => ⟨hab, trivial⟩
  | _ :: _, _ :: _, hh => ⟨hh.1, All2.snoc hab hh.2⟩
  | [], _ :: _, hh => hh.elim
  | _ :: _, [], hh => hh.elim

theorem All2.get {α β : Type} {R : α → β → Prop} (d : β) : ∀ {xs : List α} {ys : List β}, All2 R xs ys → ∀ i, i < ys.length → ∃ a, xs[i]? = some a ∧ R a (ys.getD i d)
  | [], [], _, i, hi => by simp at hi
  | x :: _, _ :: _, hh, 0, _ => ⟨x, rfl, hh.1⟩
  | _ :: _, _ :: _, hh, i + 1, hi => by
    obtain ⟨a, h1, h2⟩ := All2.get d hh.2 i (by simpa using hi)
    exact ⟨a, by simpa using h1, by simpa using h2⟩
  | [], _ :: _, hh, _, _ => hh.elim
  | _ :: _, [], hh, _, _ => hh.elim

/-- a slice of bytes, as a value; where it has any, their block is one that will do -/
def IsBody (w : World) (ok : Nat → Prop) (u : Value) (xs : List Int) : Prop :=
  ∃ a c, u = .slice a xs.length c ∧ Octs w a c xs ∧ (xs ≠ [] → ∀ ad, a = some ad → ok ad.block)

theorem IsBody.later {w w' : World} {ok : Nat → Prop} {u : Value} {xs : List Int} (h : IsBody w ok u xs) (hb : Below w.heap.size w w') : IsBody w' ok u xs := by
  obtain ⟨a, c, e, o, hk⟩ := h
  exact ⟨a, c, e, o.later hb, hk⟩

theorem IsBody.grown {w w' : World} {ok : Nat → Prop} {u : Value} {xs : List Int} {row : Option Nat} (h : IsBody w ok u xs) (hg : w.grownBy w' row) (hok : ∀ g, ok g → row ≠ some g) : IsBody w' ok u xs := by
  obtain ⟨a, c, e, o, hk⟩ := h
  exact ⟨a, c, e, o.grown hg (fun hx ad ha => hok _ (hk hx ad ha)), hk⟩

theorem IsBody.ok {w : World} {ok ok' : Nat → Prop} {u : Value} {xs : List Int} (h : IsBody w ok u xs) (hok : ∀ g, g < w.heap.size → ok g → ok' g) : IsBody w ok' u xs := by
  obtain ⟨a, c, e, o, hk⟩ := h
  exact ⟨a, c, e, o, fun hx ad ha => hok _ (o.blocks hx ad ha) (hk hx ad ha)⟩

/-- the slice at 'ao' of so much room holds the slices of bytes xss -/
def Rws (w : World) (ao : Option Addr) (cap : Nat) (xss : List (List Int)) : Prop :=
  xss.length ≤ cap ∧ xss.length ≤ 140737488351232 ∧ (ao = none → cap = 0) ∧
    (xss = [] ∨ ∃ b off, ao = some ⟨b, off, none⟩ ∧ ∀ i, i < xss.length → ∃ a c, w.cell? ⟨b, off + i, none⟩ = some (.slice a (xss.getD i []).length c) ∧ Octs w a c (xss.getD i []))

theorem Rws.at {w : World} {ao : Option Addr} {cap : Nat} {xss : List (List Int)} (h : Rws w ao cap xss) {k : Nat} (hk : k < xss.length) :
    ∃ b off a c, ao = some ⟨b, off, none⟩ ∧ w.cell? ⟨b, off + k, none⟩ = some (.slice a (xss.getD k []).length c) ∧ Octs w a c (xss.getD k []) := by
  rcases h.2.2.2 with h' | ⟨b, off, e, hc⟩
  · subst h'; simp at hk
  · obtain ⟨a, c, h1, h2⟩ := hc k hk
    exact ⟨b, off, a, c, e, h1, h2⟩

theorem Rws.nil (w : World) (ao : Option Addr) (cap : Nat) (h : ao = none → cap = 0) : Rws w ao cap [] := ⟨by simp, by simp, h, .inl rfl⟩

theorem Rws.later {w w' : World} {ao : Option Addr} {cap : Nat} {xss : List (List Int)} (h : Rws w ao cap xss) (hb : Below w.heap.size w w') : Rws w' ao cap xss := by
  refine ⟨h.1, h.2.1, h.2.2.1, ?_⟩
  rcases h.2.2.2 with h' | ⟨b, off, e, hc⟩
  · exact .inl h'
  · refine .inr ⟨b, off, e, fun i hi => ?_⟩
    obtain ⟨a, c, h1, h2⟩ := hc i hi
    exact ⟨a, c, (hb.cell (p := ⟨b, off + i, none⟩) (World.block_lt_of_cell? _ _ h1)).trans h1, h2.later hb⟩

/-- a row of slices that the call itself has laid holds them -/
theorem own_rows {w : World} {base n : Nat} {e : TypeId} {ok : Nat → Prop} {v : Value} {us : List Value} {xss : List (List Int)} (hn : n = xss.length) (hb : xss.length ≤ 140737488351232) (h : w.ownsRow base e 1 v n us) (ha : All2 (IsBody w ok) us xss) :
    ∃ ao cap, v = .slice ao xss.length cap ∧ Rws w ao cap xss := by
  subst hn
  rcases h.2 with ⟨h1, h2⟩ | ⟨g, cap, cur, h1, h2, h3, h4, h5, h6, h7⟩
  · have : xss = [] := List.length_eq_zero_iff.1 h2
    subst this
    exact ⟨none, 0, h1, Rws.nil _ _ _ (fun _ => rfl)⟩
  · subst h1
    refine ⟨_, _, rfl, h4, hb, (fun h => by cases h), .inr ⟨g, 0, rfl, fun i hi => ?_⟩⟩
    obtain ⟨u, hu, a, c, rfl, o, -⟩ := ha.get [] i hi
    have hc := h.cellAt i (by omega)
    rw [hu] at hc
    rw [Nat.zero_add]
    exact ⟨a, c, hc, o⟩

end Go.Proofs.Ytjjdednlddnllaa

/- One slice of bytes more behind a row of slices that the call itself lays. -/
namespace Go.Proofs.Ytjjdednlddnllaa
open Go.ChangeShapes Go.WideShapes Go.ChangeAt Go.RowKit

theorem Try.infoRow : (Try.prog.info? 38).map (fun i => (i.zero, i.size, i.bytes)) = some (some (.slice none 0 0), 1, 24) := by kernel_rfl

/-- a slice is one cell -/
theorem slice_oneCell (a : Option Addr) (n c : Nat) : ∀ u ∈ [Value.slice a n c], u.oneCell' = true := by
  intro u hu
  simp only [List.mem_singleton] at hu
  subst hu
  rfl

/-- not in the block of a row, and not in another one's -/
def Off (u v : Value) (g : Nat) : Prop := u.ownBlock ≠ some g ∧ v.ownBlock ≠ some g

theorem alloc_size (w : World) (o : Obj) : (w.alloc o).heap.size = w.heap.size + 1 := by simp

/-- an append to the row v that the bodies lie apart from: they stand, and lie apart from what has become of it -/
theorem bodies_grown {w w' : World} {ok ok' : Nat → Prop} {v v' : Value} {us : List Value} {xss : List (List Int)} (ha : All2 (IsBody w ok) us xss) (hg : w.grownBy w' v.ownBlock)
    (hv : ∀ g, ok g → v.ownBlock ≠ some g) (hat : v'.ownBlock = v.ownBlock ∨ v'.ownBlock = some w.heap.size) (hok : ∀ g, ok g → v'.ownBlock ≠ some g → ok' g) : All2 (IsBody w' ok') us xss := by
  refine All2.imp (fun u xs h => ?_) ha
  have h1 : IsBody w (fun g => ok g ∧ v'.ownBlock ≠ some g) u xs := h.ok (fun g hg1 hg2 => ⟨hg2, by
    rcases hat with e | e
    · rw [e]; exact hv g hg2
    · rw [e]; intro e2; have e3 : w.heap.size = g := Option.some.inj e2; omega⟩)
  have h2 : IsBody w' (fun g => ok g ∧ v'.ownBlock ≠ some g) u xs := h1.grown hg (fun g h => hv g h.1)
  exact h2.ok (fun g _ h => hok g h.1 h.2)

theorem bodies_later {w w' : World} {ok : Nat → Prop} {us : List Value} {xss : List (List Int)} (ha : All2 (IsBody w ok) us xss) (hb : Below w.heap.size w w') : All2 (IsBody w' ok) us xss :=
  All2.imp (fun _ _ h => h.later hb) ha

/-- one body more -/
theorem rows_step {w wr w1 w2 : World} {B k c : Nat} {E : TypeId} {v v' : Value} {us : List Value} {xss : List (List Int)} {a : Option Addr} {xs : List Int}
    (hown : wr.ownsRow B E 1 v k us) (ha : All2 (IsBody wr (fun g => v.ownBlock ≠ some g)) us xss) (hb : Below B w wr) (hB : B ≤ wr.heap.size)
    (b1 : Below wr.heap.size wr w1) (ho : Octs w1 a c xs) (hf : ∀ ad, a = some ad → wr.heap.size ≤ ad.block)
    (hg : (w1.alloc (.cells #[.slice a xs.length c] E)).grownBy w2 v.ownBlock) (hat : v'.ownBlock = v.ownBlock ∨ v'.ownBlock = some (w1.alloc (.cells #[.slice a xs.length c] E)).heap.size) :
    All2 (IsBody w2 (fun g => v'.ownBlock ≠ some g)) (us ++ [.slice a xs.length c]) (xss ++ [xs]) ∧ Below B w w2 := by
  have h1 : All2 (IsBody w1 (fun g => v.ownBlock ≠ some g)) (us ++ [.slice a xs.length c]) (xss ++ [xs]) := by
    refine All2.snoc ⟨a, c, rfl, ho, fun _ ad hd e => ?_⟩ (bodies_later ha b1)
    have q1 := hf ad hd
    have q2 := (hown.lt _ e).2
    omega
  have hal : Below w1.heap.size w1 (w1.alloc (.cells #[.slice a xs.length c] E)) := (Below.refl _ _).alloc (Nat.le_refl _) _
  have h2 := bodies_later h1 hal
  have s1 := b1.size
  refine ⟨bodies_grown h2 hg (fun _ h => h) hat (fun _ _ h => h), ?_⟩
  have bz := (hb.trans (b1.mono hB)).alloc (by omega) (.cells #[.slice a xs.length c] E)
  exact bz.grown hg (by rw [alloc_size]; omega) (fun g hg => (hown.lt g hg).1)

end Go.Proofs.Ytjjdednlddnllaa
