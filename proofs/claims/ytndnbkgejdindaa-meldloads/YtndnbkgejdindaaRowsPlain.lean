/- Rows of rows of bytes: that came in, or that appends have laid. -/
import Derived.Test.YtndnbkgejdindaaOctAppendAt
import Derived.Test.YtndnbkgejdindaaOwnLater
namespace Go.Proofs.Ytndnbkgejdindaa
open Go.ChangeShapes Go.WideShapes Go.ChangeAt Go.RowKit

/-- two lists that go together, place by place -/
def All2 {α β : Type} (R : α → β → Prop) : List α → List β → Prop
  | [], [] => True
  | x :: xs, y :: ys => R x y ∧ All2 R xs ys
  | _, _ => False

theorem All2.imp {α β : Type} {R S : α → β → Prop} (h : ∀ a b, R a b → S a b) : ∀ {xs : List α} {ys : List β}, All2 R xs ys → All2 S xs ys
  | [], [], _ => trivial
  | _ :: _, _ :: _, hh => ⟨h _ _ hh.1, All2.imp h hh.2⟩
  | [], _ :: _, hh => hh.elim
  | _ :: _, [], hh => hh.elim

theorem All2.length {α β : Type} {R : α → β → Prop} : ∀ {xs : List α} {ys : List β}, All2 R xs ys → xs.length = ys.length
  | [], [], _ => rfl
  | _ :: _, _ :: _, hh => by simp [All2.length hh.2]
  | [], _ :: _, hh => hh.elim
  | _ :: _, [], hh => hh.elim

theorem All2.snoc {α β : Type} {R : α → β → Prop} {a : α} {b : β} (hab : R a b) : ∀ {xs : List α} {ys : List β}, All2 R xs ys → All2 R (xs ++ [a]) (ys ++ [b])
  | [], [], _ => ⟨hab, trivial⟩
  | _ :: _, _ :: _, hh => ⟨hh.1, All2.snoc hab hh.2⟩
  | [], _ :: _, hh => hh.elim
  | _ :: _, [], hh => hh.elim

theorem All2.get {α β : Type} {R : α → β → Prop} (d : β) : ∀ {xs : List α} {ys : List β}, All2 R xs ys → ∀ i, i < ys.length → ∃ a, xs[i]? = some a ∧ R a (ys.getD i d)
  | [], [], _, i, hi => by simp at hi
  | x :: _, _ :: _, hh, 0, _ => ⟨x, rfl, hh.1⟩
  | _ :: _, _ :: _, hh, i + 1, hi => by
    obtain ⟨a, h1, h2⟩ := All2.get d hh.2 i (by simpa using hi)
    exact ⟨a, by simpa using h1, by simpa using h2⟩
  | [], _ :: _, hh, _, _ => hh.elim
  | _ :: _, [], hh, _, _ => hh.elim

/-- a slice of bytes, as a value; where it has any, their block is one that will do -/
def IsBody (w : World) (ok : Nat → Prop) (u : Value) (xs : List Int) : Prop :=
  ∃ a c, u = .slice a xs.length c ∧ Octs w a c xs ∧ (xs ≠ [] → ∀ ad, a = some ad → ok ad.block)

theorem IsBody.later {w w' : World} {ok : Nat → Prop} {u : Value} {xs : List Int} (h : IsBody w ok u xs) (hb : Below w.heap.size w w') : IsBody w' ok u xs := by
  obtain ⟨a, c, e, o, hk⟩ := h
  exact ⟨a, c, e, o.later hb, hk⟩

theorem IsBody.grown {w w' : World} {ok : Nat → Prop} {u : Value} {xs : List Int} {row : Option Nat} (h : IsBody w ok u xs) (hg : w.grownBy w' row) (hok : ∀ g, ok g → row ≠ some g) : IsBody w' ok u xs := by
  obtain ⟨a, c, e, o, hk⟩ := h
  exact ⟨a, c, e, o.grown hg (fun hx ad ha => hok _ (hk hx ad ha)), hk⟩

theorem IsBody.ok {w : World} {ok ok' : Nat → Prop} {u : Value} {xs : List Int} (h : IsBody w ok u xs) (hok : ∀ g, g < w.heap.size → ok g → ok' g) : IsBody w ok' u xs := by
  obtain ⟨a, c, e, o, hk⟩ := h
  exact ⟨a, c, e, o, fun hx ad ha => hok _ (o.blocks hx ad ha) (hk hx ad ha)⟩

/-- the slice at 'ao' of so much room holds the slices of bytes xss -/
def Rws (w : World) (ao : Option Addr) (cap : Nat) (xss : List (List Int)) : Prop :=
  xss.length ≤ cap ∧ xss.length ≤ 140737488351232 ∧ (ao = none → cap = 0) ∧
    (xss = [] ∨ ∃ b off, ao = some ⟨b, off, none⟩ ∧ ∀ i, i < xss.length → ∃ a c, w.cell? ⟨b, off + i, none⟩ = some (.slice a (xss.getD i []).length c) ∧ Octs w a c (xss.getD i []))

theorem Rws.at {w : World} {ao : Option Addr} {cap : Nat} {xss : List (List Int)} (h : Rws w ao cap xss) {k : Nat} (hk : k < xss.length) :
    ∃ b off a c, ao = some ⟨b, off, none⟩ ∧ w.cell? ⟨b, off + k, none⟩ = some (.slice a (xss.getD k []).length c) ∧ Octs w a c (xss.getD k []) := by
  rcases h.2.2.2 with h' | ⟨b, off, e, hc⟩
  · subst h'; simp at hk
  · obtain ⟨a, c, h1, h2⟩ := hc k hk
    exact ⟨b, off, a, c, e, h1, h2⟩

theorem Rws.nil (w : World) (ao : Option Addr) (cap : Nat) (h : ao = none → cap = 0) : Rws w ao cap [] := ⟨by simp, by simp, h, .inl rfl⟩

theorem Rws.later {w w' : World} {ao : Option Addr} {cap : Nat} {xss : List (List Int)} (h : Rws w ao cap xss) (hb : Below w.heap.size w w') : Rws w' ao cap xss := by
  refine ⟨h.1, h.2.1, h.2.2.1, ?_⟩
  rcases h.2.2.2 with h' | ⟨b, off, e, hc⟩
  · exact .inl h'
  · refine .inr ⟨b, off, e, fun i hi => ?_⟩
    obtain ⟨a, c, h1, h2⟩ := hc i hi
    exact ⟨a, c, (hb.cell (p := ⟨b, off + i, none⟩) (World.block_lt_of_cell? _ _ h1)).trans h1, h2.later hb⟩

/-- a row of slices that the call itself has laid holds them -/
theorem own_rows {w : World} {base n : Nat} {e : TypeId} {ok : Nat → Prop} {v : Value} {us : List Value} {xss : List (List Int)} (hn : n = xss.length) (hb : xss.length ≤ 140737488351232) (h : w.ownsRow base e 1 v n us) (ha : All2 (IsBody w ok) us xss) :
    ∃ ao cap, v = .slice ao xss.length cap ∧ Rws w ao cap xss := by
  subst hn
  rcases h.2 with ⟨h1, h2⟩ | ⟨g, cap, cur, h1, h2, h3, h4, h5, h6, h7⟩
  · have : xss = [] := List.length_eq_zero_iff.1 h2
    subst this
    exact ⟨none, 0, h1, Rws.nil _ _ _ (fun _ => rfl)⟩
  · subst h1
    refine ⟨_, _, rfl, h4, hb, (fun h => by cases h), .inr ⟨g, 0, rfl, fun i hi => ?_⟩⟩
    obtain ⟨u, hu, a, c, rfl, o, -⟩ := ha.get [] i hi
    have hc := h.cellAt i (by omega)
    rw [hu] at hc
    rw [Nat.zero_add]
    exact ⟨a, c, hc, o⟩

end Go.Proofs.Ytndnbkgejdindaa
