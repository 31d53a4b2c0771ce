/- A row of the call's own stands behind whatever lays new blocks alone. -/
import Derived.Test.YtcegkgobkpakiaaOctAppendAt
namespace Go.Proofs.Ytcegkgobkpakiaa
open Go.ChangeShapes Go.WideShapes Go.ChangeAt Go.RowKit

theorem own_stays {w w' : World} {base size n : Nat} {e : TypeId} {v : Value} {vs : List Value} (h : w.ownsRow base e size v n vs) (hb : Below w.heap.size w w') : w'.ownsRow base e size v n vs := by
  refine ⟨h.1, ?_⟩
  rcases h.2 with h' | ⟨g, cap, cur, h', h1, h2, h3⟩
  · exact .inl h'
  · have hlt : g < w.heap.size := (h.lt g (by rw [h']; rfl)).2
    exact .inr ⟨g, cap, cur, h', h1, (hb.block g hlt).trans h2, h3⟩

end Go.Proofs.Ytcegkgobkpakiaa

/- Rows of rows of bytes: that came in, or that appends have laid. -/
namespace Go.Proofs.Ytcegkgobkpakiaa
open Go.ChangeShapes Go.WideShapes Go.ChangeAt Go.RowKit

/-- two lists that go together, place by place -/
def All2 {α β : Type} (R : α → β → Prop) : List α → List β → Prop
  | [], [] => True
  | x :: xs, y :: ys => R x y ∧ All2 R xs ys
  | _, _ => False

theorem All2.imp {α β : Type} {R S : α → β → Prop} (h : ∀ a b, R a b → S a b) : ∀ {xs : List α} {ys : List β}, All2 R xs ys → All2 S xs ys
  | [], [], _ => trivial
  | _ :: _, _ :: _, hh => ⟨h _ _ hh.1, All2.imp h hh.2⟩
  | [], _ :: _, hh => hh.elim
  | _ :: _, [], hh => hh.elim

theorem All2.length {α β : Type} {R : α → β → Prop} : ∀ {xs : List α} {ys : List β}, All2 R xs ys → xs.length = ys.length
  | [], [], _ => rfl
  | _ :: _, _ :: _, hh => by simp [All2.length hh.2]
  | [], _ :: _, hh => hh.elim
  | _ :: _, [], hh => hh.elim

theorem All2.snoc {α β : Type} {R : α → β → Prop} {a : α} {b : β} (hab : R a b) : ∀ {xs : List α} {ys : List β}, All2 R xs ys → All2 R (xs ++ [a]) (ys ++ [b])
  | [], [], _ => ⟨hab, trivial⟩
  | _ :: _, _ :: _, hh => ⟨hh.1, All2.snoc hab hh.2⟩
  | [], _ :: _, hh => hh.elim
  | _ :: _, [], hh => hh.elim

theorem All2.get {α β : Type} {R : α → β → Prop} (d : β) : ∀ {xs : List α} {ys : List β}, All2 R xs ys → ∀ i, i < ys.length → ∃ a, xs[i]? = some a ∧ R a (ys.getD i d)
  | [], [], _, i, hi => by simp at hi
  | x :: _, _ :: _, hh, 0, _ => ⟨x, rfl, hh.1⟩
  | _ :: _, _ :: _, hh, i + 1, hi => by
    obtain ⟨a, h1, h2⟩ := All2.get d hh.2 i (by simpa using hi)
    exact ⟨a, by simpa using h1, by simpa using h2⟩
  | [], _ :: _, hh, _, _ => hh.elim
  | _ :: _, [], hh, _, _ => hh.elim

/-- a slice of bytes, as a value; where it has any, their block is one that will do -/
def IsBody (w : World) (ok : Nat → Prop) (u : Value) (xs : List Int) : Prop :=
  ∃ a c, u = .slice a xs.length c ∧ Octs w a c xs ∧ (xs ≠ [] → ∀ ad, a = some ad → ok ad.block)

theorem IsBody.later {w w' : World} {ok : Nat → Prop} {u : Value} {xs : List Int} (h : IsBody w ok u xs) (hb : Below w.heap.size w w') : IsBody w' ok u xs := by
  obtain ⟨a, c, e, o, hk⟩ := h
  exact ⟨a, c, e, o.later hb, hk⟩

theorem IsBody.grown {w w' : World} {ok : Nat → Prop} {u : Value} {xs : List Int} {row : Option Nat} (h : IsBody w ok u xs) (hg : w.grownBy w' row) (hok : ∀ g, ok g → row ≠ some g) : IsBody w' ok u xs := by
  obtain ⟨a, c, e, o, hk⟩ := h
  exact ⟨a, c, e, o.grown hg (fun hx ad ha => hok _ (hk hx ad ha)), hk⟩

theorem IsBody.ok {w : World} {ok ok' : Nat → Prop} {u : Value} {xs : List Int} (h : IsBody w ok u xs) (hok : ∀ g, g < w.heap.size → ok g → ok' g) : IsBody w ok' u xs := by
  obtain ⟨a, c, e, o, hk⟩ := h
  exact ⟨a, c, e, o, fun hx ad ha => hok _ (o.blocks hx ad ha) (hk hx ad ha)⟩

/-- the slice at 'ao' of so much room holds the slices of bytes xss -/
def Rws (w : World) (ao : Option Addr) (cap : Nat) (xss : List (List Int)) : Prop :=
  xss.length ≤ cap ∧ xss.length ≤ 140737488351232 ∧ (ao = none → cap = 0) ∧
    (xss = [] ∨ ∃ b off, ao = some ⟨b, off, none⟩ ∧ ∀ i, i < xss.length → ∃ a c, w.cell? ⟨b, off + i, none⟩ = some (.slice a (xss.getD i []).length c) ∧ Octs w a c (xss.getD i []))

theorem Rws.at {w : World} {ao : Option Addr} {cap : Nat} {xss : List (List Int)} (h : Rws w ao cap xss) {k : Nat} (hk : k < xss.length) :
    ∃ b off a c, ao = some ⟨b, off, none⟩ ∧ w.cell? ⟨b, off + k, none⟩ = some (.slice a (xss.getD k []).length c) ∧ Octs w a c (xss.getD k []) := by
  rcases h.2.2.2 with h' | ⟨b, off, e, hc⟩
  · subst h'; simp at hk
  · obtain ⟨a, c, h1, h2⟩ := hc k hk
    exact ⟨b, off, a, c, e, h1, h2⟩

theorem Rws.nil (w : World) (ao : Option Addr) (cap : Nat) (h : ao = none → cap = 0) : Rws w ao cap [] := ⟨by simp, by simp, h, .inl rfl⟩

theorem Rws.later {w w' : World} {ao : Option Addr} {cap : Nat} {xss : List (List Int)} (h : Rws w ao cap xss) (hb : Below w.heap.size w w') : Rws w' ao cap xss := by
  refine ⟨h.1, h.2.1, h.2.2.1, ?_⟩
  rcases h.2.2.2 with h' | ⟨b, off, e, hc⟩
  · exact .inl h'
  · refine .inr ⟨b, off, e, fun i hi => ?_⟩
    obtain ⟨a, c, h1, h2⟩ := hc i hi
    exact ⟨a, c, (hb.cell (p := ⟨b, off + i, none⟩) (World.block_lt_of_cell? _ _ h1)).trans h1, h2.later hb⟩

/-- a row of slices that the call itself has laid holds them -/
theorem own_rows {w : World} {base n : Nat} {e : TypeId} {ok : Nat → Prop} {v : Value} {us : List Value} {xss : List (List Int)} (hn : n = xss.length) (hb : xss.length ≤ 140737488351232) (h : w.ownsRow base e 1 v n us) (ha : All2 (IsBody w ok) us xss) :
    ∃ ao cap, v = .slice ao xss.length cap ∧ Rws w ao cap xss := by
  subst hn
  rcases h.2 with ⟨h1, h2⟩ | ⟨g, cap, cur, h1, h2, h3, h4, h5, h6, h7⟩
  · have : xss = [] := List.length_eq_zero_iff.1 h2
    subst this
    exact ⟨none, 0, h1, Rws.nil _ _ _ (fun _ => rfl)⟩
  · subst h1
    refine ⟨_, _, rfl, h4, hb, (fun h => by cases h), .inr ⟨g, 0, rfl, fun i hi => ?_⟩⟩
    obtain ⟨u, hu, a, c, rfl, o, -⟩ := ha.get [] i hi
    have hc := h.cellAt i (by omega)
    rw [hu] at hc
    rw [Nat.zero_add]
    exact ⟨a, c, hc, o⟩

end Go.Proofs.Ytcegkgobkpakiaa

/- One slice of bytes more behind a row of slices that the call itself lays. -/
namespace Go.Proofs.Ytcegkgobkpakiaa
open Go.ChangeShapes Go.WideShapes Go.ChangeAt Go.RowKit

theorem Try.infoRow : (Try.prog.info? 40).map (fun i => (i.zero, i.size, i.bytes)) = some (some (.slice none 0 0), 1, 24) := by kernel_rfl

/-- a slice is one cell -/
theorem slice_oneCell (a : Option Addr) (n c : Nat) : ∀ u ∈ [Value.slice a n c], u.oneCell' = true := by
  intro u hu
  simp only [List.mem_singleton] at hu
  subst hu
  rfl

/-- not in the block of a row, and not in another one's -/
def Off (u v : Value) (g : Nat) : Prop := u.ownBlock ≠ some g ∧ v.ownBlock ≠ some g

theorem alloc_size (w : World) (o : Obj) : (w.alloc o).heap.size = w.heap.size + 1 := by simp

/-- an append to the row v that the bodies lie apart from: they stand, and lie apart from what has become of it -/
theorem bodies_grown {w w' : World} {ok ok' : Nat → Prop} {v v' : Value} {us : List Value} {xss : List (List Int)} (ha : All2 (IsBody w ok) us xss) (hg : w.grownBy w' v.ownBlock)
    (hv : ∀ g, ok g → v.ownBlock ≠ some g) (hat : v'.ownBlock = v.ownBlock ∨ v'.ownBlock = some w.heap.size) (hok : ∀ g, ok g → v'.ownBlock ≠ some g → ok' g) : All2 (IsBody w' ok') us xss := by
  refine All2.imp (fun u xs h => ?_) ha
  have h1 : IsBody w (fun g => ok g ∧ v'.ownBlock ≠ some g) u xs := h.ok (fun g hg1 hg2 => ⟨hg2, by
    rcases hat with e | e
    · rw [e]; exact hv g hg2
    · rw [e]; intro e2; have e3 : w.heap.size = g := Option.some.inj e2; omega⟩)
  have h2 : IsBody w' (fun g => ok g ∧ v'.ownBlock ≠ some g) u xs := h1.grown hg (fun g h => hv g h.1)
  exact h2.ok (fun g _ h => hok g h.1 h.2)

theorem bodies_later {w w' : World} {ok : Nat → Prop} {us : List Value} {xss : List (List Int)} (ha : All2 (IsBody w ok) us xss) (hb : Below w.heap.size w w') : All2 (IsBody w' ok) us xss :=
  All2.imp (fun _ _ h => h.later hb) ha

/-- one body more -/
theorem rows_step {w wr w1 w2 : World} {B k c : Nat} {E : TypeId} {v v' : Value} {us : List Value} {xss : List (List Int)} {a : Option Addr} {xs : List Int}
    (hown : wr.ownsRow B E 1 v k us) (ha : All2 (IsBody wr (fun g => v.ownBlock ≠ some g)) us xss) (hb : Below B w wr) (hB : B ≤ wr.heap.size)
    (b1 : Below wr.heap.size wr w1) (ho : Octs w1 a c xs) (hf : ∀ ad, a = some ad → wr.heap.size ≤ ad.block)
    (hg : (w1.alloc (.cells #[.slice a xs.length c] E)).grownBy w2 v.ownBlock) (hat : v'.ownBlock = v.ownBlock ∨ v'.ownBlock = some (w1.alloc (.cells #[.slice a xs.length c] E)).heap.size) :
    All2 (IsBody w2 (fun g => v'.ownBlock ≠ some g)) (us ++ [.slice a xs.length c]) (xss ++ [xs]) ∧ Below B w w2 := by
  have h1 : All2 (IsBody w1 (fun g => v.ownBlock ≠ some g)) (us ++ [.slice a xs.length c]) (xss ++ [xs]) := by
    refine All2.snoc ⟨a, c, rfl, ho, fun _ ad hd e => ?_⟩ (bodies_later ha b1)
    have q1 := hf ad hd
    have q2 := (hown.lt _ e).2
    omega
  have hal : Below w1.heap.size w1 (w1.alloc (.cells #[.slice a xs.length c] E)) := (Below.refl _ _).alloc (Nat.le_refl _) _
  have h2 := bodies_later h1 hal
  have s1 := b1.size
  refine ⟨bodies_grown h2 hg (fun _ h => h) hat (fun _ _ h => h), ?_⟩
  have bz := (hb.trans (b1.mono hB)).alloc (by omega) (.cells #[.slice a xs.length c] E)
  exact bz.grown hg (by rw [alloc_size]; omega) (fun g hg => (hown.lt g hg).1)

end Go.Proofs.Ytcegkgobkpakiaa
