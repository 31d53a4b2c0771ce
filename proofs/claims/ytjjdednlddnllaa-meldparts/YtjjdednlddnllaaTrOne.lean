/- Entries and nodes of trees, plain and in memory. -/
import Derived.Test.YtjjdednlddnllaaTrMem
import Derived.Test.YtjjdednlddnllaaTreeLaws
import Derived.Deep.RegionWith
namespace Go.Proofs.Ytjjdednlddnllaa
open Go.ChangeShapes Go.WideShapes Go.ChangeAt Go.RowKit

/-- a key and a value, two slices of bytes -/
def kEnt : Kd Ent 2 where
  rel ok w e cs := ∃ u v, cs = [u, v] ∧ IsBody w ok u e.1 ∧ IsBody w ok v e.2
  move hk hok _ _ := by
    rintro ⟨u, v, rfl, h1, h2⟩
    exact ⟨u, v, rfl, h1.move hk hok, h2.move hk hok⟩
  len := by
    rintro _ _ _ _ ⟨u, v, rfl, _, _⟩
    rfl
  one := by
    rintro _ _ _ _ ⟨u, v, rfl, h1, h2⟩ x hx
    simp only [List.mem_cons, List.not_mem_nil, or_false] at hx
    rcases hx with rfl | rfl
    · exact h1.one
    · exact h2.one

/-- a slice of things of a kind -/
def kRow {α : Type} {size : Nat} (K : Kd α size) : Kd (List α) 1 where
  rel ok w l cs := ∃ a c, cs = [.slice a l.length c] ∧ Lies K ok w a c l ∧ Ples a c
  move hk hok _ _ := by
    rintro ⟨a, c, rfl, h1, h2⟩
    exact ⟨a, c, rfl, h1.move hk hok, h2⟩
  len := by
    rintro _ _ _ _ ⟨a, c, rfl, _, _⟩
    rfl
  one := by
    rintro _ _ _ _ ⟨a, c, rfl, _, _⟩ x hx
    simp only [List.mem_cons, List.not_mem_nil, or_false] at hx
    subst hx
    rfl

/-- a node: its entries, its kids -/
def Both {α : Type} (K : Kd α 2) (ok : Nat → Prop) (w : World) (es : List Ent) (ks : List α) (cs : List Value) : Prop :=
  ∃ a c b d, cs = [.slice a es.length c, .slice b ks.length d] ∧ Lies kEnt ok w a c es ∧ Ples a c ∧ Lies K ok w b d ks ∧ Ples b d

theorem Both.move {α : Type} {K : Kd α 2} {ok ok' : Nat → Prop} {w w' : World} {es : List Ent} {ks : List α} {cs : List Value} (hk : Kept ok w w') (hok : ∀ b, b < w.heap.size → ok b → ok' b) (h : Both K ok w es ks cs) : Both K ok' w' es ks cs := by
  obtain ⟨a, c, b, d, e, h1, h2, h3, h4⟩ := h
  exact ⟨a, c, b, d, e, h1.move hk hok, h2, h3.move hk hok, h4⟩

theorem Both.len {α : Type} {K : Kd α 2} {ok : Nat → Prop} {w : World} {es : List Ent} {ks : List α} {cs : List Value} (h : Both K ok w es ks cs) : cs.length = 2 := by
  obtain ⟨a, c, b, d, rfl, _⟩ := h
  rfl

theorem Both.one {α : Type} {K : Kd α 2} {ok : Nat → Prop} {w : World} {es : List Ent} {ks : List α} {cs : List Value} (h : Both K ok w es ks cs) : ∀ u ∈ cs, u.oneCell' = true := by
  obtain ⟨a, c, b, d, rfl, _⟩ := h
  intro x hx
  simp only [List.mem_cons, List.not_mem_nil, or_false] at hx
  rcases hx with rfl | rfl <;> rfl

/-- where there are no kids it is all one of which kind they would be -/
theorem Both.leaf {α β : Type} {K : Kd α 2} (K' : Kd β 2) {ok : Nat → Prop} {w : World} {es : List Ent} {cs : List Value} (h : Both K ok w es [] cs) : Both K' ok w es [] cs := by
  obtain ⟨a, c, b, d, e, h1, h2, h3, h4⟩ := h
  exact ⟨a, c, b, d, e, h1, h2, Lies.nil _ _ _ h3.2.1, h4⟩

def kLeaf : Kd (List Ent) 2 where
  rel ok w es cs := Both kEnt ok w es [] cs
  move hk hok _ _ h := h.move hk hok
  len h := h.len
  one h := h.one

def kInner {α : Type} (K : Kd α 2) : Kd (List α) 2 where
  rel ok w ks cs := Both K ok w [] ks cs
  move hk hok _ _ h := h.move hk hok
  len h := h.len
  one h := h.one

/-- trees of one height: leaves, or lists of trees that are one less high -/
def Tr : Nat → Type
  | 0 => List Ent
  | h + 1 => List (Tr h)

def kNd : (h : Nat) → Kd (Tr h) 2
  | 0 => kLeaf
  | h + 1 => kInner (kNd h)

/-- all entries, from leaf to leaf -/
def flat : (h : Nat) → Tr h → List Ent
  | 0, es => (show List Ent from es)
  | h + 1, ks => (show List (Tr h) from ks).flatMap (flat h)

/-- how many entries or kids -/
def deg : (h : Nat) → Tr h → Nat
  | 0, es => (show List Ent from es).length
  | h + 1, ks => (show List (Tr h) from ks).length

/-- each node below has two to four -/
def Wk : (h : Nat) → Tr h → Prop
  | 0, _ => True
  | h + 1, ks => ∀ k ∈ (show List (Tr h) from ks), 2 ≤ deg h k ∧ deg h k ≤ 4 ∧ Wk h k

/-- a node that is no root -/
def Wn (h : Nat) (t : Tr h) : Prop := 2 ≤ deg h t ∧ deg h t ≤ 4 ∧ Wk h t

/-- a root -/
def Wr (h : Nat) (t : Tr h) : Prop := deg h t ≤ 4 ∧ (0 < h → 2 ≤ deg h t) ∧ Wk h t

theorem flat_node {h : Nat} (ks : List (Tr h)) : flat (h + 1) ks = ks.flatMap (flat h) := rfl
theorem deg_node {h : Nat} (ks : List (Tr h)) : deg (h + 1) ks = ks.length := rfl
theorem Wk_node {h : Nat} (ks : List (Tr h)) : Wk (h + 1) ks ↔ ∀ k ∈ ks, Wn h k := Iff.rfl
theorem flat_leaf (es : List Ent) : flat 0 es = es := rfl
theorem deg_leaf (es : List Ent) : deg 0 es = es.length := rfl

/-- what has nodes with two at least below it has an entry -/
theorem flat_pos : ∀ (h : Nat) (t : Tr h), 1 ≤ deg h t → Wk h t → flat h t ≠ []
  | 0, es, h1, _ => by
    intro e
    have : (show List Ent from es) = [] := e
    rw [deg] at h1
    simp [this] at h1
  | h + 1, ks, h1, hw => by
    match (show List (Tr h) from ks), h1, hw with
    | [], h1, _ => simp [deg] at h1
    | k :: ks', _, hw =>
      have := hw k List.mem_cons_self
      have ih := flat_pos h k (by omega) this.2.2
      simp only [flat, List.flatMap_cons]
      intro e
      exact ih (List.append_eq_nil_iff.1 e).1

/-- the least key below -/
def leastK (h : Nat) (t : Tr h) : List Int := ((flat h t).head?.getD ([], [])).1

theorem least_head {h : Nat} {t : Tr h} {e : Ent} {l : List Ent} (hf : flat h t = e :: l) : leastK h t = e.1 := by simp [leastK, hf]

theorem least_mem {h : Nat} {t : Tr h} (hf : flat h t ≠ []) : ∃ e ∈ flat h t, e.1 = leastK h t := by
  match hh : flat h t, hf with
  | e :: l, _ => exact ⟨e, List.mem_cons_self, (least_head hh).symm⟩

/-- in order, the least key is not behind any other -/
theorem least_le {h : Nat} {t : Tr h} (ha : Asc (flat h t)) : ∀ y ∈ flat h t, ahead y.1 (leastK h t) = false := by
  intro y hy
  match hh : flat h t with
  | [] => rw [hh] at hy; cases hy
  | e :: l =>
    rw [hh] at ha hy
    rw [least_head hh]
    rcases List.mem_cons.1 hy with rfl | hy
    · exact ahead_irrefl _
    · exact ahead_asymm ((List.pairwise_cons.1 ha).1 y hy)

/-- the trees of which one is told by its height -/
abbrev Root := (h : Nat) × Tr h

end Go.Proofs.Ytjjdednlddnllaa

/- Small functions of trees: copies of bytes, whether a node is a leaf, how much it has, what was refused. -/
namespace Go.Proofs.Ytjjdednlddnllaa
open Go.ChangeShapes Go.WideShapes Go.ChangeAt Go.RowKit

/-- new blocks will do -/
def Fresh (ok : Nat → Prop) (w : World) : Prop := ∀ b, w.heap.size ≤ b → ok b

theorem Fresh.later {ok : Nat → Prop} {w w' : World} (h : Fresh ok w) (hs : w.heap.size ≤ w'.heap.size) : Fresh ok w' := fun b hb => h b (Nat.le_trans hs hb)

/-- a variable of two cells that was just set -/
structure Two (W : World) (B : Nat) (u v : Value) : Prop where
  c0 : W.cell? ⟨B, 0, none⟩ = some u
  c1 : W.cell? ⟨B, 1, none⟩ = some v
  f0 : W.frozen? ⟨B, 0, none⟩ = false
  f1 : W.frozen? ⟨B, 1, none⟩ = false

theorem Two.set {W : World} {B : Nat} {x y : Value} (h : Two W B x y) (u v : Value) : Two ((W.setCell ⟨B, 0, none⟩ u).setCell ⟨B, 1, none⟩ v) B u v := by
  refine ⟨?_, ?_, ?_, ?_⟩
  · rw [World.cell?_setCell_other _ _ _ _ (by simp)]
    exact World.cell?_setCell_same' _ _ _ (by rw [h.c0]; rfl)
  · exact World.cell?_setCell_same' _ _ _ (by rw [World.cell?_setCell_other _ _ _ _ (by simp), h.c1]; rfl)
  · rw [World.frozen?_setCell, World.frozen?_setCell]
    exact h.f0
  · rw [World.frozen?_setCell, World.frozen?_setCell]
    exact h.f1

theorem Two.later {W W' : World} {B : Nat} {x y : Value} (h : Two W B x y) (hb : Below W.heap.size W W') : Two W' B x y := by
  have hB : B < W.heap.size := World.block_lt_of_cell? _ _ h.c0
  exact ⟨(hb.cell (p := ⟨B, 0, none⟩) hB).trans h.c0, (hb.cell (p := ⟨B, 1, none⟩) hB).trans h.c1, (hb.frozen (p := ⟨B, 0, none⟩) hB).trans h.f0, (hb.frozen (p := ⟨B, 1, none⟩) hB).trans h.f1⟩

theorem Two.new (W : World) (u v : Value) (ty : TypeId) : Two (W.alloc (.cells #[u, v] ty)) W.heap.size u v := ⟨by simp, by simp, by simp, by simp⟩

theorem below_two {n : Nat} {w W : World} {B : Nat} (h : Below n w W) (hn : n ≤ B) (u v : Value) : Below n w ((W.setCell ⟨B, 0, none⟩ u).setCell ⟨B, 1, none⟩ v) :=
  (h.setCell (p := ⟨B, 0, none⟩) hn u).setCell (p := ⟨B, 1, none⟩) hn v

set_option maxHeartbeats 1000000 in
theorem ownBytes_any (ao : Option Addr) (cap : Nat) (xs : List Int) (w : World) (he : Octs w ao cap xs) :
    Calls Try.prog 36 #[.slice ao xs.length cap] w fun e w' => ∃ ao' cap', e = .returned (.slice ao' xs.length cap') ∧ Octs w' ao' cap' xs ∧ (∀ a, ao' = some a → w.heap.size ≤ a.block) ∧ Below w.heap.size w w' := by
  have hb := he.2.2.2.1
  have hl := he.2.1
  obtain ⟨n, hn⟩ : ∃ n, n = xs.length := ⟨_, rfl⟩
  rw [← hn] at hl ⊢
  have HN : Hid (n = xs.length) := hn
  clear hn
  go_enter Try.func36, Try.ntmps36
  go_wp2_with (at_builtin; refine wpList_append_oct rfl (.const (.slice none 0 0)) (.tmp 3) rfl w.heap.size (.slice none 0 0) 0 [] rfl (World.ownsRow_nil _ _ _ _) ao cap n xs rfl HN.out he (by omega) (Nat.le_refl _) ?_; intro v' w' hown hg)
  rw [Nat.zero_add, List.nil_append] at hown
  obtain ⟨ao', cap', rfl, ho⟩ := own_octs HN.out rfl (by rw [← HN.out]; exact hl) hb hown
  have hnew := own_new hown
  rw [← HN.out]
  go_wp2
  go_ret
  exact ⟨_, _, rfl, ho, hnew, (Below.refl _ w).grown hg (Nat.le_refl _) (fun g h => by cases h)⟩

end Go.Proofs.Ytjjdednlddnllaa

/- One thing more behind a row that the call itself lays. -/
namespace Go.Proofs.Ytjjdednlddnllaa
open Go.ChangeShapes Go.WideShapes Go.ChangeAt Go.RowKit

section
variable {α : Type} {size : Nat} {K : Kd α size} {ok : Nat → Prop} {W : World}

/-- a list of one, just laid -/
theorem lies_one {x : α} {cs : List Value} (zs : Array Value) (hz : zs = cs.toArray) (ty : TypeId) (hr : K.rel ok W x cs) (hok : ok W.heap.size) : Lies K ok (W.alloc (.cells zs ty)) (some ⟨W.heap.size, 0, none⟩) 1 [x] := by
  subst hz
  have hb : Below W.heap.size W (W.alloc (.cells cs.toArray ty)) := (Below.refl _ W).alloc (Nat.le_refl _) _
  refine ⟨Nat.le_refl _, (fun e => by cases e), .inr ⟨W.heap.size, 0, [cs], rfl, by simp, hok, ⟨K.move (Kept.of_below hb) (fun _ _ h => h) hr, trivial⟩, fun j u hj => ?_⟩⟩
  simp only [List.flatten_cons, List.flatten_nil, List.append_nil] at hj
  have hh := heap_alloc_new W (.cells cs.toArray ty)
  simp only [World.cell?, hh, Nat.zero_add]
  simpa using hj

theorem rows_lt {base : Nat} {E : TypeId} {v : Value} {l : List α} (h : Rows K ok W base E v l) : ∀ g, v.ownBlock = some g → base ≤ g ∧ g < W.heap.size := by
  obtain ⟨css, h1, _⟩ := h
  exact h1.lt

theorem rows_form {base : Nat} {E : TypeId} {v : Value} {l : List α} (h : Rows K ok W base E v l) : ∃ a c, v = .slice a l.length c := by
  obtain ⟨css, h1, _⟩ := h
  rcases h1.2 with ⟨e, h0⟩ | ⟨g, cap, cur, e, _⟩
  · exact ⟨none, 0, by rw [e, h0]⟩
  · exact ⟨_, cap, e⟩

/-- of a row that lies in new blocks it is all one what else will do -/
theorem rows_lies {base : Nat} {E : TypeId} {a : Option Addr} {n c : Nat} {l : List α} (h : Rows K ok W base E (.slice a n c) l) (hok : ∀ b, base ≤ b → ok b) : n = l.length ∧ Lies K ok W a c l ∧ Ples a c ∧ ∀ ad, a = some ad → base ≤ ad.block := by
  obtain ⟨a', c', e, h1, h2, _, h3⟩ := h.lies (fun b e => hok b (rows_lt h b e).1)
  simp only [Value.slice.injEq] at e
  obtain ⟨rfl, rfl, rfl⟩ := e
  exact ⟨rfl, h1, h2, h3⟩

theorem grown_alloc {w w' : World} {o : Obj} {row : Option Nat} (h : (w.alloc o).grownBy w' row) : w.grownBy w' row :=
  ⟨h.os, h.tape, h.output, by have := h.size; simp at this; omega, fun b hb hne => (h.block b (by simp; omega) hne).trans (Below.heap_alloc _ _ _ hb)⟩

theorem wpList_append_one {bytes : Nat} {wr : World} {ops : Array Oper} {rest : List Oper} {o : Oper} {a : Act} {Q : Exit → Act → World → Prop} {T E : TypeId} (et : Elt T E size bytes) (hgd : o.guard = none) (s xo : Operand)
    (ho : o.op = .call { callee := .builtin .append, args := #[s, xo], argTypes := #[T, T] })
    (base : Nat) (v : Value) (l : List α) (hs : a.eval s = v) (hown : Rows K ok wr base E v l) (x : α) (cs : List Value) (zs : Array Value) (ty : TypeId) (hx : a.eval xo = .slice (some ⟨wr.heap.size, 0, none⟩) 1 1) (hz : zs = cs.toArray)
    (hr : K.rel (fun b => ok b ∧ v.ownBlock ≠ some b) wr x cs) (hok : Fresh ok wr) (hlen : l.length + 1 ≤ 100000) (hby : bytes ≤ 1000) (hbase : base ≤ wr.heap.size)
    (h : ∀ v' w', Rows K ok w' base E v' (l ++ [x]) → wr.grownBy w' v.ownBlock → (v'.ownBlock = v.ownBlock ∨ v'.ownBlock = some (wr.heap.size + 1)) → wpList Try.prog ops Q rest (a.put o.dst v') w') : wpList Try.prog ops Q (o :: rest) a (wr.alloc (.cells zs ty)) := by
  have hb : Below wr.heap.size wr (wr.alloc (.cells zs ty)) := (Below.refl _ wr).alloc (Nat.le_refl _) _
  have hL : Lies K (fun b => ok b ∧ v.ownBlock ≠ some b) (wr.alloc (.cells zs ty)) (some ⟨wr.heap.size, 0, none⟩) 1 [x] := lies_one zs hz ty hr ⟨hok _ (Nat.le_refl _), fun e => by have := (rows_lt hown _ e).2; omega⟩
  refine wpList_append_rows et hgd s xo ho base v l hs (hown.later hb) _ _ 1 [x] hx rfl hL (fun _ _ h _ => h.1) (fun _ _ h => h.2) hlen hby (by simp; omega) (fun v' w' q1 q2 q3 => h v' w' q1 (grown_alloc q2) ?_)
  simpa using q3

end

end Go.Proofs.Ytjjdednlddnllaa
