/- Rows of things in memory, and append to them: the words of TrMem, TrOne, TrNode, FmMem that speak of no bytes (never import both). -/
import Derived.Test.YtppcikfhhmiipaaChecked
import Derived.WalkKit
import Derived.ProofKit
import Derived.OwnWalk
import Derived.OpenShut
import Derived.Laws.AppendOwnNone
import Derived.Laws.OwnMore
import Derived.Below
import Derived.Maps.AppendAt
import Derived.Handy
import Derived.Deep.RegionWith
namespace Go.Proofs.Ytppcikfhhmiipaa
open Go.ChangeShapes Go.WideShapes Go.ChangeAt Go.RowKit

theorem addr_add (b off j : Nat) : (⟨b, off, none⟩ : Addr).add j = ⟨b, off + j, none⟩ := by unfold Addr.add; split <;> simp_all

/-- two lists that go together, place by place -/
def All2 {α β : Type} (R : α → β → Prop) : List α → List β → Prop
  | [], [] => True
  | x :: xs, y :: ys => R x y ∧ All2 R xs ys
  | _, _ => False

theorem All2.imp {α β : Type} {R S : α → β → Prop} (h : ∀ a b, R a b → S a b) : ∀ {xs : List α} {ys : List β}, All2 R xs ys → All2 S xs ys
  | [], [], _ => trivial
  | _ :: _, _ :: _, hh => ⟨h _ _ hh.1, All2.imp h hh.2⟩
  | [], _ :: _, hh => hh.elim
  | _ :: _, [], hh => hh.elim

theorem All2.length {α β : Type} {R : α → β → Prop} : ∀ {xs : List α} {ys : List β}, All2 R xs ys → xs.length = ys.length
  | [], [], _ => rfl
  | _ :: _, _ :: _, hh => by simp [All2.length hh.2]
  | [], _ :: _, hh => hh.elim
  | _ :: _, [], hh => hh.elim

theorem All2.snoc {α β : Type} {R : α → β → Prop} {a : α} {b : β} (hab : R a b) : ∀ {xs : List α} {ys : List β}, All2 R xs ys → All2 R (xs ++ [a]) (ys ++ [b])
  | [], [], _ => ⟨hab, trivial⟩
  | _ :: _, _ :: _, hh => ⟨hh.1, All2.snoc hab hh.2⟩
  | [], _ :: _, hh => hh.elim
  | _ :: _, [], hh => hh.elim

theorem All2.get {α β : Type} {R : α → β → Prop} (d : β) : ∀ {xs : List α} {ys : List β}, All2 R xs ys → ∀ i, i < ys.length → ∃ a, xs[i]? = some a ∧ R a (ys.getD i d)
  | [], [], _, i, hi => by simp at hi
  | x :: _, _ :: _, hh, 0, _ => ⟨x, rfl, hh.1⟩
  | _ :: _, _ :: _, hh, i + 1, hi => by
    obtain ⟨a, h1, h2⟩ := All2.get d hh.2 i (by simpa using hi)
    exact ⟨a, by simpa using h1, by simpa using h2⟩
  | [], _ :: _, hh, _, _ => hh.elim
  | _ :: _, [], hh, _, _ => hh.elim

theorem own_stays {w w' : World} {base size n : Nat} {e : TypeId} {v : Value} {vs : List Value} (h : w.ownsRow base e size v n vs) (hb : Below w.heap.size w w') : w'.ownsRow base e size v n vs := by
  refine ⟨h.1, ?_⟩
  rcases h.2 with h' | ⟨g, cap, cur, h', h1, h2, h3⟩
  · exact .inl h'
  · have hlt : g < w.heap.size := (h.lt g (by rw [h']; rfl)).2
    exact .inr ⟨g, cap, cur, h', h1, (hb.block g hlt).trans h2, h3⟩

theorem alloc_size (w : World) (o : Obj) : (w.alloc o).heap.size = w.heap.size + 1 := by simp

/-- what lies in blocks that will do is as it was -/
def Kept (ok : Nat → Prop) (w w' : World) : Prop := w.heap.size ≤ w'.heap.size ∧ ∀ b, b < w.heap.size → ok b → w'.heap[b]? = w.heap[b]?

theorem Kept.of_below {ok : Nat → Prop} {w w' : World} (h : Below w.heap.size w w') : Kept ok w w' := ⟨h.size, fun b hb _ => h.block b hb⟩

theorem Kept.of_grown {ok : Nat → Prop} {w w' : World} {row : Option Nat} (hg : w.grownBy w' row) (hok : ∀ b, ok b → row ≠ some b) : Kept ok w w' :=
  ⟨hg.size, fun b hb ho => hg.block b hb (fun e => hok b ho e.symm)⟩

theorem Kept.trans {ok : Nat → Prop} {a b c : World} (h : Kept ok a b) (k : Kept ok b c) : Kept ok a c :=
  ⟨Nat.le_trans h.1 k.1, fun g hg ho => (k.2 g (Nat.lt_of_lt_of_le hg h.1) ho).trans (h.2 g hg ho)⟩

/-- a kind of thing that lies in so many cells -/
structure Kd (α : Type) (size : Nat) where
  rel : (Nat → Prop) → World → α → List Value → Prop
  move : ∀ {ok ok' : Nat → Prop} {w w' : World}, Kept ok w w' → (∀ b, b < w.heap.size → ok b → ok' b) → ∀ {x : α} {cs : List Value}, rel ok w x cs → rel ok' w' x cs
  len : ∀ {ok : Nat → Prop} {w : World} {x : α} {cs : List Value}, rel ok w x cs → cs.length = size
  one : ∀ {ok : Nat → Prop} {w : World} {x : α} {cs : List Value}, rel ok w x cs → ∀ u ∈ cs, u.oneCell' = true

theorem All2.append {α β : Type} {R : α → β → Prop} : ∀ {xs : List α} {ys : List β} {zs : List α} {us : List β}, All2 R xs ys → All2 R zs us → All2 R (xs ++ zs) (ys ++ us)
  | [], [], _, _, _, h => h
  | _ :: _, _ :: _, _, _, hh, h => ⟨hh.1, All2.append hh.2 h⟩
  | [], _ :: _, _, _, hh, _ => hh.elim
  | _ :: _, [], _, _, hh, _ => hh.elim

theorem All2.drop {α β : Type} {R : α → β → Prop} : ∀ {xs : List α} {ys : List β}, All2 R xs ys → ∀ k, All2 R (xs.drop k) (ys.drop k)
  | [], [], _, k => by simp [All2]
  | _ :: _, _ :: _, hh, 0 => hh
  | _ :: _, _ :: _, hh, k + 1 => All2.drop hh.2 k
  | [], _ :: _, hh, _ => hh.elim
  | _ :: _, [], hh, _ => hh.elim

theorem All2.take {α β : Type} {R : α → β → Prop} : ∀ {xs : List α} {ys : List β}, All2 R xs ys → ∀ k, All2 R (xs.take k) (ys.take k)
  | [], [], _, k => by simp [All2]
  | _ :: _, _ :: _, _, 0 => trivial
  | _ :: _, _ :: _, hh, k + 1 => ⟨hh.1, All2.take hh.2 k⟩
  | [], _ :: _, hh, _ => hh.elim
  | _ :: _, [], hh, _ => hh.elim

theorem All2.find {α β : Type} {R : α → β → Prop} : ∀ {xs : List α} {ys : List β}, All2 R xs ys → ∀ i (hi : i < xs.length), ∃ c, ys[i]? = some c ∧ R xs[i] c
  | [], [], _, i, hi => absurd hi (Nat.not_lt_zero _)
  | _ :: _, y :: _, hh, 0, _ => ⟨y, rfl, hh.1⟩
  | _ :: _, _ :: _, hh, i + 1, hi => by
    obtain ⟨c, h1, h2⟩ := All2.find hh.2 i (Nat.lt_of_succ_lt_succ hi)
    exact ⟨c, by simpa using h1, h2⟩
  | [], _ :: _, hh, _, _ => hh.elim
  | _ :: _, [], hh, _, _ => hh.elim

theorem All2.each {α β : Type} {R : α → β → Prop} : ∀ {xs : List α} {ys : List β}, All2 R xs ys → ∀ c ∈ ys, ∃ x, R x c
  | [], [], _, c, hc => by cases hc
  | x :: _, y :: _, hh, c, hc => by
    rcases List.mem_cons.1 hc with rfl | hc
    · exact ⟨x, hh.1⟩
    · exact All2.each hh.2 c hc
  | [], _ :: _, hh, _, _ => hh.elim
  | _ :: _, [], hh, _, _ => hh.elim

theorem flatten_at {size : Nat} : ∀ {css : List (List Value)} {k : Nat} {c : List Value}, (∀ c ∈ css, c.length = size) → css[k]? = some c → ∀ j, j < size → css.flatten[k * size + j]? = c[j]?
  | [], _, _, _, h, _, _ => by simp at h
  | d :: css, 0, c, hl, h, j, hj => by
    simp only [List.getElem?_cons_zero, Option.some.injEq] at h
    subst h
    simp only [Nat.zero_mul, Nat.zero_add, List.flatten_cons]
    exact List.getElem?_append_left (by rw [hl d List.mem_cons_self]; exact hj)
  | d :: css, k + 1, c, hl, h, j, hj => by
    have ih := flatten_at (fun c hc => hl c (List.mem_cons_of_mem _ hc)) (k := k) (by simpa using h) j hj
    have hd := hl d List.mem_cons_self
    rw [List.flatten_cons, List.getElem?_append_right (by rw [hd, Nat.succ_mul]; omega), ← ih]
    congr 1
    rw [hd, Nat.succ_mul]
    omega

theorem flatten_drop {size : Nat} : ∀ {css : List (List Value)}, (∀ c ∈ css, c.length = size) → ∀ k, (css.drop k).flatten = css.flatten.drop (k * size)
  | [], _, k => by simp
  | d :: css, _, 0 => by simp
  | d :: css, hl, k + 1 => by
    rw [List.drop_succ_cons, flatten_drop (fun c hc => hl c (List.mem_cons_of_mem _ hc)) k, List.flatten_cons, Nat.succ_mul]
    have hd := hl d List.mem_cons_self
    rw [Nat.add_comm, ← hd, List.drop_append, Nat.add_sub_cancel_left, List.drop_of_length_le (show d.length ≤ d.length + k * d.length by omega), List.nil_append]

theorem flatten_len {size : Nat} : ∀ {css : List (List Value)}, (∀ c ∈ css, c.length = size) → css.flatten.length = css.length * size
  | [], _ => by simp
  | d :: css, hl => by
    rw [List.flatten_cons, List.length_append, flatten_len (fun c hc => hl c (List.mem_cons_of_mem _ hc)), hl d List.mem_cons_self, List.length_cons, Nat.succ_mul]
    omega

/-- no address and no room, or one in the midst of a block -/
def Ples (ao : Option Addr) (cap : Nat) : Prop := (ao = none ∧ cap = 0) ∨ ∃ b off, ao = some ⟨b, off, none⟩

theorem Ples.none : Ples Option.none 0 := .inl ⟨rfl, rfl⟩
theorem Ples.some (b off cap : Nat) : Ples (Option.some ⟨b, off, Option.none⟩) cap := .inr ⟨b, off, rfl⟩

section
variable {α : Type} {size : Nat} {K : Kd α size} {ok ok' : Nat → Prop} {w w' W : World} {ao : Option Addr} {cap : Nat} {l : List α}

/-- the slice at 'ao' of so much room holds the things l -/
def Lies (K : Kd α size) (ok : Nat → Prop) (W : World) (ao : Option Addr) (cap : Nat) (l : List α) : Prop :=
  l.length ≤ cap ∧ (ao = none → cap = 0) ∧
    (l = [] ∨ ∃ b off css, ao = some ⟨b, off, none⟩ ∧ b < W.heap.size ∧ ok b ∧ All2 (K.rel ok W) l css ∧ ∀ j u, css.flatten[j]? = some u → W.cell? ⟨b, off + j, none⟩ = some u)

theorem Lies.nil (K : Kd α size) (ok : Nat → Prop) (W : World) (h : ao = none → cap = 0) : Lies K ok W ao cap ([] : List α) := ⟨Nat.zero_le _, h, .inl rfl⟩

theorem Lies.move (hk : Kept ok w w') (hok : ∀ b, b < w.heap.size → ok b → ok' b) (h : Lies K ok w ao cap l) : Lies K ok' w' ao cap l := by
  refine ⟨h.1, h.2.1, ?_⟩
  rcases h.2.2 with h' | ⟨b, off, css, e, hb, ho, ha, hc⟩
  · exact .inl h'
  · exact .inr ⟨b, off, css, e, Nat.lt_of_lt_of_le hb hk.1, hok b hb ho, All2.imp (fun x cs hr => K.move hk hok hr) ha, fun j u hj => (World.cell?_of_block (w := w) (hk.2 b hb ho)).trans (hc j u hj)⟩

theorem Lies.later (h : Lies K ok w ao cap l) (hb : Below w.heap.size w w') : Lies K ok w' ao cap l := h.move (Kept.of_below hb) (fun _ _ ho => ho)

theorem rel_len {css : List (List Value)} (ha : All2 (K.rel ok W) l css) : ∀ c ∈ css, c.length = size := fun c hc => by
  obtain ⟨x, hx⟩ := ha.each c hc
  exact K.len hx

theorem rel_one {css : List (List Value)} (ha : All2 (K.rel ok W) l css) : ∀ u ∈ css.flatten, u.oneCell' = true := fun u hu => by
  obtain ⟨c, hc, hu⟩ := List.mem_flatten.1 hu
  obtain ⟨x, hx⟩ := ha.each c hc
  exact K.one hx u hu

theorem Lies.at (h : Lies K ok W ao cap l) {k : Nat} (hk : k < l.length) :
    ∃ b off, ao = some ⟨b, off, none⟩ ∧ b < W.heap.size ∧ ok b ∧ ∃ cs, K.rel ok W l[k] cs ∧ ∀ j u, cs[j]? = some u → W.cell? ⟨b, off + k * size + j, none⟩ = some u := by
  rcases h.2.2 with h' | ⟨b, off, css, e, hb, ho, ha, hc⟩
  · subst h'
    exact absurd hk (Nat.not_lt_zero _)
  · obtain ⟨c, h1, h2⟩ := ha.find k hk
    refine ⟨b, off, e, hb, ho, c, h2, fun j u hj => ?_⟩
    have hl := rel_len ha
    have hjs : j < size := by
      have := (List.getElem?_eq_some_iff.1 hj).1
      rwa [K.len h2] at this
    rw [Nat.add_assoc]
    exact hc _ u ((flatten_at hl h1 j hjs).trans hj)

theorem Lies.take (h : Lies K ok W ao cap l) (k : Nat) : Lies K ok W ao cap (l.take k) := by
  refine ⟨by rw [List.length_take]; exact Nat.le_trans (Nat.min_le_right _ _) h.1, h.2.1, ?_⟩
  rcases h.2.2 with h' | ⟨b, off, css, e, hb, ho, ha, hc⟩
  · left; subst h'; simp
  · right
    refine ⟨b, off, css.take k, e, hb, ho, ha.take k, fun j u hj => hc j u ?_⟩
    have : css.flatten = (css.take k).flatten ++ (css.drop k).flatten := by rw [← List.flatten_append, List.take_append_drop]
    rw [this, List.getElem?_append_left (List.getElem?_eq_some_iff.1 hj).1]
    exact hj

theorem Lies.drop {b off : Nat} (h : Lies K ok W (some ⟨b, off, none⟩) cap l) (k : Nat) : Lies K ok W (some ⟨b, off + k * size, none⟩) (cap - k) (l.drop k) := by
  have h1 := h.1
  refine ⟨by rw [List.length_drop]; omega, (fun e => by cases e), ?_⟩
  rcases h.2.2 with h' | ⟨b, off, css, e, hb, ho, ha, hc⟩
  · left; subst h'; simp
  · cases e
    right
    refine ⟨b, _, css.drop k, rfl, hb, ho, ha.drop k, fun j u hj => ?_⟩
    rw [flatten_drop (rel_len ha) k, List.getElem?_drop] at hj
    rw [Nat.add_assoc]
    exact hc _ u hj

/-- a row that the call itself lays, and that still grows -/
def Rows (K : Kd α size) (ok : Nat → Prop) (W : World) (base : Nat) (E : TypeId) (v : Value) (l : List α) : Prop :=
  ∃ css : List (List Value), W.ownsRow base E size v l.length css.flatten ∧ All2 (K.rel (fun b => ok b ∧ v.ownBlock ≠ some b) W) l css

theorem Rows.nil (K : Kd α size) (ok : Nat → Prop) (W : World) (base : Nat) (E : TypeId) : Rows K ok W base E (.slice none 0 0) ([] : List α) :=
  ⟨[], World.ownsRow_nil _ _ _ _, trivial⟩

theorem Rows.later {base : Nat} {E : TypeId} {v : Value} (h : Rows K ok w base E v l) (hb : Below w.heap.size w w') : Rows K ok w' base E v l := by
  obtain ⟨css, h1, h2⟩ := h
  exact ⟨css, own_stays h1 hb, All2.imp (fun x cs hr => K.move (Kept.of_below hb) (fun _ _ ho => ho) hr) h2⟩

theorem own_kept {base n : Nat} {E : TypeId} {v : Value} {vs : List Value} (h : w.ownsRow base E size v n vs) (hk : ∀ g, v.ownBlock = some g → w'.heap[g]? = w.heap[g]?) : w'.ownsRow base E size v n vs := by
  refine ⟨h.1, ?_⟩
  rcases h.2 with h' | ⟨g, cap, cur, h', h1, h2, h3⟩
  · exact .inl h'
  · exact .inr ⟨g, cap, cur, h', h1, (hk g (by rw [h']; rfl)).trans h2, h3⟩

/-- a step that leaves the row's own block, and all that hangs on it, as they were -/
theorem Rows.move {base : Nat} {E : TypeId} {v : Value} (h : Rows K ok w base E v l) (hk : Kept ok w w') (hv : ∀ g, v.ownBlock = some g → w'.heap[g]? = w.heap[g]?) : Rows K ok w' base E v l := by
  obtain ⟨css, h1, h2⟩ := h
  exact ⟨css, own_kept h1 hv, All2.imp (fun x cs hr => K.move (ok := fun b => ok b ∧ v.ownBlock ≠ some b) ⟨hk.1, fun b hb ho => hk.2 b hb ho.1⟩ (fun _ _ ho => ho) hr) h2⟩

/-- a row of the call's own is a row that lies -/
theorem Rows.lies {base : Nat} {E : TypeId} {v : Value} (h : Rows K ok w base E v l) (hok : ∀ b, v.ownBlock = some b → ok b) :
    ∃ ao cap, v = .slice ao l.length cap ∧ Lies K ok w ao cap l ∧ Ples ao cap ∧ cap ≤ maxLen ∧ ∀ ad, ao = some ad → base ≤ ad.block := by
  obtain ⟨css, h1, h2⟩ := h
  have h3 : All2 (K.rel ok w) l css := All2.imp (fun x cs hr => K.move (Kept.of_below (Below.refl _ _)) (fun _ _ ho => ho.1) hr) h2
  rcases h1.2 with ⟨e, h0⟩ | ⟨g, cap, cur, e, hb, hg, hc, hm, hs, ht⟩
  · have : l = [] := List.length_eq_zero_iff.1 h0
    subst this
    exact ⟨none, 0, e, Lies.nil _ _ _ (fun _ => rfl), Ples.none, Nat.zero_le _, (fun ad h => by cases h)⟩
  · subst e
    refine ⟨_, _, rfl, ⟨hc, (fun h => by cases h), .inr ⟨g, 0, css, rfl, (h1.lt g rfl).2, hok g rfl, h3, fun j u hj => ?_⟩⟩, Ples.some _ _ _, hm, fun ad h => by cases h; exact hb⟩
    have := h1.cells (g := g) rfl j u hj
    rwa [addr_add] at this

end

/-- what is known of a slice's type and its elements' -/
structure Elt (T E : TypeId) (size bytes : Nat) : Prop where
  und : Try.prog.underlying T = some (.slice E)
  info : ∃ i z, Try.prog.info? E = some i ∧ i.zero = some z ∧ i.size = size ∧ i.bytes = bytes ∧ z.cells.size = size
  pos : 0 < size

theorem own_lt' {w : World} {base size n : Nat} {e : TypeId} {v : Value} {vs : List Value} (h : w.ownsRow base e size v n vs) : ∀ g, v.ownBlock = some g → base ≤ g ∧ g < w.heap.size := h.lt

/-- append of whatever lies, to a row of the call's own -/
theorem wpList_append_rows {α : Type} {size bytes : Nat} {K : Kd α size} {ok ok2 : Nat → Prop} {w : World} {ops : Array Oper} {rest : List Oper} {o : Oper} {a : Act} {Q : Exit → Act → World → Prop} {T E : TypeId} (et : Elt T E size bytes) (hgd : o.guard = none) (s x : Operand)
    (ho : o.op = .call { callee := .builtin .append, args := #[s, x], argTypes := #[T, T] })
    (base : Nat) (v : Value) (l : List α) (hs : a.eval s = v) (hown : Rows K ok w base E v l)
    (ao : Option Addr) (cap m : Nat) (l2 : List α) (hx : a.eval x = .slice ao m cap) (hm : m = l2.length) (he : Lies K ok2 w ao cap l2) (hok : ∀ b, b < w.heap.size → ok2 b → v.ownBlock ≠ some b → ok b) (hap : ∀ b, b < w.heap.size → ok2 b → v.ownBlock ≠ some b)
    (hlen : l.length + m ≤ 100000) (hby : bytes ≤ 1000) (hbase : base ≤ w.heap.size)
    (h : ∀ v' w', Rows K ok w' base E v' (l ++ l2) → w.grownBy w' v.ownBlock → (v'.ownBlock = v.ownBlock ∨ v'.ownBlock = some w.heap.size) → wpList Try.prog ops Q rest (a.put o.dst v') w') : wpList Try.prog ops Q (o :: rest) a w := by
  obtain ⟨i0, z, hi, hz0, hz1, hz2, hz3⟩ := et.info
  obtain ⟨css, h1, h2⟩ := hown
  subst hm
  by_cases hl2 : l2 = []
  · subst hl2
    have hh : Rows K ok w base E v (l ++ []) := by rw [List.append_nil]; exact ⟨css, h1, h2⟩
    cases ao with
    | none =>
      have h0 : cap = 0 := he.2.1 rfl
      subst h0
      refine wpList_append_own_none hgd s x T ho base E i0 size et.und hi v _ _ hs h1 hx ?_
      exact h v w hh ⟨rfl, rfl, rfl, Nat.le_refl _, fun _ _ _ => rfl⟩ (.inl rfl)
    | some ad =>
      refine wpList_append_own_at w hgd s x T ho base E i0 z size bytes et.und hi hz0 hz1 hz2 hz3 et.pos v _ _ hs h1 ad 0 cap [] hx (by simp) (by simp) (by simp) (by unfold maxLen; simp only [List.length_nil] at hlen; omega)
        (by simp only [List.length_nil] at hlen; exact Nat.le_trans (Nat.mul_le_mul (show l.length + 0 ≤ 100000 by omega) hby) (by decide)) hbase (fun v' w' q1 q2 q3 q4 => ?_)
      refine h v' w' ?_ q2 q4
      refine ⟨css, by simpa using q1, ?_⟩
      rw [List.append_nil]
      refine All2.imp (fun y cs hr => K.move (ok := fun b => ok b ∧ v.ownBlock ≠ some b) (Kept.of_grown q2 (fun b hb => hb.2)) (fun b hb ho => ⟨ho.1, ?_⟩) hr) h2
      rcases q4 with e | e
      · rw [e]; exact ho.2
      · rw [e]; intro e2; have := Option.some.inj e2; omega
  · rcases he.2.2 with h' | ⟨b, off, css2, e, hb, hob, ha, hc⟩
    · exact absurd h' hl2
    · subst e
      have hlen2 : css2.flatten.length = l2.length * size := by rw [flatten_len (rel_len ha), ← ha.length]
      refine wpList_append_own_at w hgd s x T ho base E i0 z size bytes et.und hi hz0 hz1 hz2 hz3 et.pos v _ _ hs h1 ⟨b, off, none⟩ l2.length cap css2.flatten hx hlen2 (fun j u hj => by rw [addr_add]; exact hc j u hj) (rel_one ha) (by unfold maxLen; omega)
        (Nat.le_trans (Nat.mul_le_mul hlen hby) (by decide)) hbase (fun v' w' q1 q2 q3 q4 => ?_)
      refine h v' w' ⟨css ++ css2, ?_, ?_⟩ q2 q4
      · rw [List.length_append, List.flatten_append]
        exact q1
      · have hv' : ∀ b, b < w.heap.size → v.ownBlock ≠ some b → v'.ownBlock ≠ some b := fun b hb hne => by
          rcases q4 with e | e
          · rw [e]; exact hne
          · rw [e]; intro e2; have := Option.some.inj e2; omega
        refine All2.append ?_ ?_
        · exact All2.imp (fun y cs hr => K.move (ok := fun b => ok b ∧ v.ownBlock ≠ some b) (Kept.of_grown q2 (fun b hb => hb.2)) (fun b hb ho => ⟨ho.1, hv' b hb ho.2⟩) hr) h2
        · refine All2.imp (fun y cs hr => ?_) ha
          have hr' : K.rel (fun b => ok b ∧ v.ownBlock ≠ some b) w y cs := K.move (Kept.of_below (Below.refl _ _)) (fun b hb ho => ⟨hok b hb ho (hap b hb ho), hap b hb ho⟩) hr
          exact K.move (ok := fun b => ok b ∧ v.ownBlock ≠ some b) (Kept.of_grown q2 (fun b hb => hb.2)) (fun b hb ho => ⟨ho.1, hv' b hb ho.2⟩) hr'

/-- new blocks will do -/
def Fresh (ok : Nat → Prop) (w : World) : Prop := ∀ b, w.heap.size ≤ b → ok b

theorem Fresh.later {ok : Nat → Prop} {w w' : World} (h : Fresh ok w) (hs : w.heap.size ≤ w'.heap.size) : Fresh ok w' := fun b hb => h b (Nat.le_trans hs hb)

section
variable {α : Type} {size : Nat} {K : Kd α size} {ok : Nat → Prop} {W : World}

/-- a list of one, just laid -/
theorem lies_one {x : α} {cs : List Value} (zs : Array Value) (hz : zs = cs.toArray) (ty : TypeId) (hr : K.rel ok W x cs) (hok : ok W.heap.size) : Lies K ok (W.alloc (.cells zs ty)) (some ⟨W.heap.size, 0, none⟩) 1 [x] := by
  subst hz
  have hb : Below W.heap.size W (W.alloc (.cells cs.toArray ty)) := (Below.refl _ W).alloc (Nat.le_refl _) _
  refine ⟨Nat.le_refl _, (fun e => by cases e), .inr ⟨W.heap.size, 0, [cs], rfl, by simp, hok, ⟨K.move (Kept.of_below hb) (fun _ _ h => h) hr, trivial⟩, fun j u hj => ?_⟩⟩
  simp only [List.flatten_cons, List.flatten_nil, List.append_nil] at hj
  have hh := heap_alloc_new W (.cells cs.toArray ty)
  simp only [World.cell?, hh, Nat.zero_add]
  simpa using hj

theorem rows_lt {base : Nat} {E : TypeId} {v : Value} {l : List α} (h : Rows K ok W base E v l) : ∀ g, v.ownBlock = some g → base ≤ g ∧ g < W.heap.size := by
  obtain ⟨css, h1, _⟩ := h
  exact h1.lt

theorem rows_form {base : Nat} {E : TypeId} {v : Value} {l : List α} (h : Rows K ok W base E v l) : ∃ a c, v = .slice a l.length c := by
  obtain ⟨css, h1, _⟩ := h
  rcases h1.2 with ⟨e, h0⟩ | ⟨g, cap, cur, e, _⟩
  · exact ⟨none, 0, by rw [e, h0]⟩
  · exact ⟨_, cap, e⟩

/-- of a row that lies in new blocks it is all one what else will do -/
theorem rows_lies {base : Nat} {E : TypeId} {a : Option Addr} {n c : Nat} {l : List α} (h : Rows K ok W base E (.slice a n c) l) (hok : ∀ b, base ≤ b → ok b) : n = l.length ∧ Lies K ok W a c l ∧ Ples a c ∧ ∀ ad, a = some ad → base ≤ ad.block := by
  obtain ⟨a', c', e, h1, h2, _, h3⟩ := h.lies (fun b e => hok b (rows_lt h b e).1)
  simp only [Value.slice.injEq] at e
  obtain ⟨rfl, rfl, rfl⟩ := e
  exact ⟨rfl, h1, h2, h3⟩

theorem grown_alloc {w w' : World} {o : Obj} {row : Option Nat} (h : (w.alloc o).grownBy w' row) : w.grownBy w' row :=
  ⟨h.os, h.tape, h.output, by have := h.size; simp at this; omega, fun b hb hne => (h.block b (by simp; omega) hne).trans (Below.heap_alloc _ _ _ hb)⟩

theorem wpList_append_one {bytes : Nat} {wr : World} {ops : Array Oper} {rest : List Oper} {o : Oper} {a : Act} {Q : Exit → Act → World → Prop} {T E : TypeId} (et : Elt T E size bytes) (hgd : o.guard = none) (s xo : Operand)
    (ho : o.op = .call { callee := .builtin .append, args := #[s, xo], argTypes := #[T, T] })
    (base : Nat) (v : Value) (l : List α) (hs : a.eval s = v) (hown : Rows K ok wr base E v l) (x : α) (cs : List Value) (zs : Array Value) (ty : TypeId) (hx : a.eval xo = .slice (some ⟨wr.heap.size, 0, none⟩) 1 1) (hz : zs = cs.toArray)
    (hr : K.rel (fun b => ok b ∧ v.ownBlock ≠ some b) wr x cs) (hok : Fresh ok wr) (hlen : l.length + 1 ≤ 100000) (hby : bytes ≤ 1000) (hbase : base ≤ wr.heap.size)
    (h : ∀ v' w', Rows K ok w' base E v' (l ++ [x]) → wr.grownBy w' v.ownBlock → (v'.ownBlock = v.ownBlock ∨ v'.ownBlock = some (wr.heap.size + 1)) → wpList Try.prog ops Q rest (a.put o.dst v') w') : wpList Try.prog ops Q (o :: rest) a (wr.alloc (.cells zs ty)) := by
  have hb : Below wr.heap.size wr (wr.alloc (.cells zs ty)) := (Below.refl _ wr).alloc (Nat.le_refl _) _
  have hL : Lies K (fun b => ok b ∧ v.ownBlock ≠ some b) (wr.alloc (.cells zs ty)) (some ⟨wr.heap.size, 0, none⟩) 1 [x] := lies_one zs hz ty hr ⟨hok _ (Nat.le_refl _), fun e => by have := (rows_lt hown _ e).2; omega⟩
  refine wpList_append_rows et hgd s xo ho base v l hs (hown.later hb) _ _ 1 [x] hx rfl hL (fun _ _ h _ => h.1) (fun _ _ h => h.2) hlen hby (by simp; omega) (fun v' w' q1 q2 q3 => h v' w' q1 (grown_alloc q2) ?_)
  simpa using q3

end

/-- a slice of things of a kind (TrNode's kRow says 'Ples' besides) -/
def kRow {α : Type} {size : Nat} (K : Kd α size) : Kd (List α) 1 where
  rel ok w l cs := ∃ a c, cs = [.slice a l.length c] ∧ Lies K ok w a c l
  move hk hok _ _ := by
    rintro ⟨a, c, rfl, h1⟩
    exact ⟨a, c, rfl, h1.move hk hok⟩
  len := by
    rintro _ _ _ _ ⟨a, c, rfl, _⟩
    rfl
  one := by
    rintro _ _ _ _ ⟨a, c, rfl, _⟩ x hx
    simp only [List.mem_cons, List.not_mem_nil, or_false] at hx
    subst hx
    rfl

/-- a whole number -/
def kInt : Kd Int 1 where
  rel _ _ n cs := cs = [.int .i64 n]
  move _ _ _ _ h := h
  len := by
    rintro _ _ _ _ rfl
    rfl
  one := by
    rintro _ _ _ _ rfl x hx
    rw [List.mem_singleton.1 hx]
    rfl

theorem put_by {p : Prop} (h : p) : Hid p := h

end Go.Proofs.Ytppcikfhhmiipaa
