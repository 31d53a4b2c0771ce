/- Rows of things in memory: each thing its cells, whatever hangs on it in blocks that will do. -/
import Derived.Test.YtndnbkgejdindaaRowsStep
import Derived.Maps.AppendAt
import Derived.Handy
namespace Go.Proofs.Ytndnbkgejdindaa
open Go.ChangeShapes Go.WideShapes Go.ChangeAt Go.RowKit

/-- what lies in blocks that will do is as it was -/
def Kept (ok : Nat → Prop) (w w' : World) : Prop := w.heap.size ≤ w'.heap.size ∧ ∀ b, b < w.heap.size → ok b → w'.heap[b]? = w.heap[b]?

theorem Kept.of_below {ok : Nat → Prop} {w w' : World} (h : Below w.heap.size w w') : Kept ok w w' := ⟨h.size, fun b hb _ => h.block b hb⟩

theorem Kept.of_grown {ok : Nat → Prop} {w w' : World} {row : Option Nat} (hg : w.grownBy w' row) (hok : ∀ b, ok b → row ≠ some b) : Kept ok w w' :=
  ⟨hg.size, fun b hb ho => hg.block b hb (fun e => hok b ho e.symm)⟩

theorem Kept.trans {ok : Nat → Prop} {a b c : World} (h : Kept ok a b) (k : Kept ok b c) : Kept ok a c :=
  ⟨Nat.le_trans h.1 k.1, fun g hg ho => (k.2 g (Nat.lt_of_lt_of_le hg h.1) ho).trans (h.2 g hg ho)⟩

theorem Octs.move {ok : Nat → Prop} {w w' : World} {ao : Option Addr} {cap : Nat} {xs : List Int} (h : Octs w ao cap xs) (hok : xs ≠ [] → ∀ ad, ao = some ad → ok ad.block) (hk : Kept ok w w') : Octs w' ao cap xs := by
  refine ⟨h.1, h.2.1, h.2.2.1, h.2.2.2.1, ?_⟩
  by_cases hx : xs = []
  · exact .inl hx
  · rcases h.2.2.2.2 with h' | ⟨b, off, e, hc⟩
    · exact .inl h'
    · exact .inr ⟨b, off, e, fun i hi => (World.cell?_of_block (w := w) (hk.2 b (World.block_lt_of_cell? _ _ (hc i hi)) (hok hx _ e))).trans (hc i hi)⟩

theorem IsBody.move {ok ok' : Nat → Prop} {w w' : World} {u : Value} {xs : List Int} (hk : Kept ok w w') (hok : ∀ b, b < w.heap.size → ok b → ok' b) (h : IsBody w ok u xs) : IsBody w' ok' u xs := by
  obtain ⟨a, c, e, o, hb⟩ := h
  exact ⟨a, c, e, o.move hb hk, fun hx ad ha => hok _ (o.blocks hx ad ha) (hb hx ad ha)⟩

theorem IsBody.one {ok : Nat → Prop} {w : World} {u : Value} {xs : List Int} (h : IsBody w ok u xs) : u.oneCell' = true := by
  obtain ⟨a, c, e, _, _⟩ := h
  subst e
  rfl

/-- a kind of thing that lies in so many cells -/
structure Kd (α : Type) (size : Nat) where
  rel : (Nat → Prop) → World → α → List Value → Prop
  move : ∀ {ok ok' : Nat → Prop} {w w' : World}, Kept ok w w' → (∀ b, b < w.heap.size → ok b → ok' b) → ∀ {x : α} {cs : List Value}, rel ok w x cs → rel ok' w' x cs
  len : ∀ {ok : Nat → Prop} {w : World} {x : α} {cs : List Value}, rel ok w x cs → cs.length = size
  one : ∀ {ok : Nat → Prop} {w : World} {x : α} {cs : List Value}, rel ok w x cs → ∀ u ∈ cs, u.oneCell' = true

theorem All2.append {α β : Type} {R : α → β → Prop} : ∀ {xs : List α} {ys : List β} {zs : List α} {us : List β}, All2 R xs ys → All2 R zs us → All2 R (xs ++ zs) (ys ++ us)
  | [], [], _, _, _, h => h
  | _ :: _, _ :: _, _, _, hh, h => ⟨hh.1, All2.append hh.2 h⟩
  | [], _ :: _, _, _, hh, _ => hh.elim
  | _ :: _, [], _, _, hh, _ => hh.elim

theorem All2.drop {α β : Type} {R : α → β → Prop} : ∀ {xs : List α} {ys : List β}, All2 R xs ys → ∀ k, All2 R (xs.drop k) (ys.drop k)
  | [], [], _, k => by simp [All2]
  | _ :: _, _ :: _, hh, 0 => hh
  | _ :: _, _ :: _, hh, k + 1 => All2.drop hh.2 k
  | [], _ :: _, hh, _ => hh.elim
  | _ :: _, [], hh, _ => hh.elim

theorem All2.take {α β : Type} {R : α → β → Prop} : ∀ {xs : List α} {ys : List β}, All2 R xs ys → ∀ k, All2 R (xs.take k) (ys.take k)
  | [], [], _, k => by simp [All2]
  | _ :: _, _ :: _, _, 0 => trivial
  | _ :: _, _ :: _, hh, k + 1 => ⟨hh.1, All2.take hh.2 k⟩
  | [], _ :: _, hh, _ => hh.elim
  | _ :: _, [], hh, _ => hh.elim

theorem All2.find {α β : Type} {R : α → β → Prop} : ∀ {xs : List α} {ys : List β}, All2 R xs ys → ∀ i (hi : i < xs.length), ∃ c, ys[i]? = some c ∧ R xs[i] c
  | [], [], _, i, hi => absurd hi (Nat.not_lt_zero _)
  | _ :: _, y :: _, hh, 0, _ => ⟨y, rfl, hh.1⟩
  | _ :: _, _ :: _, hh, i + 1, hi => by
    obtain ⟨c, h1, h2⟩ := All2.find hh.2 i (Nat.lt_of_succ_lt_succ hi)
    exact ⟨c, by simpa using h1, h2⟩
  | [], _ :: _, hh, _, _ => hh.elim
  | _ :: _, [], hh, _, _ => hh.elim

theorem All2.each {α β : Type} {R : α → β → Prop} : ∀ {xs : List α} {ys : List β}, All2 R xs ys → ∀ c ∈ ys, ∃ x, R x c
  | [], [], _, c, hc => by cases hc
  | x :: _, y :: _, hh, c, hc => by
    rcases List.mem_cons.1 hc with rfl | hc
    · exact ⟨x, hh.1⟩
    · exact All2.each hh.2 c hc
  | [], _ :: _, hh, _, _ => hh.elim
  | _ :: _, [], hh, _, _ => hh.elim

theorem flatten_at {size : Nat} : ∀ {css : List (List Value)} {k : Nat} {c : List Value}, (∀ c ∈ css, c.length = size) → css[k]? = some c → ∀ j, j < size → css.flatten[k * size + j]? = c[j]?
  | [], _, _, _, h, _, _ => by simp at h
  | d :: css, 0, c, hl, h, j, hj => by
    simp only [List.getElem?_cons_zero, Option.some.injEq] at h
    subst h
    simp only [Nat.zero_mul, Nat.zero_add, List.flatten_cons]
    exact List.getElem?_append_left (by rw [hl d List.mem_cons_self]; exact hj)
  | d :: css, k + 1, c, hl, h, j, hj => by
    have ih := flatten_at (fun c hc => hl c (List.mem_cons_of_mem _ hc)) (k := k) (by simpa using h) j hj
    have hd := hl d List.mem_cons_self
    rw [List.flatten_cons, List.getElem?_append_right (by rw [hd, Nat.succ_mul]; omega), ← ih]
    congr 1
    rw [hd, Nat.succ_mul]
    omega

theorem flatten_drop {size : Nat} : ∀ {css : List (List Value)}, (∀ c ∈ css, c.length = size) → ∀ k, (css.drop k).flatten = css.flatten.drop (k * size)
  | [], _, k => by simp
  | d :: css, _, 0 => by simp
  | d :: css, hl, k + 1 => by
    rw [List.drop_succ_cons, flatten_drop (fun c hc => hl c (List.mem_cons_of_mem _ hc)) k, List.flatten_cons, Nat.succ_mul]
    have hd := hl d List.mem_cons_self
    rw [Nat.add_comm, ← hd, List.drop_append, Nat.add_sub_cancel_left, List.drop_of_length_le (show d.length ≤ d.length + k * d.length by omega), List.nil_append]

theorem flatten_len {size : Nat} : ∀ {css : List (List Value)}, (∀ c ∈ css, c.length = size) → css.flatten.length = css.length * size
  | [], _ => by simp
  | d :: css, hl => by
    rw [List.flatten_cons, List.length_append, flatten_len (fun c hc => hl c (List.mem_cons_of_mem _ hc)), hl d List.mem_cons_self, List.length_cons, Nat.succ_mul]
    omega

/-- no address and no room, or one in the midst of a block -/
def Ples (ao : Option Addr) (cap : Nat) : Prop := (ao = none ∧ cap = 0) ∨ ∃ b off, ao = some ⟨b, off, none⟩

theorem Ples.none : Ples Option.none 0 := .inl ⟨rfl, rfl⟩
theorem Ples.some (b off cap : Nat) : Ples (Option.some ⟨b, off, Option.none⟩) cap := .inr ⟨b, off, rfl⟩

section
variable {α : Type} {size : Nat} {K : Kd α size} {ok ok' : Nat → Prop} {w w' W : World} {ao : Option Addr} {cap : Nat} {l : List α}

/-- the slice at 'ao' of so much room holds the things l -/
def Lies (K : Kd α size) (ok : Nat → Prop) (W : World) (ao : Option Addr) (cap : Nat) (l : List α) : Prop :=
  l.length ≤ cap ∧ (ao = none → cap = 0) ∧
    (l = [] ∨ ∃ b off css, ao = some ⟨b, off, none⟩ ∧ b < W.heap.size ∧ ok b ∧ All2 (K.rel ok W) l css ∧ ∀ j u, css.flatten[j]? = some u → W.cell? ⟨b, off + j, none⟩ = some u)

theorem Lies.nil (K : Kd α size) (ok : Nat → Prop) (W : World) (h : ao = none → cap = 0) : Lies K ok W ao cap ([] : List α) := ⟨Nat.zero_le _, h, .inl rfl⟩

theorem Lies.move (hk : Kept ok w w') (hok : ∀ b, b < w.heap.size → ok b → ok' b) (h : Lies K ok w ao cap l) : Lies K ok' w' ao cap l := by
  refine ⟨h.1, h.2.1, ?_⟩
  rcases h.2.2 with h' | ⟨b, off, css, e, hb, ho, ha, hc⟩
  · exact .inl h'
  · exact .inr ⟨b, off, css, e, Nat.lt_of_lt_of_le hb hk.1, hok b hb ho, All2.imp (fun x cs hr => K.move hk hok hr) ha, fun j u hj => (World.cell?_of_block (w := w) (hk.2 b hb ho)).trans (hc j u hj)⟩

theorem Lies.later (h : Lies K ok w ao cap l) (hb : Below w.heap.size w w') : Lies K ok w' ao cap l := h.move (Kept.of_below hb) (fun _ _ ho => ho)

theorem rel_len {css : List (List Value)} (ha : All2 (K.rel ok W) l css) : ∀ c ∈ css, c.length = size := fun c hc => by
  obtain ⟨x, hx⟩ := ha.each c hc
  exact K.len hx

theorem rel_one {css : List (List Value)} (ha : All2 (K.rel ok W) l css) : ∀ u ∈ css.flatten, u.oneCell' = true := fun u hu => by
  obtain ⟨c, hc, hu⟩ := List.mem_flatten.1 hu
  obtain ⟨x, hx⟩ := ha.each c hc
  exact K.one hx u hu

theorem Lies.at (h : Lies K ok W ao cap l) {k : Nat} (hk : k < l.length) :
    ∃ b off, ao = some ⟨b, off, none⟩ ∧ b < W.heap.size ∧ ok b ∧ ∃ cs, K.rel ok W l[k] cs ∧ ∀ j u, cs[j]? = some u → W.cell? ⟨b, off + k * size + j, none⟩ = some u := by
  rcases h.2.2 with h' | ⟨b, off, css, e, hb, ho, ha, hc⟩
  · subst h'
    exact absurd hk (Nat.not_lt_zero _)
  · obtain ⟨c, h1, h2⟩ := ha.find k hk
    refine ⟨b, off, e, hb, ho, c, h2, fun j u hj => ?_⟩
    have hl := rel_len ha
    have hjs : j < size := by
      have := (List.getElem?_eq_some_iff.1 hj).1
      rwa [K.len h2] at this
    rw [Nat.add_assoc]
    exact hc _ u ((flatten_at hl h1 j hjs).trans hj)

theorem Lies.take (h : Lies K ok W ao cap l) (k : Nat) : Lies K ok W ao cap (l.take k) := by
  refine ⟨by rw [List.length_take]; exact Nat.le_trans (Nat.min_le_right _ _) h.1, h.2.1, ?_⟩
  rcases h.2.2 with h' | ⟨b, off, css, e, hb, ho, ha, hc⟩
  · left; subst h'; simp
  · right
    refine ⟨b, off, css.take k, e, hb, ho, ha.take k, fun j u hj => hc j u ?_⟩
    have : css.flatten = (css.take k).flatten ++ (css.drop k).flatten := by rw [← List.flatten_append, List.take_append_drop]
    rw [this, List.getElem?_append_left (List.getElem?_eq_some_iff.1 hj).1]
    exact hj

theorem Lies.drop {b off : Nat} (h : Lies K ok W (some ⟨b, off, none⟩) cap l) (k : Nat) : Lies K ok W (some ⟨b, off + k * size, none⟩) (cap - k) (l.drop k) := by
  have h1 := h.1
  refine ⟨by rw [List.length_drop]; omega, (fun e => by cases e), ?_⟩
  rcases h.2.2 with h' | ⟨b, off, css, e, hb, ho, ha, hc⟩
  · left; subst h'; simp
  · cases e
    right
    refine ⟨b, _, css.drop k, rfl, hb, ho, ha.drop k, fun j u hj => ?_⟩
    rw [flatten_drop (rel_len ha) k, List.getElem?_drop] at hj
    rw [Nat.add_assoc]
    exact hc _ u hj

/-- a row that the call itself lays, and that still grows -/
def Rows (K : Kd α size) (ok : Nat → Prop) (W : World) (base : Nat) (E : TypeId) (v : Value) (l : List α) : Prop :=
  ∃ css : List (List Value), W.ownsRow base E size v l.length css.flatten ∧ All2 (K.rel (fun b => ok b ∧ v.ownBlock ≠ some b) W) l css

theorem Rows.nil (K : Kd α size) (ok : Nat → Prop) (W : World) (base : Nat) (E : TypeId) : Rows K ok W base E (.slice none 0 0) ([] : List α) :=
  ⟨[], World.ownsRow_nil _ _ _ _, trivial⟩

theorem Rows.later {base : Nat} {E : TypeId} {v : Value} (h : Rows K ok w base E v l) (hb : Below w.heap.size w w') : Rows K ok w' base E v l := by
  obtain ⟨css, h1, h2⟩ := h
  exact ⟨css, own_stays h1 hb, All2.imp (fun x cs hr => K.move (Kept.of_below hb) (fun _ _ ho => ho) hr) h2⟩

theorem own_kept {base n : Nat} {E : TypeId} {v : Value} {vs : List Value} (h : w.ownsRow base E size v n vs) (hk : ∀ g, v.ownBlock = some g → w'.heap[g]? = w.heap[g]?) : w'.ownsRow base E size v n vs := by
  refine ⟨h.1, ?_⟩
  rcases h.2 with h' | ⟨g, cap, cur, h', h1, h2, h3⟩
  · exact .inl h'
  · exact .inr ⟨g, cap, cur, h', h1, (hk g (by rw [h']; rfl)).trans h2, h3⟩

/-- a step that leaves the row's own block, and all that hangs on it, as they were -/
theorem Rows.move {base : Nat} {E : TypeId} {v : Value} (h : Rows K ok w base E v l) (hk : Kept ok w w') (hv : ∀ g, v.ownBlock = some g → w'.heap[g]? = w.heap[g]?) : Rows K ok w' base E v l := by
  obtain ⟨css, h1, h2⟩ := h
  exact ⟨css, own_kept h1 hv, All2.imp (fun x cs hr => K.move (ok := fun b => ok b ∧ v.ownBlock ≠ some b) ⟨hk.1, fun b hb ho => hk.2 b hb ho.1⟩ (fun _ _ ho => ho) hr) h2⟩

/-- a row of the call's own is a row that lies -/
theorem Rows.lies {base : Nat} {E : TypeId} {v : Value} (h : Rows K ok w base E v l) (hok : ∀ b, v.ownBlock = some b → ok b) :
    ∃ ao cap, v = .slice ao l.length cap ∧ Lies K ok w ao cap l ∧ Ples ao cap ∧ cap ≤ maxLen ∧ ∀ ad, ao = some ad → base ≤ ad.block := by
  obtain ⟨css, h1, h2⟩ := h
  have h3 : All2 (K.rel ok w) l css := All2.imp (fun x cs hr => K.move (Kept.of_below (Below.refl _ _)) (fun _ _ ho => ho.1) hr) h2
  rcases h1.2 with ⟨e, h0⟩ | ⟨g, cap, cur, e, hb, hg, hc, hm, hs, ht⟩
  · have : l = [] := List.length_eq_zero_iff.1 h0
    subst this
    exact ⟨none, 0, e, Lies.nil _ _ _ (fun _ => rfl), Ples.none, Nat.zero_le _, (fun ad h => by cases h)⟩
  · subst e
    refine ⟨_, _, rfl, ⟨hc, (fun h => by cases h), .inr ⟨g, 0, css, rfl, (h1.lt g rfl).2, hok g rfl, h3, fun j u hj => ?_⟩⟩, Ples.some _ _ _, hm, fun ad h => by cases h; exact hb⟩
    have := h1.cells (g := g) rfl j u hj
    rwa [addr_add] at this

end

/-- what is known of a slice's type and its elements' -/
structure Elt (T E : TypeId) (size bytes : Nat) : Prop where
  und : Try.prog.underlying T = some (.slice E)
  info : ∃ i z, Try.prog.info? E = some i ∧ i.zero = some z ∧ i.size = size ∧ i.bytes = bytes ∧ z.cells.size = size
  pos : 0 < size

theorem own_lt' {w : World} {base size n : Nat} {e : TypeId} {v : Value} {vs : List Value} (h : w.ownsRow base e size v n vs) : ∀ g, v.ownBlock = some g → base ≤ g ∧ g < w.heap.size := h.lt

/-- append of whatever lies, to a row of the call's own -/
theorem wpList_append_rows {α : Type} {size bytes : Nat} {K : Kd α size} {ok ok2 : Nat → Prop} {w : World} {ops : Array Oper} {rest : List Oper} {o : Oper} {a : Act} {Q : Exit → Act → World → Prop} {T E : TypeId} (et : Elt T E size bytes) (hgd : o.guard = none) (s x : Operand)
    (ho : o.op = .call { callee := .builtin .append, args := #[s, x], argTypes := #[T, T] })
    (base : Nat) (v : Value) (l : List α) (hs : a.eval s = v) (hown : Rows K ok w base E v l)
    (ao : Option Addr) (cap m : Nat) (l2 : List α) (hx : a.eval x = .slice ao m cap) (hm : m = l2.length) (he : Lies K ok2 w ao cap l2) (hok : ∀ b, b < w.heap.size → ok2 b → v.ownBlock ≠ some b → ok b) (hap : ∀ b, b < w.heap.size → ok2 b → v.ownBlock ≠ some b)
    (hlen : l.length + m ≤ 100000) (hby : bytes ≤ 1000) (hbase : base ≤ w.heap.size)
    (h : ∀ v' w', Rows K ok w' base E v' (l ++ l2) → w.grownBy w' v.ownBlock → (v'.ownBlock = v.ownBlock ∨ v'.ownBlock = some w.heap.size) → wpList Try.prog ops Q rest (a.put o.dst v') w') : wpList Try.prog ops Q (o :: rest) a w := by
  obtain ⟨i0, z, hi, hz0, hz1, hz2, hz3⟩ := et.info
  obtain ⟨css, h1, h2⟩ := hown
  subst hm
  by_cases hl2 : l2 = []
  · subst hl2
    have hh : Rows K ok w base E v (l ++ []) := by rw [List.append_nil]; exact ⟨css, h1, h2⟩
    cases ao with
    | none =>
      have h0 : cap = 0 := he.2.1 rfl
      subst h0
      refine wpList_append_own_none hgd s x T ho base E i0 size et.und hi v _ _ hs h1 hx ?_
      exact h v w hh ⟨rfl, rfl, rfl, Nat.le_refl _, fun _ _ _ => rfl⟩ (.inl rfl)
    | some ad =>
      refine wpList_append_own_at w hgd s x T ho base E i0 z size bytes et.und hi hz0 hz1 hz2 hz3 et.pos v _ _ hs h1 ad 0 cap [] hx (by simp) (by simp) (by simp) (by unfold maxLen; simp only [List.length_nil] at hlen; omega)
        (by simp only [List.length_nil] at hlen; exact Nat.le_trans (Nat.mul_le_mul (show l.length + 0 ≤ 100000 by omega) hby) (by decide)) hbase (fun v' w' q1 q2 q3 q4 => ?_)
      refine h v' w' ?_ q2 q4
      refine ⟨css, by simpa using q1, ?_⟩
      rw [List.append_nil]
      refine All2.imp (fun y cs hr => K.move (ok := fun b => ok b ∧ v.ownBlock ≠ some b) (Kept.of_grown q2 (fun b hb => hb.2)) (fun b hb ho => ⟨ho.1, ?_⟩) hr) h2
      rcases q4 with e | e
      · rw [e]; exact ho.2
      · rw [e]; intro e2; have := Option.some.inj e2; omega
  · rcases he.2.2 with h' | ⟨b, off, css2, e, hb, hob, ha, hc⟩
    · exact absurd h' hl2
    · subst e
      have hlen2 : css2.flatten.length = l2.length * size := by rw [flatten_len (rel_len ha), ← ha.length]
      refine wpList_append_own_at w hgd s x T ho base E i0 z size bytes et.und hi hz0 hz1 hz2 hz3 et.pos v _ _ hs h1 ⟨b, off, none⟩ l2.length cap css2.flatten hx hlen2 (fun j u hj => by rw [addr_add]; exact hc j u hj) (rel_one ha) (by unfold maxLen; omega)
        (Nat.le_trans (Nat.mul_le_mul hlen hby) (by decide)) hbase (fun v' w' q1 q2 q3 q4 => ?_)
      refine h v' w' ⟨css ++ css2, ?_, ?_⟩ q2 q4
      · rw [List.length_append, List.flatten_append]
        exact q1
      · have hv' : ∀ b, b < w.heap.size → v.ownBlock ≠ some b → v'.ownBlock ≠ some b := fun b hb hne => by
          rcases q4 with e | e
          · rw [e]; exact hne
          · rw [e]; intro e2; have := Option.some.inj e2; omega
        refine All2.append ?_ ?_
        · exact All2.imp (fun y cs hr => K.move (ok := fun b => ok b ∧ v.ownBlock ≠ some b) (Kept.of_grown q2 (fun b hb => hb.2)) (fun b hb ho => ⟨ho.1, hv' b hb ho.2⟩) hr) h2
        · refine All2.imp (fun y cs hr => ?_) ha
          have hr' : K.rel (fun b => ok b ∧ v.ownBlock ≠ some b) w y cs := K.move (Kept.of_below (Below.refl _ _)) (fun b hb ho => ⟨hok b hb ho (hap b hb ho), hap b hb ho⟩) hr
          exact K.move (ok := fun b => ok b ∧ v.ownBlock ≠ some b) (Kept.of_grown q2 (fun b hb => hb.2)) (fun b hb ho => ⟨ho.1, hv' b hb ho.2⟩) hr'

end Go.Proofs.Ytndnbkgejdindaa
