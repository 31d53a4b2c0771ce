/- Rows of expressions, texts, columns, sets, orders in memory: laid by a call, appended to, kept. -/
import Derived.Test.YtedinkoapieakaaDoorParseExpr
import Derived.Maps.AppendAt
namespace Go.Proofs.YtedinkoapieakaaDoor
open Go.ChangeShapes Go.WideShapes Go.ChangeAt Go.RowKit

/-- a kind of element: its cells, and what it is -/
structure Kind (α D : Type) where
  cel : D → List Value
  rel : (Nat → Prop) → World → α → D → Prop
  move : ∀ {ok ok' : Nat → Prop} {w w' : World}, w.heap.size ≤ w'.heap.size → (∀ b, ok b → b < w.heap.size → w'.heap[b]? = w.heap[b]?) → (∀ b, ok b → b < w.heap.size → ok' b) → ∀ {x : α} {d : D}, rel ok w x d → rel ok' w' x d
  one : ∀ d, ∀ u ∈ cel d, u.oneCell' = true

/-- pairwise -/
def Each {α D : Type} (p : α → D → Prop) : List α → List D → Prop
  | [], [] => True
  | x :: l, d :: ds => p x d ∧ Each p l ds
  | _, _ => False

theorem Each.mono {α D : Type} {p q : α → D → Prop} (h : ∀ x d, p x d → q x d) : ∀ {l : List α} {ds : List D}, Each p l ds → Each q l ds
  | [], [], _ => trivial
  | _ :: _, _ :: _, ⟨h1, h2⟩ => ⟨h _ _ h1, h2.mono h⟩
theorem Each.push {α D : Type} {p : α → D → Prop} {x : α} {d : D} (h : p x d) : ∀ {l : List α} {ds : List D}, Each p l ds → Each p (l ++ [x]) (ds ++ [d])
  | [], [], _ => ⟨h, trivial⟩
  | _ :: _, _ :: _, ⟨h1, h2⟩ => ⟨h1, h2.push h⟩
theorem Each.length {α D : Type} {p : α → D → Prop} : ∀ {l : List α} {ds : List D}, Each p l ds → ds.length = l.length
  | [], [], _ => rfl
  | _ :: _, _ :: _, ⟨_, h2⟩ => by simp [h2.length]
theorem Each.at {α D : Type} {p : α → D → Prop} : ∀ {l : List α} {ds : List D}, Each p l ds → ∀ i (h1 : i < l.length) (h2 : i < ds.length), p l[i] ds[i]
  | _ :: _, _ :: _, ⟨h, _⟩, 0, _, _ => h
  | _ :: _, _ :: _, ⟨_, h⟩, i + 1, h1, h2 => h.at i (Nat.lt_of_succ_lt_succ h1) (Nat.lt_of_succ_lt_succ h2)

/-- a row that the call has laid, from block lo on -/
structure Rw {α D : Type} (K : Kind α D) (lo : Nat) (e : TypeId) (size : Nat) (W : World) (v : Value) (l : List α) (ds : List D) : Prop where
  own : W.ownsRow lo e size v ds.length (ds.flatMap K.cel)
  each : Each (K.rel (fun b => lo ≤ b ∧ some b ≠ v.ownBlock) W) l ds

theorem own_keep {w w' : World} {base n size : Nat} {e : TypeId} {v : Value} {xs : List Value} (h : w.ownsRow base e size v n xs) {R : Nat} (hk : Keeps R w w') (hR : R < base) : w'.ownsRow base e size v n xs := by
  refine ⟨h.1, ?_⟩
  rcases h.2 with hn | ⟨g, cap, cur, rfl, h1, h2, h3⟩
  · exact .inl hn
  · exact .inr ⟨g, cap, cur, rfl, h1, (hk.block g (Array.getElem?_eq_some_iff.1 h2).1 (by omega)).trans h2, h3⟩

theorem Rw.keep {α D : Type} {K : Kind α D} {lo : Nat} {e : TypeId} {size : Nat} {W W' : World} {v : Value} {l : List α} {ds : List D} (h : Rw K lo e size W v l ds) {R : Nat} (hk : Keeps R W W') (hR : R < lo) : Rw K lo e size W' v l ds :=
  ⟨own_keep h.own hk hR, h.each.mono fun _ _ hr => K.move hk.size (fun b hb hlt => hk.block b hlt (by have := hb.1; omega)) (fun _ hb _ => hb) hr⟩

theorem Rw.weak {α D : Type} {K : Kind α D} {lo lo' : Nat} {e : TypeId} {size : Nat} {W : World} {v : Value} {l : List α} {ds : List D} (h : Rw K lo e size W v l ds) (hl : lo' ≤ lo) : Rw K lo' e size W v l ds := by
  refine ⟨⟨h.own.1, ?_⟩, h.each.mono fun _ _ hr => K.move (Nat.le_refl _) (fun _ _ _ => rfl) (fun b hb _ => ⟨by have := hb.1; omega, hb.2⟩) hr⟩
  rcases h.own.2 with hn | ⟨g, cap, cur, rfl, h1, h2, h3⟩
  · exact .inl hn
  · exact .inr ⟨g, cap, cur, rfl, by omega, h2, h3⟩

/-- a row of one -/
theorem Rw.new {α D : Type} {K : Kind α D} {lo : Nat} {e : TypeId} {size : Nat} {W : World} {x : α} {d : D} (hlo : lo ≤ W.heap.size) (zs : Array Value) (hz : zs = (K.cel d).toArray) (hs : (K.cel d).length = size) (hr : K.rel (fun b => lo ≤ b) W x d) :
    Rw K lo e size (W.alloc (.cells zs e)) (.slice (some ⟨W.heap.size, 0, none⟩) 1 1) [x] [d] := by
  subst hz
  refine ⟨⟨by simp [hs], .inr ⟨W.heap.size, 1, (K.cel d).toArray, rfl, hlo, ?_, Nat.le_refl _, by decide, by simp [hs], ?_⟩⟩, ?_, trivial⟩
  · show (W.heap.push _)[W.heap.size]? = _
    rw [Array.getElem?_push, if_pos rfl]
  · simp only [List.length_cons, List.length_nil, List.flatMap_cons, List.flatMap_nil, List.append_nil]
    exact List.take_of_length_le (by omega)
  · refine K.move (w := W) ?_ ?_ ?_ hr
    · simp
    · intro b _ hb
      exact Below.heap_alloc _ _ _ hb
    · intro b hb hlt
      refine ⟨hb, fun h => ?_⟩
      have : b = W.heap.size := Option.some.inj h
      omega

/-- what comes of an append -/
theorem Rw.append {α D : Type} {K : Kind α D} {lo : Nat} {e : TypeId} {size : Nat} {W W' : World} {v v' : Value} {l : List α} {ds : List D} {x : α} {d : D} (h : Rw K lo e size W v l ds) (hr : K.rel (fun b => lo ≤ b ∧ some b ≠ v.ownBlock) W x d)
    (ho : W'.ownsRow lo e size v' (ds.length + 1) (ds.flatMap K.cel ++ K.cel d)) (hg : W.grownBy W' v.ownBlock) (hb : v'.ownBlock = v.ownBlock ∨ v'.ownBlock = some W.heap.size) : Rw K lo e size W' v' (l ++ [x]) (ds ++ [d]) := by
  have hm : ∀ {y : α} {dd : D}, K.rel (fun b => lo ≤ b ∧ some b ≠ v.ownBlock) W y dd → K.rel (fun b => lo ≤ b ∧ some b ≠ v'.ownBlock) W' y dd := by
    intro y dd hy
    refine K.move hg.size (fun b hb hlt => hg.block b hlt hb.2) (fun b hbb hlt => ⟨hbb.1, ?_⟩) hy
    rcases hb with e1 | e1
    · rw [e1]
      exact hbb.2
    · rw [e1]
      intro e2
      have : b = W.heap.size := Option.some.inj e2
      omega
  refine ⟨?_, (h.each.mono fun _ _ hy => hm hy).push (hm hr)⟩
  rw [List.length_append, List.flatMap_append]
  simpa using ho

theorem On.grown {c : RC} {w0 W W' : World} {s : St} {row : Option Nat} (h : On c w0 W s) (hg : W.grownBy W' row) (hr : ∀ k, row = some k → w0.heap.size ≤ k) : On c w0 W' s := by
  have hk : ∀ k, k < W.heap.size → (k < w0.heap.size) → W'.heap[k]? = W.heap[k]? := fun k h1 h2 => hg.block k h1 (fun e => by have := hr k e.symm; omega)
  have hR := h.oldR
  have cR : ∀ i, W'.cell? ⟨c.R, i, none⟩ = W.cell? ⟨c.R, i, none⟩ := fun i => World.cell?_of_block (w := W) (hk c.R h.lt hR)
  refine ⟨⟨Nat.lt_of_lt_of_le h.lt hg.size, (cR 0).trans h.rdr.tok, (cR 1).trans h.rdr.at_, (cR 2).trans h.rdr.ref, fun i => (World.frozen?_of_block (w := W) (a := ⟨c.R, i, none⟩) (hk c.R h.lt hR)).trans (h.rdr.fz i), h.rdr.suf, ?_, h.rdr.apart⟩,
    ⟨hg.os.trans h.keeps.os, hg.tape.trans h.keeps.tape, hg.output.trans h.keeps.output, Nat.le_trans h.keeps.size hg.size, fun k h1 h2 => (hk k (Nat.lt_of_lt_of_le h1 h.keeps.size) h1).trans (h.keeps.block k h1 h2)⟩, h.oldR, h.oldT, h.op, h.gR⟩
  refine ⟨h.rdr.toks.1, h.rdr.toks.2.1, ?_⟩
  rcases h.rdr.toks.2.2 with h0 | ⟨b, off, h1, h2, h3⟩
  · exact .inl h0
  · have hb := h.oldT _ h1
    have cB : ∀ i, W'.cell? ⟨b, i, none⟩ = W.cell? ⟨b, i, none⟩ := fun i => World.cell?_of_block (w := W) (hk b h2 hb)
    exact .inr ⟨b, off, h1, Nat.lt_of_lt_of_le h2 hg.size, fun i hi => ⟨(cB _).trans (h3 i hi).1, (cB _).trans (h3 i hi).2.1, (cB _).trans (h3 i hi).2.2⟩⟩

theorem On.len_le {c : RC} {w0 W : World} {s : St} (h : On c w0 W s) : s.len ≤ 300 := by
  have h1 := h.rdr.len_le
  have h2 := c.hl
  unfold St.len
  split <;> omega

/-- a reader of things of a kind, and one that tells whether there are more -/
def OneOf' {α D : Type} (K : Kind α D) (val : D → Value) (g : Nat) (c : RC) (P : St → α × St) : Prop := ∀ (w : World) (s : St), On c w w s →
  Calls Tryd.prog g #[.pointer (some ⟨c.R, 0, none⟩)] w fun e w' => ∃ d : D, e = .returned (val d) ∧ On c w w' (P s).2 ∧ K.rel (fun b => w.heap.size ≤ b) w' (P s).1 d
def MoreOf (g : Nat) (c : RC) (P : St → Bool × St) : Prop := ∀ (w : World) (s : St), On c w w s →
  Calls Tryd.prog g #[.pointer (some ⟨c.R, 0, none⟩)] w fun e w' => e = .returned (.bool (P s).1) ∧ On c w w' (P s).2

def kEx : Kind Ex ED := ⟨exCells, IsEx, fun h1 h2 h3 _ _ h => h.move h1 h2 h3, fun d u hu => by
  simp only [exCells, List.mem_cons, List.not_mem_nil, or_false] at hu
  rcases hu with rfl | rfl | rfl | rfl | rfl | rfl | rfl | rfl <;> rfl⟩
def kStr : Kind (List UInt8) (List UInt8) := ⟨fun d => [.string (str d)], fun _ _ x d => x = d, fun _ _ _ _ _ h => h, fun d u hu => by
  simp only [List.mem_cons, List.not_mem_nil, or_false] at hu
  rcases hu with rfl
  rfl⟩
def kCol : Kind Col Col := ⟨fun d => [.string (str d.name), .int .i64 d.type, .bool d.notNull], fun _ _ x d => x = d, fun _ _ _ _ _ h => h, fun d u hu => by
  simp only [List.mem_cons, List.not_mem_nil, or_false] at hu
  rcases hu with rfl | rfl | rfl <;> rfl⟩
def kOrd : Kind (Int × Bool) (Int × Bool) := ⟨fun d => [.int .i64 d.1, .bool d.2], fun _ _ x d => x = d, fun _ _ _ _ _ h => h, fun d u hu => by
  simp only [List.mem_cons, List.not_mem_nil, or_false] at hu
  rcases hu with rfl | rfl <;> rfl⟩
def kSet : Kind (List UInt8 × Ex) (List UInt8 × ED) := ⟨fun d => .string (str d.1) :: exCells d.2, fun ok w x d => x.1 = d.1 ∧ IsEx ok w x.2 d.2, fun h1 h2 h3 _ _ h => ⟨h.1, h.2.move h1 h2 h3⟩, fun d u hu => by
  simp only [exCells, List.mem_cons, List.not_mem_nil, or_false] at hu
  rcases hu with rfl | rfl | rfl | rfl | rfl | rfl | rfl | rfl | rfl <;> rfl⟩

end Go.Proofs.YtedinkoapieakaaDoor
