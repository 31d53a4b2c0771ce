/- The reader of package parse in memory: what it holds, what stays as it was. -/
import Derived.Test.YtedinkoapieakaaDoorParseMore
import Derived.Test.YtedinkoapieakaaDoorLexToks
namespace Go.Proofs.YtedinkoapieakaaDoor
open Go.ChangeShapes Go.WideShapes Go.ChangeAt Go.RowKit

/-- all that was there is as it was, but for block R -/
structure Keeps (R : Nat) (w w' : World) : Prop where
  os : w'.os = w.os
  tape : w'.tape = w.tape
  output : w'.output = w.output
  size : w.heap.size ≤ w'.heap.size
  block : ∀ k, k < w.heap.size → k ≠ R → w'.heap[k]? = w.heap[k]?

theorem Keeps.refl (R : Nat) (w : World) : Keeps R w w := ⟨rfl, rfl, rfl, Nat.le_refl _, fun _ _ _ => rfl⟩
theorem Keeps.trans {R : Nat} {a b c : World} (h : Keeps R a b) (k : Keeps R b c) : Keeps R a c :=
  ⟨k.os.trans h.os, k.tape.trans h.tape, k.output.trans h.output, Nat.le_trans h.size k.size, fun i hi hR => (k.block i (Nat.lt_of_lt_of_le hi h.size) hR).trans (h.block i hi hR)⟩
theorem Keeps.of_below {R : Nat} {w w' : World} (h : Below w.heap.size w w') : Keeps R w w' := ⟨h.os, h.tape, h.output, h.size, fun k hk _ => h.block k hk⟩
theorem Keeps.below {R : Nat} {w w' : World} (h : Keeps R w w') {B : Nat} (hB : B ≤ R) (hw : B ≤ w.heap.size) : Below B w w' := ⟨h.os, h.tape, h.output, h.size, fun k hk => h.block k (by omega) (by omega)⟩
theorem Keeps.drew {R : Nat} {a w : World} (h : Keeps R a w) : Keeps R a w.drew := ⟨h.os, h.tape, h.output, h.size, h.block⟩
theorem Keeps.alloc {R : Nat} {a w : World} (h : Keeps R a w) (o : Obj) : Keeps R a (w.alloc o) := h.trans (.of_below ((Below.refl _ w).alloc (Nat.le_refl _) o))
/-- a store into the reader, or into a block of the call's own -/
theorem Keeps.setCell {R : Nat} {a w : World} (h : Keeps R a w) {p : Addr} (hp : p.block = R ∨ a.heap.size ≤ p.block) (u : Value) : Keeps R a (w.setCell p u) :=
  ⟨h.os, h.tape, h.output, by have := h.size; simpa [World.setCell] using this, fun k hk hR => by
    rw [Below.heap_setCell _ _ _ _ (by rcases hp with hp | hp <;> omega)]
    exact h.block k hk hR⟩
theorem Keeps.cell {R : Nat} {w w' : World} (h : Keeps R w w') {p : Addr} (hp : p.block < w.heap.size) (hR : p.block ≠ R) : w'.cell? p = w.cell? p := World.cell?_of_block (w := w) (h.block p.block hp hR)
theorem Keeps.frozen {R : Nat} {w w' : World} (h : Keeps R w w') {p : Addr} (hp : p.block < w.heap.size) (hR : p.block ≠ R) : w'.frozen? p = w.frozen? p := World.frozen?_of_block (w := w) (h.block p.block hp hR)

/-- a block's cells, all at once -/
def Blk (w : World) (b : Nat) (vs : List Value) : Prop := b < w.heap.size ∧ (∀ i, w.cell? ⟨b, i, none⟩ = vs[i]?) ∧ ∀ i, w.frozen? ⟨b, i, none⟩ = false

/-- the reader: its tokens, how far it is, whether it has refused -/
structure Rdr (R : Nat) (w : World) (ao : Option Addr) (cap : Nat) (ts : List Tok) (s : St) : Prop where
  lt : R < w.heap.size
  tok : w.cell? ⟨R, 0, none⟩ = some (.slice ao ts.length cap)
  at_ : w.cell? ⟨R, 1, none⟩ = some (.int .i64 ((ts.length - s.rest.length : Nat) : Int))
  ref : w.cell? ⟨R, 2, none⟩ = some (.bool s.ref)
  fz : ∀ i, w.frozen? ⟨R, i, none⟩ = false
  suf : ∃ pre, ts = pre ++ s.rest
  toks : Toks w ao cap ts
  apart : ∀ a, ao = some a → a.block ≠ R

theorem Toks.keep {R : Nat} {w w' : World} {ao : Option Addr} {cap : Nat} {ts : List Tok} (h : Toks w ao cap ts) (hb : Keeps R w w') (ha : ∀ a, ao = some a → a.block ≠ R) : Toks w' ao cap ts := by
  refine ⟨h.1, h.2.1, ?_⟩
  rcases h.2.2 with h0 | ⟨b, off, h1, h2, h3⟩
  · exact .inl h0
  · have hR : b ≠ R := ha _ h1
    exact .inr ⟨b, off, h1, Nat.lt_of_lt_of_le h2 hb.size, fun i hi => ⟨(hb.cell h2 hR).trans (h3 i hi).1, (hb.cell h2 hR).trans (h3 i hi).2.1, (hb.cell h2 hR).trans (h3 i hi).2.2⟩⟩

theorem Rdr.later {R : Nat} {w w' : World} {ao : Option Addr} {cap : Nat} {ts : List Tok} {s : St} (h : Rdr R w ao cap ts s) (hb : Below w.heap.size w w') : Rdr R w' ao cap ts s :=
  ⟨Nat.lt_of_lt_of_le h.lt hb.size, (hb.cell h.lt).trans h.tok, (hb.cell h.lt).trans h.at_, (hb.cell h.lt).trans h.ref, fun i => (hb.frozen h.lt).trans (h.fz i), h.suf, h.toks.later hb, h.apart⟩

theorem Rdr.alloc {R : Nat} {w : World} {ao : Option Addr} {cap : Nat} {ts : List Tok} {s : St} (h : Rdr R w ao cap ts s) (o : Obj) : Rdr R (w.alloc o) ao cap ts s := h.later ((Below.refl _ w).alloc (Nat.le_refl _) o)

theorem Rdr.drew {R : Nat} {w : World} {ao : Option Addr} {cap : Nat} {ts : List Tok} {s : St} (h : Rdr R w ao cap ts s) : Rdr R w.drew ao cap ts s := h.later (Below.refl _ w).drew

/-- a store into another block -/
theorem Rdr.other {R : Nat} {w : World} {ao : Option Addr} {cap : Nat} {ts : List Tok} {s : St} (h : Rdr R w ao cap ts s) {p : Addr} (hp : p.block ≠ R) (ht : ∀ a, ao = some a → a.block ≠ p.block) (u : Value) : Rdr R (w.setCell p u) ao cap ts s := by
  have hk : ∀ k, k ≠ p.block → (w.setCell p u).heap[k]? = w.heap[k]? := fun k hk => Below.heap_setCell _ _ _ _ hk
  have hs : (w.setCell p u).heap.size = w.heap.size := by simp [World.setCell]
  have hK : Keeps p.block w (w.setCell p u) := ⟨rfl, rfl, rfl, by omega, fun k _ h => hk k h⟩
  exact ⟨by rw [hs]; exact h.lt, (hK.cell h.lt (Ne.symm hp)).trans h.tok, (hK.cell h.lt (Ne.symm hp)).trans h.at_, (hK.cell h.lt (Ne.symm hp)).trans h.ref, fun i => (hK.frozen h.lt (Ne.symm hp)).trans (h.fz i), h.suf, h.toks.keep hK ht, h.apart⟩

theorem Rdr.old {R : Nat} {w : World} {ao : Option Addr} {cap : Nat} {ts : List Tok} {s : St} (h : Rdr R w ao cap ts s) : ∀ a, ao = some a → a.block < w.heap.size ∨ ts = [] := by
  intro a ha
  rcases h.toks.2.2 with h0 | ⟨b, off, h1, h2, _⟩
  · exact .inr h0
  · rw [ha] at h1
    cases h1
    exact .inl h2

theorem Rdr.len_le {R : Nat} {w : World} {ao : Option Addr} {cap : Nat} {ts : List Tok} {s : St} (h : Rdr R w ao cap ts s) : s.rest.length ≤ ts.length := by
  obtain ⟨pre, h⟩ := h.suf
  rw [h]
  simp

theorem setCell_size (w : World) (p : Addr) (u : Value) : (w.setCell p u).heap.size = w.heap.size := by simp [World.setCell]

/-- the reader's own cell 2 (refused), stored into -/
theorem Rdr.stop {R : Nat} {w : World} {ao : Option Addr} {cap : Nat} {ts : List Tok} {s : St} (h : Rdr R w ao cap ts s) : Rdr R (w.setCell ⟨R, 2, none⟩ (.bool true)) ao cap ts s.stop := by
  have hk : Keeps R w (w.setCell ⟨R, 2, none⟩ (.bool true)) := (Keeps.refl R w).setCell (.inl rfl) _
  exact ⟨by rw [setCell_size]; exact h.lt, by rw [World.cell?_setCell_other (h := by simp)]; exact h.tok, by rw [World.cell?_setCell_other (h := by simp)]; exact h.at_, World.cell?_setCell_same _ _ _ h.ref,
    fun i => by rw [World.frozen?_setCell]; exact h.fz i, h.suf, h.toks.keep hk h.apart, h.apart⟩

/-- the reader's own cell 1 (at), counted on -/
theorem Rdr.adv {R : Nat} {w : World} {ao : Option Addr} {cap : Nat} {ts : List Tok} {s : St} (h : Rdr R w ao cap ts s) (hn : s.next.kind ≠ 0) {k : Nat} (hkk : ts.length - s.rest.length = k) :
    Rdr R (w.setCell ⟨R, 1, none⟩ (.int .i64 ((k : Int) + 1))) ao cap ts s.adv := by
  obtain ⟨hr, t, r, hs, _⟩ := next_live hn
  obtain ⟨pre, hp⟩ := h.suf
  have hk : Keeps R w (w.setCell ⟨R, 1, none⟩ (.int .i64 ((k : Int) + 1))) := (Keeps.refl R w).setCell (.inl rfl) _
  have hlen : ((ts.length - s.adv.rest.length : Nat) : Int) = (k : Int) + 1 := by
    have h1 := congrArg List.length hp
    simp only [List.length_append, hs, List.length_cons] at h1
    simp only [St.adv, hs, List.tail_cons]
    rw [hs, List.length_cons] at hkk
    omega
  exact ⟨by rw [setCell_size]; exact h.lt, by rw [World.cell?_setCell_other (h := by simp)]; exact h.tok, by rw [hlen]; exact World.cell?_setCell_same _ _ _ h.at_, by rw [World.cell?_setCell_other (h := by simp)]; exact h.ref,
    fun i => by rw [World.frozen?_setCell]; exact h.fz i, ⟨pre ++ [t], by rw [hp]; simp [St.adv, hs]⟩, h.toks.keep hk h.apart, h.apart⟩

end Go.Proofs.YtedinkoapieakaaDoor
