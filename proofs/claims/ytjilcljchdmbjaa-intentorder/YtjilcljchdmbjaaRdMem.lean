/- Bytes that are read, one behind the other: the reader in memory. -/
import Derived.Test.YtjilcljchdmbjaaItTellP
namespace Go.Proofs.Ytjilcljchdmbjaa
open Go.ChangeShapes Go.WideShapes Go.ChangeAt Go.RowKit

/-- nothing is changed but one block -/
theorem grown_refl (w : World) (r : Option Nat) : w.grownBy w r := ⟨rfl, rfl, rfl, Nat.le_refl _, fun _ _ _ => rfl⟩

theorem grown_trans {a b c : World} {r : Option Nat} (h : a.grownBy b r) (k : b.grownBy c r) : a.grownBy c r :=
  ⟨k.os.trans h.os, k.tape.trans h.tape, k.output.trans h.output, Nat.le_trans h.size k.size, fun x hx hne => (k.block x (Nat.lt_of_lt_of_le hx h.size) hne).trans (h.block x hx hne)⟩

theorem grown_below {a b : World} (h : Below a.heap.size a b) (r : Option Nat) : a.grownBy b r := ⟨h.os, h.tape, h.output, h.size, fun x hx _ => h.block x hx⟩

theorem grown_set {w : World} {R j : Nat} (u : Value) : w.grownBy (w.setCell ⟨R, j, none⟩ u) (some R) := by
  have hb : Below R w (w.setCell ⟨R, j, none⟩ u) := (Below.refl R w).setCell (Nat.le_refl R) _
  exact ⟨hb.os, hb.tape, hb.output, hb.size, fun x hx hne => Below.heap_setCell _ _ _ _ (fun e => hne (by rw [e]))⟩

theorem Two.set0 {W : World} {B : Nat} {x y : Value} (h : Two W B x y) (u : Value) : Two (W.setCell ⟨B, 0, none⟩ u) B u y := by
  obtain ⟨h1, h2, h3, h4⟩ := h
  refine ⟨?_, ?_, ?_, ?_⟩
  · exact World.cell?_setCell_same' _ _ _ (by rw [h1]; rfl)
  · rw [World.cell?_setCell_other _ _ _ _ (by simp)]; exact h2
  · rw [World.frozen?_setCell]; exact h3
  · rw [World.frozen?_setCell]; exact h4

theorem Two.set1 {W : World} {B : Nat} {x y : Value} (h : Two W B x y) (u : Value) : Two (W.setCell ⟨B, 1, none⟩ u) B x u := by
  obtain ⟨h1, h2, h3, h4⟩ := h
  refine ⟨?_, ?_, ?_, ?_⟩
  · rw [World.cell?_setCell_other _ _ _ _ (by simp)]; exact h1
  · exact World.cell?_setCell_same' _ _ _ (by rw [h2]; rfl)
  · rw [World.frozen?_setCell]; exact h3
  · rw [World.frozen?_setCell]; exact h4

/-- the reader: xs still to be read, or torn -/
structure Rdr (w : World) (R : Nat) (a : Option Addr) (m cap : Nat) (t : Bool) (xs : List Int) : Prop where
  two : Two w R (.slice a m cap) (.bool t)
  len : m = xs.length
  octs : Octs w a cap xs
  ples : Ples a cap
  ne : ∀ ad, a = some ad → ad.block < R
  few : xs.length ≤ 4000

theorem Octs.set {w : World} {a : Option Addr} {cap R j : Nat} {xs : List Int} (h : Octs w a cap xs) (hne : ∀ ad, a = some ad → ad.block < R) (u : Value) : Octs (w.setCell ⟨R, j, none⟩ u) a cap xs :=
  h.grown (grown_set u) (fun _ ad had e => Nat.ne_of_lt (hne ad had) (Option.some.inj e).symm)

theorem Rdr.tear {w : World} {R : Nat} {a : Option Addr} {m cap : Nat} {t : Bool} {xs : List Int} (h : Rdr w R a m cap t xs) : Rdr (w.setCell ⟨R, 1, none⟩ (.bool true)) R a m cap true xs :=
  ⟨h.two.set1 _, h.len, h.octs.set h.ne _, h.ples, h.ne, h.few⟩

theorem Rdr.later {w w' : World} {R : Nat} {a : Option Addr} {m cap : Nat} {t : Bool} {xs : List Int} (h : Rdr w R a m cap t xs) (hb : Below w.heap.size w w') : Rdr w' R a m cap t xs :=
  ⟨h.two.later hb, h.len, h.octs.later hb, h.ples, h.ne, h.few⟩

end Go.Proofs.Ytjilcljchdmbjaa
