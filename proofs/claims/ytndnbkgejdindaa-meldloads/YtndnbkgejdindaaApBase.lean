/- What the proofs of entries behind writes lean on. -/
import Derived.Test.YtndnbkgejdindaaTrOne
import Derived.Test.YtndnbkgejdindaaTrCmp
import Derived.Lib.AppendZerosOnto
import Derived.Laws.EntriesVeiled
import Derived.Deep.RegionHeld3
import Derived.Deep.RegionLaw
import Derived.Lib.Overlaps
import Derived.Lib.SliceRun
import Derived.BigQuiet
import Derived.Deep.QuietTactic
import Derived.LoopTactic
import Derived.Laws.CopyRow
import Derived.Deep.CutRange
namespace Go.Proofs.Ytndnbkgejdindaa
open Go.ChangeShapes Go.WideShapes Go.ChangeAt Go.RowKit


/-- an entry of a leaf, in memory -/
theorem ent_at {ok : Nat → Prop} {w : World} {ao : Option Addr} {cap : Nat} {es : List Ent} (hL : Lies kEnt ok w ao cap es) {k : Nat} (hk : k < es.length) :
    ∃ bb off a1 c1 a2 c2, ao = some ⟨bb, off, none⟩ ∧ IsBody w ok (.slice a1 (es[k].1).length c1) es[k].1 ∧ IsBody w ok (.slice a2 (es[k].2).length c2) es[k].2 ∧ ∀ W : World, Below w.heap.size w W → W.cell? ⟨bb, off + k * 2, none⟩ = some (.slice a1 (es[k].1).length c1) ∧ W.cell? ⟨bb, off + k * 2 + 1, none⟩ = some (.slice a2 (es[k].2).length c2) := by
  obtain ⟨bb, off, e, hb, _, cs, ⟨u, v, rfl, h1, h2⟩, hc⟩ := hL.at hk
  obtain ⟨a1, c1, rfl, _⟩ := id h1
  obtain ⟨a2, c2, rfl, _⟩ := id h2
  exact ⟨bb, off, a1, c1, a2, c2, e, h1, h2, fun W hW => ⟨(hW.cell (p := ⟨bb, off + k * 2, none⟩) hb).trans (by simpa using hc 0 _ rfl), (hW.cell (p := ⟨bb, off + k * 2 + 1, none⟩) hb).trans (hc 1 _ rfl)⟩⟩

theorem put_by {p : Prop} (h : p) : Hid p := h

theorem below_grown {n : Nat} {w X Y : World} {row : Option Nat} (h : Below n w X) (hn : n ≤ X.heap.size) (hg : X.grownBy Y row) (hr : ∀ r, row = some r → n ≤ r) : Below n w Y :=
  ⟨hg.os.trans h.os, hg.tape.trans h.tape, hg.output.trans h.output, Nat.le_trans h.size hg.size, fun b hb => (hg.block b (by omega) (fun e => by have := hr b e.symm; omega)).trans (h.block b hb)⟩

theorem Rows.turned {α : Type} {size : Nat} {K : Kd α size} {ok ok2 : Nat → Prop} {W : World} {base : Nat} {E : TypeId} {v : Value} {l : List α} (h : Rows K ok W base E v l) (hok : ∀ b, b < W.heap.size → ok b → ok2 b) : Rows K ok2 W base E v l := by
  obtain ⟨css, h1, h2⟩ := h
  exact ⟨css, h1, All2.imp (fun _ _ hr => K.move (Kept.of_below (Below.refl _ _)) (fun b hb q => ⟨hok b hb q.1, q.2⟩) hr) h2⟩

theorem drawn_below {B : Nat} {a w : World} (h : Below B a w) (q : Nat) : Below B a (w.drewN q) := ⟨h.os, h.tape, h.output, h.size, h.block⟩

/-- K behind it, Q at a panic -/
def thenQ (K : Act → World → Prop) (Q : Exit → Act → World → Prop) : Exit → Act → World → Prop
  | .normal, a, w => K a w
  | e, a, w => Q e a w

/-- what is known of an operation that comes last of a list -/
theorem wp_of_list {P : Program} {o : Oper} {a : Act} {w : World} {K : Act → World → Prop} {Q : Exit → Act → World → Prop} (hg : o.guard = none) (hL : ¬ LetsOut Q) (h : wpList P #[] (thenQ K Q) [o] a w) : o.wp P a w K Q := by
  simp only [wpList, Region.wanted, hg, if_true] at h
  rcases h with h | ⟨_, a', w', h⟩
  · unfold Oper.wp at h ⊢
    generalize (execOp a.eval o).run P w = r at h ⊢
    cases r with
    | ok x w' =>
      cases x <;> simp only [Oper.upon] at h ⊢
      case value => exact h
      case skip => exact h
      case defer => exact h
      case enter =>
        refine h.mono fun e w'' he => ?_
        cases e with
        | returned u => exact he
        | panicked c => exact he
        | outgrown => exact he
      case row => exact h.mono fun u w'' he => he
    | halt x w' => cases x <;> simp only [Oper.upon] at h ⊢ <;> exact h
  · exact absurd ⟨a', w', h⟩ hL

theorem list_end {P : Program} {ops : Array Oper} {K : Act → World → Prop} {Q : Exit → Act → World → Prop} {a : Act} {w : World} (h : K a w) : wpList P ops (thenQ K Q) [] a w := h

end Go.Proofs.Ytndnbkgejdindaa
