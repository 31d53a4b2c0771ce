/- The reference's swap. -/
import Derived.Test.YtcffikfjbpeggaaLySwapP
import Derived.Test.YtcffikfjbpeggaaRfLyMay2
import Derived.Test.YtcffikfjbpeggaaLyTail
import Derived.Deep.Cut
namespace Go.Proofs.Ytcffikfjbpeggaa
open Go.ChangeShapes Go.WideShapes Go.ChangeAt Go.RowKit

/-- the layout of the next epoch, as far as it was built -/
structure RsI (w : World) (ep1 : Int) (p q : Value) (f : Int → Int) (cs : List (List Int)) (B S k : Nat) (a : Option Addr) (n c : Nat) (W : World) : Prop where
  rows : Rows (kRow kInt) (fun b => S ≤ b) W S 33 (.slice a n c) ((cs.take k).map (fun c => c.map f))
  var : Duo W B (.int .i64 ep1) (.slice a n c)
  box : Duo W w.heap.size p q
  res : Duo W (w.heap.size + 1) (.int .i64 0) (.slice none 0 0)
  below : Below w.heap.size w W
  ord : w.heap.size + 1 < B ∧ B < S
  size : S ≤ W.heap.size

theorem RsI.own {w : World} {ep1 : Int} {p q : Value} {f : Int → Int} {cs : List (List Int)} {B S k : Nat} {a : Option Addr} {n c : Nat} {W : World} (h : RsI w ep1 p q f cs B S k a n c W) : ∀ g, (Value.slice a n c).ownBlock = some g → S ≤ g ∧ g < W.heap.size := rows_lt h.rows

theorem RsI.vars {w : World} {ep1 : Int} {p q : Value} {f : Int → Int} {cs : List (List Int)} {B S k : Nat} {a : Option Addr} {n c : Nat} {W ws w5 : World} (h : RsI w ep1 p q f cs B S k a n c W) (hb : Below W.heap.size W ws) (hg : ws.grownBy w5 (Value.slice a n c).ownBlock) :
    Duo w5 B (.int .i64 ep1) (.slice a n c) ∧ Duo w5 w.heap.size p q ∧ Duo w5 (w.heap.size + 1) (.int .i64 0) (.slice none 0 0) ∧ Below w.heap.size w w5 := by
  have ho := h.ord
  have hs := h.size
  exact ⟨(h.var.later hb).grown hg (fun e => by have := (h.own _ e).1; omega), (h.box.later hb).grown hg (fun e => by have := (h.own _ e).1; omega), (h.res.later hb).grown hg (fun e => by have := (h.own _ e).1; omega),
    (h.below.trans (hb.mono (by omega))).grown hg (by have := hb.size; omega) (fun g e => by have := (h.own _ e).1; omega)⟩

theorem RsI.more {w : World} {ep1 : Int} {p q : Value} {f : Int → Int} {cs : List (List Int)} {B S k : Nat} {a a2 : Option Addr} {n c n2 c2 : Nat} {W ws w5 : World}
    (h : RsI w ep1 p q f cs B S k a n c W) (hk : k < cs.length) (hb : Below W.heap.size W ws) (hg : ws.grownBy w5 (Value.slice a n c).ownBlock) (hr : Rows (kRow kInt) (fun b => S ≤ b) w5 S 33 (.slice a2 n2 c2) ((cs.take k).map (fun c => c.map f) ++ [cs[k].map f])) :
    RsI w ep1 p q f cs B S (k + 1) a2 n2 c2 (w5.setCell ⟨B, 1, none⟩ (.slice a2 n2 c2)) := by
  obtain ⟨d1, d2, d3, hB⟩ := h.vars hb hg
  have ho := h.ord
  have hs := h.size
  have e : (cs.take (k + 1)).map (fun c => c.map f) = (cs.take k).map (fun c => c.map f) ++ [cs[k].map f] := by
    rw [List.take_succ_eq_append_getElem hk, List.map_append]
    rfl
  refine ⟨?_, d1.set1 _, d2.move (heap_far _ _ _ _ (by omega)), d3.move (heap_far _ _ _ _ (by omega)), hB.setCell (p := ⟨B, 1, none⟩) (by show w.heap.size ≤ B; omega) _, ho, ?_⟩
  · rw [e]
    exact hr.far (by omega) (by omega) _
  · have := hg.size
    have := hb.size
    simp
    omega

/-- what the walk knows of the units that it has looked at -/
theorem mem_snoc {old u : Int} {l : List Int} : decide (old ∈ l ++ [u]) = (decide (old ∈ l) || (u == old)) := by
  rw [Bool.eq_iff_iff]
  simp only [decide_eq_true_eq, Bool.or_eq_true, List.mem_append, List.mem_singleton, beq_iff_eq]
  exact or_congr Iff.rfl eq_comm

end Go.Proofs.Ytcffikfjbpeggaa
