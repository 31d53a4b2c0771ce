/- One slice of bytes more behind a row of slices that the call itself lays. -/
import Derived.Test.YtndnbkgejdindaaRowsPlain
namespace Go.Proofs.Ytndnbkgejdindaa
open Go.ChangeShapes Go.WideShapes Go.ChangeAt Go.RowKit

theorem Try.infoRow : (Try.prog.info? 34).map (fun i => (i.zero, i.size, i.bytes)) = some (some (.slice none 0 0), 1, 24) := by kernel_rfl

/-- a slice is one cell -/
theorem slice_oneCell (a : Option Addr) (n c : Nat) : ∀ u ∈ [Value.slice a n c], u.oneCell' = true := by
  intro u hu
  simp only [List.mem_singleton] at hu
  subst hu
  rfl

/-- not in the block of a row, and not in another one's -/
def Off (u v : Value) (g : Nat) : Prop := u.ownBlock ≠ some g ∧ v.ownBlock ≠ some g

theorem alloc_size (w : World) (o : Obj) : (w.alloc o).heap.size = w.heap.size + 1 := by simp

/-- an append to the row v that the bodies lie apart from: they stand, and lie apart from what has become of it -/
theorem bodies_grown {w w' : World} {ok ok' : Nat → Prop} {v v' : Value} {us : List Value} {xss : List (List Int)} (ha : All2 (IsBody w ok) us xss) (hg : w.grownBy w' v.ownBlock)
    (hv : ∀ g, ok g → v.ownBlock ≠ some g) (hat : v'.ownBlock = v.ownBlock ∨ v'.ownBlock = some w.heap.size) (hok : ∀ g, ok g → v'.ownBlock ≠ some g → ok' g) : All2 (IsBody w' ok') us xss := by
  refine All2.imp (fun u xs h => ?_) ha
  have h1 : IsBody w (fun g => ok g ∧ v'.ownBlock ≠ some g) u xs := h.ok (fun g hg1 hg2 => ⟨hg2, by
    rcases hat with e | e
    · rw [e]; exact hv g hg2
    · rw [e]; intro e2; have e3 : w.heap.size = g := Option.some.inj e2; omega⟩)
  have h2 : IsBody w' (fun g => ok g ∧ v'.ownBlock ≠ some g) u xs := h1.grown hg (fun g h => hv g h.1)
  exact h2.ok (fun g _ h => hok g h.1 h.2)

theorem bodies_later {w w' : World} {ok : Nat → Prop} {us : List Value} {xss : List (List Int)} (ha : All2 (IsBody w ok) us xss) (hb : Below w.heap.size w w') : All2 (IsBody w' ok) us xss :=
  All2.imp (fun _ _ h => h.later hb) ha

/-- one body more -/
theorem rows_step {w wr w1 w2 : World} {B k c : Nat} {E : TypeId} {v v' : Value} {us : List Value} {xss : List (List Int)} {a : Option Addr} {xs : List Int}
    (hown : wr.ownsRow B E 1 v k us) (ha : All2 (IsBody wr (fun g => v.ownBlock ≠ some g)) us xss) (hb : Below B w wr) (hB : B ≤ wr.heap.size)
    (b1 : Below wr.heap.size wr w1) (ho : Octs w1 a c xs) (hf : ∀ ad, a = some ad → wr.heap.size ≤ ad.block)
    (hg : (w1.alloc (.cells #[.slice a xs.length c] E)).grownBy w2 v.ownBlock) (hat : v'.ownBlock = v.ownBlock ∨ v'.ownBlock = some (w1.alloc (.cells #[.slice a xs.length c] E)).heap.size) :
    All2 (IsBody w2 (fun g => v'.ownBlock ≠ some g)) (us ++ [.slice a xs.length c]) (xss ++ [xs]) ∧ Below B w w2 := by
  have h1 : All2 (IsBody w1 (fun g => v.ownBlock ≠ some g)) (us ++ [.slice a xs.length c]) (xss ++ [xs]) := by
    refine All2.snoc ⟨a, c, rfl, ho, fun _ ad hd e => ?_⟩ (bodies_later ha b1)
    have q1 := hf ad hd
    have q2 := (hown.lt _ e).2
    omega
  have hal : Below w1.heap.size w1 (w1.alloc (.cells #[.slice a xs.length c] E)) := (Below.refl _ _).alloc (Nat.le_refl _) _
  have h2 := bodies_later h1 hal
  have s1 := b1.size
  refine ⟨bodies_grown h2 hg (fun _ h => h) hat (fun _ _ h => h), ?_⟩
  have bz := (hb.trans (b1.mono hB)).alloc (by omega) (.cells #[.slice a xs.length c] E)
  exact bz.grown hg (by rw [alloc_size]; omega) (fun g hg => (hown.lt g hg).1)

end Go.Proofs.Ytndnbkgejdindaa
