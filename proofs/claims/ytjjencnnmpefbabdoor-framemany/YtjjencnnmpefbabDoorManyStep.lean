/- A round that appends to a row of slices and to a row of bytes. -/
import Derived.Test.YtjjencnnmpefbabDoorRowsStep
namespace Go.Proofs.YtjjencnnmpefbabDoor
open Go.ChangeShapes Go.WideShapes Go.ChangeAt Go.RowKit

/-- a row of the call's own, as a slice -/
theorem own_slice {w : World} {base size n : Nat} {e : TypeId} {v : Value} {vs : List Value} (h : w.ownsRow base e size v n vs) : ∃ ao cap, v = .slice ao n cap ∧ (ao = none → cap = 0) := by
  rcases h.2 with ⟨h1, h0⟩ | ⟨g, cap, cur, h1, _⟩
  · subst h0; exact ⟨none, 0, h1, fun _ => rfl⟩
  · exact ⟨_, cap, h1, fun h => by cases h⟩

/-- two rows lie apart: the one is in no block, or not in the other's -/
def Aparted (u v : Value) : Prop := u.ownBlock = none ∨ u.ownBlock ≠ v.ownBlock

theorem Aparted.symm {u v : Value} (h : Aparted u v) : Aparted v u := by
  unfold Aparted at *
  cases hv : v.ownBlock with
  | none => exact .inl rfl
  | some g =>
    right
    rcases h with h | h
    · rw [h]; simp
    · rw [hv] at h; exact fun e => h e.symm

theorem Aparted.grown {w : World} {u u' v : Value} {base : Nat} {e : TypeId} {size n : Nat} {xs : List Value} (h : Aparted u v) (hv : w.ownsRow base e size v n xs)
    (hu : u'.ownBlock = u.ownBlock ∨ u'.ownBlock = some w.heap.size) : Aparted u' v := by
  unfold Aparted at *
  rcases hu with hu | hu
  · rw [hu]; exact h
  · right
    rw [hu]
    intro e
    have := (hv.lt _ e.symm).2
    omega

/-- behind the append of a body to the row of slices -/
theorem many_mid {w wr w1 w2 w3 : World} {B k nv c sc : Nat} {E : TypeId} {u u' v : Value} {us vs : List Value} {xss : List (List Int)} {a sa : Option Addr} {xs ss : List Int}
    (hB : B ≤ wr.heap.size) (hbel : Below B w wr) (hu : wr.ownsRow B E 1 u k us) (hv : wr.ownsRow B 5 1 v nv vs) (hap : Aparted u v) (hbod : All2 (IsBody wr (Off u v)) us xss)
    (b1 : Below wr.heap.size wr w1) (ho : Octs w1 a c xs) (hf : ∀ ad, a = some ad → wr.heap.size ≤ ad.block)
    (b2 : Below w1.heap.size w1 w2) (hs : Octs w2 sa sc ss) (hsf : ∀ ad, sa = some ad → w1.heap.size ≤ ad.block)
    (hg : (w2.alloc (.cells #[.slice a xs.length c] E)).grownBy w3 u.ownBlock) (hat : u'.ownBlock = u.ownBlock ∨ u'.ownBlock = some (w2.alloc (.cells #[.slice a xs.length c] E)).heap.size) :
    w3.ownsRow B 5 1 v nv vs ∧ Octs w3 sa sc ss ∧ Aparted u' v ∧ All2 (IsBody w3 (Off u' v)) (us ++ [.slice a xs.length c]) (xss ++ [xs]) ∧ Below B w w3 := by
  have s1 := b1.size
  have s2 := b2.size
  have b12 := b1.trans (b2.mono s1)
  have hal : Below w2.heap.size w2 (w2.alloc (.cells #[.slice a xs.length c] E)) := (Below.refl _ _).alloc (Nat.le_refl _) _
  have hv2 := (own_stays hv b12).alloc (.cells #[.slice a xs.length c] E)
  have h1 : All2 (IsBody w1 (Off u v)) (us ++ [.slice a xs.length c]) (xss ++ [xs]) := by
    refine All2.snoc ⟨a, c, rfl, ho, fun _ ad hd => ⟨fun e => ?_, fun e => ?_⟩⟩ (bodies_later hbod b1)
    · have q1 := hf ad hd
      have q2 := (hu.lt _ e).2
      omega
    · have q1 := hf ad hd
      have q2 := (hv.lt _ e).2
      omega
  have h2 := bodies_later (bodies_later h1 b2) hal
  refine ⟨hv2.kept hg hap.symm, (hs.later hal).grown hg (fun _ ad hd e => ?_), hap.grown hv2 hat, bodies_grown h2 hg (fun g h => h.1) hat (fun g h h' => ⟨h', h.2⟩), ?_⟩
  · have q1 := hsf ad hd
    have q2 := (hu.lt _ e).2
    omega
  · exact ((hbel.trans (b12.mono hB)).alloc (by omega) _).grown hg (by rw [alloc_size]; omega) (fun g hg => (hu.lt g hg).1)

/-- behind the append of its frame to the row of bytes -/
theorem many_end {w w3 w4 : World} {B k nv : Nat} {E : TypeId} {u v v' : Value} {us vs : List Value} {xss : List (List Int)}
    (hB : B ≤ w3.heap.size) (hbel : Below B w w3) (hu : w3.ownsRow B E 1 u k us) (hv : w3.ownsRow B 5 1 v nv vs) (hap : Aparted u v) (hbod : All2 (IsBody w3 (Off u v)) us xss)
    (hg : w3.grownBy w4 v.ownBlock) (hat : v'.ownBlock = v.ownBlock ∨ v'.ownBlock = some w3.heap.size) :
    w4.ownsRow B E 1 u k us ∧ Aparted u v' ∧ All2 (IsBody w4 (Off u v')) us xss ∧ Below B w w4 :=
  ⟨hu.kept hg hap, (hap.symm.grown hu hat).symm, bodies_grown hbod hg (fun _ h => h.2) hat (fun _ h h' => ⟨h.1, h'⟩), hbel.grown hg hB (fun g hg => (hv.lt g hg).1)⟩

end Go.Proofs.YtjjencnnmpefbabDoor
