/- A unit in the place of another one, in plain words. -/
import Derived.Test.YtcffikfjbpeggabLyDuo
import Derived.Test.YtcffikfjbpeggabLyPlace
namespace Go.Proofs.Ytcffikfjbpeggab
open Go.ChangeShapes Go.WideShapes Go.ChangeAt Go.RowKit

/-- next in the place of old -/
def swU (old next x : Int) : Int := if x = old then next else x

/-- in all chains -/
def swC (old next : Int) (cs : List (List Int)) : List (List Int) := cs.map (fun c => c.map (swU old next))

/-- what is refused first -/
def swE (ep : Int) (cs : List (List Int)) (old next : Int) : Int :=
  if mayL ep cs = false then 4 else if ¬ (0 ≤ next ∧ next ≤ 5) then 2 else if old ∉ cs.flatten then 6 else if next ∈ cs.flatten then 7 else if ep = 1000000 then 10 else 0

/-- the chains that are answered -/
def swL (ep : Int) (cs : List (List Int)) (old next : Int) : List (List Int) := if swE ep cs old next = 0 then swC old next cs else []

/-- the epoch that is answered -/
def swN (ep : Int) (cs : List (List Int)) (old next : Int) : Int := if swE ep cs old next = 0 then ep + 1 else 0

theorem swE_ok {ep : Int} {cs : List (List Int)} {old next : Int} (h : swE ep cs old next = 0) : mayL ep cs = true ∧ (0 ≤ next ∧ next ≤ 5) ∧ old ∈ cs.flatten ∧ next ∉ cs.flatten ∧ ep ≠ 1000000 := by
  unfold swE at h
  split at h
  · cases h
  · split at h
    · cases h
    · split at h
      · cases h
      · split at h
        · cases h
        · split at h
          · cases h
          · rename_i h1 h2 h3 h4 h5
            exact ⟨by simpa using h1, Decidable.not_not.1 h2, Decidable.not_not.1 h3, h4, h5⟩

theorem swE_zero {ep : Int} {cs : List (List Int)} {old next : Int} (h1 : mayL ep cs = true) (h2 : 0 ≤ next ∧ next ≤ 5) (h3 : old ∈ cs.flatten) (h4 : next ∉ cs.flatten) (h5 : ep ≠ 1000000) : swE ep cs old next = 0 := by
  unfold swE
  rw [if_neg (by simp [h1]), if_neg (not_not_intro h2), if_neg (not_not_intro h3), if_neg h4, if_neg h5]

theorem swC_length (old next : Int) (cs : List (List Int)) : (swC old next cs).length = cs.length := by simp [swC]

theorem swC_flatten (old next : Int) (cs : List (List Int)) : (swC old next cs).flatten = cs.flatten.map (swU old next) := by
  unfold swC
  rw [List.map_flatten]

/-- a layout that was swapped, or what was refused -/
def SwPost (w : World) (ep : Int) (cs : List (List Int)) (old next : Int) (e : Ending) (w' : World) : Prop :=
  ∃ (a : Option Addr) (n c : Nat), e = .returned (.tuple #[.agg #[.int .i64 (swN ep cs old next), .slice a n c], .int .i64 (swE ep cs old next)]) ∧ n = (swL ep cs old next).length ∧ Lies (kRow kInt) (fun b => w.heap.size ≤ b) w' a c (swL ep cs old next) ∧ Below w.heap.size w w'

theorem SwPost.no {w w' : World} {ep : Int} {cs : List (List Int)} {old next x : Int} (h : swE ep cs old next = x) (h0 : x ≠ 0) (hb : Below w.heap.size w w') : SwPost w ep cs old next (.returned (.tuple #[.agg #[.int .i64 0, .slice none 0 0], .int .i64 x])) w' := by
  have h1 : ¬ swE ep cs old next = 0 := by rw [h]; exact h0
  refine ⟨none, 0, 0, ?_, ?_, ?_, hb⟩
  · rw [swN, if_neg h1, h]
  · rw [swL, if_neg h1]
    rfl
  · rw [swL, if_neg h1]
    exact Lies.nil _ _ _ (fun _ => rfl)

theorem SwPost.yes {w w' : World} {ep : Int} {cs : List (List Int)} {old next : Int} {a : Option Addr} {n c : Nat} (h : swE ep cs old next = 0) (hn : n = cs.length) (hl : Lies (kRow kInt) (fun b => w.heap.size ≤ b) w' a c (swC old next cs)) (hb : Below w.heap.size w w') : SwPost w ep cs old next (.returned (.tuple #[.agg #[.int .i64 (ep + 1), .slice a n c], .int .i64 0])) w' := by
  refine ⟨a, n, c, ?_, ?_, ?_, hb⟩
  · rw [swN, if_pos h, h]
  · rw [swL, if_pos h, swC_length, hn]
  · rw [swL, if_pos h]
    exact hl

end Go.Proofs.Ytcffikfjbpeggab
