/- What Picked comes to: the rest from 0 on, at every whole number of 64 bits and every number above 0. -/
import Derived.Test.YtppcikfhhmiipaaChecked
import Derived.WalkKit
import Derived.ProofKit
import Derived.OpenShut
import Derived.Deep.RegionWith
namespace Go.Proofs.Ytppcikfhhmiipaa
open Go.ChangeShapes Go.WideShapes Go.ChangeAt Go.RowKit

theorem tmod_parts (a n : Int) (hn : 0 < n) : (a.tmod n < 0 → a.tmod n + n = a % n) ∧ (¬ a.tmod n < 0 → a.tmod n = a % n) ∧ - n < a.tmod n ∧ a.tmod n < n := by
  have h1 := Int.emod_nonneg a (Int.ne_of_gt hn)
  have h2 := Int.emod_lt_of_pos a hn
  rw [Int.tmod_eq_emod]
  split
  · omega
  · rename_i h
    have h3 : a % n ≠ 0 := fun e => h (.inr (Int.dvd_of_emod_eq_zero e))
    omega

theorem Picked_any (a n : Int) (n0 : 0 < n) (n1 : n ≤ 9223372036854775807) (w : World) :
    Calls Try.prog 9 #[.int .i64 a, .int .i64 n] w fun e w' => e = .returned (.int .i64 (a % n)) ∧ w = w' := by
  have h := tmod_parts a n n0
  have hn2 : ¬ n = 0 := by omega
  obtain ⟨r, hr⟩ : ∃ r, r = a % n := ⟨_, rfl⟩
  rw [← hr] at h
  rw [← hr]
  clear hr
  obtain ⟨h1, h2, b1, b2⟩ := h
  by_cases hneg : a.tmod n < 0
  · obtain rfl := h1 hneg
    clear h1 h2
    go_enter Try.func9, Try.ntmps9
    go_wp2
    go_ret
    exact ⟨rfl, rfl⟩
  · obtain rfl := h2 hneg
    clear h1 h2
    go_enter Try.func9, Try.ntmps9
    go_wp2
    go_ret
    exact ⟨rfl, rfl⟩

end Go.Proofs.Ytppcikfhhmiipaa
