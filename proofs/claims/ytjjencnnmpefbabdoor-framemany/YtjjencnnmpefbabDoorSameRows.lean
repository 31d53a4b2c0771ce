/- What sameLists comes to at two rows of rows of bytes that are the same. -/
import Derived.Test.YtjjencnnmpefbabDoorRowsPlain
import Derived.Test.YtjjencnnmpefbabDoorSameKeep
import Derived.Deep.RegionWith
namespace Go.Proofs.YtjjencnnmpefbabDoor
open Go.ChangeShapes Go.WideShapes Go.ChangeAt Go.RowKit

set_option maxHeartbeats 1000000 in
theorem sameLists_same (ao bo : Option Addr) (cap cbp : Nat) (xss : List (List Int)) (w : World) (he : Rws w ao cap xss) (hf : Rws w bo cbp xss) :
    Calls Tryd.prog 10 #[.slice ao xss.length cap, .slice bo xss.length cbp] w fun e w' => e = .returned (.bool true) ∧ Below w.heap.size w w' := by
  have hl1 := he.2.1
  have HE : Hid (Rws w ao cap xss) := he
  have HF : Hid (Rws w bo cbp xss) := hf
  clear he hf
  obtain ⟨n, hn⟩ : ∃ n, n = xss.length := ⟨_, rfl⟩
  rw [← hn] at hl1
  rw [← hn]
  have HN : Hid (n = xss.length) := hn
  clear hn
  go_enter Tryd.func10, Tryd.ntmps10
  go_wp2
  go_loopw [5] (fun i wr => ∃ k : Nat, k ≤ n ∧ i = .int .i64 k ∧ Hid (Below w.heap.size w wr)) (fun i _ => n - (intOf i).toNat)
  case atStart => exact ⟨0, Nat.zero_le _, rfl, Below.refl _ _⟩
  case round =>
    obtain ⟨k, hk, rfl, HB⟩ := hrel
    by_cases hlt : k < n
    · have hx : k < xss.length := by rw [← HN.out]; exact hlt
      obtain ⟨b, off, a, c, rfl, hc1, o1⟩ := HE.out.at hx
      obtain ⟨b', off', a', c', rfl, hc2, o2⟩ := HF.out.at hx
      have hc1 := (HB.out.cell (p := ⟨b, off + k, none⟩) (World.block_lt_of_cell? _ _ hc1)).trans hc1
      have hc2 := (HB.out.cell (p := ⟨b', off' + k, none⟩) (World.block_lt_of_cell? _ _ hc2)).trans hc2
      have HS : ∀ v1, Below w.heap.size w v1 → Calls Tryd.prog 8 #[.slice a (xss.getD k []).length c, .slice a' (xss.getD k []).length c'] v1 fun e w' => e = .returned (.bool true) ∧ Below w.heap.size w w' := by
        intro v1 h1
        have := sameKeep_any a a' c c' _ _ v1 (o1.later h1) (o2.later h1)
        rw [decide_eq_true rfl] at this
        exact this.mono (fun e w' h => ⟨h.1, h1.trans (h.2.mono h1.size)⟩)
      have hnx := o1.2.1
      generalize (xss.getD k []).length = nx at hc1 hc2 HS hnx
      clear o1 o2 hx
      have bx : Below w.heap.size w wr.drew := HB.out.drew
      go_wp2
      go_region_with (go_at_call 8; (with_reducible refine (HS _ ?_).mono ?_); assumption; rintro e w3 ⟨rfl, b3⟩)
      all_goals
        go_wp2
        go_roundw
        case rel => exact ⟨k + 1, by omega, by go_num, b3⟩
        case measure => simp [intOf]; omega
    · have hkn : k = n := by omega
      subst hkn
      go_wp2
      go_ret
      exact ⟨rfl, HB.out⟩

end Go.Proofs.YtjjencnnmpefbabDoor
