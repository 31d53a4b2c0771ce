/- What sameBytes comes to at every two slices of bytes. -/
import Derived.Test.YtndnbkgejdindaaOctAppendAt
import Derived.LoopTactic
import Derived.Handy
namespace Go.Proofs.Ytndnbkgejdindaa
open Go.ChangeShapes Go.WideShapes Go.ChangeAt Go.RowKit

theorem take_ext (xs ys : List Int) (k : Nat) (hx : k < xs.length) (hy : k < ys.length) (h : xs.take k = ys.take k) (e : xs.getD k 0 = ys.getD k 0) : xs.take (k + 1) = ys.take (k + 1) := by
  rw [List.take_succ_eq_append_getElem hx, List.take_succ_eq_append_getElem hy, h]
  simp only [List.getD, List.getElem?_eq_getElem hx, List.getElem?_eq_getElem hy, Option.getD_some] at e
  rw [e]

theorem sameBytes_any (ao bo : Option Addr) (cap cbp : Nat) (xs ys : List Int) (w : World) (he : Octs w ao cap xs) (hf : Octs w bo cbp ys) :
    Calls Try.prog 12 #[.slice ao xs.length cap, .slice bo ys.length cbp] w fun e w' => e = .returned (.bool (decide (xs = ys))) ∧ Below w.heap.size w w' := by
  have hl1 := he.2.1
  have hl2 := hf.2.1
  have HE : Hid (Octs w ao cap xs) := he
  have HF : Hid (Octs w bo cbp ys) := hf
  clear he hf
  obtain ⟨n, hn⟩ : ∃ n, n = xs.length := ⟨_, rfl⟩
  obtain ⟨m, hm⟩ : ∃ m, m = ys.length := ⟨_, rfl⟩
  rw [← hn] at hl1
  rw [← hm] at hl2
  rw [← hn, ← hm]
  have HN : Hid (n = xs.length) := hn
  have HM : Hid (m = ys.length) := hm
  by_cases hnm : n = m
  · clear hn hm
    subst hnm
    go_enter Try.func12, Try.ntmps12
    go_wp2
    go_loopw [5] (fun i wr => ∃ k : Nat, k ≤ n ∧ i = .int .i64 k ∧ Hid (Below w.heap.size w wr) ∧ Hid (xs.take k = ys.take k)) (fun i _ => n - (intOf i).toNat)
    case atStart => exact ⟨0, Nat.zero_le _, rfl, Below.refl _ _, rfl⟩
    case round =>
      obtain ⟨k, hk, rfl, HB, HT⟩ := hrel
      by_cases hlt : k < n
      · have hx : k < xs.length := by rw [← HN.out]; exact hlt
        have hy : k < ys.length := by rw [← HM.out]; exact hlt
        obtain ⟨b, off, rfl, hc1, -, -⟩ := HE.out.at hx
        obtain ⟨b', off', rfl, hc2, -, -⟩ := HF.out.at hy
        have hc1 := (HB.out.cell (p := ⟨b, off + k, none⟩) (World.block_lt_of_cell? _ _ hc1)).trans hc1
        have hc2 := (HB.out.cell (p := ⟨b', off' + k, none⟩) (World.block_lt_of_cell? _ _ hc2)).trans hc2
        obtain ⟨x, hx1⟩ : ∃ x, x = xs.getD k 0 := ⟨_, rfl⟩
        obtain ⟨y, hy1⟩ : ∃ y, y = ys.getD k 0 := ⟨_, rfl⟩
        rw [← hx1] at hc1
        rw [← hy1] at hc2
        by_cases hxy : x = y
        · have R : Hid (xs.take (k + 1) = ys.take (k + 1)) := take_ext xs ys k hx hy HT.out (by rw [← hx1, ← hy1]; exact hxy)
          clear hx1 hy1 hx hy
          subst hxy
          go_wp2_with (go_region)
          all_goals
            go_roundw
            case rel => exact ⟨k + 1, by omega, by go_num, HB.out.drew, R⟩
            case measure => simp [intOf]; omega
        · have R : Hid (decide (xs = ys) = false) := by
            refine decide_eq_false (fun e => hxy ?_)
            rw [hx1, hy1, e]
          clear hx1 hy1 hx hy
          go_wp2_with (go_region)
          all_goals
            go_ret
            rw [R.out]
            exact ⟨rfl, HB.out.drew⟩
      · have hkn : k = n := by omega
        subst hkn
        have R : Hid (decide (xs = ys) = true) := by
          refine decide_eq_true ?_
          have := HT.out
          rw [List.take_of_length_le (by rw [← HN.out]; exact Nat.le_refl _), List.take_of_length_le (by rw [← HM.out]; exact Nat.le_refl _)] at this
          exact this
        go_wp2
        go_ret
        rw [R.out]
        exact ⟨rfl, HB.out⟩
  · have R : Hid (decide (xs = ys) = false) := by
      refine decide_eq_false (fun e => hnm ?_)
      rw [hn, hm, e]
    clear hn hm
    go_enter Try.func12, Try.ntmps12
    go_wp2
    go_ret
    rw [R.out]
    exact ⟨rfl, Below.refl _ _⟩

end Go.Proofs.Ytndnbkgejdindaa
