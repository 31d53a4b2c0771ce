/- What the document's counted, AllOf and AnyOf come to at every slice of whole numbers. -/
import Derived.Test.YtnplkdngboogdaaChecked
import Derived.Test.YtnplkdngboogdaaFoldPlain
import Derived.LoopTactic
import Derived.Handy
namespace Go.Proofs.Ytnplkdngboogdaa
open Go.ChangeShapes Go.WideShapes Go.ChangeAt Go.RowKit

/-- how many of them are t -/
def cnt (t : Int) (xs : List Int) : Int := (xs.count t : Int)

theorem cnt_nonneg (t : Int) (xs : List Int) : 0 ≤ cnt t xs := by unfold cnt; omega

theorem cnt_le (t : Int) (xs : List Int) (k : Nat) : cnt t (xs.take k) ≤ k := by
  have h1 := List.count_le_length (a := t) (l := xs.take k)
  have h2 : (xs.take k).length ≤ k := by simp; omega
  unfold cnt
  omega

theorem cnt_step (t : Int) (xs : List Int) (k : Nat) (hk : k < xs.length) : cnt t (xs.take (k + 1)) = cnt t (xs.take k) + (if xs.getD k 0 = t then 1 else 0) := by
  unfold cnt
  rw [take_step xs k hk, List.count_append]
  by_cases h : xs.getD k 0 = t
  · rw [if_pos h, h]; simp
  · rw [if_neg h]
    have : List.count t [xs.getD k 0] = 0 := List.count_eq_zero.2 (by simp; intro e; exact h (by simpa using e.symm))
    omega

theorem counted_any (ao : Option Addr) (cap : Nat) (xs : List Int) (w : World) (he : Elems w ao xs) :
    Calls Try.prog 14 #[.slice ao xs.length cap] w fun e w' => ∃ k, Hid (xs.all truthy = true → xs.take k = xs) ∧
      e = .returned (.tuple #[.agg #[.int .i64 (cnt 0 (xs.take k)), .int .i64 (cnt 1 (xs.take k)), .int .i64 (cnt 2 (xs.take k))], .bool (xs.all truthy)]) ∧ Below w.heap.size w w' := by
  have hlen := he.1
  have HE : Hid (Elems w ao xs) := he
  clear he
  obtain ⟨n, hn⟩ : ∃ n, n = xs.length := ⟨_, rfl⟩
  rw [← hn] at hlen
  rw [← hn]
  have HN : Hid (n = xs.length) := hn
  clear hn
  go_enter Try.func14, Try.ntmps14
  go_wp2
  go_loopw [9] (fun i wr => ∃ (k : Nat) (c0 c1 c2 : Int), k ≤ n ∧ i = .int .i64 k ∧ (0 ≤ c0 ∧ c0 ≤ k) ∧ (0 ≤ c1 ∧ c1 ≤ k) ∧ (0 ≤ c2 ∧ c2 ≤ k) ∧
      wr = (w.alloc (.cells #[.int .i64 0, .int .i64 0, .int .i64 0] 32)).alloc (.cells #[.int .i64 c0, .int .i64 c1, .int .i64 c2] 32) ∧
      Hid (c0 = cnt 0 (xs.take k) ∧ c1 = cnt 1 (xs.take k) ∧ c2 = cnt 2 (xs.take k) ∧ (xs.take k).all truthy = true))
    (fun i _ => n - (intOf i).toNat)
  case atStart => exact ⟨0, 0, 0, 0, Nat.zero_le _, rfl, by omega, by omega, by omega, rfl, by simp [Hid, cnt]⟩
  case round =>
    obtain ⟨k, c0, c1, c2, hk, rfl, b0, b1, b2, rfl, H⟩ := hrel
    by_cases hlt : k < n
    · have hkl : k < xs.length := by rw [← HN.out]; exact hlt
      obtain ⟨b, off, rfl, hcell⟩ := HE.out.at (k := k) hkl
      obtain ⟨x, hx⟩ : ∃ x, x = xs.getD k 0 := ⟨_, rfl⟩
      rw [← hx] at hcell
      have HX : Hid (x = xs.getD k 0) := hx
      clear hx
      have hbl : b < w.heap.size := World.block_lt_of_cell? _ _ hcell
      by_cases ht : 0 ≤ x ∧ x ≤ 2
      · have R : Hid (c0 + (if x = 0 then 1 else 0) = cnt 0 (xs.take (k + 1)) ∧ c1 + (if x = 1 then 1 else 0) = cnt 1 (xs.take (k + 1)) ∧ c2 + (if x = 2 then 1 else 0) = cnt 2 (xs.take (k + 1)) ∧ (xs.take (k + 1)).all truthy = true) := by
          refine ⟨?_, ?_, ?_, all_take_step xs k hkl H.out.2.2.2 (by rw [← HX.out, truthy_iff]; exact ht)⟩
          · rw [cnt_step 0 xs k hkl, ← HX.out, H.out.1]
          · rw [cnt_step 1 xs k hkl, ← HX.out, H.out.2.1]
          · rw [cnt_step 2 xs k hkl, ← HX.out, H.out.2.2.1]
        clear HX hkl H
        rcases (show x = 0 ∨ x = 1 ∨ x = 2 by omega) with rfl | rfl | rfl
        · clear ht
          go_wp2
          go_roundw
          case rel => exact ⟨k + 1, c0 + 1, c1, c2, by omega, by go_num, by omega, by omega, by omega, rfl, by simpa [Hid] using R⟩
          case measure => simp [intOf]; omega
        · clear ht
          go_wp2
          go_roundw
          case rel => exact ⟨k + 1, c0, c1 + 1, c2, by omega, by go_num, by omega, by omega, by omega, rfl, by simpa [Hid] using R⟩
          case measure => simp [intOf]; omega
        · clear ht
          go_wp2
          go_roundw
          case rel => exact ⟨k + 1, c0, c1, c2 + 1, by omega, by go_num, by omega, by omega, by omega, rfl, by simpa [Hid] using R⟩
          case measure => simp [intOf]; omega
      · have hb : xs.all truthy = false := by
          refine all_bad xs k hkl ?_
          rw [← HX.out]
          cases hy : truthy x
          · rfl
          · exact absurd ((truthy_iff x).1 hy) ht
        have fin : Hid (∃ j, Hid (xs.all truthy = true → xs.take j = xs) ∧ (c0 = cnt 0 (xs.take j) ∧ c1 = cnt 1 (xs.take j) ∧ c2 = cnt 2 (xs.take j)) ∧ xs.all truthy = false) :=
          ⟨k, (fun h => absurd h (by simp [hb])), ⟨H.out.1, H.out.2.1, H.out.2.2.1⟩, hb⟩
        clear hb HX hkl H
        rcases (show x < 0 ∨ 2 < x by omega) with hx | hx
        · clear ht
          go_wp2
          refine bodyPost_ret (v := .tuple #[.agg #[.int .i64 c0, .int .i64 c1, .int .i64 c2], .bool false]) (by simp [results, Try.results14, go_sem]) rfl ?_
          obtain ⟨j, h1, ⟨rfl, rfl, rfl⟩, h2⟩ := fin.out
          refine ⟨j, h1, ?_, by go_grown⟩
          rw [h2]
        · clear ht
          go_wp2
          refine bodyPost_ret (v := .tuple #[.agg #[.int .i64 c0, .int .i64 c1, .int .i64 c2], .bool false]) (by simp [results, Try.results14, go_sem]) rfl ?_
          obtain ⟨j, h1, ⟨rfl, rfl, rfl⟩, h2⟩ := fin.out
          refine ⟨j, h1, ?_, by go_grown⟩
          rw [h2]
    · have hkn : k = n := by omega
      subst hkn
      have ht : xs.take k = xs := by rw [HN.out]; exact List.take_length
      have fin : Hid (∃ j, Hid (xs.all truthy = true → xs.take j = xs) ∧ (c0 = cnt 0 (xs.take j) ∧ c1 = cnt 1 (xs.take j) ∧ c2 = cnt 2 (xs.take j)) ∧ xs.all truthy = true) :=
        ⟨k, (fun _ => ht), ⟨H.out.1, H.out.2.1, H.out.2.2.1⟩, by have := H.out.2.2.2; rw [ht] at this; exact this⟩
      clear ht H
      go_wp2
      refine bodyPost_ret (v := .tuple #[.agg #[.int .i64 c0, .int .i64 c1, .int .i64 c2], .bool true]) (by simp [results, Try.results14, go_sem]) rfl ?_
      obtain ⟨j, h1, ⟨rfl, rfl, rfl⟩, h2⟩ := fin.out
      refine ⟨j, h1, ?_, by go_grown⟩
      rw [h2]

end Go.Proofs.Ytnplkdngboogdaa
