/- What the program's Next comes to at every slice of bytes. -/
import Derived.Test.YtbidmjadmjphgabNextPlain
import Derived.LoopTactic
import Derived.Handy
namespace Go.Proofs.Ytbidmjadmjphgab
open Go.ChangeShapes Go.WideShapes Go.ChangeAt Go.RowKit

theorem Try.info5 : (Try.prog.info? 5).map (fun i => (i.zero, i.size, i.bytes)) = some (some (.int .u8 0), 1, 1) := by kernel_rfl

theorem Next_any (ao : Option Addr) (cap : Nat) (xs : List Int) (w : World) (he : Octs w ao cap xs) :
    Calls Try.prog 5 #[.slice ao xs.length cap] w fun e w' => ∃ ao' cap',
      e = .returned (.tuple #[.slice ao' (nextVal xs).length cap', .int .i64 (nextErr xs)]) ∧ Octs w' ao' cap' (nextVal xs) ∧ Below w.heap.size w w' := by
  have hcap := he.1
  have hlen := he.2.1
  have HE : Hid (Octs w ao cap xs) := he
  clear he
  obtain ⟨n, hn⟩ : ∃ n, n = xs.length := ⟨_, rfl⟩
  rw [← hn] at hlen hcap
  rw [← hn]
  have HN : Hid (n = xs.length) := hn
  by_cases hbig : 1200 < n
  · rw [nextVal_big (xs := xs) (by omega), nextErr_big (xs := xs) (by omega)]
    clear hn
    go_enter Try.func5, Try.ntmps5
    go_wp2
    go_ret2
    exact ⟨none, 0, rfl, Octs.nil _ _ _ (fun _ => rfl), Below.refl _ _⟩
  · clear hn
    obtain ⟨i0, hi, hz0, hz1, hz2⟩ := info_parts Try.info5
    go_enter Try.func5, Try.ntmps5
    go_wp2
    go_loopw [4] (fun i wr => ∃ k : Nat, k ≤ n ∧ i = .int .i64 ((k : Int) - 1) ∧ wr = w ∧ Hid (stemLen xs k = stemLen xs n)) (fun i _ => (intOf i + 1).toNat)
    case atStart => exact ⟨n, Nat.le_refl _, rfl, rfl, rfl⟩
    case round =>
      obtain ⟨k, hk, rfl, rfl, HS⟩ := hrel
      rcases k with _ | j
      · have hs : stemLen xs xs.length = 0 := by rw [← HN.out, ← HS.out]; rfl
        have HR : Hid (nextVal xs = [] ∧ nextErr xs = 6) := ⟨nextVal_none (xs := xs) (by rw [← HN.out]; exact hbig) hs, nextErr_none (xs := xs) (by rw [← HN.out]; exact hbig) hs⟩
        clear hs
        rw [show (((0 : Nat) : Int) - 1) = -1 by omega]
        go_wp2
        go_ret2
        rw [HR.out.1, HR.out.2]
        exact ⟨none, 0, rfl, Octs.nil _ _ _ (fun _ => rfl), Below.refl _ _⟩
      · have hj : j < xs.length := by rw [← HN.out]; omega
        obtain ⟨b, off, rfl, hcell, hb0, hb1⟩ := HE.out.at (k := j) hj
        rw [show (((j + 1 : Nat) : Int) - 1) = (j : Int) by omega]
        obtain ⟨x, hx⟩ : ∃ x, x = xs.getD j 0 := ⟨_, rfl⟩
        rw [← hx] at hcell hb0 hb1
        have HX : Hid (x = xs.getD j 0) := hx
        clear hx
        by_cases h255 : x = 255
        · have R : Hid (stemLen xs j = stemLen xs n) := (stemLen_high (by rw [← HX.out]; exact h255)).symm.trans HS.out
          clear HX hj HS
          subst h255
          go_wp2
          go_roundw
          case rel => exact ⟨j, by omega, rfl, trivial, R⟩
          case measure => simp [intOf]
        · have hs : stemLen xs xs.length = j + 1 := by rw [← HN.out, ← HS.out, stemLen_low (by rw [← HX.out]; exact h255)]
          have hv := nextVal_some (xs := xs) (by rw [← HN.out]; exact hbig) hs
          have hb := nextVal_bytes HE.out.2.2.2.1
          have hnews := (HE.out.take (j + 1)).news
          have hjn : j + 1 ≤ n := by omega
          have HER : Hid (nextErr xs = 0) := nextErr_some (xs := xs) (by rw [← HN.out]; exact hbig) hs
          have hset := set_last xs j hj (.int .u8 (x + 1))
          have HV : Hid (nextVal xs = List.take j xs ++ [xs.getD j 0 + 1] ∧ (∀ y ∈ nextVal xs, 0 ≤ y ∧ y ≤ 255)) := ⟨hv, hb⟩
          have htl : (List.map (Value.int .u8) (xs.take (j + 1))).length = (j + 1) * 1 := by simp; omega
          have HCJ : Hid (((xs.take (j + 1)).map (Value.int .u8))[j]? = some (.int .u8 x)) := by
            have := HX.out
            simp only [List.getD, List.getElem?_eq_getElem hj, Option.getD_some] at this
            simp [Hid, List.getElem?_eq_getElem hj, this]
          have HJ : Hid (j < xs.length) := hj
          have HST : Hid (((xs.take (j + 1)).map (Value.int .u8)).set j (.int .u8 (x + 1)) = (xs.take j).map (Value.int .u8) ++ [.int .u8 (x + 1)]) := hset
          clear hv hb hs hset hj HS
          go_wp2_with (at_builtin; refine wpList_append_own _ rfl _ _ 22 rfl wr.heap.size 5 i0 (.int .u8 0) 1 1 Try.underlying22 hi hz0 hz1 hz2 rfl (by decide) _ _ _ rfl (World.ownsRow_nil _ _ _ _) ⟨b, off, none⟩ (j + 1) cap ((xs.take (j + 1)).map (Value.int .u8)) rfl htl hnews (octs_oneCells _) (by unfold maxLen; omega) (by omega) (Nat.le_refl _) ?_; intro v' w1 hown hgrow _; rw [Nat.zero_add, List.nil_append] at hown; obtain ⟨g, gcap, rfl⟩ := own_form hown (Nat.succ_pos j); have hc : w1.cell? ⟨g, j, none⟩ = some (.int .u8 x) := (hown.cellAt j (by omega)).trans (HCJ.out); have hf : w1.frozen? ⟨g, j, none⟩ = false := hown.frozenAt j)
          go_ret2
          have hlt := (hown.lt g rfl).1
          have hst := (hown.stored j (.int .u8 (x + 1))).1
          rw [HST.out] at hst
          have hj := HJ.out
          obtain ⟨ao', cap', e1, ho⟩ := own_octs (xs := nextVal xs) (by rw [HV.out.1]; simp; omega) (by rw [HV.out.1, ← HX.out]; simp) (by rw [HV.out.1]; simp; omega) HV.out.2 hst
          refine ⟨ao', cap', ?_, ho, ((Below.refl _ wr).grown hgrow (Nat.le_refl _) (by intro k hk; cases hk)).setCell hlt _⟩
          rw [← e1, HER.out]
          rfl

end Go.Proofs.Ytbidmjadmjphgab
