/- What the document's Behind comes to at every slice of bytes. -/
import Derived.Test.YtbidmjadmjphgaaNextPlain
import Derived.LoopTactic
import Derived.Handy
import Derived.Maps.AppendAt
namespace Go.Proofs.Ytbidmjadmjphgaa
open Go.ChangeShapes Go.WideShapes Go.ChangeAt Go.RowKit

theorem Try.infoBeh : (Try.prog.info? 5).map (fun i => (i.zero, i.size, i.bytes)) = some (some (.int .u8 0), 1, 1) := by kernel_rfl

theorem oct_one (x : Int) : ∀ u ∈ [Value.int .u8 x], u.oneCell' = true := by
  intro u hu
  simp only [List.mem_singleton] at hu
  subst hu
  rfl

theorem Behind_any (ao : Option Addr) (cap : Nat) (xs : List Int) (w : World) (he : Octs w ao cap xs) :
    Calls Try.prog 6 #[.slice ao xs.length cap] w fun e w' => ∃ ao' cap',
      e = .returned (.tuple #[.slice ao' (nextVal xs).length cap', .int .i64 (nextErr xs)]) ∧ Octs w' ao' cap' (nextVal xs) ∧ Below w.heap.size w w' := by
  have hcap := he.1
  have hlen := he.2.1
  have HE : Hid (Octs w ao cap xs) := he
  clear he
  obtain ⟨n, hn⟩ : ∃ n, n = xs.length := ⟨_, rfl⟩
  rw [← hn] at hlen hcap
  rw [← hn]
  have HN : Hid (n = xs.length) := hn
  by_cases hbig : 1200 < n
  · rw [nextVal_big (xs := xs) (by omega), nextErr_big (xs := xs) (by omega)]
    clear hn
    go_enter Try.func6, Try.ntmps6
    go_wp2
    go_ret2
    exact ⟨none, 0, rfl, Octs.nil _ _ _ (fun _ => rfl), Below.refl _ _⟩
  · clear hn
    obtain ⟨i0, hi, hz0, hz1, hz2⟩ := info_parts Try.infoBeh
    go_enter Try.func6, Try.ntmps6
    go_wp2
    go_loopw [4, 13] (fun s i wr => ∃ k q : Nat, k ≤ n ∧ q ≤ k ∧ i = .int .i64 k ∧ s = .int .i64 q ∧ w = wr ∧ Hid (q = stemLen xs k)) (fun _ i _ => n - (intOf i).toNat)
    case atStart => exact ⟨0, 0, Nat.zero_le _, Nat.le_refl _, rfl, rfl, rfl, rfl⟩
    case round =>
      obtain ⟨k, q, hk, hq, rfl, rfl, rfl, HS⟩ := hrel
      by_cases hlt : k < n
      · have hj : k < xs.length := by rw [← HN.out]; omega
        obtain ⟨b, off, rfl, hcell, hb0, hb1⟩ := HE.out.at (k := k) hj
        obtain ⟨x, hx⟩ : ∃ x, x = xs.getD k 0 := ⟨_, rfl⟩
        rw [← hx] at hcell hb0 hb1
        have HX : Hid (x = xs.getD k 0) := hx
        clear hx
        by_cases h255 : x = 255
        · have R : Hid (q = stemLen xs (k + 1)) := HS.out.trans (stemLen_high (by rw [← HX.out]; exact h255)).symm
          clear HX hj HS
          subst h255
          go_wp2
          go_roundw
          case rel => exact ⟨k + 1, q, by omega, by omega, by go_num, rfl, trivial, R⟩
          case measure => simp [intOf]; omega
        · have R : Hid (k + 1 = stemLen xs (k + 1)) := (stemLen_low (by rw [← HX.out]; exact h255)).symm
          clear HX hj HS
          go_wp2
          go_roundw
          case rel => exact ⟨k + 1, k + 1, by omega, by omega, by go_num, by go_num, trivial, R⟩
          case measure => simp [intOf]; omega
      · have hkn : k = n := by omega
        subst hkn
        rcases q with _ | j
        · have hs : stemLen xs xs.length = 0 := by rw [← HN.out, ← HS.out]
          have HR : Hid (nextVal xs = [] ∧ nextErr xs = 6) := ⟨nextVal_none (xs := xs) (by rw [← HN.out]; exact hbig) hs, nextErr_none (xs := xs) (by rw [← HN.out]; exact hbig) hs⟩
          clear hs HS
          go_wp2
          go_ret2
          rw [HR.out.1, HR.out.2]
          exact ⟨none, 0, rfl, Octs.nil _ _ _ (fun _ => rfl), Below.refl _ _⟩
        · have hs : stemLen xs xs.length = j + 1 := by rw [← HN.out, ← HS.out]
          have hj : j < xs.length := by rw [← HN.out]; omega
          obtain ⟨b, off, rfl, hcell, hb0, hb1⟩ := HE.out.at (k := j) hj
          obtain ⟨x, hx⟩ : ∃ x, x = xs.getD j 0 := ⟨_, rfl⟩
          rw [← hx] at hcell hb0 hb1
          have h255 : ¬ x = 255 := by rw [hx]; exact stemLen_last hs
          have hv := nextVal_some (xs := xs) (by rw [← HN.out]; exact hbig) hs
          have hb := nextVal_bytes HE.out.2.2.2.1
          have hnews := (HE.out.take j).news
          have HER : Hid (nextErr xs = 0) := nextErr_some (xs := xs) (by rw [← HN.out]; exact hbig) hs
          have HV : Hid (nextVal xs = List.take j xs ++ [x + 1] ∧ (∀ y ∈ nextVal xs, 0 ≤ y ∧ y ≤ 255)) := ⟨by rw [hx]; exact hv, hb⟩
          have htl : (List.map (Value.int .u8) (xs.take j)).length = j * 1 := by simp; omega
          have HJ : Hid (j < xs.length) := hj
          have hblk : b < w.heap.size := World.block_lt_of_cell? _ _ hcell
          clear hv hb hs hj HS hx
          rw [show (((j + 1 : Nat)) : Int) = (j : Int) + 1 by omega]
          go_wp2_with (first
            | (at_builtin; refine wpList_append_own_at _ rfl (.tmp 25) (.tmp 29) 22 rfl w.heap.size 5 i0 (.int .u8 0) 1 1 Try.underlying22 hi hz0 hz1 hz2 rfl (by decide) _ _ _ rfl (World.ownsRow_lit w #[] 0 (Nat.le_refl _) (by decide) rfl) ⟨b, off, none⟩ j cap ((xs.take j).map (Value.int .u8)) rfl htl (fun i u hu => by rw [(Below.refl w.heap.size w).alloc (Nat.le_refl _) _ |>.cell (by rw [addr_add]; exact hblk)]; exact hnews i u hu) (octs_oneCells _) (by unfold maxLen; omega) (by omega) (by simp) ?_; intro v' w1 hown hgrow _ _; rw [Nat.zero_add, List.nil_append] at hown; have hb1 : Below w.heap.size w w1 := ((Below.refl _ w).alloc (Nat.le_refl _) _).grown hgrow (by simp) (by intro k hk; have hk' : w.heap.size = k := Option.some.inj hk; omega); have hcell1 : w1.cell? ⟨b, off + j, none⟩ = some (.int .u8 x) := (hb1.cell hblk).trans hcell)
            | (at_builtin; refine wpList_append_own _ rfl (.tmp 31) (.tmp 38) 22 rfl w.heap.size 5 i0 (.int .u8 0) 1 1 Try.underlying22 hi hz0 hz1 hz2 rfl (by decide) _ _ _ rfl (hown.alloc _) ⟨w1.heap.size, 0, none⟩ 1 1 [.int .u8 (x + 1)] rfl rfl (cell_one_new _ _ _) (oct_one _) (by unfold maxLen; omega) (by omega) (by have := hb1.size; simp; omega) ?_; intro v2 w2 hown2 hgrow2 _))
          go_ret2
          have hj := HJ.out
          have hb2 : Below w.heap.size w w2 := (hb1.alloc hb1.size _).grown hgrow2 (by have := hb1.size; simp; omega) (fun k hk => (hown.lt k hk).1)
          obtain ⟨ao', cap', e1, ho⟩ := own_octs (xs := nextVal xs) (by rw [HV.out.1]; simp; omega) (by rw [HV.out.1]; simp) (by rw [HV.out.1]; simp; omega) HV.out.2 hown2
          refine ⟨ao', cap', ?_, ho, hb2⟩
          rw [← e1, HER.out]
          rfl

end Go.Proofs.Ytbidmjadmjphgaa
