/- The layout of raw numbers: the walk. -/
import Derived.Test.YtcffikfjbpeggabLyForI
namespace Go.Proofs.Ytcffikfjbpeggab
open Go.ChangeShapes Go.WideShapes Go.ChangeAt Go.RowKit

set_option maxHeartbeats 4000000 in
theorem LayoutFor_any {ok : Nat → Prop} (la : Option Addr) (m lc : Nat) (ls : List Int) (epoch turn : Int) (hml : m = ls.length) (hm8 : m * 8 ≤ 140737488351232) (w : World) (hL : Lies kInt ok w la lc ls) :
    Calls Try.prog 6 #[.slice la m lc, .int .i64 epoch, .int .i64 turn] w fun e w' => ForPost w (epoch % 1000000) e w' := by
  obtain ⟨ep, hep⟩ : ∃ ep, ep = epoch % 1000000 := ⟨_, rfl⟩
  obtain ⟨t, ht⟩ : ∃ t, t = turn % 6 := ⟨_, rfl⟩
  have t0 : 0 ≤ t := by omega
  have t5 : t ≤ 5 := by omega
  rw [← hep]
  have HL := put_by (And.intro hL hml)
  have HE := put_by hep
  have HT := put_by ht
  clear hL hml hep ht
  have HI0 := put_by (ForI.start w ep t 25)
  have hne : w.heap.size ≠ w.heap.size + 1 := by omega
  go_enter Try.func6, Try.ntmps6
  go_wp2_with (go_at_call 7; refine (Picked_any epoch 1000000 (by decide) (by decide) _).mono ?_; rintro e w' ⟨rfl, rfl⟩; rw [← HE.out])
  go_loopw [8, 9] (fun uv iv wr => ∃ (k : Nat) (cs : List (List Int)) (a : Option Addr) (n c : Nat), k ≤ m ∧ iv = .int .i64 k ∧ uv = .int .i64 (cs.flatten.length : Nat) ∧ Hid (ForI w ep t cs a n c wr)) (fun _ iv _ => m - (intOf iv).toNat)
  case atStart => exact ⟨0, [], none, 0, 0, Nat.zero_le _, rfl, rfl, HI0⟩
  case round =>
    obtain ⟨k, cs, a, n, c, hk, rfl, rfl, HI⟩ := hrel
    obtain ⟨u, hu⟩ : ∃ u, u = cs.flatten.length := ⟨_, rfl⟩
    rw [← hu]
    have HU := put_by hu
    have h5 : u ≤ 5 := by have := HI.out.few; omega
    clear hu
    by_cases hlt : k < m
    · by_cases hu5 : u < 5
      · have hkc : k < ls.length := by have := HL.out.2; omega
        obtain ⟨b, off, rfl, hb, -, hc⟩ := int_at HL.out.1 hkc
        have hc1 : wr.cell? ⟨b, off + k, none⟩ = some (.int .i64 ls[k]) := (HI.out.below.cell (p := ⟨b, off + k, none⟩) hb).trans hc
        clear hc hb
        generalize ls[k] = x at hc1
        obtain ⟨r, hr⟩ : ∃ r, r = x % 3 := ⟨_, rfl⟩
        have r0 : 0 ≤ r := by omega
        have r2 : r ≤ 2 := by omega
        have HR := put_by hr
        clear hr
        obtain ⟨q, hq⟩ : ∃ q : Nat, (if 5 - (u : Int) < 1 + r then 5 - (u : Int) else 1 + r) = q := ⟨(if 5 - (u : Int) < 1 + r then 5 - (u : Int) else 1 + r).toNat, by split <;> omega⟩
        have hq1 : 1 ≤ q ∧ q ≤ 3 ∧ u + q ≤ 5 := by split at hq <;> omega
        go_wp2_with (go_at_call 7; refine (Picked_any x 3 (by decide) (by decide) _).mono ?_; rintro e w' ⟨rfl, rfl⟩; rw [← HR.out])
        have HQ := put_by hq1
        clear hq hq1
        rename World => V0
        go_loopw [11, 12] (fun v jv ws => ∃ (i : Nat) (a2 : Option Addr) (n2 c2 : Nat), i ≤ q ∧ jv = .int .i64 i ∧ v = .slice a2 n2 c2 ∧ Hid (Rows kInt (fun b => V0.heap.size ≤ b) ws V0.heap.size 3 (.slice a2 n2 c2) ((List.range i).map (fun (j : Nat) => ((u : Int) + j + t) % 6)) ∧ Below V0.heap.size V0 ws)) (fun _ jv _ => q - (intOf jv).toNat)
        case atStart => exact ⟨0, none, 0, 0, Nat.zero_le _, rfl, rfl, put_by ⟨Rows.nil _ _ _ _ _, Below.refl _ _⟩⟩
        case round =>
          obtain ⟨i, a2, n2, c2, hi, rfl, rfl, HJ⟩ := hrel
          by_cases hit : i < q
          · have hq3 : q ≤ 5 := by have := HQ.out; omega
            have hmod : Int.tmod ((u : Int) + i + t) 6 = ((u : Int) + i + t) % 6 := Int.tmod_eq_emod_of_nonneg (by omega)
            obtain ⟨y, hy⟩ : ∃ y, y = ((u : Int) + i + t) % 6 := ⟨_, rfl⟩
            have HL1 : Hid (((List.range i).map (fun (j : Nat) => ((u : Int) + j + t) % 6)).length + 1 ≤ 100000) := put_by (by simp; omega)
            have HS : Hid (((List.range i).map (fun (j : Nat) => ((u : Int) + j + t) % 6)) ++ [y] = (List.range (i + 1)).map (fun (j : Nat) => ((u : Int) + j + t) % 6)) := put_by (by rw [List.range_succ, List.map_append, hy]; rfl)
            rw [← hy] at hmod
            clear hy
            go_wp2_with first
              | (go_at_call 7; refine (Picked_any turn 6 (by decide) (by decide) _).mono ?_; rintro e w' ⟨rfl, rfl⟩; rw [← HT.out])
              | (at_builtin; refine wpList_append_one (K := kInt) (ok := fun b => V0.heap.size ≤ b) eltI rfl (.tmp 40) (.tmp 48) rfl V0.heap.size (.slice a2 n2 c2) _ rfl HJ.out.1 y [.int .i64 y] _ _ rfl rfl rfl (fun b hb => Nat.le_trans HJ.out.2.size hb) HL1.out (by decide) HJ.out.2.size ?_; intro v' w5 r1 r2 r3; refine hidGoal ?_)
            obtain ⟨a3, c3, e3⟩ := rows_form r1
            subst e3
            obtain ⟨n3, hn3⟩ : ∃ n3, n3 = (((List.range i).map (fun (j : Nat) => ((u : Int) + j + t) % 6)) ++ [y]).length := ⟨_, rfl⟩
            rw [← hn3] at r1 ⊢
            rw [HS.out] at r1
            have HJ2 := put_by (And.intro r1 (HJ.out.2.grown r2 HJ.out.2.size (fun g hg => (rows_lt HJ.out.1 g hg).1)))
            clear r1 r2 r3 hn3
            unfold Hid
            go_wp2
            go_roundw
            case rel => exact ⟨i + 1, a3, n3, c3, by omega, by simp, rfl, HJ2⟩
            case measure => simp [intOf]; omega
          · obtain rfl : i = q := by omega
            have hq3 : i ≤ 5 := by have := HQ.out; omega
            obtain ⟨xs, hxs⟩ : ∃ xs, xs = (List.range i).map (fun (j : Nat) => ((u : Int) + j + t) % 6) := ⟨_, rfl⟩
            rw [← hxs] at HJ
            obtain ⟨q1, qL, -, qb⟩ := rows_lies HJ.out.1 (fun _ h => h)
            have HX : Hid (xs = (List.range i).map (fun (j : Nat) => ((cs.flatten.length : Int) + j + t) % 6)) := put_by (by rw [hxs, HU.out])
            have HN2 : Hid (n2 = xs.length) := put_by q1
            have HLX : Hid (Lies kInt (fun b => (w.heap.size + 2 ≤ b) ∧ (Value.slice a n c).ownBlock ≠ some b) wr a2 c2 xs) := put_by (qL.move (Kept.of_below (Below.refl _ _)) (fun b _ hb => ⟨by have := HI.out.size; omega, fun e => by have := (HI.out.own _ e).2; omega⟩))
            have HL9 : Hid (cs.length + 1 ≤ 100000) := put_by (by
              have h1 := flatten_many (cs := cs) (fun c hc => (HI.out.each c hc).1)
              have h2 := HI.out.few
              omega)
            have HRW : Hid (Rows (kRow kInt) (fun b => w.heap.size + 2 ≤ b) wr (w.heap.size + 2) 22 (.slice a n c) cs) := put_by (HI.out.rows.later HJ.out.2)
            have HSZ : Hid (w.heap.size + 2 ≤ wr.heap.size) := put_by (by have := HI.out.size; have := HJ.out.2.size; omega)
            obtain ⟨v0, v1, y0, y1⟩ := HI.out.var.later HJ.out.2
            clear q1 qL qb hxs
            go_wp2_with (at_builtin; refine wpList_append_one (K := kRow kInt) (ok := fun b => w.heap.size + 2 ≤ b) eltR rfl (.tmp 54) (.tmp 56) rfl (w.heap.size + 2) (.slice a n c) cs rfl HRW.out xs [.slice a2 n2 c2] _ _ rfl rfl ⟨a2, c2, by rw [HN2.out], HLX.out⟩ (fun b hb => Nat.le_trans HSZ.out hb) HL9.out (by decide) HSZ.out ?_; intro v' w5 r1 r2 r3; refine hidGoal ?_)
            obtain ⟨a3, c3, e3⟩ := rows_form r1
            subst e3
            obtain ⟨n3, hn3⟩ : ∃ n3, n3 = (cs ++ [xs]).length := ⟨_, rfl⟩
            rw [← hn3] at r1 ⊢
            obtain ⟨⟨z0, z1, z2, z3⟩, -, -⟩ := HI.out.vars HJ.out.2 r2
            have HI2 := put_by (HI.out.more HX.out (by have := HQ.out; have := HU.out; omega) HJ.out.2 r2 r1)
            have HU2 : Hid (((cs ++ [xs]).flatten.length : Nat) = u + i) := put_by (by
              rw [List.flatten_append, List.length_append, ← HU.out, HX.out]
              simp)
            clear r1 r2 r3 hn3
            unfold Hid
            go_wp2
            go_roundw
            case rel => exact ⟨k + 1, cs ++ [xs], a3, n3, c3, by omega, by simp, by rw [HU2.out]; simp, HI2⟩
            case measure => simp [intOf]; omega
      · have hu6 : u = 5 := by omega
        subst hu6
        obtain ⟨v0, v1, y0, y1⟩ := HI.out.var
        obtain ⟨r0, r1, s0, s1⟩ := HI.out.res
        by_cases z0 : n = 0
        · subst z0
          have HZ := put_by (HI.out.only (ty := 3) (ty2 := 22) t0 t5)
          have z2 := HI.out.size
          have hB2 : Below wr.heap.size wr ((wr.alloc (.cells #[.int .i64 t] 3)).alloc (.cells #[.slice (some ⟨wr.heap.size, 0, none⟩) 1 1] 22)) := ((Below.refl _ _).alloc (Nat.le_refl _) _).alloc (by simp) _
          have dA := HI.out.var.later hB2
          have dB := dA.set1 (.slice (some ⟨wr.heap.size + 1, 0, none⟩) 1 1)
          have dR := (HI.out.res.later hB2).move (heap_far _ (w.heap.size + 1) 1 (.slice (some ⟨wr.heap.size + 1, 0, none⟩) 1 1) (by omega))
          have dE := dR.set2 (.int .i64 ep) (.slice (some ⟨wr.heap.size + 1, 0, none⟩) 1 1)
          unfold set2 at dE
          obtain ⟨a0, a1, a2, a3⟩ := dA
          obtain ⟨b0, b1, b2, b3⟩ := dB
          obtain ⟨c0, c1, c2, c3⟩ := dR
          obtain ⟨e0, e1, -, -⟩ := dE
          clear hB2
          go_wp2_with (go_at_call 7; refine (Picked_any turn 6 (by decide) (by decide) _).mono ?_; rintro e w' ⟨rfl, rfl⟩; rw [← HT.out])
          refine bodyPost_ret (v := .agg #[.int .i64 ep, .slice (some ⟨wr.heap.size + 1, 0, none⟩) 1 1]) (by simp [results, Try.results6, go_sem, asAddr, e0, e1]) rfl HZ.out
        · have z1 : ((n : Int) == 0) = false := by simp; omega
          have HZ := put_by (HI.out.post z0)
          have dE := HI.out.res.set2 (.int .i64 ep) (.slice a n c)
          unfold set2 at dE
          obtain ⟨e0, e1, -, -⟩ := dE
          go_wp2
          refine bodyPost_ret (v := .agg #[.int .i64 ep, .slice a n c]) (by simp [results, Try.results6, go_sem, asAddr, e0, e1]) rfl HZ.out
    · obtain rfl : k = m := by omega
      obtain ⟨v0, v1, y0, y1⟩ := HI.out.var
      obtain ⟨r0, r1, s0, s1⟩ := HI.out.res
      by_cases z0 : n = 0
      · subst z0
        have HZ := put_by (HI.out.only (ty := 3) (ty2 := 22) t0 t5)
        have z2 := HI.out.size
        have hB2 : Below wr.heap.size wr ((wr.alloc (.cells #[.int .i64 t] 3)).alloc (.cells #[.slice (some ⟨wr.heap.size, 0, none⟩) 1 1] 22)) := ((Below.refl _ _).alloc (Nat.le_refl _) _).alloc (by simp) _
        have dA := HI.out.var.later hB2
        have dB := dA.set1 (.slice (some ⟨wr.heap.size + 1, 0, none⟩) 1 1)
        have dR := (HI.out.res.later hB2).move (heap_far _ (w.heap.size + 1) 1 (.slice (some ⟨wr.heap.size + 1, 0, none⟩) 1 1) (by omega))
        have dE := dR.set2 (.int .i64 ep) (.slice (some ⟨wr.heap.size + 1, 0, none⟩) 1 1)
        unfold set2 at dE
        obtain ⟨a0, a1, a2, a3⟩ := dA
        obtain ⟨b0, b1, b2, b3⟩ := dB
        obtain ⟨c0, c1, c2, c3⟩ := dR
        obtain ⟨e0, e1, -, -⟩ := dE
        clear hB2
        go_wp2_with (go_at_call 7; refine (Picked_any turn 6 (by decide) (by decide) _).mono ?_; rintro e w' ⟨rfl, rfl⟩; rw [← HT.out])
        refine bodyPost_ret (v := .agg #[.int .i64 ep, .slice (some ⟨wr.heap.size + 1, 0, none⟩) 1 1]) (by simp [results, Try.results6, go_sem, asAddr, e0, e1]) rfl HZ.out
      · have z1 : ((n : Int) == 0) = false := by simp; omega
        have HZ := put_by (HI.out.post z0)
        have dE := HI.out.res.set2 (.int .i64 ep) (.slice a n c)
        unfold set2 at dE
        obtain ⟨e0, e1, -, -⟩ := dE
        go_wp2
        refine bodyPost_ret (v := .agg #[.int .i64 ep, .slice a n c]) (by simp [results, Try.results6, go_sem, asAddr, e0, e1]) rfl HZ.out

end Go.Proofs.Ytcffikfjbpeggab
