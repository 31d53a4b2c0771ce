/- Deeds out of moves: puts and drops, each of a version that is there. -/
import Derived.Test.YtcegkgobkpakiaaKpMore
import Derived.Deep.CutRange
import Derived.Deep.RegionHeld3
namespace Go.Proofs.Ytcegkgobkpakiaa
open Go.ChangeShapes Go.WideShapes Go.ChangeAt Go.RowKit

/-- the deeds so far, and how many versions there are behind them -/
def DeedsI (w : World) (k vn : Nat) (s : Value) (W : World) : Prop :=
  ∃ ds : List Dd, ds.length = k ∧ vn = (playK [[]] ds).2.length ∧ (∀ d ∈ ds, d.kind = 1 ∨ d.kind = 2) ∧ Rows kDd (fun _ => True) W w.heap.size 45 s ds ∧ Below w.heap.size w W

set_option maxRecDepth 100000 in
set_option maxHeartbeats 16000000 in
theorem Deeds_any (ok : Nat → Prop) (ms : List Mv) (n : Nat) (hn : n ≤ 60) (line : Bool) (la : Option Addr) (lc : Nat) (w : World) (hL : Lies kMv ok w la lc ms) :
    Calls Try.prog 4 #[.slice la ms.length lc, .int .i64 n, .bool line] w fun e w' => ∃ (k vn : Nat) (a : Option Addr) (c : Nat), e = .returned (.tuple #[.slice a k c, .bool true]) ∧ k ≤ n ∧ DeedsI w k vn (.slice a k c) w' := by
  obtain ⟨ln, hln⟩ : ∃ ln, ln = ms.length := ⟨_, rfl⟩
  have HL := put_by hL
  have HLN := put_by hln
  rw [← hln]
  clear hL hln
  go_enter Try.func4, Try.ntmps4
  go_wp2
  go_loopw [8, 9, 10] (fun s vv i wr => ∃ (k vn : Nat) (a : Option Addr) (c : Nat), k ≤ n ∧ k ≤ ln ∧ 1 ≤ vn ∧ vn ≤ k + 1 ∧ i = .int .i64 k ∧ s = .slice a k c ∧ vv = .int .i64 vn ∧ Hid (DeedsI w k vn (.slice a k c) wr)) (fun _ _ i _ => n - (intOf i).toNat)
  case atStart => exact ⟨0, 1, none, 0, Nat.zero_le _, Nat.zero_le _, Nat.le_refl _, Nat.le_refl _, rfl, rfl, rfl, [], rfl, rfl, by simp, Rows.nil _ _ _ _ _, Below.refl _ _⟩
  case round =>
    obtain ⟨k, vn, a, c, hk, hkl, hv1, hvk, rfl, rfl, rfl, HI⟩ := hrel
    by_cases hlt : k < ln ∧ k < n
    · obtain ⟨hlt1, hlt2⟩ := hlt
      have hx : k < ms.length := by rw [← HLN.out]; exact hlt1
      obtain ⟨b4, off, rfl, hb4, _, cs, rfl, hc⟩ := HL.out.at hx
      have hB : Below w.heap.size w wr := by
        obtain ⟨_, _, _, _, _, h⟩ := HI.out
        exact h
      have hcell : ∀ j x, [Value.bool (ms[k]).drop, .int .i64 (ms[k]).back, .int .i64 (ms[k]).key, .int .i64 (ms[k]).val][j]? = some x → wr.cell? ⟨b4, off + k * 4 + j, none⟩ = some x := fun j x hj => (hB.cell (p := ⟨b4, off + k * 4 + j, none⟩) hb4).trans (hc j x hj)
      have d0 := hcell 0 _ rfl
      have d1 := hcell 1 _ rfl
      have d2 := hcell 2 _ rfl
      have d3 := hcell 3 _ rfl
      simp only [Nat.add_zero] at d0
      generalize (ms[k]).drop = dr at *
      generalize (ms[k]).back = bk at *
      generalize (ms[k]).key = ky at *
      generalize (ms[k]).val = vl at *
      have hb4r : b4 < wr.heap.size := World.block_lt_of_cell? _ _ d0
      have ik1 : (k : Int) < (ln : Int) := by omega
      have ik2 : (k : Int) < (n : Int) := by omega
      obtain ⟨bv, hbv⟩ : ∃ bv, bv = IntKind.u8.wrap vl := ⟨_, rfl⟩
      have hb0 : 0 ≤ bv ∧ bv ≤ 255 := by
        rw [hbv, IntKind.wrap_u8]
        omega
      have hw1 : IntKind.u8.wrap vl = bv := hbv.symm
      have HBV := put_by hb0
      have hw0 : IntKind.i64.wrap ((vn : Int) - 1) = (vn : Int) - 1 := by
        rw [IntKind.wrap_i64]
        omega
      clear hbv hb0 hc hcell hB
      have cK : Hid (∀ W : World, Calls Try.prog 11 #[.int .i64 ky] W fun e w' => e = .returned (.slice (some ⟨W.heap.size, 0, none⟩) 2 2) ∧ Hid (Octs w' (some ⟨W.heap.size, 0, none⟩) 2 (keyK ky) ∧ W.heap.size < w'.heap.size ∧ Below W.heap.size W w')) := fun W => keyOf_any ky W
      go_upto_region 6 with (fail)
      have n1 := World.new_ne wr ⟨b4, off + k * 4 + 2, none⟩ d2
      go_cut [11] from 25 to 40 (fun p wx => ∃ (B kb vb : Nat), p = .pointer (some ⟨B, 0, none⟩) ∧ Hid (DdV wr B ⟨1, (vn : Int) - 1, keyK ky, [bv], 0⟩ (.slice (some ⟨kb, 0, none⟩) 2 2) (.slice (some ⟨vb, 0, none⟩) 1 1) wx))
      case first =>
        have HSV : Hid (∀ W, Below wr.heap.size wr W → W.cell? ⟨b4, off + k * 4 + 2, none⟩ = some (.int .i64 ky) ∧ W.cell? ⟨b4, off + k * 4 + 3, none⟩ = some (.int .i64 vl)) := fun W hW => ⟨(hW.cell (p := ⟨b4, off + k * 4 + 2, none⟩) hb4r).trans d2, (hW.cell (p := ⟨b4, off + k * 4 + 3, none⟩) hb4r).trans d3⟩
        have M0 := put_by (Mk.start wr ky bv)
        have hS := HSV.out _ M0.out.below
        refine region_plain (fun V => V.cell? ⟨b4, off + k * 4 + 2, none⟩ = some (.int .i64 ky) ∧ V.cell? ⟨b4, off + k * 4 + 3, none⟩ = some (.int .i64 vl)) 17 (by kernel_rfl) ?_
        generalize wr.drew = Wd at M0 hS ⊢
        refine V_takeX [17] (k := 0) (v := .int .i64 vn) rfl (by kernel_rfl) (by kernel_rfl) (by kernel_rfl) (by kernel_rfl) (by kernel_rfl) (by kernel_rfl) (fun _ _ _ h => h) (Or.inl ⟨by rfl, fun V hV => ?_⟩) hS ?_
        · obtain ⟨z0, z1⟩ := hV; go_simp
        simp only [Act.put, List.setIfInBounds_toArray]
        refine V_takeX [17] (k := 1) (v := .int .i64 ((vn : Int) - 1)) rfl (by kernel_rfl) (by kernel_rfl) (by kernel_rfl) (by kernel_rfl) (by kernel_rfl) (by kernel_rfl) (fun _ _ _ h => h) (Or.inl ⟨by rfl, fun V hV => ?_⟩) hS ?_
        · obtain ⟨z0, z1⟩ := hV; go_simp
        simp only [Act.put]
        refine V_takeX [17] (k := 2) (v := .slice (some ⟨b4, off, none⟩) ln lc) rfl (by kernel_rfl) (by kernel_rfl) (by kernel_rfl) (by kernel_rfl) (by kernel_rfl) (by kernel_rfl) (fun _ _ _ h => h) (Or.inl ⟨by rfl, fun V hV => ?_⟩) hS ?_
        · obtain ⟨z0, z1⟩ := hV; go_simp
        simp only [Act.put]
        refine V_takeX [17] (k := 3) (v := .int .i64 k) rfl (by kernel_rfl) (by kernel_rfl) (by kernel_rfl) (by kernel_rfl) (by kernel_rfl) (by kernel_rfl) (fun _ _ _ h => h) (Or.inl ⟨by rfl, fun V hV => ?_⟩) hS ?_
        · obtain ⟨z0, z1⟩ := hV; go_simp
        simp only [Act.put]
        refine V_takeX [17] (k := 4) (v := .pointer (some ⟨b4, off + k * 4, none⟩)) rfl (by kernel_rfl) (by kernel_rfl) (by kernel_rfl) (by kernel_rfl) (by kernel_rfl) (by kernel_rfl) (fun _ _ _ h => h) (Or.inl ⟨by rfl, fun V hV => ?_⟩) hS ?_
        · obtain ⟨z0, z1⟩ := hV; go_simp
        simp only [Act.put]
        refine V_takeX [17] (k := 5) (v := .pointer (some ⟨b4, off + k * 4 + 2, none⟩)) rfl (by kernel_rfl) (by kernel_rfl) (by kernel_rfl) (by kernel_rfl) (by kernel_rfl) (by kernel_rfl) (fun _ _ _ h => h) (Or.inl ⟨by rfl, fun V hV => ?_⟩) hS ?_
        · obtain ⟨z0, z1⟩ := hV; go_simp
        simp only [Act.put]
        refine V_takeX [17] (k := 6) (v := .int .i64 ky) rfl (by kernel_rfl) (by kernel_rfl) (by kernel_rfl) (by kernel_rfl) (by kernel_rfl) (by kernel_rfl) (fun _ _ _ h => h) (Or.inl ⟨by rfl, fun V hV => ?_⟩) hS ?_
        · obtain ⟨z0, z1⟩ := hV; go_simp
        simp only [Act.put]
        refine V_takeX [17] (k := 8) (v := .slice (some ⟨b4, off, none⟩) ln lc) rfl (by kernel_rfl) (by kernel_rfl) (by kernel_rfl) (by kernel_rfl) (by kernel_rfl) (by kernel_rfl) (fun _ _ _ h => h) (Or.inl ⟨by rfl, fun V hV => ?_⟩) hS ?_
        · obtain ⟨z0, z1⟩ := hV; go_simp
        simp only [Act.put]
        refine V_takeX [17] (k := 9) (v := .int .i64 k) rfl (by kernel_rfl) (by kernel_rfl) (by kernel_rfl) (by kernel_rfl) (by kernel_rfl) (by kernel_rfl) (fun _ _ _ h => h) (Or.inl ⟨by rfl, fun V hV => ?_⟩) hS ?_
        · obtain ⟨z0, z1⟩ := hV; go_simp
        simp only [Act.put]
        refine V_takeX [17] (k := 10) (v := .pointer (some ⟨b4, off + k * 4, none⟩)) rfl (by kernel_rfl) (by kernel_rfl) (by kernel_rfl) (by kernel_rfl) (by kernel_rfl) (by kernel_rfl) (fun _ _ _ h => h) (Or.inl ⟨by rfl, fun V hV => ?_⟩) hS ?_
        · obtain ⟨z0, z1⟩ := hV; go_simp
        simp only [Act.put]
        refine V_takeX [17] (k := 11) (v := .pointer (some ⟨b4, off + k * 4 + 3, none⟩)) rfl (by kernel_rfl) (by kernel_rfl) (by kernel_rfl) (by kernel_rfl) (by kernel_rfl) (by kernel_rfl) (fun _ _ _ h => h) (Or.inl ⟨by rfl, fun V hV => ?_⟩) hS ?_
        · obtain ⟨z0, z1⟩ := hV; go_simp
        simp only [Act.put]
        refine V_takeX [17] (k := 12) (v := .int .i64 vl) rfl (by kernel_rfl) (by kernel_rfl) (by kernel_rfl) (by kernel_rfl) (by kernel_rfl) (by kernel_rfl) (fun _ _ _ h => h) (Or.inl ⟨by rfl, fun V hV => ?_⟩) hS ?_
        · obtain ⟨z0, z1⟩ := hV; go_simp
        simp only [Act.put]
        refine V_takeX [17] (k := 13) (v := .int .u8 bv) rfl (by kernel_rfl) (by kernel_rfl) (by kernel_rfl) (by kernel_rfl) (by kernel_rfl) (by kernel_rfl) (fun _ _ _ h => h) (Or.inl ⟨by rfl, fun V hV => ?_⟩) hS ?_
        · obtain ⟨z0, z1⟩ := hV; go_simp
        simp only [Act.put]
        refine U_three (i := 7) (j := 14) (k := 16) (by kernel_rfl) rfl rfl rfl rfl rfl rfl (fun K hK => ?_) (fun K hK => ?_) (fun K hK => ?_)
        · go_simp
          refine (cK.out _).mono ?_
          rintro e wK0 ⟨rfl, HK0⟩
          have MK0 := put_by (M0.out.keyed HK0.out.1 HK0.out.2.1 HK0.out.2.2)
          refine hK _ _ (fun _ => HSV.out _ MK0.out.below) ?_
          clear hK K HK0
          refine U_two (i := 14) (j := 16) (by kernel_rfl) rfl rfl rfl rfl (fun K hK => ?_) (fun K hK => ?_)
          · go_simp
            have MV1 := put_by (MK0.out.valued HBV.out)
            refine hK _ _ (fun _ => HSV.out _ MV1.out.below) ?_
            clear hK K
            generalize World.alloc _ _ = wV1 at MV1 ⊢
            have hS2 := HSV.out _ MV1.out.below
            refine V_takeX [17] (k := 15) (v := .agg #[.int .i64 1, .int .i64 ((vn : Int) - 1), .slice (some ⟨Wd.heap.size, 0, none⟩) 2 2, .slice (some ⟨wK0.heap.size, 0, none⟩) 1 1, .int .i64 0]) rfl (by kernel_rfl) (by kernel_rfl) (by kernel_rfl) (by kernel_rfl) (by kernel_rfl) (by kernel_rfl) (fun _ _ _ h => h) (Or.inl ⟨by rfl, fun V hV => ?_⟩) hS2 ?_
            · obtain ⟨z0, z1⟩ := hV; go_simp
            simp only [Act.put]
            clear hS2
            refine U_one (i := 16) (by kernel_rfl) rfl rfl rfl (fun K hK => ?_)
            go_simp
            have MB2 := put_by (MV1.out.var)
            refine hK _ _ (fun _ => HSV.out _ MB2.out.below) ?_
            clear hK K
            generalize World.alloc _ _ = wB2 at MB2 ⊢
            obtain ⟨g0, g1, g2, g3, g4, f0, f1, f2, f3, f4⟩ := (MB2.out.five _ rfl).1
            refine U_one (i := 17) (by kernel_rfl) rfl rfl rfl (fun K hK => ?_)
            go_simp
            refine hK _ _ (fun hh => by cases (show true = false from hh)) ?_
            clear hK K
            refine U_done (by kernel_rfl) ?_ _
            have D9 := put_by (MB2.out.deed 1 ((vn : Int) - 1) 0)
            generalize World.setCell _ _ _ = W9 at D9 ⊢
            go_wp2
            go_meet
            exact ⟨_, _, _, rfl, D9.out⟩
          · go_simp
            have MB1 := put_by (MK0.out.var)
            refine hK _ _ (fun _ => HSV.out _ MB1.out.below) ?_
            clear hK K
            generalize World.alloc _ _ = wB1 at MB1 ⊢
            refine U_one (i := 14) (by kernel_rfl) rfl rfl rfl (fun K hK => ?_)
            go_simp
            have MV2 := put_by (MB1.out.valued HBV.out)
            refine hK _ _ (fun _ => HSV.out _ MV2.out.below) ?_
            clear hK K
            generalize World.alloc _ _ = wV2 at MV2 ⊢
            obtain ⟨g0, g1, g2, g3, g4, f0, f1, f2, f3, f4⟩ := (MV2.out.five _ rfl).1
            refine U_one (i := 15) (by kernel_rfl) rfl rfl rfl (fun K hK => ?_)
            go_simp
            refine hK _ _ (fun _ => HSV.out _ MV2.out.below) ?_
            clear hK K
            refine U_one (i := 17) (by kernel_rfl) rfl rfl rfl (fun K hK => ?_)
            go_simp
            refine hK _ _ (fun hh => by cases (show true = false from hh)) ?_
            clear hK K
            refine U_done (by kernel_rfl) ?_ _
            have D9 := put_by (MV2.out.deed 1 ((vn : Int) - 1) 0)
            generalize World.setCell _ _ _ = W9 at D9 ⊢
            go_wp2
            go_meet
            exact ⟨_, _, _, rfl, D9.out⟩
        · go_simp
          have MV0 := put_by (M0.out.valued HBV.out)
          refine hK _ _ (fun _ => HSV.out _ MV0.out.below) ?_
          clear hK K
          generalize World.alloc _ _ = wV0 at MV0 ⊢
          refine U_two (i := 7) (j := 16) (by kernel_rfl) rfl rfl rfl rfl (fun K hK => ?_) (fun K hK => ?_)
          · go_simp
            refine (cK.out _).mono ?_
            rintro e wK1 ⟨rfl, HK1⟩
            have MK1 := put_by (MV0.out.keyed HK1.out.1 HK1.out.2.1 HK1.out.2.2)
            refine hK _ _ (fun _ => HSV.out _ MK1.out.below) ?_
            clear hK K HK1
            have hS2 := HSV.out _ MK1.out.below
            refine V_takeX [17] (k := 15) (v := .agg #[.int .i64 1, .int .i64 ((vn : Int) - 1), .slice (some ⟨wV0.heap.size, 0, none⟩) 2 2, .slice (some ⟨Wd.heap.size, 0, none⟩) 1 1, .int .i64 0]) rfl (by kernel_rfl) (by kernel_rfl) (by kernel_rfl) (by kernel_rfl) (by kernel_rfl) (by kernel_rfl) (fun _ _ _ h => h) (Or.inl ⟨by rfl, fun V hV => ?_⟩) hS2 ?_
            · obtain ⟨z0, z1⟩ := hV; go_simp
            simp only [Act.put]
            clear hS2
            refine U_one (i := 16) (by kernel_rfl) rfl rfl rfl (fun K hK => ?_)
            go_simp
            have MB2 := put_by (MK1.out.var)
            refine hK _ _ (fun _ => HSV.out _ MB2.out.below) ?_
            clear hK K
            generalize World.alloc _ _ = wB2 at MB2 ⊢
            obtain ⟨g0, g1, g2, g3, g4, f0, f1, f2, f3, f4⟩ := (MB2.out.five _ rfl).1
            refine U_one (i := 17) (by kernel_rfl) rfl rfl rfl (fun K hK => ?_)
            go_simp
            refine hK _ _ (fun hh => by cases (show true = false from hh)) ?_
            clear hK K
            refine U_done (by kernel_rfl) ?_ _
            have D9 := put_by (MB2.out.deed 1 ((vn : Int) - 1) 0)
            generalize World.setCell _ _ _ = W9 at D9 ⊢
            go_wp2
            go_meet
            exact ⟨_, _, _, rfl, D9.out⟩
          · go_simp
            have MB1 := put_by (MV0.out.var)
            refine hK _ _ (fun _ => HSV.out _ MB1.out.below) ?_
            clear hK K
            generalize World.alloc _ _ = wB1 at MB1 ⊢
            refine U_one (i := 7) (by kernel_rfl) rfl rfl rfl (fun K hK => ?_)
            go_simp
            refine (cK.out _).mono ?_
            rintro e wK2 ⟨rfl, HK2⟩
            have MK2 := put_by (MB1.out.keyed HK2.out.1 HK2.out.2.1 HK2.out.2.2)
            refine hK _ _ (fun _ => HSV.out _ MK2.out.below) ?_
            clear hK K HK2
            obtain ⟨g0, g1, g2, g3, g4, f0, f1, f2, f3, f4⟩ := (MK2.out.five _ rfl).1
            refine U_one (i := 15) (by kernel_rfl) rfl rfl rfl (fun K hK => ?_)
            go_simp
            refine hK _ _ (fun _ => HSV.out _ MK2.out.below) ?_
            clear hK K
            refine U_one (i := 17) (by kernel_rfl) rfl rfl rfl (fun K hK => ?_)
            go_simp
            refine hK _ _ (fun hh => by cases (show true = false from hh)) ?_
            clear hK K
            refine U_done (by kernel_rfl) ?_ _
            have D9 := put_by (MK2.out.deed 1 ((vn : Int) - 1) 0)
            generalize World.setCell _ _ _ = W9 at D9 ⊢
            go_wp2
            go_meet
            exact ⟨_, _, _, rfl, D9.out⟩
        · go_simp
          have MB0 := put_by (M0.out.var)
          refine hK _ _ (fun _ => HSV.out _ MB0.out.below) ?_
          clear hK K
          generalize World.alloc _ _ = wB0 at MB0 ⊢
          refine U_two (i := 7) (j := 14) (by kernel_rfl) rfl rfl rfl rfl (fun K hK => ?_) (fun K hK => ?_)
          · go_simp
            refine (cK.out _).mono ?_
            rintro e wK1 ⟨rfl, HK1⟩
            have MK1 := put_by (MB0.out.keyed HK1.out.1 HK1.out.2.1 HK1.out.2.2)
            refine hK _ _ (fun _ => HSV.out _ MK1.out.below) ?_
            clear hK K HK1
            refine U_one (i := 14) (by kernel_rfl) rfl rfl rfl (fun K hK => ?_)
            go_simp
            have MV2 := put_by (MK1.out.valued HBV.out)
            refine hK _ _ (fun _ => HSV.out _ MV2.out.below) ?_
            clear hK K
            generalize World.alloc _ _ = wV2 at MV2 ⊢
            obtain ⟨g0, g1, g2, g3, g4, f0, f1, f2, f3, f4⟩ := (MV2.out.five _ rfl).1
            refine U_one (i := 15) (by kernel_rfl) rfl rfl rfl (fun K hK => ?_)
            go_simp
            refine hK _ _ (fun _ => HSV.out _ MV2.out.below) ?_
            clear hK K
            refine U_one (i := 17) (by kernel_rfl) rfl rfl rfl (fun K hK => ?_)
            go_simp
            refine hK _ _ (fun hh => by cases (show true = false from hh)) ?_
            clear hK K
            refine U_done (by kernel_rfl) ?_ _
            have D9 := put_by (MV2.out.deed 1 ((vn : Int) - 1) 0)
            generalize World.setCell _ _ _ = W9 at D9 ⊢
            go_wp2
            go_meet
            exact ⟨_, _, _, rfl, D9.out⟩
          · go_simp
            have MV1 := put_by (MB0.out.valued HBV.out)
            refine hK _ _ (fun _ => HSV.out _ MV1.out.below) ?_
            clear hK K
            generalize World.alloc _ _ = wV1 at MV1 ⊢
            refine U_one (i := 7) (by kernel_rfl) rfl rfl rfl (fun K hK => ?_)
            go_simp
            refine (cK.out _).mono ?_
            rintro e wK2 ⟨rfl, HK2⟩
            have MK2 := put_by (MV1.out.keyed HK2.out.1 HK2.out.2.1 HK2.out.2.2)
            refine hK _ _ (fun _ => HSV.out _ MK2.out.below) ?_
            clear hK K HK2
            obtain ⟨g0, g1, g2, g3, g4, f0, f1, f2, f3, f4⟩ := (MK2.out.five _ rfl).1
            refine U_one (i := 15) (by kernel_rfl) rfl rfl rfl (fun K hK => ?_)
            go_simp
            refine hK _ _ (fun _ => HSV.out _ MK2.out.below) ?_
            clear hK K
            refine U_one (i := 17) (by kernel_rfl) rfl rfl rfl (fun K hK => ?_)
            go_simp
            refine hK _ _ (fun hh => by cases (show true = false from hh)) ?_
            clear hK K
            refine U_done (by kernel_rfl) ?_ _
            have D9 := put_by (MK2.out.deed 1 ((vn : Int) - 1) 0)
            generalize World.setCell _ _ _ = W9 at D9 ⊢
            go_wp2
            go_meet
            exact ⟨_, _, _, rfl, D9.out⟩
      case rest =>
        obtain ⟨B, kb, vb, rfl, HD⟩ := hcut
        obtain ⟨ds, hdk, hvs, hpd, hRows, hBel⟩ := HI.out
        have HDS := put_by (And.intro hdk (And.intro hvs (And.intro hpd (And.intro hRows hBel))))
        have hlo := HD.out.below
        have hBn := HD.out.new
        have x0 := (hlo.cell (p := ⟨b4, off + k * 4, none⟩) hb4r).trans d0
        have x1 := (hlo.cell (p := ⟨b4, off + k * 4 + 1, none⟩) hb4r).trans d1
        obtain ⟨g0, g1, g2, g3, g4, f0, f1, f2, f3, f4⟩ := id HD.out.five
        obtain ⟨rv, hrv⟩ : ∃ rv, rv = ((vn : Int) - 1 - bk % 4) % vn := ⟨_, rfl⟩
        have hr0 : 0 ≤ rv ∧ rv < vn := by
          rw [hrv]
          exact ⟨Int.emod_nonneg _ (by omega), Int.emod_lt_of_pos _ (by omega)⟩
        have hw2 : IntKind.i64.wrap ((vn : Int) - 1 - bk % 4) = (vn : Int) - 1 - bk % 4 := by
          rw [IntKind.wrap_i64]
          omega
        have cP1 : Hid (∀ W, Calls Try.prog 5 #[.int .i64 bk, .int .i64 4] W fun e w' => e = .returned (.int .i64 (bk % 4)) ∧ W = w') := fun W => Picked_any bk 4 (by omega) (by omega) W
        have cP2 : Hid (∀ W, Calls Try.prog 5 #[.int .i64 ((vn : Int) - 1 - bk % 4), .int .i64 vn] W fun e w' => e = .returned (.int .i64 rv) ∧ W = w') := fun W => by
          rw [hrv]
          exact Picked_any _ vn (by omega) (by omega) W
        have HRV := put_by hr0
        have hBb : B ≠ b4 := by omega
        have hb2 : 0 ≤ bk % 4 ∧ bk % 4 < 4 := by omega
        generalize bk % 4 = b4m at *
        clear hrv hdk hvs hpd hRows hBel hr0 hlo n1
        have HI' := HI
        clear HI
        have xs0 : (wc.setCell ⟨B, 1, none⟩ (.int .i64 rv)).cell? ⟨b4, off + k * 4, none⟩ = some (.bool dr) := (World.cell?_setCell_far _ _ _ _ (by exact hBb)).trans x0
        have hww : IntKind.i64.wrap ((vn : Int) + 1) = (vn : Int) + 1 := by
          rw [IntKind.wrap_i64]
          omega
        cases line <;> cases dr
        · have HZ : Hid (DdV wr B ⟨1, rv, keyK ky, [bv], 0⟩ (.slice (some ⟨kb, 0, none⟩) 2 2) (.slice (some ⟨vb, 0, none⟩) 1 1) (wc.setCell ⟨B, 1, none⟩ (.int .i64 rv))) := HD.out.ver rv
          go_upto_region 12 with (first
            | (go_at_call 5; (with_reducible refine (cP1.out _).mono ?_); clear cP1; rintro e w2 ⟨rfl, rfl⟩)
            | (go_at_call 5; (with_reducible refine (cP2.out _).mono ?_); clear cP2; rintro e w2 ⟨rfl, rfl⟩))
          clear x0 x1 xs0 g0 g1 g2 g3 g4 f0 f1 f2 f3 f4 HD d0 d1 d2 d3
          generalize (wc.setCell ⟨B, 1, none⟩ (.int .i64 rv)) = W2 at HZ ⊢
          obtain ⟨e0, e1, e2, e3, e4, -, -, -, -, -⟩ := id HZ.out.five
          have HRW : Hid (Rows kDd (fun _ => True) W2 w.heap.size 45 (.slice a k c) ds ∧ Below w.heap.size w W2) := ⟨HDS.out.2.2.2.1.later HZ.out.below, HDS.out.2.2.2.2.trans (HZ.out.below.mono HDS.out.2.2.2.2.size)⟩
          have HRE : Hid (kDd.rel (fun b => True ∧ (Value.slice a k c).ownBlock ≠ some b) W2 ⟨1, rv, keyK ky, [bv], 0⟩ [.int .i64 1, .int .i64 rv, .slice (some ⟨kb, 0, none⟩) 2 2, .slice (some ⟨vb, 0, none⟩) 1 1, .int .i64 0]) := kDd.move (Kept.of_below (Below.refl _ _)) (fun b _ ho => ⟨trivial, fun e => by have := (rows_lt HDS.out.2.2.2.1 b e).2; have := ho.1; omega⟩) HZ.out.rel
          go_wp2_with (first
            | (at_builtin; refine wpList_append_one (K := kDd) (ok := fun _ => True) eltD rfl (.tmp 62) (.tmp 64) rfl w.heap.size (.slice a k c) ds rfl HRW.out.1 ⟨1, rv, keyK ky, [bv], 0⟩ [.int .i64 1, .int .i64 rv, .slice (some ⟨kb, 0, none⟩) 2 2, .slice (some ⟨vb, 0, none⟩) 1 1, .int .i64 0] _ _ rfl rfl HRE.out (fun _ _ => trivial) (by rw [HDS.out.1]; omega) (by decide) HRW.out.2.size ?_; intro v2 w3 hR3 hg3 hat3; refine hidGoal ?_))
          have hBW : B < W2.heap.size := HZ.out.five.lt
          have hown : ∀ g, (Value.slice a k c).ownBlock = some g → g < wr.heap.size := fun g e => (rows_lt HDS.out.2.2.2.1 g e).2
          have k0 : w3.cell? ⟨B, 0, none⟩ = some (.int .i64 1) := (World.cell?_of_block (w := W2) (hg3.block B hBW (fun e => by have := hown B e.symm; omega))).trans e0
          have hB3 : Below w.heap.size w w3 := below_grown HRW.out.2 HRW.out.2.size hg3 (fun r e => (rows_lt HRW.out.1 r e).1)
          obtain ⟨a6, c6, e6, hP⟩ := play_last ds ⟨1, rv, keyK ky, [bv], 0⟩ k HDS.out.1 (by omega) _ w3 v2 hR3
          subst e6
          have HR3 := put_by (And.intro hR3 hB3)
          have hBs : B < w3.heap.size := World.block_lt_of_cell? _ _ k0
          have hlen : (ds ++ [(⟨1, rv, keyK ky, [bv], 0⟩ : Dd)]).length = k + 1 := by rw [List.length_append, HDS.out.1]; rfl
          have HLEN := put_by hlen
          clear hR3 hg3 hat3 hown hB3 e0 e1 e2 e3 e4 HRE HRW HZ hBW hlen HI'
          have hst := step_put (vs := (playK [[]] ds).2) (v := rv) (by have := HRV.out; omega) (by have := HRV.out; have := HDS.out.2.1; omega) (key := keyK ky) (val := [bv]) (by simp [keyK]) (by simp [keyK]) (by simp) 0
          rw [← HDS.out.2.1] at hst
          rw [hst] at hP
          have HST := put_by hst
          have HP := put_by hP
          clear hP hst
          unfold Hid
          go_wp2_with (first
            | (go_at_call 12; refine HP.out.mono ?_; clear HP; rintro e w4 ⟨b5, o5, c5, rfl, y0, y1, H4⟩; have k1 := (H4.out.cell (p := ⟨B, 0, none⟩) hBs).trans k0))
          have HNX : Hid (DeedsI w (k + 1) (vn + 1) (.slice a6 (k + 1) c6) w4) := ⟨ds ++ [⟨1, rv, keyK ky, [bv], 0⟩], HLEN.out, by rw [playK_snoc, HST.out]; rw [List.length_append, ← HDS.out.2.1]; rfl, fun d hd => by
              rcases List.mem_append.1 hd with hd | hd
              · exact HDS.out.2.2.1 d hd
              · rw [List.mem_singleton.1 hd]; exact .inl rfl, HR3.out.1.later H4.out, HR3.out.2.trans (H4.out.mono HR3.out.2.size)⟩
          go_roundw
          case rel => exact ⟨k + 1, vn + 1, a6, c6, by omega, by omega, by omega, by omega, by go_num, rfl, by go_num, HNX.out⟩
          case measure => simp [intOf]; omega
        · have q0 := HD.out.ver rv
          obtain ⟨u0, u1, u2, u3, u4, o0, o1, o2, o3, o4⟩ := id q0.five
          have q1 := q0.kind 2
          obtain ⟨z0, z1, z2, z3, z4, i0, i1, i2, i3, i4⟩ := id q1.five
          have HZ : Hid (DdV wr B ⟨2, rv, keyK ky, [], 0⟩ (.slice (some ⟨kb, 0, none⟩) 2 2) (.slice none 0 0) (((wc.setCell ⟨B, 1, none⟩ (.int .i64 rv)).setCell ⟨B, 0, none⟩ (.int .i64 2)).setCell ⟨B, 3, none⟩ (.slice none 0 0))) := ((HD.out.ver rv).kind 2).bare
          go_upto_region 12 with (first
            | (go_at_call 5; (with_reducible refine (cP1.out _).mono ?_); clear cP1; rintro e w2 ⟨rfl, rfl⟩)
            | (go_at_call 5; (with_reducible refine (cP2.out _).mono ?_); clear cP2; rintro e w2 ⟨rfl, rfl⟩))
          clear x0 x1 xs0 g0 g1 g2 g3 g4 f0 f1 f2 f3 f4 HD d0 d1 d2 d3 q0 u0 u1 u2 u3 u4 o0 o1 o2 o3 o4 q1 z0 z1 z2 z3 z4 i0 i1 i2 i3 i4
          generalize (((wc.setCell ⟨B, 1, none⟩ (.int .i64 rv)).setCell ⟨B, 0, none⟩ (.int .i64 2)).setCell ⟨B, 3, none⟩ (.slice none 0 0)) = W2 at HZ ⊢
          obtain ⟨e0, e1, e2, e3, e4, -, -, -, -, -⟩ := id HZ.out.five
          have HRW : Hid (Rows kDd (fun _ => True) W2 w.heap.size 45 (.slice a k c) ds ∧ Below w.heap.size w W2) := ⟨HDS.out.2.2.2.1.later HZ.out.below, HDS.out.2.2.2.2.trans (HZ.out.below.mono HDS.out.2.2.2.2.size)⟩
          have HRE : Hid (kDd.rel (fun b => True ∧ (Value.slice a k c).ownBlock ≠ some b) W2 ⟨2, rv, keyK ky, [], 0⟩ [.int .i64 2, .int .i64 rv, .slice (some ⟨kb, 0, none⟩) 2 2, .slice none 0 0, .int .i64 0]) := kDd.move (Kept.of_below (Below.refl _ _)) (fun b _ ho => ⟨trivial, fun e => by have := (rows_lt HDS.out.2.2.2.1 b e).2; have := ho.1; omega⟩) HZ.out.rel
          go_wp2_with (first
            | (at_builtin; refine wpList_append_one (K := kDd) (ok := fun _ => True) eltD rfl (.tmp 62) (.tmp 64) rfl w.heap.size (.slice a k c) ds rfl HRW.out.1 ⟨2, rv, keyK ky, [], 0⟩ [.int .i64 2, .int .i64 rv, .slice (some ⟨kb, 0, none⟩) 2 2, .slice none 0 0, .int .i64 0] _ _ rfl rfl HRE.out (fun _ _ => trivial) (by rw [HDS.out.1]; omega) (by decide) HRW.out.2.size ?_; intro v2 w3 hR3 hg3 hat3; refine hidGoal ?_))
          have hBW : B < W2.heap.size := HZ.out.five.lt
          have hown : ∀ g, (Value.slice a k c).ownBlock = some g → g < wr.heap.size := fun g e => (rows_lt HDS.out.2.2.2.1 g e).2
          have k0 : w3.cell? ⟨B, 0, none⟩ = some (.int .i64 2) := (World.cell?_of_block (w := W2) (hg3.block B hBW (fun e => by have := hown B e.symm; omega))).trans e0
          have hB3 : Below w.heap.size w w3 := below_grown HRW.out.2 HRW.out.2.size hg3 (fun r e => (rows_lt HRW.out.1 r e).1)
          obtain ⟨a6, c6, e6, hP⟩ := play_last ds ⟨2, rv, keyK ky, [], 0⟩ k HDS.out.1 (by omega) _ w3 v2 hR3
          subst e6
          have HR3 := put_by (And.intro hR3 hB3)
          have hBs : B < w3.heap.size := World.block_lt_of_cell? _ _ k0
          have hlen : (ds ++ [(⟨2, rv, keyK ky, [], 0⟩ : Dd)]).length = k + 1 := by rw [List.length_append, HDS.out.1]; rfl
          have HLEN := put_by hlen
          clear hR3 hg3 hat3 hown hB3 e0 e1 e2 e3 e4 HRE HRW HZ hBW hlen HI'
          have hsd := step_drop (vs := (playK [[]] ds).2) (v := rv) (by have := HRV.out; omega) (by have := HRV.out; have := HDS.out.2.1; omega) (keyK ky) [] 0
          rw [← HDS.out.2.1] at hsd
          by_cases hh : hasK ((playK [[]] ds).2.getD (rv).toNat []) (keyK ky) = true
          · rw [if_pos hh] at hsd
            have hst := hsd
            rw [hst] at hP
            clear hh hsd
            have HST := put_by hst
            have HP := put_by hP
            clear hP hst
            unfold Hid
            go_wp2_with (first
              | (go_at_call 12; refine HP.out.mono ?_; clear HP; rintro e w4 ⟨b5, o5, c5, rfl, y0, y1, H4⟩; have k1 := (H4.out.cell (p := ⟨B, 0, none⟩) hBs).trans k0))
            have HNX : Hid (DeedsI w (k + 1) (vn + 1) (.slice a6 (k + 1) c6) w4) := ⟨ds ++ [⟨2, rv, keyK ky, [], 0⟩], HLEN.out, by rw [playK_snoc, HST.out]; rw [List.length_append, ← HDS.out.2.1]; rfl, fun d hd => by
                rcases List.mem_append.1 hd with hd | hd
                · exact HDS.out.2.2.1 d hd
                · rw [List.mem_singleton.1 hd]; exact .inr rfl, HR3.out.1.later H4.out, HR3.out.2.trans (H4.out.mono HR3.out.2.size)⟩
            go_roundw
            case rel => exact ⟨k + 1, vn + 1, a6, c6, by omega, by omega, by omega, by omega, by go_num, rfl, by go_num, HNX.out⟩
            case measure => simp [intOf]; omega
          · rw [if_neg hh] at hsd
            have hst := hsd
            rw [hst] at hP
            clear hh hsd
            have HST := put_by hst
            have HP := put_by hP
            clear hP hst
            unfold Hid
            go_wp2_with (first
              | (go_at_call 12; refine HP.out.mono ?_; clear HP; rintro e w4 ⟨b5, o5, c5, rfl, y0, y1, H4⟩; have k1 := (H4.out.cell (p := ⟨B, 0, none⟩) hBs).trans k0))
            have HNX : Hid (DeedsI w (k + 1) (vn) (.slice a6 (k + 1) c6) w4) := ⟨ds ++ [⟨2, rv, keyK ky, [], 0⟩], HLEN.out, by rw [playK_snoc, HST.out]; exact HDS.out.2.1, fun d hd => by
                rcases List.mem_append.1 hd with hd | hd
                · exact HDS.out.2.2.1 d hd
                · rw [List.mem_singleton.1 hd]; exact .inr rfl, HR3.out.1.later H4.out, HR3.out.2.trans (H4.out.mono HR3.out.2.size)⟩
            go_roundw
            case rel => exact ⟨k + 1, vn, a6, c6, by omega, by omega, by omega, by omega, by go_num, rfl, rfl, HNX.out⟩
            case measure => simp [intOf]; omega
        · have HZ : Hid (DdV wr B ⟨1, ((vn : Int) - 1), keyK ky, [bv], 0⟩ (.slice (some ⟨kb, 0, none⟩) 2 2) (.slice (some ⟨vb, 0, none⟩) 1 1) wc) := HD.out
          go_upto_region 12 with (fail)
          clear x0 x1 xs0 g0 g1 g2 g3 g4 f0 f1 f2 f3 f4 HD d0 d1 d2 d3 cP1 cP2
          have ⟨W2, hW2⟩ : ∃ W2, W2 = wc := ⟨_, rfl⟩
          rw [← hW2] at HZ ⊢
          clear hW2
          obtain ⟨e0, e1, e2, e3, e4, -, -, -, -, -⟩ := id HZ.out.five
          have HRW : Hid (Rows kDd (fun _ => True) W2 w.heap.size 45 (.slice a k c) ds ∧ Below w.heap.size w W2) := ⟨HDS.out.2.2.2.1.later HZ.out.below, HDS.out.2.2.2.2.trans (HZ.out.below.mono HDS.out.2.2.2.2.size)⟩
          have HRE : Hid (kDd.rel (fun b => True ∧ (Value.slice a k c).ownBlock ≠ some b) W2 ⟨1, ((vn : Int) - 1), keyK ky, [bv], 0⟩ [.int .i64 1, .int .i64 ((vn : Int) - 1), .slice (some ⟨kb, 0, none⟩) 2 2, .slice (some ⟨vb, 0, none⟩) 1 1, .int .i64 0]) := kDd.move (Kept.of_below (Below.refl _ _)) (fun b _ ho => ⟨trivial, fun e => by have := (rows_lt HDS.out.2.2.2.1 b e).2; have := ho.1; omega⟩) HZ.out.rel
          go_wp2_with (first
            | (at_builtin; refine wpList_append_one (K := kDd) (ok := fun _ => True) eltD rfl (.tmp 62) (.tmp 64) rfl w.heap.size (.slice a k c) ds rfl HRW.out.1 ⟨1, ((vn : Int) - 1), keyK ky, [bv], 0⟩ [.int .i64 1, .int .i64 ((vn : Int) - 1), .slice (some ⟨kb, 0, none⟩) 2 2, .slice (some ⟨vb, 0, none⟩) 1 1, .int .i64 0] _ _ rfl rfl HRE.out (fun _ _ => trivial) (by rw [HDS.out.1]; omega) (by decide) HRW.out.2.size ?_; intro v2 w3 hR3 hg3 hat3; refine hidGoal ?_))
          have hBW : B < W2.heap.size := HZ.out.five.lt
          have hown : ∀ g, (Value.slice a k c).ownBlock = some g → g < wr.heap.size := fun g e => (rows_lt HDS.out.2.2.2.1 g e).2
          have k0 : w3.cell? ⟨B, 0, none⟩ = some (.int .i64 1) := (World.cell?_of_block (w := W2) (hg3.block B hBW (fun e => by have := hown B e.symm; omega))).trans e0
          have hB3 : Below w.heap.size w w3 := below_grown HRW.out.2 HRW.out.2.size hg3 (fun r e => (rows_lt HRW.out.1 r e).1)
          obtain ⟨a6, c6, e6, hP⟩ := play_last ds ⟨1, ((vn : Int) - 1), keyK ky, [bv], 0⟩ k HDS.out.1 (by omega) _ w3 v2 hR3
          subst e6
          have HR3 := put_by (And.intro hR3 hB3)
          have hBs : B < w3.heap.size := World.block_lt_of_cell? _ _ k0
          have hlen : (ds ++ [(⟨1, ((vn : Int) - 1), keyK ky, [bv], 0⟩ : Dd)]).length = k + 1 := by rw [List.length_append, HDS.out.1]; rfl
          have HLEN := put_by hlen
          clear hR3 hg3 hat3 hown hB3 e0 e1 e2 e3 e4 HRE HRW HZ hBW hlen HI'
          have hst := step_put (vs := (playK [[]] ds).2) (v := ((vn : Int) - 1)) (by omega) (by have := HDS.out.2.1; omega) (key := keyK ky) (val := [bv]) (by simp [keyK]) (by simp [keyK]) (by simp) 0
          rw [← HDS.out.2.1] at hst
          rw [hst] at hP
          have HST := put_by hst
          have HP := put_by hP
          clear hP hst
          unfold Hid
          go_wp2_with (first
            | (go_at_call 12; refine HP.out.mono ?_; clear HP; rintro e w4 ⟨b5, o5, c5, rfl, y0, y1, H4⟩; have k1 := (H4.out.cell (p := ⟨B, 0, none⟩) hBs).trans k0))
          have HNX : Hid (DeedsI w (k + 1) (vn + 1) (.slice a6 (k + 1) c6) w4) := ⟨ds ++ [⟨1, ((vn : Int) - 1), keyK ky, [bv], 0⟩], HLEN.out, by rw [playK_snoc, HST.out]; rw [List.length_append, ← HDS.out.2.1]; rfl, fun d hd => by
              rcases List.mem_append.1 hd with hd | hd
              · exact HDS.out.2.2.1 d hd
              · rw [List.mem_singleton.1 hd]; exact .inl rfl, HR3.out.1.later H4.out, HR3.out.2.trans (H4.out.mono HR3.out.2.size)⟩
          go_roundw
          case rel => exact ⟨k + 1, vn + 1, a6, c6, by omega, by omega, by omega, by omega, by go_num, rfl, by go_num, HNX.out⟩
          case measure => simp [intOf]; omega
        · have q0 := HD.out.kind 2
          obtain ⟨u0, u1, u2, u3, u4, o0, o1, o2, o3, o4⟩ := id q0.five
          have HZ : Hid (DdV wr B ⟨2, ((vn : Int) - 1), keyK ky, [], 0⟩ (.slice (some ⟨kb, 0, none⟩) 2 2) (.slice none 0 0) ((wc.setCell ⟨B, 0, none⟩ (.int .i64 2)).setCell ⟨B, 3, none⟩ (.slice none 0 0))) := ((HD.out).kind 2).bare
          go_upto_region 12 with (fail)
          clear x0 x1 xs0 g0 g1 g2 g3 g4 f0 f1 f2 f3 f4 HD d0 d1 d2 d3 q0 u0 u1 u2 u3 u4 o0 o1 o2 o3 o4 cP1 cP2
          generalize ((wc.setCell ⟨B, 0, none⟩ (.int .i64 2)).setCell ⟨B, 3, none⟩ (.slice none 0 0)) = W2 at HZ ⊢
          obtain ⟨e0, e1, e2, e3, e4, -, -, -, -, -⟩ := id HZ.out.five
          have HRW : Hid (Rows kDd (fun _ => True) W2 w.heap.size 45 (.slice a k c) ds ∧ Below w.heap.size w W2) := ⟨HDS.out.2.2.2.1.later HZ.out.below, HDS.out.2.2.2.2.trans (HZ.out.below.mono HDS.out.2.2.2.2.size)⟩
          have HRE : Hid (kDd.rel (fun b => True ∧ (Value.slice a k c).ownBlock ≠ some b) W2 ⟨2, ((vn : Int) - 1), keyK ky, [], 0⟩ [.int .i64 2, .int .i64 ((vn : Int) - 1), .slice (some ⟨kb, 0, none⟩) 2 2, .slice none 0 0, .int .i64 0]) := kDd.move (Kept.of_below (Below.refl _ _)) (fun b _ ho => ⟨trivial, fun e => by have := (rows_lt HDS.out.2.2.2.1 b e).2; have := ho.1; omega⟩) HZ.out.rel
          go_wp2_with (first
            | (at_builtin; refine wpList_append_one (K := kDd) (ok := fun _ => True) eltD rfl (.tmp 62) (.tmp 64) rfl w.heap.size (.slice a k c) ds rfl HRW.out.1 ⟨2, ((vn : Int) - 1), keyK ky, [], 0⟩ [.int .i64 2, .int .i64 ((vn : Int) - 1), .slice (some ⟨kb, 0, none⟩) 2 2, .slice none 0 0, .int .i64 0] _ _ rfl rfl HRE.out (fun _ _ => trivial) (by rw [HDS.out.1]; omega) (by decide) HRW.out.2.size ?_; intro v2 w3 hR3 hg3 hat3; refine hidGoal ?_))
          have hBW : B < W2.heap.size := HZ.out.five.lt
          have hown : ∀ g, (Value.slice a k c).ownBlock = some g → g < wr.heap.size := fun g e => (rows_lt HDS.out.2.2.2.1 g e).2
          have k0 : w3.cell? ⟨B, 0, none⟩ = some (.int .i64 2) := (World.cell?_of_block (w := W2) (hg3.block B hBW (fun e => by have := hown B e.symm; omega))).trans e0
          have hB3 : Below w.heap.size w w3 := below_grown HRW.out.2 HRW.out.2.size hg3 (fun r e => (rows_lt HRW.out.1 r e).1)
          obtain ⟨a6, c6, e6, hP⟩ := play_last ds ⟨2, ((vn : Int) - 1), keyK ky, [], 0⟩ k HDS.out.1 (by omega) _ w3 v2 hR3
          subst e6
          have HR3 := put_by (And.intro hR3 hB3)
          have hBs : B < w3.heap.size := World.block_lt_of_cell? _ _ k0
          have hlen : (ds ++ [(⟨2, ((vn : Int) - 1), keyK ky, [], 0⟩ : Dd)]).length = k + 1 := by rw [List.length_append, HDS.out.1]; rfl
          have HLEN := put_by hlen
          clear hR3 hg3 hat3 hown hB3 e0 e1 e2 e3 e4 HRE HRW HZ hBW hlen HI'
          have hsd := step_drop (vs := (playK [[]] ds).2) (v := ((vn : Int) - 1)) (by omega) (by have := HDS.out.2.1; omega) (keyK ky) [] 0
          rw [← HDS.out.2.1] at hsd
          by_cases hh : hasK ((playK [[]] ds).2.getD (((vn : Int) - 1)).toNat []) (keyK ky) = true
          · rw [if_pos hh] at hsd
            have hst := hsd
            rw [hst] at hP
            clear hh hsd
            have HST := put_by hst
            have HP := put_by hP
            clear hP hst
            unfold Hid
            go_wp2_with (first
              | (go_at_call 12; refine HP.out.mono ?_; clear HP; rintro e w4 ⟨b5, o5, c5, rfl, y0, y1, H4⟩; have k1 := (H4.out.cell (p := ⟨B, 0, none⟩) hBs).trans k0))
            have HNX : Hid (DeedsI w (k + 1) (vn + 1) (.slice a6 (k + 1) c6) w4) := ⟨ds ++ [⟨2, ((vn : Int) - 1), keyK ky, [], 0⟩], HLEN.out, by rw [playK_snoc, HST.out]; rw [List.length_append, ← HDS.out.2.1]; rfl, fun d hd => by
                rcases List.mem_append.1 hd with hd | hd
                · exact HDS.out.2.2.1 d hd
                · rw [List.mem_singleton.1 hd]; exact .inr rfl, HR3.out.1.later H4.out, HR3.out.2.trans (H4.out.mono HR3.out.2.size)⟩
            go_roundw
            case rel => exact ⟨k + 1, vn + 1, a6, c6, by omega, by omega, by omega, by omega, by go_num, rfl, by go_num, HNX.out⟩
            case measure => simp [intOf]; omega
          · rw [if_neg hh] at hsd
            have hst := hsd
            rw [hst] at hP
            clear hh hsd
            have HST := put_by hst
            have HP := put_by hP
            clear hP hst
            unfold Hid
            go_wp2_with (first
              | (go_at_call 12; refine HP.out.mono ?_; clear HP; rintro e w4 ⟨b5, o5, c5, rfl, y0, y1, H4⟩; have k1 := (H4.out.cell (p := ⟨B, 0, none⟩) hBs).trans k0))
            have HNX : Hid (DeedsI w (k + 1) (vn) (.slice a6 (k + 1) c6) w4) := ⟨ds ++ [⟨2, ((vn : Int) - 1), keyK ky, [], 0⟩], HLEN.out, by rw [playK_snoc, HST.out]; exact HDS.out.2.1, fun d hd => by
                rcases List.mem_append.1 hd with hd | hd
                · exact HDS.out.2.2.1 d hd
                · rw [List.mem_singleton.1 hd]; exact .inr rfl, HR3.out.1.later H4.out, HR3.out.2.trans (H4.out.mono HR3.out.2.size)⟩
            go_roundw
            case rel => exact ⟨k + 1, vn, a6, c6, by omega, by omega, by omega, by omega, by go_num, rfl, rfl, HNX.out⟩
            case measure => simp [intOf]; omega
    · have H9 := HI
      clear HI
      by_cases h1 : k < ln
      · have h2 : ¬ (k : Int) < (n : Int) := by omega
        have h3 : (k : Int) < (ln : Int) := by omega
        go_wp2
        exact bodyPost_ret (v := .tuple #[.slice a k c, .bool true]) (by simp [results, Try.results4, go_sem]) rfl ⟨k, vn, a, c, rfl, hk, H9.out⟩
      · have h2 : ¬ (k : Int) < (ln : Int) := by omega
        go_wp2
        exact bodyPost_ret (v := .tuple #[.slice a k c, .bool true]) (by simp [results, Try.results4, go_sem]) rfl ⟨k, vn, a, c, rfl, hk, H9.out⟩

theorem drawn_later {B : Nat} {a w : World} (h : Below B a w) (q : Nat) : Below B a (w.drewN q) := ⟨h.os, h.tape, h.output, h.size, h.block⟩

/-- deeds that lie somewhere -/
def DeedsAt (w : World) (n k : Nat) (a : Option Addr) (c : Nat) (ds : List Dd) (W : World) : Prop :=
  ds.length = k ∧ k ≤ n ∧ (∀ d ∈ ds, d.kind = 1 ∨ d.kind = 2) ∧ Lies kDd (fun _ => True) W a c ds ∧ Below w.heap.size w W

theorem Deeds_at (ms : List Mv) (n : Nat) (hn : n ≤ 60) (line : Bool) (la : Option Addr) (lc ln : Nat) (hln : ln = ms.length) (w : World) (hL : Lies kMv (fun _ => True) w la lc ms) :
    Calls Try.prog 4 #[.slice la ln lc, .int .i64 n, .bool line] w fun e w' => ∃ (k : Nat) (a : Option Addr) (c : Nat), e = .returned (.tuple #[.slice a k c, .bool true]) ∧ ∃ ds, Hid (DeedsAt w n k a c ds w') := by
  subst hln
  refine (Deeds_any _ ms n hn line la lc w hL).mono ?_
  rintro e w' ⟨k, vn, a, c, rfl, hk, ds, h1, -, h3, h4, h5⟩
  refine ⟨k, a, c, rfl, ds, h1, hk, h3, ?_, h5⟩
  obtain ⟨a', c', e, h6, -⟩ := h4.lies (fun _ _ => trivial)
  simp only [Value.slice.injEq] at e
  obtain ⟨rfl, -, rfl⟩ := e
  exact h6

theorem made_at {w W : World} {n k : Nat} {a : Option Addr} {c : Nat} {ds : List Dd} (h : DeedsAt w n k a c ds W) (hn : n ≤ 60) :
    Calls Try.prog 6 #[.slice a k c] W fun e w' => ∃ v : Nat, e = .returned (.int .i64 v) ∧ v ≤ k ∧ Hid (v + 1 = (playK [[]] ds).2.length ∧ DeedsAt w n k a c ds w' ∧ Below W.heap.size W w') := by
  obtain ⟨h1, h2, h3, h4, h5⟩ := h
  have := made_any _ ds (by omega) h3 a c W h4
  rw [h1] at this
  refine this.mono ?_
  rintro e w' ⟨v, rfl, q1, q2, q3⟩
  exact ⟨v, rfl, q2, q1, ⟨h1, h2, h3, h4.later q3, h5.trans (q3.mono h5.size)⟩, q3⟩

end Go.Proofs.Ytcegkgobkpakiaa
