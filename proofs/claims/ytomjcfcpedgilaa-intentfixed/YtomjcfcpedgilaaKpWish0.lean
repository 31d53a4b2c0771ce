/- The intent of no wish. -/
import Derived.Test.YtomjcfcpedgilaaItDec
import Derived.Test.YtomjcfcpedgilaaPicked
import Derived.Deep.RegionHeld3
import Derived.Deep.CutRange
import Derived.LoopTactic
namespace Go.Proofs.Ytomjcfcpedgilaa
open Go.ChangeShapes Go.WideShapes Go.ChangeAt Go.RowKit

set_option maxRecDepth 100000 in
set_option maxHeartbeats 1500000 in
theorem IntentOf_zero (w : World) :
    Calls Try.prog 18 #[.agg #[.int .i64 0, .int .i64 0, .int .i64 0, .slice none 0 0, .slice none 0 0, .bool false]] w fun e w' => e = .returned (.agg #[.int .i64 1, .int .i64 1, .int .i64 0, .slice none 0 0, .slice none 0 0]) ∧ Below w.heap.size w w' := by
  generalize hpost : (fun e w' => e = Ending.returned (.agg #[.int .i64 1, .int .i64 1, .int .i64 0, .slice none 0 0, .slice none 0 0]) ∧ Below w.heap.size w w') = Q
  have HO : Hid (∀ w', ¬ Q .outgrown w') := fun w' hh => by
    rw [← hpost] at hh
    cases hh.1
  have HP : Hid (∀ w', Below w.heap.size w w' → Q (.returned (.agg #[.int .i64 1, .int .i64 1, .int .i64 0, .slice none 0 0, .slice none 0 0])) w') := fun w' h => by rw [← hpost]; exact ⟨rfl, h⟩
  clear hpost
  have p5 : Hid (∀ V, Calls Try.prog 20 #[.int .i64 0, .int .i64 5] V fun e w' => e = .returned (.int .i64 0) ∧ V = w') := fun V => (Picked_any 0 5 (by omega) (by omega) V).mono (fun e w' h => ⟨by simpa using h.1, h.2⟩)
  have p6 : Hid (∀ V, Calls Try.prog 20 #[.int .i64 0, .int .i64 6] V fun e w' => e = .returned (.int .i64 0) ∧ V = w') := fun V => (Picked_any 0 6 (by omega) (by omega) V).mono (fun e w' h => ⟨by simpa using h.1, h.2⟩)
  have p40 : Hid (∀ V, Calls Try.prog 20 #[.int .i64 0, .int .i64 40] V fun e w' => e = .returned (.int .i64 0) ∧ V = w') := fun V => (Picked_any 0 40 (by omega) (by omega) V).mono (fun e w' h => ⟨by simpa using h.1, h.2⟩)
  have HW := put_by (Cls.new w [.int .i64 0, .int .i64 0, .int .i64 0, .slice none 0 0, .slice none 0 0, .bool false] 39)
  have HB := put_by ((Below.refl w.heap.size w).alloc (Nat.le_refl _) (.cells #[.int .i64 0, .int .i64 0, .int .i64 0, .slice none 0 0, .slice none 0 0, .bool false] 39))
  have HS : Hid ((w.alloc (.cells #[.int .i64 0, .int .i64 0, .int .i64 0, .slice none 0 0, .slice none 0 0, .bool false] 39)).heap.size = w.heap.size + 1) := by simp [Hid]
  go_enter Try.func18, Try.ntmps18
  go_upto_region 1 with (fail)
  generalize hA : w.heap.size + 1 = A
  generalize w.alloc (.cells #[.int .i64 0, .int .i64 0, .int .i64 0, .slice none 0 0, .slice none 0 0, .bool false] _) = W1 at HW HB HS ⊢
  have HC := put_by (Cls.new W1 [.int .i64 0, .int .i64 0, .int .i64 0, .slice none 0 0, .slice none 0 0] 25)
  have HB2 := put_by ((Below.refl W1.heap.size W1).alloc (Nat.le_refl _) (.cells #[.int .i64 0, .int .i64 0, .int .i64 0, .slice none 0 0, .slice none 0 0] 25))
  have HS2 : Hid ((W1.alloc (.cells #[.int .i64 0, .int .i64 0, .int .i64 0, .slice none 0 0, .slice none 0 0] 25)).heap.size = A + 1) := by rw [← hA]; simp [Hid, HS.out]
  have HA : Hid (A = w.heap.size + 1) := hA.symm
  clear hA
  generalize W1.alloc (.cells #[.int .i64 0, .int .i64 0, .int .i64 0, .slice none 0 0, .slice none 0 0] _) = W2 at HC HB2 HS2 ⊢
  have HI : Hid (Cls W2 w.heap.size [.int .i64 0, .int .i64 0, .int .i64 0, .slice none 0 0, .slice none 0 0, .bool false] ∧ Cls W2 A [.int .i64 0, .int .i64 0, .int .i64 0, .slice none 0 0, .slice none 0 0] ∧ Below w.heap.size w W2) := ⟨HW.out.later HB2.out, by rw [HA.out, ← HS.out]; exact HC.out, HB.out.trans (HB2.out.mono HB.out.size)⟩
  clear HW HB HS HC HB2
  go_cut [3] from 10 to 21 (fun p wx => ∃ X : Nat, p = .pointer (some ⟨X, 0, none⟩) ∧ Hid (Cls wx X [.int .i64 1, .int .i64 1, .int .i64 0, .slice none 0 0, .slice none 0 0] ∧ W2.heap.size ≤ X ∧ Below W2.heap.size W2 wx))
  case first =>
    obtain ⟨z0, -⟩ := HI.out.1 0 _ rfl
    obtain ⟨z1, -⟩ := HI.out.1 1 _ rfl
    obtain ⟨z2, -⟩ := HI.out.1 2 _ rfl
    have n0 : w.heap.size ≠ W2.heap.size := by have := HS2.out; have := HA.out; omega
    have n1 : W2.heap.size ≠ w.heap.size := by have := HS2.out; have := HA.out; omega
    have HK : Hid (Cls (W2.alloc (.cells #[.int .i64 1, .int .i64 1, .int .i64 0, .slice none 0 0, .slice none 0 0] 25)).drew W2.heap.size [.int .i64 1, .int .i64 1, .int .i64 0, .slice none 0 0, .slice none 0 0] ∧ W2.heap.size ≤ W2.heap.size ∧ Below W2.heap.size W2 (W2.alloc (.cells #[.int .i64 1, .int .i64 1, .int .i64 0, .slice none 0 0, .slice none 0 0] 25)).drew) := ⟨(Cls.new W2 [.int .i64 1, .int .i64 1, .int .i64 0, .slice none 0 0, .slice none 0 0] 25).later (Below.refl _ _).drew, Nat.le_refl _, ((Below.refl _ W2).alloc (Nat.le_refl _) _).drew⟩
    clear HI HS2 HA
    go_region_held3 (fun V => V.cell? ⟨w.heap.size, 0, none⟩ = some (.int .i64 0) ∧ V.cell? ⟨w.heap.size, 1, none⟩ = some (.int .i64 0) ∧ V.cell? ⟨w.heap.size, 2, none⟩ = some (.int .i64 0)) (go_keep) (first
      | (go_at_call 20; (with_reducible refine (p5.out _).mono ?_); clear p5; rintro e w1 ⟨rfl, rfl⟩)
      | (go_at_call 20; (with_reducible refine (p6.out _).mono ?_); clear p6; rintro e w1 ⟨rfl, rfl⟩)
      | (go_at_call 20; (with_reducible refine (p40.out _).mono ?_); clear p40; rintro e w1 ⟨rfl, rfl⟩))
    all_goals
      go_wp2
      go_meet
      exact ⟨_, rfl, HK⟩
  case rest =>
    obtain ⟨X, rfl, HK⟩ := hcut
    have HI2 : Hid (Cls wc w.heap.size [.int .i64 0, .int .i64 0, .int .i64 0, .slice none 0 0, .slice none 0 0, .bool false] ∧ Cls wc A [.int .i64 0, .int .i64 0, .int .i64 0, .slice none 0 0, .slice none 0 0] ∧ Below w.heap.size w wc ∧ A < X) := ⟨HI.out.1.later HK.out.2.2, HI.out.2.1.later HK.out.2.2, HI.out.2.2.trans (HK.out.2.2.mono HI.out.2.2.size), by have := HS2.out; have := HK.out.2.1; omega⟩
    have HK2 := put_by HK.out.1
    obtain ⟨z3, -⟩ := HI2.out.1 3 _ rfl
    clear HK HI HS2 p5 p6 p40
    go_wp2
    go_loopw [4] (fun i wr => i = .int .i64 0 ∧ wc = wr) (fun _ _ => 0)
    case atStart => exact ⟨rfl, rfl⟩
    case round =>
      obtain ⟨rfl, rfl⟩ := hrel
      have HB3 := put_by ((Below.refl wc.heap.size wc).alloc (Nat.le_refl _) (.cells #[.bool false, .bool false, .bool false, .bool false, .bool false, .bool false, .bool false, .bool false, .bool false, .bool false, .bool false, .bool false] 61))
      have HF3 := put_by (Cls.new wc [.bool false, .bool false, .bool false, .bool false, .bool false, .bool false, .bool false, .bool false, .bool false, .bool false, .bool false, .bool false] 61)
      go_upto_region 8 with (fail)
      generalize hH : wc.heap.size = H
      rw [hH] at HF3
      generalize wc.alloc (.cells #[.bool false, .bool false, .bool false, .bool false, .bool false, .bool false, .bool false, .bool false, .bool false, .bool false, .bool false, .bool false] _) = W6 at HB3 HF3 ⊢
      have HI6 : Hid (Cls W6 w.heap.size [.int .i64 0, .int .i64 0, .int .i64 0, .slice none 0 0, .slice none 0 0, .bool false] ∧ Cls W6 A [.int .i64 0, .int .i64 0, .int .i64 0, .slice none 0 0, .slice none 0 0] ∧ Cls W6 X [.int .i64 1, .int .i64 1, .int .i64 0, .slice none 0 0, .slice none 0 0] ∧ Below w.heap.size w W6) := ⟨HI2.out.1.later HB3.out, HI2.out.2.1.later HB3.out, HK2.out.later HB3.out, HI2.out.2.2.1.trans (HB3.out.mono HI2.out.2.2.1.size)⟩
      obtain ⟨z4, -⟩ := HI6.out.1 4 _ rfl
      clear HI2 HK2 HB3 z3 hH
      go_wp2
      go_loopw [7] (fun i wr => i = .int .i64 0 ∧ W6 = wr) (fun _ _ => 0)
      case atStart => exact ⟨rfl, rfl⟩
      case round =>
        obtain ⟨rfl, rfl⟩ := hrel
        go_wp2
        go_loopw [8] (fun i wr => ∃ k : Nat, k ≤ 12 ∧ i = .int .i64 k ∧ W6 = wr) (fun i _ => 12 - (intOf i).toNat)
        case atStart => exact ⟨0, by omega, rfl, rfl⟩
        case round =>
          obtain ⟨k, hk, rfl, rfl⟩ := hrel
          by_cases hlt : k < 12
          · have hc : W6.cell? ⟨H, k, none⟩ = some (.bool false) := (HF3.out k (.bool false) (by
              have : k = 0 ∨ k = 1 ∨ k = 2 ∨ k = 3 ∨ k = 4 ∨ k = 5 ∨ k = 6 ∨ k = 7 ∨ k = 8 ∨ k = 9 ∨ k = 10 ∨ k = 11 := by omega
              rcases this with rfl | rfl | rfl | rfl | rfl | rfl | rfl | rfl | rfl | rfl | rfl | rfl <;> rfl)).1
            have i1 : (k : Int) < 12 := by omega
            go_wp2
            go_roundw
            case rel => exact ⟨k + 1, by omega, by go_num, trivial⟩
            case measure => simp [intOf]; omega
          · have hk12 : k = 12 := by omega
            subst hk12
            obtain ⟨x0, -⟩ := HI6.out.2.2.1 0 _ rfl
            obtain ⟨x1, -⟩ := HI6.out.2.2.1 1 _ rfl
            obtain ⟨x2, -⟩ := HI6.out.2.2.1 2 _ rfl
            obtain ⟨x3, -⟩ := HI6.out.2.2.1 3 _ rfl
            obtain ⟨x4, -⟩ := HI6.out.2.2.1 4 _ rfl
            obtain ⟨u0, o0⟩ := HI6.out.2.1 0 _ rfl
            obtain ⟨u1, o1⟩ := HI6.out.2.1 1 _ rfl
            obtain ⟨u2, o2⟩ := HI6.out.2.1 2 _ rfl
            obtain ⟨u3, o3⟩ := HI6.out.2.1 3 _ rfl
            obtain ⟨u4, o4⟩ := HI6.out.2.1 4 _ rfl
            have HF := put_by (five_set (N := w.heap.size) HI6.out.2.1 rfl (by have := HA.out; omega) (.int .i64 1) (.int .i64 1) (.int .i64 0) (.slice none 0 0) (.slice none 0 0))
            have HQ := put_by HI6.out.2.2.2
            clear HI6 HF3 hlt hk
            go_wp2
            generalize ((((W6.setCell _ _).setCell _ _).setCell _ _).setCell _ _).setCell _ _ = W9 at HF ⊢
            obtain ⟨v0, -⟩ := HF.out.1 0 _ rfl
            obtain ⟨v1, -⟩ := HF.out.1 1 _ rfl
            obtain ⟨v2, -⟩ := HF.out.1 2 _ rfl
            obtain ⟨v3, -⟩ := HF.out.1 3 _ rfl
            obtain ⟨v4, -⟩ := HF.out.1 4 _ rfl
            go_wp2
            exact bodyPost_ret (v := .agg #[.int .i64 1, .int .i64 1, .int .i64 0, .slice none 0 0, .slice none 0 0]) (by simp [results, Try.results18, go_sem, asAddr, v0, v1, v2, v3, v4]) rfl (HP.out _ (HQ.out.trans HF.out.2.1))

end Go.Proofs.Ytomjcfcpedgilaa
