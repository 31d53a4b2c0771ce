/- A key has what was put last. -/
import Derived.Test.YtdjiplheomoljaaKpMore
import Derived.Test.YtdjiplheomoljaaKpDeeds
import Derived.Test.YtdjiplheomoljaaRtSameK
namespace Go.Proofs.Ytdjiplheomoljaa
open Go.ChangeShapes Go.WideShapes Go.ChangeAt Go.RowKit

set_option maxRecDepth 100000 in
set_option maxHeartbeats 16000000 in
theorem TreeTells_any (ms : List Mv) (la : Option Addr) (lc ln : Nat) (hln : ln = ms.length) (ky vl ot : Int) (w : World) (hL : Lies kMv (fun _ => True) w la lc ms) :
    Calls Try.prog 6 #[.slice la ln lc, .int .i64 ky, .int .i64 vl, .int .i64 ot] w fun e w' => e = .returned (.bool true) ∧ Below w.heap.size w w' := by
  have cD := put_by (Deeds_at ms 30 (by omega) true la lc ln hln w hL)
  clear hln hL
  go_enter Try.func6, Try.ntmps6
  go_wp2_with (first
    | (go_at_call 12; refine cD.out.mono ?_; clear cD; rintro e w1 ⟨k, a, c, rfl, ds, H1⟩; have cM := put_by (made_at H1.out (by omega)))
    | (go_at_call 14; refine cM.out.mono ?_; clear cM; rintro e w2 ⟨v, rfl, hvk, H2⟩; refine hidGoal ?_))
  have hk30 : k ≤ 30 := H1.out.2.1
  have cK1 : Hid (∀ W : World, Calls Try.prog 19 #[.int .i64 ky] W fun e w' => e = .returned (.slice (some ⟨W.heap.size, 0, none⟩) 2 2) ∧ Hid (Octs w' (some ⟨W.heap.size, 0, none⟩) 2 (keyK ky) ∧ W.heap.size < w'.heap.size ∧ Below W.heap.size W w')) := fun W => keyOf_any ky W
  have cK2 : Hid (∀ W : World, Calls Try.prog 19 #[.int .i64 ot] W fun e w' => e = .returned (.slice (some ⟨W.heap.size, 0, none⟩) 2 2) ∧ Hid (Octs w' (some ⟨W.heap.size, 0, none⟩) 2 (keyK ot) ∧ W.heap.size < w'.heap.size ∧ Below W.heap.size W w')) := fun W => keyOf_any ot W
  unfold Hid
  go_upto_region 7 with (first
    | (go_at_call 19; (with_reducible refine (cK1.out _).mono ?_); clear cK1; rintro e w3 ⟨rfl, H3⟩)
    | (go_at_call 19; (with_reducible refine (cK2.out _).mono ?_); clear cK2; rintro e w4 ⟨rfl, H4⟩))
  have hb2 : 0 ≤ IntKind.u8.wrap vl ∧ IntKind.u8.wrap vl ≤ 255 := by
    rw [IntKind.wrap_u8]
    omega
  obtain ⟨bv, hbv⟩ : ∃ bv, IntKind.u8.wrap vl = bv := ⟨_, rfl⟩
  rw [hbv] at hb2
  have HBV := put_by hb2
  have HA : Hid (DeedsAt w 30 k a c ds w4 ∧ Octs w4 (some ⟨w2.heap.size, 0, none⟩) 2 (keyK ky) ∧ Octs w4 (some ⟨w3.heap.size, 0, none⟩) 2 (keyK ot) ∧ w2.heap.size < w4.heap.size ∧ w3.heap.size < w4.heap.size ∧ v + 1 = (playK [[]] ds).2.length) := by
    obtain ⟨q1, ⟨e1, e2, e3, e4, e5⟩, q3⟩ := H2.out
    obtain ⟨r1, r2, r3⟩ := H3.out
    obtain ⟨s1, s2, s3⟩ := H4.out
    exact ⟨⟨e1, e2, e3, (e4.later r3).later s3, (e5.trans (r3.mono e5.size)).trans (s3.mono (Nat.le_trans e5.size r3.size))⟩, r1.later s3, s1, Nat.lt_of_lt_of_le r2 s3.size, s2, q1⟩
  generalize w2.heap.size = kb at HA ⊢
  generalize w3.heap.size = ob at HA ⊢
  clear H1 H2 H3 H4 hb2
  have HK : Hid (k = ds.length) := HA.out.1.1.symm
  have HL4 : Hid (Lies kDd (fun b => b < w4.heap.size) w4 a c ds) := HA.out.1.2.2.2.1.move (Kept.of_below (Below.refl _ _)) (fun b hb _ => hb)
  have HB4 := put_by HA.out.1.2.2.2.2
  have hv1 : IntKind.i64.wrap ((v : Int) + 1) = (v : Int) + 1 := by
    rw [IntKind.wrap_i64]
    omega
  have hv2 : IntKind.i64.wrap ((v : Int) + 2) = (v : Int) + 2 := by
    rw [IntKind.wrap_i64]
    omega
  go_wp2_with (first
    | (at_builtin; (with_reducible refine wpList_append_rows (K := kDd) (ok := fun _ => True) eltD rfl (.const (.slice none 0 0)) (.tmp 30) rfl w.heap.size (.slice none 0 0) [] rfl (Rows.nil _ _ _ _ _) a c k ds rfl HK.out HL4.out (fun _ _ _ _ => trivial) (fun _ _ _ => by simp [Value.ownBlock]) (by simp; omega) (by decide) HB4.out.size ?_); intro v5 w5 hR5 hg5 hat5; refine hidGoal ?_))
  rw [List.nil_append] at hR5
  have hB5 : Below w4.heap.size w4 w5 := below_grown (Below.refl _ w4) (Nat.le_refl _) hg5 (fun r e => by cases e)
  have hap : ∀ b, b < w4.heap.size → v5.ownBlock ≠ some b := fun b hb e => by
    rcases hat5 with q | q
    · rw [q] at e
      cases e
    · rw [q] at e
      have := Option.some.inj e
      omega
  have hap2 : ∀ g, v5.ownBlock = some g → g < w5.heap.size := fun g e => (rows_lt hR5 g e).2
  obtain ⟨a5, c5, e5⟩ := rows_form hR5
  rw [← HK.out] at e5
  subst e5
  have HR7 : Hid (Rows kDd (fun _ => True) ((w5.alloc (.cells #[.int .u8 bv, .int .u8 7] 5)).alloc (.cells #[.int .i64 1, .int .i64 v, .slice (some ⟨kb, 0, none⟩) 2 2, .slice (some ⟨w5.heap.size, 0, none⟩) 2 2, .int .i64 0, .int .i64 3, .int .i64 ((v : Int) + 1), .slice (some ⟨kb, 0, none⟩) 2 2, .slice none 0 0, .int .i64 0, .int .i64 3, .int .i64 v, .slice (some ⟨ob, 0, none⟩) 2 2, .slice none 0 0, .int .i64 0, .int .i64 3, .int .i64 ((v : Int) + 1), .slice (some ⟨ob, 0, none⟩) 2 2, .slice none 0 0, .int .i64 0, .int .i64 2, .int .i64 ((v : Int) + 1), .slice (some ⟨kb, 0, none⟩) 2 2, .slice none 0 0, .int .i64 0, .int .i64 3, .int .i64 ((v : Int) + 2), .slice (some ⟨kb, 0, none⟩) 2 2, .slice none 0 0, .int .i64 0, .int .i64 3, .int .i64 ((v : Int) + 2), .slice (some ⟨ob, 0, none⟩) 2 2, .slice none 0 0, .int .i64 0] 50)) w.heap.size 50 (.slice a5 k c5) ds ∧ Lies kDd (fun b => (Value.slice a5 k c5).ownBlock ≠ some b) ((w5.alloc (.cells #[.int .u8 bv, .int .u8 7] 5)).alloc (.cells #[.int .i64 1, .int .i64 v, .slice (some ⟨kb, 0, none⟩) 2 2, .slice (some ⟨w5.heap.size, 0, none⟩) 2 2, .int .i64 0, .int .i64 3, .int .i64 ((v : Int) + 1), .slice (some ⟨kb, 0, none⟩) 2 2, .slice none 0 0, .int .i64 0, .int .i64 3, .int .i64 v, .slice (some ⟨ob, 0, none⟩) 2 2, .slice none 0 0, .int .i64 0, .int .i64 3, .int .i64 ((v : Int) + 1), .slice (some ⟨ob, 0, none⟩) 2 2, .slice none 0 0, .int .i64 0, .int .i64 2, .int .i64 ((v : Int) + 1), .slice (some ⟨kb, 0, none⟩) 2 2, .slice none 0 0, .int .i64 0, .int .i64 3, .int .i64 ((v : Int) + 2), .slice (some ⟨kb, 0, none⟩) 2 2, .slice none 0 0, .int .i64 0, .int .i64 3, .int .i64 ((v : Int) + 2), .slice (some ⟨ob, 0, none⟩) 2 2, .slice none 0 0, .int .i64 0] 50)) (some ⟨w5.heap.size + 1, 0, none⟩) 7 [⟨1, v, keyK ky, [bv, 7], 0⟩, ⟨3, ((v : Int) + 1), keyK ky, [], 0⟩, ⟨3, v, keyK ot, [], 0⟩, ⟨3, ((v : Int) + 1), keyK ot, [], 0⟩, ⟨2, ((v : Int) + 1), keyK ky, [], 0⟩, ⟨3, ((v : Int) + 2), keyK ky, [], 0⟩, ⟨3, ((v : Int) + 2), keyK ot, [], 0⟩] ∧ Below w.heap.size w ((w5.alloc (.cells #[.int .u8 bv, .int .u8 7] 5)).alloc (.cells #[.int .i64 1, .int .i64 v, .slice (some ⟨kb, 0, none⟩) 2 2, .slice (some ⟨w5.heap.size, 0, none⟩) 2 2, .int .i64 0, .int .i64 3, .int .i64 ((v : Int) + 1), .slice (some ⟨kb, 0, none⟩) 2 2, .slice none 0 0, .int .i64 0, .int .i64 3, .int .i64 v, .slice (some ⟨ob, 0, none⟩) 2 2, .slice none 0 0, .int .i64 0, .int .i64 3, .int .i64 ((v : Int) + 1), .slice (some ⟨ob, 0, none⟩) 2 2, .slice none 0 0, .int .i64 0, .int .i64 2, .int .i64 ((v : Int) + 1), .slice (some ⟨kb, 0, none⟩) 2 2, .slice none 0 0, .int .i64 0, .int .i64 3, .int .i64 ((v : Int) + 2), .slice (some ⟨kb, 0, none⟩) 2 2, .slice none 0 0, .int .i64 0, .int .i64 3, .int .i64 ((v : Int) + 2), .slice (some ⟨ob, 0, none⟩) 2 2, .slice none 0 0, .int .i64 0] 50))) := by
    have hb6 : Below w5.heap.size w5 (w5.alloc (.cells #[.int .u8 bv, .int .u8 7] 5)) := (Below.refl _ w5).alloc (Nat.le_refl _) _
    have hs6 : (w5.alloc (.cells #[.int .u8 bv, .int .u8 7] 5)).heap.size = w5.heap.size + 1 := alloc_size _ _
    have hk5 := hB5.size
    have hbk : IsBody (w5.alloc (.cells #[.int .u8 bv, .int .u8 7] 5)) (fun b => (Value.slice a5 k c5).ownBlock ≠ some b) (.slice (some ⟨kb, 0, none⟩) 2 2) (keyK ky) := ⟨_, _, rfl, (HA.out.2.1.later hB5).later hb6, fun _ ad e => by cases e; exact hap _ HA.out.2.2.2.1⟩
    have hbo : IsBody (w5.alloc (.cells #[.int .u8 bv, .int .u8 7] 5)) (fun b => (Value.slice a5 k c5).ownBlock ≠ some b) (.slice (some ⟨ob, 0, none⟩) 2 2) (keyK ot) := ⟨_, _, rfl, (HA.out.2.2.1.later hB5).later hb6, fun _ ad e => by cases e; exact hap _ HA.out.2.2.2.2.1⟩
    have hbv : IsBody (w5.alloc (.cells #[.int .u8 bv, .int .u8 7] 5)) (fun b => (Value.slice a5 k c5).ownBlock ≠ some b) (.slice (some ⟨w5.heap.size, 0, none⟩) 2 2) [bv, 7] := ⟨_, _, rfl, octs_two w5 bv 7 HBV.out (by omega) _, fun _ ad e => by cases e; exact fun e => by have := hap2 _ e; simp at this⟩
    have hL := lies_many (K := kDd) (ok := fun b => (Value.slice a5 k c5).ownBlock ≠ some b) (W := (w5.alloc (.cells #[.int .u8 bv, .int .u8 7] 5))) (l := [⟨1, v, keyK ky, [bv, 7], 0⟩, ⟨3, ((v : Int) + 1), keyK ky, [], 0⟩, ⟨3, v, keyK ot, [], 0⟩, ⟨3, ((v : Int) + 1), keyK ot, [], 0⟩, ⟨2, ((v : Int) + 1), keyK ky, [], 0⟩, ⟨3, ((v : Int) + 2), keyK ky, [], 0⟩, ⟨3, ((v : Int) + 2), keyK ot, [], 0⟩]) (css := [[.int .i64 1, .int .i64 v, .slice (some ⟨kb, 0, none⟩) 2 2, .slice (some ⟨w5.heap.size, 0, none⟩) 2 2, .int .i64 0], [.int .i64 3, .int .i64 ((v : Int) + 1), .slice (some ⟨kb, 0, none⟩) 2 2, .slice none 0 0, .int .i64 0], [.int .i64 3, .int .i64 v, .slice (some ⟨ob, 0, none⟩) 2 2, .slice none 0 0, .int .i64 0], [.int .i64 3, .int .i64 ((v : Int) + 1), .slice (some ⟨ob, 0, none⟩) 2 2, .slice none 0 0, .int .i64 0], [.int .i64 2, .int .i64 ((v : Int) + 1), .slice (some ⟨kb, 0, none⟩) 2 2, .slice none 0 0, .int .i64 0], [.int .i64 3, .int .i64 ((v : Int) + 2), .slice (some ⟨kb, 0, none⟩) 2 2, .slice none 0 0, .int .i64 0], [.int .i64 3, .int .i64 ((v : Int) + 2), .slice (some ⟨ob, 0, none⟩) 2 2, .slice none 0 0, .int .i64 0]]) #[.int .i64 1, .int .i64 v, .slice (some ⟨kb, 0, none⟩) 2 2, .slice (some ⟨w5.heap.size, 0, none⟩) 2 2, .int .i64 0, .int .i64 3, .int .i64 ((v : Int) + 1), .slice (some ⟨kb, 0, none⟩) 2 2, .slice none 0 0, .int .i64 0, .int .i64 3, .int .i64 v, .slice (some ⟨ob, 0, none⟩) 2 2, .slice none 0 0, .int .i64 0, .int .i64 3, .int .i64 ((v : Int) + 1), .slice (some ⟨ob, 0, none⟩) 2 2, .slice none 0 0, .int .i64 0, .int .i64 2, .int .i64 ((v : Int) + 1), .slice (some ⟨kb, 0, none⟩) 2 2, .slice none 0 0, .int .i64 0, .int .i64 3, .int .i64 ((v : Int) + 2), .slice (some ⟨kb, 0, none⟩) 2 2, .slice none 0 0, .int .i64 0, .int .i64 3, .int .i64 ((v : Int) + 2), .slice (some ⟨ob, 0, none⟩) 2 2, .slice none 0 0, .int .i64 0] rfl 50 ⟨⟨_, _, rfl, hbk, hbv⟩, ⟨_, _, rfl, hbk, IsBody.none⟩, ⟨_, _, rfl, hbo, IsBody.none⟩, ⟨_, _, rfl, hbo, IsBody.none⟩, ⟨_, _, rfl, hbk, IsBody.none⟩, ⟨_, _, rfl, hbk, IsBody.none⟩, ⟨_, _, rfl, hbo, IsBody.none⟩, trivial⟩ (fun e => by have := hap2 _ e; rw [hs6] at this; omega) 7 (by simp)
    rw [hs6] at hL
    have hb7 : Below (w5.alloc (.cells #[.int .u8 bv, .int .u8 7] 5)).heap.size (w5.alloc (.cells #[.int .u8 bv, .int .u8 7] 5)) ((w5.alloc (.cells #[.int .u8 bv, .int .u8 7] 5)).alloc (.cells #[.int .i64 1, .int .i64 v, .slice (some ⟨kb, 0, none⟩) 2 2, .slice (some ⟨w5.heap.size, 0, none⟩) 2 2, .int .i64 0, .int .i64 3, .int .i64 ((v : Int) + 1), .slice (some ⟨kb, 0, none⟩) 2 2, .slice none 0 0, .int .i64 0, .int .i64 3, .int .i64 v, .slice (some ⟨ob, 0, none⟩) 2 2, .slice none 0 0, .int .i64 0, .int .i64 3, .int .i64 ((v : Int) + 1), .slice (some ⟨ob, 0, none⟩) 2 2, .slice none 0 0, .int .i64 0, .int .i64 2, .int .i64 ((v : Int) + 1), .slice (some ⟨kb, 0, none⟩) 2 2, .slice none 0 0, .int .i64 0, .int .i64 3, .int .i64 ((v : Int) + 2), .slice (some ⟨kb, 0, none⟩) 2 2, .slice none 0 0, .int .i64 0, .int .i64 3, .int .i64 ((v : Int) + 2), .slice (some ⟨ob, 0, none⟩) 2 2, .slice none 0 0, .int .i64 0] 50)) := (Below.refl _ _).alloc (Nat.le_refl _) _
    refine ⟨(hR5.later hb6).later hb7, hL, ?_⟩
    have h1 := HB4.out.trans (hB5.mono HB4.out.size)
    have h2 := h1.trans (hb6.mono h1.size)
    exact h2.trans (hb7.mono h2.size)
  have HKO : Hid (∀ W8, World.grownBy ((w5.alloc (.cells #[.int .u8 bv, .int .u8 7] 5)).alloc (.cells #[.int .i64 1, .int .i64 v, .slice (some ⟨kb, 0, none⟩) 2 2, .slice (some ⟨w5.heap.size, 0, none⟩) 2 2, .int .i64 0, .int .i64 3, .int .i64 ((v : Int) + 1), .slice (some ⟨kb, 0, none⟩) 2 2, .slice none 0 0, .int .i64 0, .int .i64 3, .int .i64 v, .slice (some ⟨ob, 0, none⟩) 2 2, .slice none 0 0, .int .i64 0, .int .i64 3, .int .i64 ((v : Int) + 1), .slice (some ⟨ob, 0, none⟩) 2 2, .slice none 0 0, .int .i64 0, .int .i64 2, .int .i64 ((v : Int) + 1), .slice (some ⟨kb, 0, none⟩) 2 2, .slice none 0 0, .int .i64 0, .int .i64 3, .int .i64 ((v : Int) + 2), .slice (some ⟨kb, 0, none⟩) 2 2, .slice none 0 0, .int .i64 0, .int .i64 3, .int .i64 ((v : Int) + 2), .slice (some ⟨ob, 0, none⟩) 2 2, .slice none 0 0, .int .i64 0] 50)) W8 (Value.slice a5 k c5).ownBlock → Octs W8 (some ⟨kb, 0, none⟩) 2 (keyK ky) ∧ Octs W8 (some ⟨ob, 0, none⟩) 2 (keyK ot)) := fun W8 hg => by
    have hb6 : Below w5.heap.size w5 (w5.alloc (.cells #[.int .u8 bv, .int .u8 7] 5)) := (Below.refl _ w5).alloc (Nat.le_refl _) _
    have hb7 : Below w5.heap.size w5 ((w5.alloc (.cells #[.int .u8 bv, .int .u8 7] 5)).alloc (.cells #[.int .i64 1, .int .i64 v, .slice (some ⟨kb, 0, none⟩) 2 2, .slice (some ⟨w5.heap.size, 0, none⟩) 2 2, .int .i64 0, .int .i64 3, .int .i64 ((v : Int) + 1), .slice (some ⟨kb, 0, none⟩) 2 2, .slice none 0 0, .int .i64 0, .int .i64 3, .int .i64 v, .slice (some ⟨ob, 0, none⟩) 2 2, .slice none 0 0, .int .i64 0, .int .i64 3, .int .i64 ((v : Int) + 1), .slice (some ⟨ob, 0, none⟩) 2 2, .slice none 0 0, .int .i64 0, .int .i64 2, .int .i64 ((v : Int) + 1), .slice (some ⟨kb, 0, none⟩) 2 2, .slice none 0 0, .int .i64 0, .int .i64 3, .int .i64 ((v : Int) + 2), .slice (some ⟨kb, 0, none⟩) 2 2, .slice none 0 0, .int .i64 0, .int .i64 3, .int .i64 ((v : Int) + 2), .slice (some ⟨ob, 0, none⟩) 2 2, .slice none 0 0, .int .i64 0] 50)) := hb6.alloc hb6.size _
    have h7 := hb7.size
    have h5 := hB5.size
    have hkp : Kept (fun b => b < w4.heap.size) w4 W8 := ⟨by have := hg.size; omega, fun b hb _ => (hg.block b (by omega) (fun e => hap b hb e.symm)).trans ((hb7.block b (by omega)).trans (hB5.block b hb))⟩
    exact ⟨HA.out.2.1.move (fun _ ad e => by cases e; exact HA.out.2.2.2.1) hkp, HA.out.2.2.1.move (fun _ ad e => by cases e; exact HA.out.2.2.2.2.1) hkp⟩
  clear hR5 hg5 hat5 hB5 hap hap2
  unfold Hid
  go_wp2_with (first
    | (at_builtin; refine wpList_append_rows (K := kDd) (ok := fun _ => True) eltD rfl (.tmp 31) (.tmp 61) rfl w.heap.size (.slice a5 k c5) ds rfl HR7.out.1 (some ⟨w5.heap.size + 1, 0, none⟩) 7 7 [⟨1, v, keyK ky, [bv, 7], 0⟩, ⟨3, ((v : Int) + 1), keyK ky, [], 0⟩, ⟨3, v, keyK ot, [], 0⟩, ⟨3, ((v : Int) + 1), keyK ot, [], 0⟩, ⟨2, ((v : Int) + 1), keyK ky, [], 0⟩, ⟨3, ((v : Int) + 2), keyK ky, [], 0⟩, ⟨3, ((v : Int) + 2), keyK ot, [], 0⟩] rfl rfl HR7.out.2.1 (fun _ _ _ _ => trivial) (fun _ _ q => q) (by rw [← HK.out]; omega) (by decide) HR7.out.2.2.size ?_; intro v8 w8 hR8 hg8 hat8; refine hidGoal ?_))
  have hB8 : Below w.heap.size w w8 := below_grown HR7.out.2.2 HR7.out.2.2.size hg8 (fun r e => (rows_lt HR7.out.1 r e).1)
  obtain ⟨hko1, hko2⟩ := HKO.out _ hg8
  obtain ⟨a9, c9, e9, hP⟩ := play_more ds [⟨1, v, keyK ky, [bv, 7], 0⟩, ⟨3, ((v : Int) + 1), keyK ky, [], 0⟩, ⟨3, v, keyK ot, [], 0⟩, ⟨3, ((v : Int) + 1), keyK ot, [], 0⟩, ⟨2, ((v : Int) + 1), keyK ky, [], 0⟩, ⟨3, ((v : Int) + 2), keyK ky, [], 0⟩, ⟨3, ((v : Int) + 2), keyK ot, [], 0⟩] k 7 HK.out.symm rfl (by omega) (by omega) _ w8 v8 hR8
  subst e9
  rw [tells_play (playK [[]] ds).2 v HA.out.2.2.2.2.2.symm (keyK ky) (keyK ot) [bv, 7] (by simp [keyK]) (by simp [keyK]) (by simp)] at hP
  obtain ⟨now, hnow⟩ : ∃ now, now = (playK [[]] ds).2.getD v [] := ⟨_, rfl⟩
  rw [← hnow] at hP
  have HW8 := put_by (And.intro hB8 (And.intro hko1 hko2))
  have HP := put_by hP
  clear hnow hP hB8 hko1 hko2 hR8 hg8 hat8 HR7 HKO HL4 HB4 HA
  generalize hr0 : lookF now (keyK ot) = r0 at HP
  generalize hr1 : lookF (putK now (keyK ky, [bv, 7])) (keyK ot) = r1 at HP
  generalize hr2 : lookF (dropK (putK now (keyK ky, [bv, 7])) (keyK ky)) (keyK ot) = r2 at HP
  have HRR : Hid (¬ keyK ky = keyK ot → r1 = r0 ∧ r2 = r0) := fun hne => by
    rw [← hr0, ← hr1, ← hr2]
    unfold lookF
    rw [lookK_dropK_other hne, lookK_putK_other (x := (keyK ky, [bv, 7])) hne]
    exact ⟨rfl, rfl⟩
  clear hr0 hr1 hr2
  have hk7 : IntKind.i64.wrap ((k : Int) + 7) = (k : Int) + 7 := by
    rw [IntKind.wrap_i64]
    omega
  unfold Hid
  go_upto_region 11 with (first
    | (go_at_call 9; refine HP.out.mono ?_; clear HP; rintro e w10 ⟨b, off, c', rfl, hc', H10⟩))
  have i1 : (k : Int) ≤ (k : Int) + 7 := by omega
  go_upto_region 12 with (fail)
  obtain ⟨va0, vn0, vc0, _, _, _, x00, x01, x02, -, HY0⟩ := fd_at H10.out.1 0 _ rfl
  obtain ⟨va1, vn1, vc1, _, _, _, x10, x11, x12, -, HY1⟩ := fd_at H10.out.1 1 _ rfl
  obtain ⟨va2, vn2, vc2, _, _, _, x20, x21, x22, -, HY2⟩ := fd_at H10.out.1 2 _ rfl
  obtain ⟨va3, vn3, vc3, _, _, _, x30, x31, x32, -, HY3⟩ := fd_at H10.out.1 3 _ rfl
  obtain ⟨va4, vn4, vc4, _, _, _, x40, x41, x42, -, HY4⟩ := fd_at H10.out.1 4 _ rfl
  obtain ⟨va5, vn5, vc5, _, _, _, x50, x51, x52, -, HY5⟩ := fd_at H10.out.1 5 _ rfl
  obtain ⟨va6, vn6, vc6, _, _, _, x60, x61, x62, -, HY6⟩ := fd_at H10.out.1 6 _ rfl
  simp only [Nat.zero_mul, Nat.add_zero, Nat.one_mul, Nat.reduceMul] at x00 x01 x02 x10 x11 x12 x20 x21 x22 x30 x31 x32 x40 x41 x42 x50 x51 x52 x60 x61 x62
  have hbw : b < w10.heap.size := World.block_lt_of_cell? _ _ x00
  have cS1 : Hid (Calls Try.prog 20 #[.slice va1 vn1 vc1, .slice (some ⟨w10.heap.size, 0, none⟩) 2 2] (w10.alloc (.cells #[.int .u8 bv, .int .u8 7] 5)) fun e w' => e = .returned (.bool true) ∧ Hid (Below w10.heap.size w10 w')) := by
    obtain ⟨q1, q2, -⟩ := HY1.out
    have hb : Below w10.heap.size w10 (w10.alloc (.cells #[.int .u8 bv, .int .u8 7] 5)) := (Below.refl _ w10).alloc (Nat.le_refl _) _
    have := sameBytesK_q va1 (some ⟨w10.heap.size, 0, none⟩) vc1 2 [bv, 7] [bv, 7] _ (q2.later hb) (octs_two w10 bv 7 HBV.out (by omega) _)
    rw [q1]
    refine this.mono ?_
    rintro e w' ⟨rfl, j, rfl⟩
    exact ⟨by simp, drawn_later hb j⟩
  have cS2 : Hid (∀ W, Below w10.heap.size w10 W → Calls Try.prog 20 #[.slice (some ⟨kb, 0, none⟩) 2 2, .slice (some ⟨ob, 0, none⟩) 2 2] W fun e w' => e = .returned (.bool (decide (keyK ky = keyK ot))) ∧ Hid (Below w10.heap.size w10 w')) := fun W hW => by
    have h8 := H10.out.2
    have := sameBytesK_q (some ⟨kb, 0, none⟩) (some ⟨ob, 0, none⟩) 2 2 (keyK ky) (keyK ot) W ((HW8.out.2.1.later h8).later hW) ((HW8.out.2.2.later h8).later hW)
    refine this.mono ?_
    rintro e w' ⟨rfl, j, rfl⟩
    exact ⟨rfl, drawn_later hW j⟩
  have cS3 : Hid (¬ keyK ky = keyK ot → r1 = r0 ∧ r2 = r0 ∧ ∀ W, Below w10.heap.size w10 W → (Calls Try.prog 20 #[.slice va2 vn2 vc2, .slice va3 vn3 vc3] W fun e w' => e = .returned (.bool true) ∧ ∃ j, w' = W.drewN j) ∧ (Calls Try.prog 20 #[.slice va3 vn3 vc3, .slice va6 vn6 vc6] W fun e w' => e = .returned (.bool true) ∧ ∃ j, w' = W.drewN j)) := fun hne => by
    obtain ⟨e1, e2⟩ := HRR.out hne
    refine ⟨e1, e2, fun W hW => ?_⟩
    obtain ⟨p1, p2, -⟩ := HY2.out
    obtain ⟨q1, q2, -⟩ := HY3.out
    obtain ⟨s1, s2, -⟩ := HY6.out
    rw [e1] at q1 q2
    rw [e2] at s1 s2
    rw [p1, q1, s1]
    refine ⟨(sameBytesK_q va2 va3 vc2 vc3 r0.val r0.val W (p2.later hW) (q2.later hW)).mono ?_, (sameBytesK_q va3 va6 vc3 vc6 r0.val r0.val W (q2.later hW) (s2.later hW)).mono ?_⟩
    · rintro e w' ⟨rfl, j, rfl⟩
      exact ⟨by simp, j, rfl⟩
    · rintro e w' ⟨rfl, j, rfl⟩
      exact ⟨by simp, j, rfl⟩
  have HW10 : Hid (Below w.heap.size w w10) := HW8.out.1.trans (H10.out.2.mono HW8.out.1.size)
  clear HY0 HY1 HY2 HY3 HY4 HY5 HY6 H10 HRR HW8
  have HX : Hid (∀ W, Below w10.heap.size w10 W → (∀ j x, w10.cell? ⟨b, j, none⟩ = some x → W.cell? ⟨b, j, none⟩ = some x)) := fun W hW j x hx => (hW.cell (p := ⟨b, j, none⟩) hbw).trans hx
  go_upto_region 14 with (first
    | (go_at_call 20; (with_reducible refine cS1.out.mono ?_); clear cS1; rintro e w11 ⟨rfl, H11⟩; have y00 := HX.out _ H11.out _ _ x00; have y01 := HX.out _ H11.out _ _ x01; have y02 := HX.out _ H11.out _ _ x02; have y10 := HX.out _ H11.out _ _ x10; have y11 := HX.out _ H11.out _ _ x11; have y12 := HX.out _ H11.out _ _ x12; have y20 := HX.out _ H11.out _ _ x20; have y21 := HX.out _ H11.out _ _ x21; have y22 := HX.out _ H11.out _ _ x22; have y30 := HX.out _ H11.out _ _ x30; have y31 := HX.out _ H11.out _ _ x31; have y32 := HX.out _ H11.out _ _ x32; have y40 := HX.out _ H11.out _ _ x40; have y41 := HX.out _ H11.out _ _ x41; have y42 := HX.out _ H11.out _ _ x42; have y50 := HX.out _ H11.out _ _ x50; have y51 := HX.out _ H11.out _ _ x51; have y52 := HX.out _ H11.out _ _ x52; have y60 := HX.out _ H11.out _ _ x60; have y61 := HX.out _ H11.out _ _ x61; have y62 := HX.out _ H11.out _ _ x62))
  have cS4 := put_by (cS2.out _ H11.out)
  have HX' := HX
  clear cS2
  by_cases hkk : keyK ky = keyK ot
  · have e1 : decide (keyK ky = keyK ot) = true := decide_eq_true hkk
    rw [e1] at cS4
    clear e1 hkk cS3
    go_wp2_with (first
      | (go_at_call 20; (with_reducible refine cS4.out.mono ?_); clear cS4; rintro e w12 ⟨rfl, H12⟩))
    go_ret
    exact ⟨rfl, HW10.out.trans (H12.out.mono HW10.out.size)⟩
  · have e1 : decide (keyK ky = keyK ot) = false := decide_eq_false hkk
    rw [e1] at cS4
    obtain ⟨rfl, rfl, hq⟩ := cS3.out hkk
    have HQ := put_by hq
    clear e1 hkk cS3 hq
    go_upto_region 16 with (first
      | (go_at_call 20; (with_reducible refine cS4.out.mono ?_); clear cS4; rintro e w12 ⟨rfl, H12⟩; have z20 := HX.out _ H12.out _ _ x20; have z22 := HX.out _ H12.out _ _ x22; have z30 := HX.out _ H12.out _ _ x30; have z32 := HX.out _ H12.out _ _ x32; have z60 := HX.out _ H12.out _ _ x60; have z62 := HX.out _ H12.out _ _ x62))
    have cQ2 : Hid (∀ i, Calls Try.prog 20 #[.slice va2 vn2 vc2, .slice va3 vn3 vc3] (w12.drewN i) fun e w' => e = .returned (.bool true) ∧ ∃ j, w' = (w12.drewN i).drewN j) := fun i => (HQ.out _ (drawn_later H12.out i)).1
    have cQ3 : Hid (∀ i, Calls Try.prog 20 #[.slice va3 vn3 vc3, .slice va6 vn6 vc6] (w12.drewN i) fun e w' => e = .returned (.bool true) ∧ ∃ j, w' = (w12.drewN i).drewN j) := fun i => (HQ.out _ (drawn_later H12.out i)).2
    have H13 : Hid (∀ i, Below w.heap.size w (w12.drewN i)) := fun i => drawn_later (HW10.out.trans (H12.out.mono HW10.out.size)) i
    clear HQ HX HX' x00 y00 x01 y01 x02 y02 x10 y10 x11 y11 x12 y12 x20 y20 x21 y21 x22 y22 x30 y30 x31 y31 x32 y32 x40 y40 x41 y41 x42 y42 x50 y50 x51 y51 x52 y52 x60 y60 x61 y61 x62 y62
    generalize r2.code = rc at *
    go_quiet (first
      | (go_at_call 20; first | with_reducible exact Calls.quiet_of (cQ2.out _) | with_reducible exact Calls.quiet_of (cQ3.out _)))
    go_wp2
    go_ret
    exact ⟨rfl, H13.out _⟩

end Go.Proofs.Ytdjiplheomoljaa
