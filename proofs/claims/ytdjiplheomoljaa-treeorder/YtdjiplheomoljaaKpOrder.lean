/- In whichever order keys were put, the same stands there. -/
import Derived.Test.YtdjiplheomoljaaKpPair
import Derived.Test.YtdjiplheomoljaaKpDeeds
import Derived.Test.YtdjiplheomoljaaRtSameK
namespace Go.Proofs.Ytdjiplheomoljaa
open Go.ChangeShapes Go.WideShapes Go.ChangeAt Go.RowKit

/-- two keys and two values of one byte -/
structure FourB (W : World) (kb ob xb yb : Nat) (ky ot : Int) : Prop where
  k : Octs W (some ⟨kb, 0, none⟩) 2 (keyK ky)
  o : Octs W (some ⟨ob, 0, none⟩) 2 (keyK ot)
  x : Octs W (some ⟨xb, 0, none⟩) 1 [1]
  y : Octs W (some ⟨yb, 0, none⟩) 1 [2]
  lk : kb < W.heap.size
  lo : ob < W.heap.size
  lx : xb < W.heap.size
  ly : yb < W.heap.size

theorem FourB.later {W W' : World} {kb ob xb yb : Nat} {ky ot : Int} (h : FourB W kb ob xb yb ky ot) (hb : Below W.heap.size W W') : FourB W' kb ob xb yb ky ot :=
  ⟨h.k.later hb, h.o.later hb, h.x.later hb, h.y.later hb, Nat.lt_of_lt_of_le h.lk hb.size, Nat.lt_of_lt_of_le h.lo hb.size, Nat.lt_of_lt_of_le h.lx hb.size, Nat.lt_of_lt_of_le h.ly hb.size⟩

theorem DeedsAt.later {w W W' : World} {n k : Nat} {a : Option Addr} {c : Nat} {ds : List Dd} (h : DeedsAt w n k a c ds W) (hb : Below W.heap.size W W') : DeedsAt w n k a c ds W' := by
  obtain ⟨e1, e2, e3, e4, e5⟩ := h
  exact ⟨e1, e2, e3, e4.later hb, e5.trans (hb.mono e5.size)⟩

set_option maxRecDepth 100000 in
set_option maxHeartbeats 16000000 in
theorem TreeOrder_any (ms : List Mv) (la : Option Addr) (lc ln : Nat) (hln : ln = ms.length) (ky ot : Int) (w : World) (hL : Lies kMv (fun _ => True) w la lc ms) :
    Calls Try.prog 8 #[.slice la ln lc, .int .i64 ky, .int .i64 ot] w fun e w' => e = .returned (.bool true) ∧ Below w.heap.size w w' := by
  have cD := put_by (Deeds_at ms 20 (by omega) true la lc ln hln w hL)
  clear hln hL
  go_enter Try.func8, Try.ntmps8
  go_wp2_with (first
    | (go_at_call 12; refine cD.out.mono ?_; clear cD; rintro e w1 ⟨k, a, c, rfl, ds, H1⟩; have cM := put_by (made_at H1.out (by omega)))
    | (go_at_call 14; refine cM.out.mono ?_; clear cM; rintro e w2 ⟨v, rfl, hvk, H2⟩; refine hidGoal ?_))
  have hk30 : k ≤ 20 := H1.out.2.1
  have cK1 : Hid (∀ W : World, Calls Try.prog 19 #[.int .i64 ky] W fun e w' => e = .returned (.slice (some ⟨W.heap.size, 0, none⟩) 2 2) ∧ Hid (Octs w' (some ⟨W.heap.size, 0, none⟩) 2 (keyK ky) ∧ W.heap.size < w'.heap.size ∧ Below W.heap.size W w')) := fun W => keyOf_any ky W
  have cK2 : Hid (∀ W : World, Calls Try.prog 19 #[.int .i64 ot] W fun e w' => e = .returned (.slice (some ⟨W.heap.size, 0, none⟩) 2 2) ∧ Hid (Octs w' (some ⟨W.heap.size, 0, none⟩) 2 (keyK ot) ∧ W.heap.size < w'.heap.size ∧ Below W.heap.size W w')) := fun W => keyOf_any ot W
  unfold Hid
  go_upto_region 7 with (first
    | (go_at_call 19; (with_reducible refine (cK1.out _).mono ?_); clear cK1; rintro e w3 ⟨rfl, H3⟩)
    | (go_at_call 19; (with_reducible refine (cK2.out _).mono ?_); clear cK2; rintro e w4 ⟨rfl, H4⟩))
  have HA : Hid (DeedsAt w 20 k a c ds ((w4.alloc (.cells #[.int .u8 2] 5)).alloc (.cells #[.int .i64 1, .int .i64 v, .slice (some ⟨w3.heap.size + 1 + 1, 0, none⟩) 2 2, .slice (some ⟨w4.heap.size, 0, none⟩) 1 1, .int .i64 0] 50)) ∧
      FourB ((w4.alloc (.cells #[.int .u8 2] 5)).alloc (.cells #[.int .i64 1, .int .i64 v, .slice (some ⟨w3.heap.size + 1 + 1, 0, none⟩) 2 2, .slice (some ⟨w4.heap.size, 0, none⟩) 1 1, .int .i64 0] 50)) w2.heap.size (w3.heap.size + 1 + 1) w3.heap.size w4.heap.size ky ot ∧
      Five ((w4.alloc (.cells #[.int .u8 2] 5)).alloc (.cells #[.int .i64 1, .int .i64 v, .slice (some ⟨w3.heap.size + 1 + 1, 0, none⟩) 2 2, .slice (some ⟨w4.heap.size, 0, none⟩) 1 1, .int .i64 0] 50)) (w3.heap.size + 1) (.int .i64 1) (.int .i64 v) (.slice (some ⟨w2.heap.size, 0, none⟩) 2 2) (.slice (some ⟨w3.heap.size, 0, none⟩) 1 1) (.int .i64 0) ∧
      Five ((w4.alloc (.cells #[.int .u8 2] 5)).alloc (.cells #[.int .i64 1, .int .i64 v, .slice (some ⟨w3.heap.size + 1 + 1, 0, none⟩) 2 2, .slice (some ⟨w4.heap.size, 0, none⟩) 1 1, .int .i64 0] 50)) (w4.heap.size + 1) (.int .i64 1) (.int .i64 v) (.slice (some ⟨w3.heap.size + 1 + 1, 0, none⟩) 2 2) (.slice (some ⟨w4.heap.size, 0, none⟩) 1 1) (.int .i64 0) ∧ v + 1 = (playK [[]] ds).2.length) := by
    obtain ⟨q1, q2, -⟩ := H2.out
    obtain ⟨r1, r2, r3⟩ := H3.out
    obtain ⟨s1, s2, s3⟩ := H4.out
    have x1 := octs_one w3 1 (by omega) 5
    have hb31 : Below w3.heap.size w3 (w3.alloc (.cells #[.int .u8 1] 5)) := (Below.refl _ w3).alloc (Nat.le_refl _) _
    have f1 := Five.of_block (heap_alloc_new (w3.alloc (.cells #[.int .u8 1] 5)) (.cells #[.int .i64 1, .int .i64 v, .slice (some ⟨w2.heap.size, 0, none⟩) 2 2, .slice (some ⟨w3.heap.size, 0, none⟩) 1 1, .int .i64 0] 50))
    have hb32 : Below (w3.alloc (.cells #[.int .u8 1] 5)).heap.size (w3.alloc (.cells #[.int .u8 1] 5)) ((w3.alloc (.cells #[.int .u8 1] 5)).alloc (.cells #[.int .i64 1, .int .i64 v, .slice (some ⟨w2.heap.size, 0, none⟩) 2 2, .slice (some ⟨w3.heap.size, 0, none⟩) 1 1, .int .i64 0] 50)) := (Below.refl _ _).alloc (Nat.le_refl _) _
    have hs3 : ((w3.alloc (.cells #[.int .u8 1] 5)).alloc (.cells #[.int .i64 1, .int .i64 v, .slice (some ⟨w2.heap.size, 0, none⟩) 2 2, .slice (some ⟨w3.heap.size, 0, none⟩) 1 1, .int .i64 0] 50)).heap.size = w3.heap.size + 1 + 1 := by rw [alloc_size, alloc_size]
    have x2 := octs_one w4 2 (by omega) 5
    have hb41 : Below w4.heap.size w4 (w4.alloc (.cells #[.int .u8 2] 5)) := (Below.refl _ w4).alloc (Nat.le_refl _) _
    have f2 := Five.of_block (heap_alloc_new (w4.alloc (.cells #[.int .u8 2] 5)) (.cells #[.int .i64 1, .int .i64 v, .slice (some ⟨w3.heap.size + 1 + 1, 0, none⟩) 2 2, .slice (some ⟨w4.heap.size, 0, none⟩) 1 1, .int .i64 0] 50))
    have hb42 : Below (w4.alloc (.cells #[.int .u8 2] 5)).heap.size (w4.alloc (.cells #[.int .u8 2] 5)) ((w4.alloc (.cells #[.int .u8 2] 5)).alloc (.cells #[.int .i64 1, .int .i64 v, .slice (some ⟨w3.heap.size + 1 + 1, 0, none⟩) 2 2, .slice (some ⟨w4.heap.size, 0, none⟩) 1 1, .int .i64 0] 50)) := (Below.refl _ _).alloc (Nat.le_refl _) _
    have hs4 : ((w4.alloc (.cells #[.int .u8 2] 5)).alloc (.cells #[.int .i64 1, .int .i64 v, .slice (some ⟨w3.heap.size + 1 + 1, 0, none⟩) 2 2, .slice (some ⟨w4.heap.size, 0, none⟩) 1 1, .int .i64 0] 50)).heap.size = w4.heap.size + 1 + 1 := by rw [alloc_size, alloc_size]
    rw [alloc_size] at f1 f2
    have hz3 := s3.size
    rw [hs3] at s1 s2 hz3
    have hbe : Below w3.heap.size w3 w4 := (hb31.trans (hb32.mono hb31.size)).trans (s3.mono (by rw [hs3]; omega))
    have hb4 : Below w4.heap.size w4 ((w4.alloc (.cells #[.int .u8 2] 5)).alloc (.cells #[.int .i64 1, .int .i64 v, .slice (some ⟨w3.heap.size + 1 + 1, 0, none⟩) 2 2, .slice (some ⟨w4.heap.size, 0, none⟩) 1 1, .int .i64 0] 50)) := hb41.trans (hb42.mono hb41.size)
    refine ⟨((q2.later r3).later hbe).later hb4, ⟨(r1.later hbe).later hb4, s1.later hb4, (((x1.later hb32).later s3).later hb4), x2.later hb42, ?_, ?_, ?_, ?_⟩, (f1.later s3).later hb4, f2, q1⟩
    all_goals rw [hs4]; omega
  generalize (w4.alloc (.cells #[.int .u8 2] 5)).alloc (.cells #[.int .i64 1, .int .i64 v, .slice (some ⟨w3.heap.size + 1 + 1, 0, none⟩) 2 2, .slice (some ⟨w4.heap.size, 0, none⟩) 1 1, .int .i64 0] 50) = V at HA ⊢
  clear H1 H2 H3 H4
  generalize w3.heap.size + 1 + 1 = ob at HA ⊢
  generalize w3.heap.size + 1 = KV at HA ⊢
  generalize w3.heap.size = xb at HA ⊢
  generalize w2.heap.size = kb at HA ⊢
  generalize w4.heap.size + 1 = MV at HA ⊢
  generalize w4.heap.size = yb at HA ⊢
  have cS : Hid (Calls Try.prog 20 #[.slice (some ⟨kb, 0, none⟩) 2 2, .slice (some ⟨ob, 0, none⟩) 2 2] V fun e w' => e = .returned (.bool (decide (keyK ky = keyK ot))) ∧ Hid (Below V.heap.size V w')) := by
    refine (sameBytesK_q (some ⟨kb, 0, none⟩) (some ⟨ob, 0, none⟩) 2 2 (keyK ky) (keyK ot) V HA.out.2.1.k HA.out.2.1.o).mono ?_
    rintro e w' ⟨rfl, j, rfl⟩
    exact ⟨rfl, drawn_later (Below.refl _ V) j⟩
  obtain ⟨k0, k1, k2, k3, k4, -, -, -, -, -⟩ := id HA.out.2.2.1
  obtain ⟨m0, m1, m2, m3, m4, -, -, -, -, -⟩ := id HA.out.2.2.2.1
  by_cases hkk : keyK ky = keyK ot
  · have e1 : decide (keyK ky = keyK ot) = true := decide_eq_true hkk
    rw [e1] at cS
    clear e1 hkk
    go_wp2_with (first
      | (go_at_call 20; (with_reducible refine cS.out.mono ?_); clear cS; rintro e w5 ⟨rfl, H5⟩))
    go_ret
    exact ⟨rfl, (HA.out.1.later H5.out).2.2.2.2⟩
  have e1 : decide (keyK ky = keyK ot) = false := decide_eq_false hkk
  rw [e1] at cS
  have HKK := put_by hkk
  clear e1 hkk
  have hv1 : IntKind.i64.wrap ((v : Int) + 1) = (v : Int) + 1 := by
    rw [IntKind.wrap_i64]
    omega
  have hv2 : IntKind.i64.wrap ((v : Int) + 2) = (v : Int) + 2 := by
    rw [IntKind.wrap_i64]
    omega
  go_upto_region 13 with (first
    | (go_at_call 20; (with_reducible refine cS.out.mono ?_); clear cS; rintro e w5 ⟨rfl, H5⟩; obtain ⟨p0, p1, p2, p3, p4, -, -, -, -, -⟩ := id (HA.out.2.2.1.later H5.out); obtain ⟨n0, n1, n2, n3, n4, -, -, -, -, -⟩ := id (HA.out.2.2.2.1.later H5.out); have hM5 : MV < w5.heap.size := (HA.out.2.2.2.1.later H5.out).lt; have hK5 : KV < w5.heap.size := (HA.out.2.2.1.later H5.out).lt; have u0 : (w5.alloc (.cells #[.int .i64 1, .int .i64 v, .slice (some ⟨kb, 0, none⟩) 2 2, .slice (some ⟨xb, 0, none⟩) 1 1, .int .i64 0] 50)).cell? ⟨MV, 0, none⟩ = _ := (World.cell?_alloc_some _ _ _ (by rw [n0]; rfl)).trans n0; have u1 : (w5.alloc (.cells #[.int .i64 1, .int .i64 v, .slice (some ⟨kb, 0, none⟩) 2 2, .slice (some ⟨xb, 0, none⟩) 1 1, .int .i64 0] 50)).cell? ⟨MV, 1, none⟩ = _ := (World.cell?_alloc_some _ _ _ (by rw [n1]; rfl)).trans n1; have u2 : (w5.alloc (.cells #[.int .i64 1, .int .i64 v, .slice (some ⟨kb, 0, none⟩) 2 2, .slice (some ⟨xb, 0, none⟩) 1 1, .int .i64 0] 50)).cell? ⟨MV, 2, none⟩ = _ := (World.cell?_alloc_some _ _ _ (by rw [n2]; rfl)).trans n2; have u3 : (w5.alloc (.cells #[.int .i64 1, .int .i64 v, .slice (some ⟨kb, 0, none⟩) 2 2, .slice (some ⟨xb, 0, none⟩) 1 1, .int .i64 0] 50)).cell? ⟨MV, 3, none⟩ = _ := (World.cell?_alloc_some _ _ _ (by rw [n3]; rfl)).trans n3; have u4 : (w5.alloc (.cells #[.int .i64 1, .int .i64 v, .slice (some ⟨kb, 0, none⟩) 2 2, .slice (some ⟨xb, 0, none⟩) 1 1, .int .i64 0] 50)).cell? ⟨MV, 4, none⟩ = _ := (World.cell?_alloc_some _ _ _ (by rw [n4]; rfl)).trans n4))
  have HB : Hid (DeedsAt w 20 k a c ds ((w5.alloc (.cells #[.int .i64 1, .int .i64 ((v : Int) + 1), .slice (some ⟨kb, 0, none⟩) 2 2, .slice (some ⟨xb, 0, none⟩) 1 1, .int .i64 0] 50)).alloc (.cells #[.int .i64 1, .int .i64 ((v : Int) + 1), .slice (some ⟨ob, 0, none⟩) 2 2, .slice (some ⟨yb, 0, none⟩) 1 1, .int .i64 0] 50)) ∧ FourB ((w5.alloc (.cells #[.int .i64 1, .int .i64 ((v : Int) + 1), .slice (some ⟨kb, 0, none⟩) 2 2, .slice (some ⟨xb, 0, none⟩) 1 1, .int .i64 0] 50)).alloc (.cells #[.int .i64 1, .int .i64 ((v : Int) + 1), .slice (some ⟨ob, 0, none⟩) 2 2, .slice (some ⟨yb, 0, none⟩) 1 1, .int .i64 0] 50)) kb ob xb yb ky ot ∧ Five ((w5.alloc (.cells #[.int .i64 1, .int .i64 ((v : Int) + 1), .slice (some ⟨kb, 0, none⟩) 2 2, .slice (some ⟨xb, 0, none⟩) 1 1, .int .i64 0] 50)).alloc (.cells #[.int .i64 1, .int .i64 ((v : Int) + 1), .slice (some ⟨ob, 0, none⟩) 2 2, .slice (some ⟨yb, 0, none⟩) 1 1, .int .i64 0] 50)) KV (.int .i64 1) (.int .i64 v) (.slice (some ⟨kb, 0, none⟩) 2 2) (.slice (some ⟨xb, 0, none⟩) 1 1) (.int .i64 0) ∧ Five ((w5.alloc (.cells #[.int .i64 1, .int .i64 ((v : Int) + 1), .slice (some ⟨kb, 0, none⟩) 2 2, .slice (some ⟨xb, 0, none⟩) 1 1, .int .i64 0] 50)).alloc (.cells #[.int .i64 1, .int .i64 ((v : Int) + 1), .slice (some ⟨ob, 0, none⟩) 2 2, .slice (some ⟨yb, 0, none⟩) 1 1, .int .i64 0] 50)) MV (.int .i64 1) (.int .i64 v) (.slice (some ⟨ob, 0, none⟩) 2 2) (.slice (some ⟨yb, 0, none⟩) 1 1) (.int .i64 0) ∧ Five ((w5.alloc (.cells #[.int .i64 1, .int .i64 ((v : Int) + 1), .slice (some ⟨kb, 0, none⟩) 2 2, .slice (some ⟨xb, 0, none⟩) 1 1, .int .i64 0] 50)).alloc (.cells #[.int .i64 1, .int .i64 ((v : Int) + 1), .slice (some ⟨ob, 0, none⟩) 2 2, .slice (some ⟨yb, 0, none⟩) 1 1, .int .i64 0] 50)) w5.heap.size (.int .i64 1) (.int .i64 ((v : Int) + 1)) (.slice (some ⟨kb, 0, none⟩) 2 2) (.slice (some ⟨xb, 0, none⟩) 1 1) (.int .i64 0) ∧ Five ((w5.alloc (.cells #[.int .i64 1, .int .i64 ((v : Int) + 1), .slice (some ⟨kb, 0, none⟩) 2 2, .slice (some ⟨xb, 0, none⟩) 1 1, .int .i64 0] 50)).alloc (.cells #[.int .i64 1, .int .i64 ((v : Int) + 1), .slice (some ⟨ob, 0, none⟩) 2 2, .slice (some ⟨yb, 0, none⟩) 1 1, .int .i64 0] 50)) (w5.heap.size + 1) (.int .i64 1) (.int .i64 ((v : Int) + 1)) (.slice (some ⟨ob, 0, none⟩) 2 2) (.slice (some ⟨yb, 0, none⟩) 1 1) (.int .i64 0)) := by
    have h1 := H5.out
    have hb1 : Below w5.heap.size w5 (w5.alloc (.cells #[.int .i64 1, .int .i64 ((v : Int) + 1), .slice (some ⟨kb, 0, none⟩) 2 2, .slice (some ⟨xb, 0, none⟩) 1 1, .int .i64 0] 50)) := (Below.refl _ w5).alloc (Nat.le_refl _) _
    have f1 := Five.of_block (heap_alloc_new w5 (.cells #[.int .i64 1, .int .i64 ((v : Int) + 1), .slice (some ⟨kb, 0, none⟩) 2 2, .slice (some ⟨xb, 0, none⟩) 1 1, .int .i64 0] 50))
    have hb2 : Below (w5.alloc (.cells #[.int .i64 1, .int .i64 ((v : Int) + 1), .slice (some ⟨kb, 0, none⟩) 2 2, .slice (some ⟨xb, 0, none⟩) 1 1, .int .i64 0] 50)).heap.size (w5.alloc (.cells #[.int .i64 1, .int .i64 ((v : Int) + 1), .slice (some ⟨kb, 0, none⟩) 2 2, .slice (some ⟨xb, 0, none⟩) 1 1, .int .i64 0] 50)) ((w5.alloc (.cells #[.int .i64 1, .int .i64 ((v : Int) + 1), .slice (some ⟨kb, 0, none⟩) 2 2, .slice (some ⟨xb, 0, none⟩) 1 1, .int .i64 0] 50)).alloc (.cells #[.int .i64 1, .int .i64 ((v : Int) + 1), .slice (some ⟨ob, 0, none⟩) 2 2, .slice (some ⟨yb, 0, none⟩) 1 1, .int .i64 0] 50)) := (Below.refl _ _).alloc (Nat.le_refl _) _
    have f2 := Five.of_block (heap_alloc_new (w5.alloc (.cells #[.int .i64 1, .int .i64 ((v : Int) + 1), .slice (some ⟨kb, 0, none⟩) 2 2, .slice (some ⟨xb, 0, none⟩) 1 1, .int .i64 0] 50)) (.cells #[.int .i64 1, .int .i64 ((v : Int) + 1), .slice (some ⟨ob, 0, none⟩) 2 2, .slice (some ⟨yb, 0, none⟩) 1 1, .int .i64 0] 50))
    rw [alloc_size] at f2
    have hb := hb1.trans (hb2.mono hb1.size)
    exact ⟨(HA.out.1.later h1).later hb, (HA.out.2.1.later h1).later hb, (HA.out.2.2.1.later h1).later hb, (HA.out.2.2.2.1.later h1).later hb, f1.later hb2, f2⟩
  generalize ((w5.alloc (.cells #[.int .i64 1, .int .i64 ((v : Int) + 1), .slice (some ⟨kb, 0, none⟩) 2 2, .slice (some ⟨xb, 0, none⟩) 1 1, .int .i64 0] 50)).alloc (.cells #[.int .i64 1, .int .i64 ((v : Int) + 1), .slice (some ⟨ob, 0, none⟩) 2 2, .slice (some ⟨yb, 0, none⟩) 1 1, .int .i64 0] 50)) = V2 at HB ⊢
  have HVN := put_by HA.out.2.2.2.2
  clear HA H5 p0 p1 p2 p3 p4 n0 n1 n2 n3 n4 u0 u1 u2 u3 u4 hM5 hK5 k0 k1 k2 k3 k4 m0 m1 m2 m3 m4
  generalize w5.heap.size + 1 = M2V at HB ⊢
  generalize w5.heap.size = K2V at HB ⊢
  have HK : Hid (k = ds.length) := HB.out.1.1.symm
  obtain ⟨now, hnow⟩ : ∃ now, now = (playK [[]] ds).2.getD v [] := ⟨_, rfl⟩
  have HNOW := put_by hnow
  have HASC : Hid (Asc now) := by rw [hnow]; exact now_asc ds v
  clear hnow
  go_cut [14, 15] from 50 to 61 (fun x f wx => ∃ (a1 : Option Addr) (n1 c1 : Nat), x = .slice a1 n1 c1 ∧ f = .bool true ∧ Hid (n1 = (putK (putK now (keyK ky, [1])) (keyK ot, [2])).length ∧ Lies kEnt (fun _ => True) wx a1 c1 (putK (putK now (keyK ky, [1])) (keyK ot, [2])) ∧ Below V2.heap.size V2 wx))
  case first =>
    have HSV : Hid (∀ W, Below V2.heap.size V2 W → (W.cell? ⟨KV, 0, none⟩ = some (.int .i64 1) ∧ W.cell? ⟨KV, 1, none⟩ = some (.int .i64 v) ∧ W.cell? ⟨KV, 2, none⟩ = some (.slice (some ⟨kb, 0, none⟩) 2 2) ∧ W.cell? ⟨KV, 3, none⟩ = some (.slice (some ⟨xb, 0, none⟩) 1 1) ∧ W.cell? ⟨KV, 4, none⟩ = some (.int .i64 0)) ∧ W.cell? ⟨M2V, 0, none⟩ = some (.int .i64 1) ∧ W.cell? ⟨M2V, 1, none⟩ = some (.int .i64 ((v : Int) + 1)) ∧ W.cell? ⟨M2V, 2, none⟩ = some (.slice (some ⟨ob, 0, none⟩) 2 2) ∧ W.cell? ⟨M2V, 3, none⟩ = some (.slice (some ⟨yb, 0, none⟩) 1 1) ∧ W.cell? ⟨M2V, 4, none⟩ = some (.int .i64 0)) := fun W hW => by
      obtain ⟨q0, q1, q2, q3, q4, -, -, -, -, -⟩ := HB.out.2.2.1.later hW
      obtain ⟨r0, r1, r2, r3, r4, -, -, -, -, -⟩ := HB.out.2.2.2.2.2.later hW
      exact ⟨⟨q0, q1, q2, q3, q4⟩, r0, r1, r2, r3, r4⟩
    have HD0 : Hid (Below V2.heap.size V2 V2.drew) := (Below.refl _ _).drew
    have hS := HSV.out _ HD0.out
    have hLO : Hid (∀ (P : Prop), (Ending.outgrown = .returned (.bool true) ∧ P) → False) := fun P hh => by cases hh.1
    refine region_plain (fun V => (V.cell? ⟨KV, 0, none⟩ = some (.int .i64 1) ∧ V.cell? ⟨KV, 1, none⟩ = some (.int .i64 v) ∧ V.cell? ⟨KV, 2, none⟩ = some (.slice (some ⟨kb, 0, none⟩) 2 2) ∧ V.cell? ⟨KV, 3, none⟩ = some (.slice (some ⟨xb, 0, none⟩) 1 1) ∧ V.cell? ⟨KV, 4, none⟩ = some (.int .i64 0)) ∧ V.cell? ⟨M2V, 0, none⟩ = some (.int .i64 1) ∧ V.cell? ⟨M2V, 1, none⟩ = some (.int .i64 ((v : Int) + 1)) ∧ V.cell? ⟨M2V, 2, none⟩ = some (.slice (some ⟨ob, 0, none⟩) 2 2) ∧ V.cell? ⟨M2V, 3, none⟩ = some (.slice (some ⟨yb, 0, none⟩) 1 1) ∧ V.cell? ⟨M2V, 4, none⟩ = some (.int .i64 0)) 13 (by kernel_rfl) ?_
    generalize V2.drew = Wd at HD0 hS ⊢
    refine V_takeX [13] (k := 0) (v := .slice a k c) rfl (by kernel_rfl) (by kernel_rfl) (by kernel_rfl) (by kernel_rfl) (by kernel_rfl) (by kernel_rfl) (fun _ _ _ h => h) (Or.inl ⟨by rfl, fun V hV => ?_⟩) hS ?_
    · obtain ⟨⟨z0, z1, z2, z3, z4⟩, y0, y1, y2, y3, y4⟩ := hV; go_simp
    simp only [Act.put, List.setIfInBounds_toArray]
    refine V_takeX [13] (k := 2) (v := .agg #[.int .i64 1, .int .i64 v, .slice (some ⟨kb, 0, none⟩) 2 2, .slice (some ⟨xb, 0, none⟩) 1 1, .int .i64 0]) rfl (by kernel_rfl) (by kernel_rfl) (by kernel_rfl) (by kernel_rfl) (by kernel_rfl) (by kernel_rfl) (fun _ _ _ h => h) (Or.inl ⟨by rfl, fun V hV => ?_⟩) hS ?_
    · obtain ⟨⟨z0, z1, z2, z3, z4⟩, y0, y1, y2, y3, y4⟩ := hV; go_simp
    simp only [Act.put]
    refine V_takeX [13] (k := 3) (v := .agg #[.int .i64 1, .int .i64 ((v : Int) + 1), .slice (some ⟨ob, 0, none⟩) 2 2, .slice (some ⟨yb, 0, none⟩) 1 1, .int .i64 0]) rfl (by kernel_rfl) (by kernel_rfl) (by kernel_rfl) (by kernel_rfl) (by kernel_rfl) (by kernel_rfl) (fun _ _ _ h => h) (Or.inl ⟨by rfl, fun V hV => ?_⟩) hS ?_
    · obtain ⟨⟨z0, z1, z2, z3, z4⟩, y0, y1, y2, y3, y4⟩ := hV; go_simp
    simp only [Act.put]
    refine V_takeX [13] (k := 6) (v := .int .i64 v) rfl (by kernel_rfl) (by kernel_rfl) (by kernel_rfl) (by kernel_rfl) (by kernel_rfl) (by kernel_rfl) (fun _ _ _ h => h) (Or.inl ⟨by rfl, fun V hV => ?_⟩) hS ?_
    · obtain ⟨⟨z0, z1, z2, z3, z4⟩, y0, y1, y2, y3, y4⟩ := hV; go_simp
    simp only [Act.put]
    refine V_takeX [13] (k := 7) (v := .int .i64 ((v : Int) + 2)) rfl (by kernel_rfl) (by kernel_rfl) (by kernel_rfl) (by kernel_rfl) (by kernel_rfl) (by kernel_rfl) (fun _ _ _ h => h) (Or.inl ⟨by rfl, fun V hV => ?_⟩) hS ?_
    · obtain ⟨⟨z0, z1, z2, z3, z4⟩, y0, y1, y2, y3, y4⟩ := hV; go_simp
    simp only [Act.put]
    refine U_two (i := 1) (j := 4) (by kernel_rfl) rfl rfl rfl rfl (fun K hK => ?_) (fun K hK => ?_)
    · have HLd : Hid (Lies kDd (fun b => b < Wd.heap.size) Wd a c ds) := ((HB.out.1.2.2.2.1.later HD0.out)).move (Kept.of_below (Below.refl _ _)) (fun b hb _ => hb)
      refine wp_of_list rfl (by rintro ⟨_, _, hh⟩; first | exact hh | exact hLO.out _ hh | cases hh.1) (wpList_append_rows (K := kDd) (ok := fun _ => True) eltD rfl (.const (.slice none 0 0)) (.tmp 51) rfl V2.heap.size (.slice none 0 0) [] rfl (Rows.nil _ _ _ _ _) a c k ds rfl HK.out HLd.out (fun _ _ _ _ => trivial) (fun _ _ _ => by simp [Value.ownBlock]) (by simp; omega) (by decide) (HD0.out).size (fun v6 w6 hR6 hg6 hat6 => ?_))
      rw [List.nil_append] at hR6
      have hB6 : Below Wd.heap.size Wd w6 := below_grown (Below.refl _ _) (Nat.le_refl _) hg6 (fun r e => by cases e)
      have hap : ∀ b, b < Wd.heap.size → v6.ownBlock ≠ some b := fun b hb e => by
        rcases hat6 with q | q
        · rw [q] at e; cases e
        · rw [q] at e; have := Option.some.inj e; omega
      have hap2 : ∀ g, v6.ownBlock = some g → g < w6.heap.size := fun g e => (rows_lt hR6 g e).2
      obtain ⟨a6, c6, e6⟩ := rows_form hR6
      rw [← HK.out] at e6
      subst e6
      have hB6v := HD0.out.trans (hB6.mono HD0.out.size)
      have HR6 := put_by (And.intro hR6 hB6v)
      have HAP := put_by (And.intro hap hap2)
      refine hK _ _ (fun _ => HSV.out _ hB6v) ?_
      clear hK K hg6 hat6
      refine U_one (i := 4) (by kernel_rfl) rfl rfl rfl (fun K hK => ?_)
      go_simp
      have HJ : Hid (Rows kDd (fun _ => True) (w6.alloc (.cells #[.int .i64 1, .int .i64 v, .slice (some ⟨kb, 0, none⟩) 2 2, .slice (some ⟨xb, 0, none⟩) 1 1, .int .i64 0, .int .i64 1, .int .i64 ((v : Int) + 1), .slice (some ⟨ob, 0, none⟩) 2 2, .slice (some ⟨yb, 0, none⟩) 1 1, .int .i64 0] 50)) V2.heap.size 50 (.slice a6 k c6) ds ∧ Lies kDd (fun b => (Value.slice a6 k c6).ownBlock ≠ some b) (w6.alloc (.cells #[.int .i64 1, .int .i64 v, .slice (some ⟨kb, 0, none⟩) 2 2, .slice (some ⟨xb, 0, none⟩) 1 1, .int .i64 0, .int .i64 1, .int .i64 ((v : Int) + 1), .slice (some ⟨ob, 0, none⟩) 2 2, .slice (some ⟨yb, 0, none⟩) 1 1, .int .i64 0] 50)) (some ⟨w6.heap.size, 0, none⟩) 2 [⟨1, v, keyK ky, [1], 0⟩, ⟨1, (v : Int) + 1, keyK ot, [2], 0⟩] ∧ Below V2.heap.size V2 (w6.alloc (.cells #[.int .i64 1, .int .i64 v, .slice (some ⟨kb, 0, none⟩) 2 2, .slice (some ⟨xb, 0, none⟩) 1 1, .int .i64 0, .int .i64 1, .int .i64 ((v : Int) + 1), .slice (some ⟨ob, 0, none⟩) 2 2, .slice (some ⟨yb, 0, none⟩) 1 1, .int .i64 0] 50))) := by
        have hbA : IsBody w6 (fun b => (Value.slice a6 k c6).ownBlock ≠ some b) (.slice (some ⟨kb, 0, none⟩) 2 2) (keyK ky) := ⟨_, _, rfl, (HB.out.2.1.k).later hB6v, fun _ ad e => by cases e; exact HAP.out.1 _ (Nat.lt_of_lt_of_le (HB.out.2.1.lk) HD0.out.size)⟩
        have hbX : IsBody w6 (fun b => (Value.slice a6 k c6).ownBlock ≠ some b) (.slice (some ⟨xb, 0, none⟩) 1 1) [1] := ⟨_, _, rfl, (HB.out.2.1.x).later hB6v, fun _ ad e => by cases e; exact HAP.out.1 _ (Nat.lt_of_lt_of_le (HB.out.2.1.lx) HD0.out.size)⟩
        have hbB : IsBody w6 (fun b => (Value.slice a6 k c6).ownBlock ≠ some b) (.slice (some ⟨ob, 0, none⟩) 2 2) (keyK ot) := ⟨_, _, rfl, (HB.out.2.1.o).later hB6v, fun _ ad e => by cases e; exact HAP.out.1 _ (Nat.lt_of_lt_of_le (HB.out.2.1.lo) HD0.out.size)⟩
        have hbY : IsBody w6 (fun b => (Value.slice a6 k c6).ownBlock ≠ some b) (.slice (some ⟨yb, 0, none⟩) 1 1) [2] := ⟨_, _, rfl, (HB.out.2.1.y).later hB6v, fun _ ad e => by cases e; exact HAP.out.1 _ (Nat.lt_of_lt_of_le (HB.out.2.1.ly) HD0.out.size)⟩
        have hb7 : Below w6.heap.size w6 (w6.alloc (.cells #[.int .i64 1, .int .i64 v, .slice (some ⟨kb, 0, none⟩) 2 2, .slice (some ⟨xb, 0, none⟩) 1 1, .int .i64 0, .int .i64 1, .int .i64 ((v : Int) + 1), .slice (some ⟨ob, 0, none⟩) 2 2, .slice (some ⟨yb, 0, none⟩) 1 1, .int .i64 0] 50)) := (Below.refl _ _).alloc (Nat.le_refl _) _
        exact ⟨HR6.out.1.later hb7, lies_many (K := kDd) (l := [⟨1, v, keyK ky, [1], 0⟩, ⟨1, (v : Int) + 1, keyK ot, [2], 0⟩]) (css := [[.int .i64 1, .int .i64 v, .slice (some ⟨kb, 0, none⟩) 2 2, .slice (some ⟨xb, 0, none⟩) 1 1, .int .i64 0], [.int .i64 1, .int .i64 ((v : Int) + 1), .slice (some ⟨ob, 0, none⟩) 2 2, .slice (some ⟨yb, 0, none⟩) 1 1, .int .i64 0]]) #[.int .i64 1, .int .i64 v, .slice (some ⟨kb, 0, none⟩) 2 2, .slice (some ⟨xb, 0, none⟩) 1 1, .int .i64 0, .int .i64 1, .int .i64 ((v : Int) + 1), .slice (some ⟨ob, 0, none⟩) 2 2, .slice (some ⟨yb, 0, none⟩) 1 1, .int .i64 0] rfl 50 ⟨⟨_, _, rfl, hbA, hbX⟩, ⟨_, _, rfl, hbB, hbY⟩, trivial⟩ (fun e => by have := HAP.out.2 _ e; omega) 2 (by simp), HR6.out.2.trans (hb7.mono HR6.out.2.size)⟩
      refine hK _ _ (fun _ => HSV.out _ HJ.out.2.2) ?_
      clear hK K HR6 HAP hR6 hap hap2 hB6 hB6v HLd
      generalize w6.heap.size = lb at HJ ⊢
      generalize w6.alloc _ = w7 at HJ ⊢
      refine U_one (i := 5) (by kernel_rfl) rfl rfl rfl (fun K hK => ?_)
      refine wp_of_list rfl (by rintro ⟨_, _, hh⟩; first | exact hh | exact hLO.out _ hh | cases hh.1) (wpList_append_rows (K := kDd) (ok := fun _ => True) eltD rfl (.tmp 52) (.tmp 55) rfl V2.heap.size (.slice a6 k c6) ds rfl HJ.out.1 (some ⟨lb, 0, none⟩) 2 2 [⟨1, v, keyK ky, [1], 0⟩, ⟨1, (v : Int) + 1, keyK ot, [2], 0⟩] rfl rfl HJ.out.2.1 (fun _ _ _ _ => trivial) (fun _ _ q => q) (by rw [← HK.out]; omega) (by decide) HJ.out.2.2.size (fun v8 w8 hR8 hg8 hat8 => ?_))
      have hB8 : Below V2.heap.size V2 w8 := below_grown HJ.out.2.2 HJ.out.2.2.size hg8 (fun r e => (rows_lt HJ.out.1 r e).1)
      obtain ⟨a8, c8, e8, h8, -, -, -⟩ := hR8.lies (fun _ _ => trivial)
      have hl8 : (ds ++ ([⟨1, v, keyK ky, [1], 0⟩, ⟨1, (v : Int) + 1, keyK ot, [2], 0⟩] : List Dd)).length = k + 2 := by rw [List.length_append, ← HK.out]; rfl
      rw [hl8] at e8
      subst e8
      obtain ⟨hpl, hpg⟩ := pair_last ds v HVN.out (keyK ky) (keyK ot) [1] [2] (by simp [keyK]) (by simp [keyK]) (by simp [keyK]) (by simp [keyK]) (by simp) (by simp)
      have HL9 : Hid (Calls Try.prog 15 #[.slice a8 (k + 2) c8, .int .i64 ((v : Int) + 2)] w8 fun e w9 => ∃ (a9 : Option Addr) (n9 c9 : Nat), e = .returned (.tuple #[.slice a9 n9 c9, .bool true]) ∧ Hid (n9 = (putK (putK now (keyK ky, [1])) (keyK ot, [2])).length ∧ Lies kEnt (fun _ => True) w9 a9 c9 (putK (putK now (keyK ky, [1])) (keyK ot, [2])) ∧ Below V2.heap.size V2 w9)) := by
        have := last_any (fun _ => True) (ds ++ [⟨1, v, keyK ky, [1], 0⟩, ⟨1, (v : Int) + 1, keyK ot, [2], 0⟩]) (by rw [hl8]; omega) (v + 2) (by rw [hpl]; omega) a8 c8 w8 h8
        rw [hl8, hpg, ← HNOW.out] at this
        refine this.mono ?_
        rintro e w9 ⟨a9, n9, c9, rfl, q1, q2, q3⟩
        exact ⟨a9, n9, c9, rfl, q1, q2, hB8.trans (q3.mono hB8.size)⟩
      have HS8 := put_by (HSV.out _ hB8)
      refine hK _ _ (fun _ => HS8.out) ?_
      clear hK K HJ hR8 hg8 hat8 h8 hpl hpg
      refine U_one (i := 8) (by kernel_rfl) rfl rfl rfl (fun K hK => ?_)
      go_simp
      refine HL9.out.mono ?_
      rintro e w9 ⟨a9, n9, c9, rfl, H9⟩
      have hS9 := HSV.out _ H9.out.2.2
      refine hK _ _ (fun _ => hS9) ?_
      clear hK K HL9 hB8 HS8
      refine U_one (i := 9) (by kernel_rfl) rfl rfl rfl (fun K hK => ?_)
      go_simp
      refine hK _ _ (fun _ => hS9) ?_
      clear hK K
      refine V_takeX [13] (k := 10) (v := .slice a9 n9 c9) rfl (by kernel_rfl) (by kernel_rfl) (by kernel_rfl) (by kernel_rfl) (by kernel_rfl) (by kernel_rfl) (fun _ _ _ h => h) (Or.inl ⟨by rfl, fun V hV => ?_⟩) hS9 ?_
      · obtain ⟨⟨z0, z1, z2, z3, z4⟩, y0, y1, y2, y3, y4⟩ := hV; go_simp
      simp only [Act.put]
      refine V_takeX [13] (k := 11) (v := .bool true) rfl (by kernel_rfl) (by kernel_rfl) (by kernel_rfl) (by kernel_rfl) (by kernel_rfl) (by kernel_rfl) (fun _ _ _ h => h) (Or.inl ⟨by rfl, fun V hV => ?_⟩) hS9 ?_
      · obtain ⟨⟨z0, z1, z2, z3, z4⟩, y0, y1, y2, y3, y4⟩ := hV; go_simp
      simp only [Act.put]
      refine U_one (i := 12) (by kernel_rfl) rfl rfl rfl (fun K hK => ?_)
      go_simp
      refine hK _ _ (fun _ => hS9) ?_
      clear hK K
      refine U_one (i := 13) (by kernel_rfl) rfl rfl rfl (fun K hK => ?_)
      go_simp
      refine hK _ _ (fun hh => by cases (show true = false from hh)) ?_
      clear hK K
      refine U_done (by kernel_rfl) ?_ _
      go_wp2
      go_meet
      exact ⟨a9, n9, c9, rfl, rfl, H9.out⟩
    · go_simp
      have hb7 : Below Wd.heap.size Wd (Wd.alloc (.cells #[.int .i64 1, .int .i64 v, .slice (some ⟨kb, 0, none⟩) 2 2, .slice (some ⟨xb, 0, none⟩) 1 1, .int .i64 0, .int .i64 1, .int .i64 ((v : Int) + 1), .slice (some ⟨ob, 0, none⟩) 2 2, .slice (some ⟨yb, 0, none⟩) 1 1, .int .i64 0] 50)) := (Below.refl _ _).alloc (Nat.le_refl _) _
      have HD1 : Hid (Below V2.heap.size V2 (Wd.alloc (.cells #[.int .i64 1, .int .i64 v, .slice (some ⟨kb, 0, none⟩) 2 2, .slice (some ⟨xb, 0, none⟩) 1 1, .int .i64 0, .int .i64 1, .int .i64 ((v : Int) + 1), .slice (some ⟨ob, 0, none⟩) 2 2, .slice (some ⟨yb, 0, none⟩) 1 1, .int .i64 0] 50))) := HD0.out.trans (hb7.mono HD0.out.size)
      refine hK _ _ (fun _ => HSV.out _ HD1.out) ?_
      clear hK K
      refine U_one (i := 1) (by kernel_rfl) rfl rfl rfl (fun K hK => ?_)
      have HLd : Hid (Lies kDd (fun b => b < (Wd.alloc (.cells #[.int .i64 1, .int .i64 v, .slice (some ⟨kb, 0, none⟩) 2 2, .slice (some ⟨xb, 0, none⟩) 1 1, .int .i64 0, .int .i64 1, .int .i64 ((v : Int) + 1), .slice (some ⟨ob, 0, none⟩) 2 2, .slice (some ⟨yb, 0, none⟩) 1 1, .int .i64 0] 50)).heap.size) (Wd.alloc (.cells #[.int .i64 1, .int .i64 v, .slice (some ⟨kb, 0, none⟩) 2 2, .slice (some ⟨xb, 0, none⟩) 1 1, .int .i64 0, .int .i64 1, .int .i64 ((v : Int) + 1), .slice (some ⟨ob, 0, none⟩) 2 2, .slice (some ⟨yb, 0, none⟩) 1 1, .int .i64 0] 50)) a c ds) := ((HB.out.1.2.2.2.1.later HD1.out)).move (Kept.of_below (Below.refl _ _)) (fun b hb _ => hb)
      refine wp_of_list rfl (by rintro ⟨_, _, hh⟩; first | exact hh | exact hLO.out _ hh | cases hh.1) (wpList_append_rows (K := kDd) (ok := fun _ => True) eltD rfl (.const (.slice none 0 0)) (.tmp 51) rfl V2.heap.size (.slice none 0 0) [] rfl (Rows.nil _ _ _ _ _) a c k ds rfl HK.out HLd.out (fun _ _ _ _ => trivial) (fun _ _ _ => by simp [Value.ownBlock]) (by simp; omega) (by decide) (HD1.out).size (fun v6 w6 hR6 hg6 hat6 => ?_))
      rw [List.nil_append] at hR6
      have hB6 : Below (Wd.alloc (.cells #[.int .i64 1, .int .i64 v, .slice (some ⟨kb, 0, none⟩) 2 2, .slice (some ⟨xb, 0, none⟩) 1 1, .int .i64 0, .int .i64 1, .int .i64 ((v : Int) + 1), .slice (some ⟨ob, 0, none⟩) 2 2, .slice (some ⟨yb, 0, none⟩) 1 1, .int .i64 0] 50)).heap.size (Wd.alloc (.cells #[.int .i64 1, .int .i64 v, .slice (some ⟨kb, 0, none⟩) 2 2, .slice (some ⟨xb, 0, none⟩) 1 1, .int .i64 0, .int .i64 1, .int .i64 ((v : Int) + 1), .slice (some ⟨ob, 0, none⟩) 2 2, .slice (some ⟨yb, 0, none⟩) 1 1, .int .i64 0] 50)) w6 := below_grown (Below.refl _ _) (Nat.le_refl _) hg6 (fun r e => by cases e)
      have hap : ∀ b, b < (Wd.alloc (.cells #[.int .i64 1, .int .i64 v, .slice (some ⟨kb, 0, none⟩) 2 2, .slice (some ⟨xb, 0, none⟩) 1 1, .int .i64 0, .int .i64 1, .int .i64 ((v : Int) + 1), .slice (some ⟨ob, 0, none⟩) 2 2, .slice (some ⟨yb, 0, none⟩) 1 1, .int .i64 0] 50)).heap.size → v6.ownBlock ≠ some b := fun b hb e => by
        rcases hat6 with q | q
        · rw [q] at e; cases e
        · rw [q] at e; have := Option.some.inj e; omega
      have hap2 : ∀ g, v6.ownBlock = some g → g < w6.heap.size := fun g e => (rows_lt hR6 g e).2
      obtain ⟨a6, c6, e6⟩ := rows_form hR6
      rw [← HK.out] at e6
      subst e6
      have hB6v := HD1.out.trans (hB6.mono HD1.out.size)
      have hsx : (Wd.alloc (.cells #[.int .i64 1, .int .i64 v, .slice (some ⟨kb, 0, none⟩) 2 2, .slice (some ⟨xb, 0, none⟩) 1 1, .int .i64 0, .int .i64 1, .int .i64 ((v : Int) + 1), .slice (some ⟨ob, 0, none⟩) 2 2, .slice (some ⟨yb, 0, none⟩) 1 1, .int .i64 0] 50)).heap.size = Wd.heap.size + 1 := alloc_size _ _
      have HJ : Hid (Rows kDd (fun _ => True) w6 V2.heap.size 50 (.slice a6 k c6) ds ∧ Lies kDd (fun b => (Value.slice a6 k c6).ownBlock ≠ some b) w6 (some ⟨Wd.heap.size, 0, none⟩) 2 [⟨1, v, keyK ky, [1], 0⟩, ⟨1, (v : Int) + 1, keyK ot, [2], 0⟩] ∧ Below V2.heap.size V2 w6) := by
        have hbA : IsBody Wd (fun b => (Value.slice a6 k c6).ownBlock ≠ some b) (.slice (some ⟨kb, 0, none⟩) 2 2) (keyK ky) := ⟨_, _, rfl, (HB.out.2.1.k).later HD0.out, fun _ ad e => by cases e; exact hap _ (by rw [hsx]; exact Nat.lt_succ_of_lt (Nat.lt_of_lt_of_le (HB.out.2.1.lk) HD0.out.size))⟩
        have hbX : IsBody Wd (fun b => (Value.slice a6 k c6).ownBlock ≠ some b) (.slice (some ⟨xb, 0, none⟩) 1 1) [1] := ⟨_, _, rfl, (HB.out.2.1.x).later HD0.out, fun _ ad e => by cases e; exact hap _ (by rw [hsx]; exact Nat.lt_succ_of_lt (Nat.lt_of_lt_of_le (HB.out.2.1.lx) HD0.out.size))⟩
        have hbB : IsBody Wd (fun b => (Value.slice a6 k c6).ownBlock ≠ some b) (.slice (some ⟨ob, 0, none⟩) 2 2) (keyK ot) := ⟨_, _, rfl, (HB.out.2.1.o).later HD0.out, fun _ ad e => by cases e; exact hap _ (by rw [hsx]; exact Nat.lt_succ_of_lt (Nat.lt_of_lt_of_le (HB.out.2.1.lo) HD0.out.size))⟩
        have hbY : IsBody Wd (fun b => (Value.slice a6 k c6).ownBlock ≠ some b) (.slice (some ⟨yb, 0, none⟩) 1 1) [2] := ⟨_, _, rfl, (HB.out.2.1.y).later HD0.out, fun _ ad e => by cases e; exact hap _ (by rw [hsx]; exact Nat.lt_succ_of_lt (Nat.lt_of_lt_of_le (HB.out.2.1.ly) HD0.out.size))⟩
        exact ⟨hR6, (lies_many (K := kDd) (l := [⟨1, v, keyK ky, [1], 0⟩, ⟨1, (v : Int) + 1, keyK ot, [2], 0⟩]) (css := [[.int .i64 1, .int .i64 v, .slice (some ⟨kb, 0, none⟩) 2 2, .slice (some ⟨xb, 0, none⟩) 1 1, .int .i64 0], [.int .i64 1, .int .i64 ((v : Int) + 1), .slice (some ⟨ob, 0, none⟩) 2 2, .slice (some ⟨yb, 0, none⟩) 1 1, .int .i64 0]]) #[.int .i64 1, .int .i64 v, .slice (some ⟨kb, 0, none⟩) 2 2, .slice (some ⟨xb, 0, none⟩) 1 1, .int .i64 0, .int .i64 1, .int .i64 ((v : Int) + 1), .slice (some ⟨ob, 0, none⟩) 2 2, .slice (some ⟨yb, 0, none⟩) 1 1, .int .i64 0] rfl 50 ⟨⟨_, _, rfl, hbA, hbX⟩, ⟨_, _, rfl, hbB, hbY⟩, trivial⟩ (hap _ (by rw [hsx]; exact Nat.lt_succ_self _)) 2 (by simp)).later hB6, hB6v⟩
      refine hK _ _ (fun _ => HSV.out _ hB6v) ?_
      clear hK K hg6 hat6 hap hap2 hR6 hB6 hB6v HLd hsx
      generalize Wd.heap.size = lb at HJ ⊢
      have HJ2 := HJ
      clear HD1 hb7
      refine U_one (i := 5) (by kernel_rfl) rfl rfl rfl (fun K hK => ?_)
      refine wp_of_list rfl (by rintro ⟨_, _, hh⟩; first | exact hh | exact hLO.out _ hh | cases hh.1) (wpList_append_rows (K := kDd) (ok := fun _ => True) eltD rfl (.tmp 52) (.tmp 55) rfl V2.heap.size (.slice a6 k c6) ds rfl HJ.out.1 (some ⟨lb, 0, none⟩) 2 2 [⟨1, v, keyK ky, [1], 0⟩, ⟨1, (v : Int) + 1, keyK ot, [2], 0⟩] rfl rfl HJ.out.2.1 (fun _ _ _ _ => trivial) (fun _ _ q => q) (by rw [← HK.out]; omega) (by decide) HJ.out.2.2.size (fun v8 w8 hR8 hg8 hat8 => ?_))
      have hB8 : Below V2.heap.size V2 w8 := below_grown HJ.out.2.2 HJ.out.2.2.size hg8 (fun r e => (rows_lt HJ.out.1 r e).1)
      obtain ⟨a8, c8, e8, h8, -, -, -⟩ := hR8.lies (fun _ _ => trivial)
      have hl8 : (ds ++ ([⟨1, v, keyK ky, [1], 0⟩, ⟨1, (v : Int) + 1, keyK ot, [2], 0⟩] : List Dd)).length = k + 2 := by rw [List.length_append, ← HK.out]; rfl
      rw [hl8] at e8
      subst e8
      obtain ⟨hpl, hpg⟩ := pair_last ds v HVN.out (keyK ky) (keyK ot) [1] [2] (by simp [keyK]) (by simp [keyK]) (by simp [keyK]) (by simp [keyK]) (by simp) (by simp)
      have HL9 : Hid (Calls Try.prog 15 #[.slice a8 (k + 2) c8, .int .i64 ((v : Int) + 2)] w8 fun e w9 => ∃ (a9 : Option Addr) (n9 c9 : Nat), e = .returned (.tuple #[.slice a9 n9 c9, .bool true]) ∧ Hid (n9 = (putK (putK now (keyK ky, [1])) (keyK ot, [2])).length ∧ Lies kEnt (fun _ => True) w9 a9 c9 (putK (putK now (keyK ky, [1])) (keyK ot, [2])) ∧ Below V2.heap.size V2 w9)) := by
        have := last_any (fun _ => True) (ds ++ [⟨1, v, keyK ky, [1], 0⟩, ⟨1, (v : Int) + 1, keyK ot, [2], 0⟩]) (by rw [hl8]; omega) (v + 2) (by rw [hpl]; omega) a8 c8 w8 h8
        rw [hl8, hpg, ← HNOW.out] at this
        refine this.mono ?_
        rintro e w9 ⟨a9, n9, c9, rfl, q1, q2, q3⟩
        exact ⟨a9, n9, c9, rfl, q1, q2, hB8.trans (q3.mono hB8.size)⟩
      have HS8 := put_by (HSV.out _ hB8)
      refine hK _ _ (fun _ => HS8.out) ?_
      clear hK K HJ hR8 hg8 hat8 h8 hpl hpg
      refine U_one (i := 8) (by kernel_rfl) rfl rfl rfl (fun K hK => ?_)
      go_simp
      refine HL9.out.mono ?_
      rintro e w9 ⟨a9, n9, c9, rfl, H9⟩
      have hS9 := HSV.out _ H9.out.2.2
      refine hK _ _ (fun _ => hS9) ?_
      clear hK K HL9 hB8 HS8
      refine U_one (i := 9) (by kernel_rfl) rfl rfl rfl (fun K hK => ?_)
      go_simp
      refine hK _ _ (fun _ => hS9) ?_
      clear hK K
      refine V_takeX [13] (k := 10) (v := .slice a9 n9 c9) rfl (by kernel_rfl) (by kernel_rfl) (by kernel_rfl) (by kernel_rfl) (by kernel_rfl) (by kernel_rfl) (fun _ _ _ h => h) (Or.inl ⟨by rfl, fun V hV => ?_⟩) hS9 ?_
      · obtain ⟨⟨z0, z1, z2, z3, z4⟩, y0, y1, y2, y3, y4⟩ := hV; go_simp
      simp only [Act.put]
      refine V_takeX [13] (k := 11) (v := .bool true) rfl (by kernel_rfl) (by kernel_rfl) (by kernel_rfl) (by kernel_rfl) (by kernel_rfl) (by kernel_rfl) (fun _ _ _ h => h) (Or.inl ⟨by rfl, fun V hV => ?_⟩) hS9 ?_
      · obtain ⟨⟨z0, z1, z2, z3, z4⟩, y0, y1, y2, y3, y4⟩ := hV; go_simp
      simp only [Act.put]
      refine U_one (i := 12) (by kernel_rfl) rfl rfl rfl (fun K hK => ?_)
      go_simp
      refine hK _ _ (fun _ => hS9) ?_
      clear hK K
      refine U_one (i := 13) (by kernel_rfl) rfl rfl rfl (fun K hK => ?_)
      go_simp
      refine hK _ _ (fun hh => by cases (show true = false from hh)) ?_
      clear hK K
      refine U_done (by kernel_rfl) ?_ _
      go_wp2
      go_meet
      exact ⟨a9, n9, c9, rfl, rfl, H9.out⟩
  case rest =>
    obtain ⟨a1, n1, c1, rfl, rfl, HX⟩ := hcut
    have HC : Hid (DeedsAt w 20 k a c ds wc ∧ FourB wc kb ob xb yb ky ot ∧ Five wc KV (.int .i64 1) (.int .i64 v) (.slice (some ⟨kb, 0, none⟩) 2 2) (.slice (some ⟨xb, 0, none⟩) 1 1) (.int .i64 0) ∧ Five wc MV (.int .i64 1) (.int .i64 v) (.slice (some ⟨ob, 0, none⟩) 2 2) (.slice (some ⟨yb, 0, none⟩) 1 1) (.int .i64 0) ∧ Five wc K2V (.int .i64 1) (.int .i64 ((v : Int) + 1)) (.slice (some ⟨kb, 0, none⟩) 2 2) (.slice (some ⟨xb, 0, none⟩) 1 1) (.int .i64 0) ∧ Five wc M2V (.int .i64 1) (.int .i64 ((v : Int) + 1)) (.slice (some ⟨ob, 0, none⟩) 2 2) (.slice (some ⟨yb, 0, none⟩) 1 1) (.int .i64 0) ∧ n1 = (putK (putK now (keyK ky, [1])) (keyK ot, [2])).length ∧ Lies kEnt (fun _ => True) wc a1 c1 (putK (putK now (keyK ky, [1])) (keyK ot, [2]))) := by
      obtain ⟨q1, q2, hb⟩ := HX.out
      obtain ⟨s1, s2, s3, s4, s5, s6⟩ := HB.out
      exact ⟨s1.later hb, s2.later hb, s3.later hb, s4.later hb, s5.later hb, s6.later hb, q1, q2⟩
    clear HB HX
    generalize wc = V3 at HC ⊢
    go_upto_region 14 with (fail)
    go_cut [16, 17] from 62 to 73 (fun x f wx => ∃ (a1 : Option Addr) (n1 c1 : Nat), x = .slice a1 n1 c1 ∧ f = .bool true ∧ Hid (n1 = (putK (putK now (keyK ot, [2])) (keyK ky, [1])).length ∧ Lies kEnt (fun _ => True) wx a1 c1 (putK (putK now (keyK ot, [2])) (keyK ky, [1])) ∧ Below V3.heap.size V3 wx))
    case first =>
      have HSV : Hid (∀ W, Below V3.heap.size V3 W → (W.cell? ⟨MV, 0, none⟩ = some (.int .i64 1) ∧ W.cell? ⟨MV, 1, none⟩ = some (.int .i64 v) ∧ W.cell? ⟨MV, 2, none⟩ = some (.slice (some ⟨ob, 0, none⟩) 2 2) ∧ W.cell? ⟨MV, 3, none⟩ = some (.slice (some ⟨yb, 0, none⟩) 1 1) ∧ W.cell? ⟨MV, 4, none⟩ = some (.int .i64 0)) ∧ W.cell? ⟨K2V, 0, none⟩ = some (.int .i64 1) ∧ W.cell? ⟨K2V, 1, none⟩ = some (.int .i64 ((v : Int) + 1)) ∧ W.cell? ⟨K2V, 2, none⟩ = some (.slice (some ⟨kb, 0, none⟩) 2 2) ∧ W.cell? ⟨K2V, 3, none⟩ = some (.slice (some ⟨xb, 0, none⟩) 1 1) ∧ W.cell? ⟨K2V, 4, none⟩ = some (.int .i64 0)) := fun W hW => by
        obtain ⟨q0, q1, q2, q3, q4, -, -, -, -, -⟩ := HC.out.2.2.2.1.later hW
        obtain ⟨r0, r1, r2, r3, r4, -, -, -, -, -⟩ := HC.out.2.2.2.2.1.later hW
        exact ⟨⟨q0, q1, q2, q3, q4⟩, r0, r1, r2, r3, r4⟩
      have HD0 : Hid (Below V3.heap.size V3 V3.drew) := (Below.refl _ _).drew
      have hS := HSV.out _ HD0.out
      have hLO : Hid (∀ (P : Prop), (Ending.outgrown = .returned (.bool true) ∧ P) → False) := fun P hh => by cases hh.1
      refine region_plain (fun V => (V.cell? ⟨MV, 0, none⟩ = some (.int .i64 1) ∧ V.cell? ⟨MV, 1, none⟩ = some (.int .i64 v) ∧ V.cell? ⟨MV, 2, none⟩ = some (.slice (some ⟨ob, 0, none⟩) 2 2) ∧ V.cell? ⟨MV, 3, none⟩ = some (.slice (some ⟨yb, 0, none⟩) 1 1) ∧ V.cell? ⟨MV, 4, none⟩ = some (.int .i64 0)) ∧ V.cell? ⟨K2V, 0, none⟩ = some (.int .i64 1) ∧ V.cell? ⟨K2V, 1, none⟩ = some (.int .i64 ((v : Int) + 1)) ∧ V.cell? ⟨K2V, 2, none⟩ = some (.slice (some ⟨kb, 0, none⟩) 2 2) ∧ V.cell? ⟨K2V, 3, none⟩ = some (.slice (some ⟨xb, 0, none⟩) 1 1) ∧ V.cell? ⟨K2V, 4, none⟩ = some (.int .i64 0)) 13 (by kernel_rfl) ?_
      generalize V3.drew = Wd at HD0 hS ⊢
      refine V_takeX [13] (k := 0) (v := .slice a k c) rfl (by kernel_rfl) (by kernel_rfl) (by kernel_rfl) (by kernel_rfl) (by kernel_rfl) (by kernel_rfl) (fun _ _ _ h => h) (Or.inl ⟨by rfl, fun V hV => ?_⟩) hS ?_
      · obtain ⟨⟨z0, z1, z2, z3, z4⟩, y0, y1, y2, y3, y4⟩ := hV; go_simp
      simp only [Act.put, List.setIfInBounds_toArray]
      refine V_takeX [13] (k := 2) (v := .agg #[.int .i64 1, .int .i64 v, .slice (some ⟨ob, 0, none⟩) 2 2, .slice (some ⟨yb, 0, none⟩) 1 1, .int .i64 0]) rfl (by kernel_rfl) (by kernel_rfl) (by kernel_rfl) (by kernel_rfl) (by kernel_rfl) (by kernel_rfl) (fun _ _ _ h => h) (Or.inl ⟨by rfl, fun V hV => ?_⟩) hS ?_
      · obtain ⟨⟨z0, z1, z2, z3, z4⟩, y0, y1, y2, y3, y4⟩ := hV; go_simp
      simp only [Act.put]
      refine V_takeX [13] (k := 3) (v := .agg #[.int .i64 1, .int .i64 ((v : Int) + 1), .slice (some ⟨kb, 0, none⟩) 2 2, .slice (some ⟨xb, 0, none⟩) 1 1, .int .i64 0]) rfl (by kernel_rfl) (by kernel_rfl) (by kernel_rfl) (by kernel_rfl) (by kernel_rfl) (by kernel_rfl) (fun _ _ _ h => h) (Or.inl ⟨by rfl, fun V hV => ?_⟩) hS ?_
      · obtain ⟨⟨z0, z1, z2, z3, z4⟩, y0, y1, y2, y3, y4⟩ := hV; go_simp
      simp only [Act.put]
      refine V_takeX [13] (k := 6) (v := .int .i64 v) rfl (by kernel_rfl) (by kernel_rfl) (by kernel_rfl) (by kernel_rfl) (by kernel_rfl) (by kernel_rfl) (fun _ _ _ h => h) (Or.inl ⟨by rfl, fun V hV => ?_⟩) hS ?_
      · obtain ⟨⟨z0, z1, z2, z3, z4⟩, y0, y1, y2, y3, y4⟩ := hV; go_simp
      simp only [Act.put]
      refine V_takeX [13] (k := 7) (v := .int .i64 ((v : Int) + 2)) rfl (by kernel_rfl) (by kernel_rfl) (by kernel_rfl) (by kernel_rfl) (by kernel_rfl) (by kernel_rfl) (fun _ _ _ h => h) (Or.inl ⟨by rfl, fun V hV => ?_⟩) hS ?_
      · obtain ⟨⟨z0, z1, z2, z3, z4⟩, y0, y1, y2, y3, y4⟩ := hV; go_simp
      simp only [Act.put]
      refine U_two (i := 1) (j := 4) (by kernel_rfl) rfl rfl rfl rfl (fun K hK => ?_) (fun K hK => ?_)
      · have HLd : Hid (Lies kDd (fun b => b < Wd.heap.size) Wd a c ds) := ((HC.out.1.2.2.2.1.later HD0.out)).move (Kept.of_below (Below.refl _ _)) (fun b hb _ => hb)
        refine wp_of_list rfl (by rintro ⟨_, _, hh⟩; first | exact hh | exact hLO.out _ hh | cases hh.1) (wpList_append_rows (K := kDd) (ok := fun _ => True) eltD rfl (.const (.slice none 0 0)) (.tmp 63) rfl V3.heap.size (.slice none 0 0) [] rfl (Rows.nil _ _ _ _ _) a c k ds rfl HK.out HLd.out (fun _ _ _ _ => trivial) (fun _ _ _ => by simp [Value.ownBlock]) (by simp; omega) (by decide) (HD0.out).size (fun v6 w6 hR6 hg6 hat6 => ?_))
        rw [List.nil_append] at hR6
        have hB6 : Below Wd.heap.size Wd w6 := below_grown (Below.refl _ _) (Nat.le_refl _) hg6 (fun r e => by cases e)
        have hap : ∀ b, b < Wd.heap.size → v6.ownBlock ≠ some b := fun b hb e => by
          rcases hat6 with q | q
          · rw [q] at e; cases e
          · rw [q] at e; have := Option.some.inj e; omega
        have hap2 : ∀ g, v6.ownBlock = some g → g < w6.heap.size := fun g e => (rows_lt hR6 g e).2
        obtain ⟨a6, c6, e6⟩ := rows_form hR6
        rw [← HK.out] at e6
        subst e6
        have hB6v := HD0.out.trans (hB6.mono HD0.out.size)
        have HR6 := put_by (And.intro hR6 hB6v)
        have HAP := put_by (And.intro hap hap2)
        refine hK _ _ (fun _ => HSV.out _ hB6v) ?_
        clear hK K hg6 hat6
        refine U_one (i := 4) (by kernel_rfl) rfl rfl rfl (fun K hK => ?_)
        go_simp
        have HJ : Hid (Rows kDd (fun _ => True) (w6.alloc (.cells #[.int .i64 1, .int .i64 v, .slice (some ⟨ob, 0, none⟩) 2 2, .slice (some ⟨yb, 0, none⟩) 1 1, .int .i64 0, .int .i64 1, .int .i64 ((v : Int) + 1), .slice (some ⟨kb, 0, none⟩) 2 2, .slice (some ⟨xb, 0, none⟩) 1 1, .int .i64 0] 50)) V3.heap.size 50 (.slice a6 k c6) ds ∧ Lies kDd (fun b => (Value.slice a6 k c6).ownBlock ≠ some b) (w6.alloc (.cells #[.int .i64 1, .int .i64 v, .slice (some ⟨ob, 0, none⟩) 2 2, .slice (some ⟨yb, 0, none⟩) 1 1, .int .i64 0, .int .i64 1, .int .i64 ((v : Int) + 1), .slice (some ⟨kb, 0, none⟩) 2 2, .slice (some ⟨xb, 0, none⟩) 1 1, .int .i64 0] 50)) (some ⟨w6.heap.size, 0, none⟩) 2 [⟨1, v, keyK ot, [2], 0⟩, ⟨1, (v : Int) + 1, keyK ky, [1], 0⟩] ∧ Below V3.heap.size V3 (w6.alloc (.cells #[.int .i64 1, .int .i64 v, .slice (some ⟨ob, 0, none⟩) 2 2, .slice (some ⟨yb, 0, none⟩) 1 1, .int .i64 0, .int .i64 1, .int .i64 ((v : Int) + 1), .slice (some ⟨kb, 0, none⟩) 2 2, .slice (some ⟨xb, 0, none⟩) 1 1, .int .i64 0] 50))) := by
          have hbA : IsBody w6 (fun b => (Value.slice a6 k c6).ownBlock ≠ some b) (.slice (some ⟨ob, 0, none⟩) 2 2) (keyK ot) := ⟨_, _, rfl, (HC.out.2.1.o).later hB6v, fun _ ad e => by cases e; exact HAP.out.1 _ (Nat.lt_of_lt_of_le (HC.out.2.1.lo) HD0.out.size)⟩
          have hbX : IsBody w6 (fun b => (Value.slice a6 k c6).ownBlock ≠ some b) (.slice (some ⟨yb, 0, none⟩) 1 1) [2] := ⟨_, _, rfl, (HC.out.2.1.y).later hB6v, fun _ ad e => by cases e; exact HAP.out.1 _ (Nat.lt_of_lt_of_le (HC.out.2.1.ly) HD0.out.size)⟩
          have hbB : IsBody w6 (fun b => (Value.slice a6 k c6).ownBlock ≠ some b) (.slice (some ⟨kb, 0, none⟩) 2 2) (keyK ky) := ⟨_, _, rfl, (HC.out.2.1.k).later hB6v, fun _ ad e => by cases e; exact HAP.out.1 _ (Nat.lt_of_lt_of_le (HC.out.2.1.lk) HD0.out.size)⟩
          have hbY : IsBody w6 (fun b => (Value.slice a6 k c6).ownBlock ≠ some b) (.slice (some ⟨xb, 0, none⟩) 1 1) [1] := ⟨_, _, rfl, (HC.out.2.1.x).later hB6v, fun _ ad e => by cases e; exact HAP.out.1 _ (Nat.lt_of_lt_of_le (HC.out.2.1.lx) HD0.out.size)⟩
          have hb7 : Below w6.heap.size w6 (w6.alloc (.cells #[.int .i64 1, .int .i64 v, .slice (some ⟨ob, 0, none⟩) 2 2, .slice (some ⟨yb, 0, none⟩) 1 1, .int .i64 0, .int .i64 1, .int .i64 ((v : Int) + 1), .slice (some ⟨kb, 0, none⟩) 2 2, .slice (some ⟨xb, 0, none⟩) 1 1, .int .i64 0] 50)) := (Below.refl _ _).alloc (Nat.le_refl _) _
          exact ⟨HR6.out.1.later hb7, lies_many (K := kDd) (l := [⟨1, v, keyK ot, [2], 0⟩, ⟨1, (v : Int) + 1, keyK ky, [1], 0⟩]) (css := [[.int .i64 1, .int .i64 v, .slice (some ⟨ob, 0, none⟩) 2 2, .slice (some ⟨yb, 0, none⟩) 1 1, .int .i64 0], [.int .i64 1, .int .i64 ((v : Int) + 1), .slice (some ⟨kb, 0, none⟩) 2 2, .slice (some ⟨xb, 0, none⟩) 1 1, .int .i64 0]]) #[.int .i64 1, .int .i64 v, .slice (some ⟨ob, 0, none⟩) 2 2, .slice (some ⟨yb, 0, none⟩) 1 1, .int .i64 0, .int .i64 1, .int .i64 ((v : Int) + 1), .slice (some ⟨kb, 0, none⟩) 2 2, .slice (some ⟨xb, 0, none⟩) 1 1, .int .i64 0] rfl 50 ⟨⟨_, _, rfl, hbA, hbX⟩, ⟨_, _, rfl, hbB, hbY⟩, trivial⟩ (fun e => by have := HAP.out.2 _ e; omega) 2 (by simp), HR6.out.2.trans (hb7.mono HR6.out.2.size)⟩
        refine hK _ _ (fun _ => HSV.out _ HJ.out.2.2) ?_
        clear hK K HR6 HAP hR6 hap hap2 hB6 hB6v HLd
        generalize w6.heap.size = lb at HJ ⊢
        generalize w6.alloc _ = w7 at HJ ⊢
        refine U_one (i := 5) (by kernel_rfl) rfl rfl rfl (fun K hK => ?_)
        refine wp_of_list rfl (by rintro ⟨_, _, hh⟩; first | exact hh | exact hLO.out _ hh | cases hh.1) (wpList_append_rows (K := kDd) (ok := fun _ => True) eltD rfl (.tmp 64) (.tmp 67) rfl V3.heap.size (.slice a6 k c6) ds rfl HJ.out.1 (some ⟨lb, 0, none⟩) 2 2 [⟨1, v, keyK ot, [2], 0⟩, ⟨1, (v : Int) + 1, keyK ky, [1], 0⟩] rfl rfl HJ.out.2.1 (fun _ _ _ _ => trivial) (fun _ _ q => q) (by rw [← HK.out]; omega) (by decide) HJ.out.2.2.size (fun v8 w8 hR8 hg8 hat8 => ?_))
        have hB8 : Below V3.heap.size V3 w8 := below_grown HJ.out.2.2 HJ.out.2.2.size hg8 (fun r e => (rows_lt HJ.out.1 r e).1)
        obtain ⟨a8, c8, e8, h8, -, -, -⟩ := hR8.lies (fun _ _ => trivial)
        have hl8 : (ds ++ ([⟨1, v, keyK ot, [2], 0⟩, ⟨1, (v : Int) + 1, keyK ky, [1], 0⟩] : List Dd)).length = k + 2 := by rw [List.length_append, ← HK.out]; rfl
        rw [hl8] at e8
        subst e8
        obtain ⟨hpl, hpg⟩ := pair_last ds v HVN.out (keyK ot) (keyK ky) [2] [1] (by simp [keyK]) (by simp [keyK]) (by simp [keyK]) (by simp [keyK]) (by simp) (by simp)
        have HL9 : Hid (Calls Try.prog 15 #[.slice a8 (k + 2) c8, .int .i64 ((v : Int) + 2)] w8 fun e w9 => ∃ (a9 : Option Addr) (n9 c9 : Nat), e = .returned (.tuple #[.slice a9 n9 c9, .bool true]) ∧ Hid (n9 = (putK (putK now (keyK ot, [2])) (keyK ky, [1])).length ∧ Lies kEnt (fun _ => True) w9 a9 c9 (putK (putK now (keyK ot, [2])) (keyK ky, [1])) ∧ Below V3.heap.size V3 w9)) := by
          have := last_any (fun _ => True) (ds ++ [⟨1, v, keyK ot, [2], 0⟩, ⟨1, (v : Int) + 1, keyK ky, [1], 0⟩]) (by rw [hl8]; omega) (v + 2) (by rw [hpl]; omega) a8 c8 w8 h8
          rw [hl8, hpg, ← HNOW.out] at this
          refine this.mono ?_
          rintro e w9 ⟨a9, n9, c9, rfl, q1, q2, q3⟩
          exact ⟨a9, n9, c9, rfl, q1, q2, hB8.trans (q3.mono hB8.size)⟩
        have HS8 := put_by (HSV.out _ hB8)
        refine hK _ _ (fun _ => HS8.out) ?_
        clear hK K HJ hR8 hg8 hat8 h8 hpl hpg
        refine U_one (i := 8) (by kernel_rfl) rfl rfl rfl (fun K hK => ?_)
        go_simp
        refine HL9.out.mono ?_
        rintro e w9 ⟨a9, n9, c9, rfl, H9⟩
        have hS9 := HSV.out _ H9.out.2.2
        refine hK _ _ (fun _ => hS9) ?_
        clear hK K HL9 hB8 HS8
        refine U_one (i := 9) (by kernel_rfl) rfl rfl rfl (fun K hK => ?_)
        go_simp
        refine hK _ _ (fun _ => hS9) ?_
        clear hK K
        refine V_takeX [13] (k := 10) (v := .slice a9 n9 c9) rfl (by kernel_rfl) (by kernel_rfl) (by kernel_rfl) (by kernel_rfl) (by kernel_rfl) (by kernel_rfl) (fun _ _ _ h => h) (Or.inl ⟨by rfl, fun V hV => ?_⟩) hS9 ?_
        · obtain ⟨⟨z0, z1, z2, z3, z4⟩, y0, y1, y2, y3, y4⟩ := hV; go_simp
        simp only [Act.put]
        refine V_takeX [13] (k := 11) (v := .bool true) rfl (by kernel_rfl) (by kernel_rfl) (by kernel_rfl) (by kernel_rfl) (by kernel_rfl) (by kernel_rfl) (fun _ _ _ h => h) (Or.inl ⟨by rfl, fun V hV => ?_⟩) hS9 ?_
        · obtain ⟨⟨z0, z1, z2, z3, z4⟩, y0, y1, y2, y3, y4⟩ := hV; go_simp
        simp only [Act.put]
        refine U_one (i := 12) (by kernel_rfl) rfl rfl rfl (fun K hK => ?_)
        go_simp
        refine hK _ _ (fun _ => hS9) ?_
        clear hK K
        refine U_one (i := 13) (by kernel_rfl) rfl rfl rfl (fun K hK => ?_)
        go_simp
        refine hK _ _ (fun hh => by cases (show true = false from hh)) ?_
        clear hK K
        refine U_done (by kernel_rfl) ?_ _
        go_wp2
        go_meet
        exact ⟨a9, n9, c9, rfl, rfl, H9.out⟩
      · go_simp
        have hb7 : Below Wd.heap.size Wd (Wd.alloc (.cells #[.int .i64 1, .int .i64 v, .slice (some ⟨ob, 0, none⟩) 2 2, .slice (some ⟨yb, 0, none⟩) 1 1, .int .i64 0, .int .i64 1, .int .i64 ((v : Int) + 1), .slice (some ⟨kb, 0, none⟩) 2 2, .slice (some ⟨xb, 0, none⟩) 1 1, .int .i64 0] 50)) := (Below.refl _ _).alloc (Nat.le_refl _) _
        have HD1 : Hid (Below V3.heap.size V3 (Wd.alloc (.cells #[.int .i64 1, .int .i64 v, .slice (some ⟨ob, 0, none⟩) 2 2, .slice (some ⟨yb, 0, none⟩) 1 1, .int .i64 0, .int .i64 1, .int .i64 ((v : Int) + 1), .slice (some ⟨kb, 0, none⟩) 2 2, .slice (some ⟨xb, 0, none⟩) 1 1, .int .i64 0] 50))) := HD0.out.trans (hb7.mono HD0.out.size)
        refine hK _ _ (fun _ => HSV.out _ HD1.out) ?_
        clear hK K
        refine U_one (i := 1) (by kernel_rfl) rfl rfl rfl (fun K hK => ?_)
        have HLd : Hid (Lies kDd (fun b => b < (Wd.alloc (.cells #[.int .i64 1, .int .i64 v, .slice (some ⟨ob, 0, none⟩) 2 2, .slice (some ⟨yb, 0, none⟩) 1 1, .int .i64 0, .int .i64 1, .int .i64 ((v : Int) + 1), .slice (some ⟨kb, 0, none⟩) 2 2, .slice (some ⟨xb, 0, none⟩) 1 1, .int .i64 0] 50)).heap.size) (Wd.alloc (.cells #[.int .i64 1, .int .i64 v, .slice (some ⟨ob, 0, none⟩) 2 2, .slice (some ⟨yb, 0, none⟩) 1 1, .int .i64 0, .int .i64 1, .int .i64 ((v : Int) + 1), .slice (some ⟨kb, 0, none⟩) 2 2, .slice (some ⟨xb, 0, none⟩) 1 1, .int .i64 0] 50)) a c ds) := ((HC.out.1.2.2.2.1.later HD1.out)).move (Kept.of_below (Below.refl _ _)) (fun b hb _ => hb)
        refine wp_of_list rfl (by rintro ⟨_, _, hh⟩; first | exact hh | exact hLO.out _ hh | cases hh.1) (wpList_append_rows (K := kDd) (ok := fun _ => True) eltD rfl (.const (.slice none 0 0)) (.tmp 63) rfl V3.heap.size (.slice none 0 0) [] rfl (Rows.nil _ _ _ _ _) a c k ds rfl HK.out HLd.out (fun _ _ _ _ => trivial) (fun _ _ _ => by simp [Value.ownBlock]) (by simp; omega) (by decide) (HD1.out).size (fun v6 w6 hR6 hg6 hat6 => ?_))
        rw [List.nil_append] at hR6
        have hB6 : Below (Wd.alloc (.cells #[.int .i64 1, .int .i64 v, .slice (some ⟨ob, 0, none⟩) 2 2, .slice (some ⟨yb, 0, none⟩) 1 1, .int .i64 0, .int .i64 1, .int .i64 ((v : Int) + 1), .slice (some ⟨kb, 0, none⟩) 2 2, .slice (some ⟨xb, 0, none⟩) 1 1, .int .i64 0] 50)).heap.size (Wd.alloc (.cells #[.int .i64 1, .int .i64 v, .slice (some ⟨ob, 0, none⟩) 2 2, .slice (some ⟨yb, 0, none⟩) 1 1, .int .i64 0, .int .i64 1, .int .i64 ((v : Int) + 1), .slice (some ⟨kb, 0, none⟩) 2 2, .slice (some ⟨xb, 0, none⟩) 1 1, .int .i64 0] 50)) w6 := below_grown (Below.refl _ _) (Nat.le_refl _) hg6 (fun r e => by cases e)
        have hap : ∀ b, b < (Wd.alloc (.cells #[.int .i64 1, .int .i64 v, .slice (some ⟨ob, 0, none⟩) 2 2, .slice (some ⟨yb, 0, none⟩) 1 1, .int .i64 0, .int .i64 1, .int .i64 ((v : Int) + 1), .slice (some ⟨kb, 0, none⟩) 2 2, .slice (some ⟨xb, 0, none⟩) 1 1, .int .i64 0] 50)).heap.size → v6.ownBlock ≠ some b := fun b hb e => by
          rcases hat6 with q | q
          · rw [q] at e; cases e
          · rw [q] at e; have := Option.some.inj e; omega
        have hap2 : ∀ g, v6.ownBlock = some g → g < w6.heap.size := fun g e => (rows_lt hR6 g e).2
        obtain ⟨a6, c6, e6⟩ := rows_form hR6
        rw [← HK.out] at e6
        subst e6
        have hB6v := HD1.out.trans (hB6.mono HD1.out.size)
        have hsx : (Wd.alloc (.cells #[.int .i64 1, .int .i64 v, .slice (some ⟨ob, 0, none⟩) 2 2, .slice (some ⟨yb, 0, none⟩) 1 1, .int .i64 0, .int .i64 1, .int .i64 ((v : Int) + 1), .slice (some ⟨kb, 0, none⟩) 2 2, .slice (some ⟨xb, 0, none⟩) 1 1, .int .i64 0] 50)).heap.size = Wd.heap.size + 1 := alloc_size _ _
        have HJ : Hid (Rows kDd (fun _ => True) w6 V3.heap.size 50 (.slice a6 k c6) ds ∧ Lies kDd (fun b => (Value.slice a6 k c6).ownBlock ≠ some b) w6 (some ⟨Wd.heap.size, 0, none⟩) 2 [⟨1, v, keyK ot, [2], 0⟩, ⟨1, (v : Int) + 1, keyK ky, [1], 0⟩] ∧ Below V3.heap.size V3 w6) := by
          have hbA : IsBody Wd (fun b => (Value.slice a6 k c6).ownBlock ≠ some b) (.slice (some ⟨ob, 0, none⟩) 2 2) (keyK ot) := ⟨_, _, rfl, (HC.out.2.1.o).later HD0.out, fun _ ad e => by cases e; exact hap _ (by rw [hsx]; exact Nat.lt_succ_of_lt (Nat.lt_of_lt_of_le (HC.out.2.1.lo) HD0.out.size))⟩
          have hbX : IsBody Wd (fun b => (Value.slice a6 k c6).ownBlock ≠ some b) (.slice (some ⟨yb, 0, none⟩) 1 1) [2] := ⟨_, _, rfl, (HC.out.2.1.y).later HD0.out, fun _ ad e => by cases e; exact hap _ (by rw [hsx]; exact Nat.lt_succ_of_lt (Nat.lt_of_lt_of_le (HC.out.2.1.ly) HD0.out.size))⟩
          have hbB : IsBody Wd (fun b => (Value.slice a6 k c6).ownBlock ≠ some b) (.slice (some ⟨kb, 0, none⟩) 2 2) (keyK ky) := ⟨_, _, rfl, (HC.out.2.1.k).later HD0.out, fun _ ad e => by cases e; exact hap _ (by rw [hsx]; exact Nat.lt_succ_of_lt (Nat.lt_of_lt_of_le (HC.out.2.1.lk) HD0.out.size))⟩
          have hbY : IsBody Wd (fun b => (Value.slice a6 k c6).ownBlock ≠ some b) (.slice (some ⟨xb, 0, none⟩) 1 1) [1] := ⟨_, _, rfl, (HC.out.2.1.x).later HD0.out, fun _ ad e => by cases e; exact hap _ (by rw [hsx]; exact Nat.lt_succ_of_lt (Nat.lt_of_lt_of_le (HC.out.2.1.lx) HD0.out.size))⟩
          exact ⟨hR6, (lies_many (K := kDd) (l := [⟨1, v, keyK ot, [2], 0⟩, ⟨1, (v : Int) + 1, keyK ky, [1], 0⟩]) (css := [[.int .i64 1, .int .i64 v, .slice (some ⟨ob, 0, none⟩) 2 2, .slice (some ⟨yb, 0, none⟩) 1 1, .int .i64 0], [.int .i64 1, .int .i64 ((v : Int) + 1), .slice (some ⟨kb, 0, none⟩) 2 2, .slice (some ⟨xb, 0, none⟩) 1 1, .int .i64 0]]) #[.int .i64 1, .int .i64 v, .slice (some ⟨ob, 0, none⟩) 2 2, .slice (some ⟨yb, 0, none⟩) 1 1, .int .i64 0, .int .i64 1, .int .i64 ((v : Int) + 1), .slice (some ⟨kb, 0, none⟩) 2 2, .slice (some ⟨xb, 0, none⟩) 1 1, .int .i64 0] rfl 50 ⟨⟨_, _, rfl, hbA, hbX⟩, ⟨_, _, rfl, hbB, hbY⟩, trivial⟩ (hap _ (by rw [hsx]; exact Nat.lt_succ_self _)) 2 (by simp)).later hB6, hB6v⟩
        refine hK _ _ (fun _ => HSV.out _ hB6v) ?_
        clear hK K hg6 hat6 hap hap2 hR6 hB6 hB6v HLd hsx
        generalize Wd.heap.size = lb at HJ ⊢
        have HJ2 := HJ
        clear HD1 hb7
        refine U_one (i := 5) (by kernel_rfl) rfl rfl rfl (fun K hK => ?_)
        refine wp_of_list rfl (by rintro ⟨_, _, hh⟩; first | exact hh | exact hLO.out _ hh | cases hh.1) (wpList_append_rows (K := kDd) (ok := fun _ => True) eltD rfl (.tmp 64) (.tmp 67) rfl V3.heap.size (.slice a6 k c6) ds rfl HJ.out.1 (some ⟨lb, 0, none⟩) 2 2 [⟨1, v, keyK ot, [2], 0⟩, ⟨1, (v : Int) + 1, keyK ky, [1], 0⟩] rfl rfl HJ.out.2.1 (fun _ _ _ _ => trivial) (fun _ _ q => q) (by rw [← HK.out]; omega) (by decide) HJ.out.2.2.size (fun v8 w8 hR8 hg8 hat8 => ?_))
        have hB8 : Below V3.heap.size V3 w8 := below_grown HJ.out.2.2 HJ.out.2.2.size hg8 (fun r e => (rows_lt HJ.out.1 r e).1)
        obtain ⟨a8, c8, e8, h8, -, -, -⟩ := hR8.lies (fun _ _ => trivial)
        have hl8 : (ds ++ ([⟨1, v, keyK ot, [2], 0⟩, ⟨1, (v : Int) + 1, keyK ky, [1], 0⟩] : List Dd)).length = k + 2 := by rw [List.length_append, ← HK.out]; rfl
        rw [hl8] at e8
        subst e8
        obtain ⟨hpl, hpg⟩ := pair_last ds v HVN.out (keyK ot) (keyK ky) [2] [1] (by simp [keyK]) (by simp [keyK]) (by simp [keyK]) (by simp [keyK]) (by simp) (by simp)
        have HL9 : Hid (Calls Try.prog 15 #[.slice a8 (k + 2) c8, .int .i64 ((v : Int) + 2)] w8 fun e w9 => ∃ (a9 : Option Addr) (n9 c9 : Nat), e = .returned (.tuple #[.slice a9 n9 c9, .bool true]) ∧ Hid (n9 = (putK (putK now (keyK ot, [2])) (keyK ky, [1])).length ∧ Lies kEnt (fun _ => True) w9 a9 c9 (putK (putK now (keyK ot, [2])) (keyK ky, [1])) ∧ Below V3.heap.size V3 w9)) := by
          have := last_any (fun _ => True) (ds ++ [⟨1, v, keyK ot, [2], 0⟩, ⟨1, (v : Int) + 1, keyK ky, [1], 0⟩]) (by rw [hl8]; omega) (v + 2) (by rw [hpl]; omega) a8 c8 w8 h8
          rw [hl8, hpg, ← HNOW.out] at this
          refine this.mono ?_
          rintro e w9 ⟨a9, n9, c9, rfl, q1, q2, q3⟩
          exact ⟨a9, n9, c9, rfl, q1, q2, hB8.trans (q3.mono hB8.size)⟩
        have HS8 := put_by (HSV.out _ hB8)
        refine hK _ _ (fun _ => HS8.out) ?_
        clear hK K HJ hR8 hg8 hat8 h8 hpl hpg
        refine U_one (i := 8) (by kernel_rfl) rfl rfl rfl (fun K hK => ?_)
        go_simp
        refine HL9.out.mono ?_
        rintro e w9 ⟨a9, n9, c9, rfl, H9⟩
        have hS9 := HSV.out _ H9.out.2.2
        refine hK _ _ (fun _ => hS9) ?_
        clear hK K HL9 hB8 HS8
        refine U_one (i := 9) (by kernel_rfl) rfl rfl rfl (fun K hK => ?_)
        go_simp
        refine hK _ _ (fun _ => hS9) ?_
        clear hK K
        refine V_takeX [13] (k := 10) (v := .slice a9 n9 c9) rfl (by kernel_rfl) (by kernel_rfl) (by kernel_rfl) (by kernel_rfl) (by kernel_rfl) (by kernel_rfl) (fun _ _ _ h => h) (Or.inl ⟨by rfl, fun V hV => ?_⟩) hS9 ?_
        · obtain ⟨⟨z0, z1, z2, z3, z4⟩, y0, y1, y2, y3, y4⟩ := hV; go_simp
        simp only [Act.put]
        refine V_takeX [13] (k := 11) (v := .bool true) rfl (by kernel_rfl) (by kernel_rfl) (by kernel_rfl) (by kernel_rfl) (by kernel_rfl) (by kernel_rfl) (fun _ _ _ h => h) (Or.inl ⟨by rfl, fun V hV => ?_⟩) hS9 ?_
        · obtain ⟨⟨z0, z1, z2, z3, z4⟩, y0, y1, y2, y3, y4⟩ := hV; go_simp
        simp only [Act.put]
        refine U_one (i := 12) (by kernel_rfl) rfl rfl rfl (fun K hK => ?_)
        go_simp
        refine hK _ _ (fun _ => hS9) ?_
        clear hK K
        refine U_one (i := 13) (by kernel_rfl) rfl rfl rfl (fun K hK => ?_)
        go_simp
        refine hK _ _ (fun hh => by cases (show true = false from hh)) ?_
        clear hK K
        refine U_done (by kernel_rfl) ?_ _
        go_wp2
        go_meet
        exact ⟨a9, n9, c9, rfl, rfl, H9.out⟩
    case rest =>
      obtain ⟨a2, n2, c2, rfl, rfl, HY⟩ := hcut
      have HSW : Hid (putK (putK now (keyK ot, [2])) (keyK ky, [1]) = putK (putK now (keyK ky, [1])) (keyK ot, [2])) := (putK_swap HASC.out (x := (keyK ky, [1])) (y := (keyK ot, [2])) HKK.out).symm
      have HN2 : Hid (2 ≤ n1) := by
        show 2 ≤ n1
        rw [HC.out.2.2.2.2.2.2.1]
        exact two_putK (x := (keyK ky, [1])) (y := (keyK ot, [2])) HKK.out
      have hn2 : 2 ≤ (n1 : Int) := by have := HN2.out; omega
      have hle : n1 ≤ 1000 := by
        rw [HC.out.2.2.2.2.2.2.1]
        have h1 := putK_length (putK now (keyK ky, [1])) (keyK ot, [2])
        have h2 := putK_length now (keyK ky, [1])
        have h3 := getD_few (ds := ds) v
        rw [← HNOW.out, ← HK.out] at h3
        omega
      have cE : Hid (Calls Try.prog 18 #[.slice a1 n1 c1, .slice a2 n2 c2] wc fun e w' => e = .returned (.bool true) ∧ Hid (Below w.heap.size w w')) := by
        obtain ⟨q1, q2, q3⟩ := HY.out
        obtain ⟨s1, -, -, -, -, -, s7, s8⟩ := HC.out
        rw [HSW.out] at q1 q2
        rw [q1]
        have hle2 := hle
        rw [s7] at hle2 ⊢
        refine (sameEntriesK_q _ _ (putK (putK now (keyK ky, [1])) (keyK ot, [2])) (putK (putK now (keyK ky, [1])) (keyK ot, [2])) (by omega) a1 a2 c1 c2 wc (s8.later q3) q2).mono ?_
        rintro e w' ⟨rfl, j, rfl⟩
        exact ⟨by simp, drawn_later (s1.later q3).2.2.2.2 j⟩
      clear HC HY HSW
      go_wp2_with (first
        | (go_at_call 18; (with_reducible refine cE.out.mono ?_); clear cE; rintro e w9 ⟨rfl, H9⟩))
      go_ret
      exact ⟨rfl, H9.out⟩


end Go.Proofs.Ytdjiplheomoljaa
