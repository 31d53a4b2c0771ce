/- Which cells and dones may be: the small functions of meld. -/
import Derived.Test.YtndnbkgejdindaaMlMem
import Derived.Test.YtndnbkgejdindaaRegTake
namespace Go.Proofs.Ytndnbkgejdindaa
open Go.ChangeShapes Go.WideShapes Go.ChangeAt Go.RowKit

set_option maxRecDepth 100000 in
theorem mayCount_any (x : Int) (w : World) :
    Calls Try.prog 54 #[.int .i64 x] w fun e w' => e = .returned (.bool (decide (1 ≤ x ∧ x ≤ 1048576))) ∧ w' = w := by
  by_cases h1 : 1 ≤ x
  · by_cases h2 : x ≤ 1048576
    · go_enter Try.func54, Try.ntmps54
      go_wp2
      go_ret
      simp [h1, h2]
    · go_enter Try.func54, Try.ntmps54
      go_wp2
      go_ret
      simp [h2]
  · go_enter Try.func54, Try.ntmps54
    go_wp2
    go_ret
    simp
    omega

set_option maxRecDepth 100000 in
set_option maxHeartbeats 4000000 in
theorem mayBeCell_any (x : Cel) (ka va : Option Addr) (kc vc : Nat) (w : World) (R : Bool) (hR : R = true ↔ (1 ≤ x.key.length ∧ x.key.length ≤ 1200 ∧ x.val.length ≤ 4000 ∧ (x.gone = true → x.val = []))) :
    Calls Try.prog 52 #[.agg #[.slice ka x.key.length kc, .slice va x.val.length vc, .bool x.gone, .int .i64 x.since]] w fun e w' => e = .returned (.bool R) ∧ Below w.heap.size w w' := by
  have e1 : x.val = [] ↔ x.val.length = 0 := List.length_eq_zero_iff.symm
  rw [e1] at hR
  clear e1
  generalize x.key.length = i1 at hR ⊢
  generalize x.val.length = i2 at hR ⊢
  generalize x.gone = g at hR ⊢
  generalize x.since = s
  have HR := put_by hR
  have HB := put_by ((Below.refl w.heap.size w).alloc (Nat.le_refl _) (.cells #[.slice ka i1 kc, .slice va i2 vc, .bool g, .int .i64 s] 51))
  clear hR
  by_cases h1 : 1 ≤ i1
  · by_cases h2 : i1 ≤ 1200
    · by_cases h3 : i2 ≤ 4000
      · cases g with
        | false =>
          have HF : Hid (R = true) := HR.out.2 ⟨h1, h2, h3, fun e => by cases e⟩
          go_enter Try.func52, Try.ntmps52
          go_wp2
          go_ret
          rw [HF.out]
          exact ⟨rfl, HB.out⟩
        | true =>
          by_cases h5 : i2 = 0
          · have HF : Hid (R = true) := HR.out.2 ⟨h1, h2, h3, fun _ => h5⟩
            subst h5
            go_enter Try.func52, Try.ntmps52
            go_wp2
            go_ret
            rw [HF.out]
            exact ⟨rfl, HB.out⟩
          · have HF : Hid (R = false) := of_not HR.out (fun h => h5 (h.2.2.2 rfl))
            have h6 : ((i2 : Int) == 0) = false := by simpa using h5
            go_enter Try.func52, Try.ntmps52
            go_wp2
            go_ret
            rw [HF.out]
            exact ⟨rfl, HB.out⟩
      · have HF : Hid (R = false) := of_not HR.out (fun h => h3 h.2.2.1)
        go_enter Try.func52, Try.ntmps52
        go_wp2
        go_ret
        rw [HF.out]
        exact ⟨rfl, HB.out⟩
    · have HF : Hid (R = false) := of_not HR.out (fun h => h2 h.2.1)
      go_enter Try.func52, Try.ntmps52
      go_wp2
      go_ret
      rw [HF.out]
      exact ⟨rfl, HB.out⟩
  · have HF : Hid (R = false) := of_not HR.out (fun h => h1 h.1)
    go_enter Try.func52, Try.ntmps52
    go_wp2
    go_ret
    rw [HF.out]
    exact ⟨rfl, HB.out⟩

/-- below 0: the first one is less; above 0: the other one -/
def cmpI (a b : Int) : Int := if a < b then -1 else if b < a then 1 else 0

set_option maxRecDepth 100000 in
theorem isNaN_any (x : Int) (w : World) : Calls Try.prog 80 #[.int .i64 x] w fun e w' => e = .returned (.bool false) ∧ w' = w := by
  go_enter Try.func80, Try.ntmps80
  go_wp2
  go_ret
  simp

set_option maxRecDepth 100000 in
set_option maxHeartbeats 4000000 in
theorem CompareI_any (a b : Int) (w : World) : Calls Try.prog 58 #[.int .i64 a, .int .i64 b] w fun e w' => e = .returned (.int .i64 (cmpI a b)) ∧ w' = w := by
  by_cases h1 : a < b
  · have HF : Hid (cmpI a b = -1) := if_pos h1
    go_enter Try.func58, Try.ntmps58
    go_wp2_with (go_at_call 80; (with_reducible refine (isNaN_any _ _).mono ?_); rintro e w1 ⟨rfl, rfl⟩)
    go_ret
    rw [HF.out]
    exact ⟨rfl, rfl⟩
  · by_cases h2 : b < a
    · have HF : Hid (cmpI a b = 1) := by rw [cmpI, if_neg h1, if_pos h2]; exact rfl
      go_enter Try.func58, Try.ntmps58
      go_wp2_with (go_at_call 80; (with_reducible refine (isNaN_any _ _).mono ?_); rintro e w1 ⟨rfl, rfl⟩)
      go_ret
      rw [HF.out]
      exact ⟨rfl, rfl⟩
    · have HF : Hid (cmpI a b = 0) := by rw [cmpI, if_neg h1, if_neg h2]; exact rfl
      go_enter Try.func58, Try.ntmps58
      go_wp2_with (go_at_call 80; (with_reducible refine (isNaN_any _ _).mono ?_); rintro e w1 ⟨rfl, rfl⟩)
      go_ret
      rw [HF.out]
      exact ⟨rfl, rfl⟩

/-- the first of two that is not 0 -/
def orI (a b : Int) : Int := if a = 0 then b else a

set_option maxRecDepth 100000 in
set_option maxHeartbeats 4000000 in
theorem OrI_any (B : Nat) (a b : Int) (w : World) (h0 : w.cell? ⟨B, 0, none⟩ = some (.int .i64 a)) (h1 : w.cell? ⟨B, 1, none⟩ = some (.int .i64 b)) :
    Calls Try.prog 57 #[.slice (some ⟨B, 0, none⟩) 2 2] w fun e w' => e = .returned (.int .i64 (orI a b)) ∧ w' = w := by
  go_enter Try.func57, Try.ntmps57
  go_wp2
  go_loopw [8] (fun i wr => ∃ k : Nat, k ≤ 2 ∧ i = .int .i64 k ∧ wr = w ∧ Hid ((0 < k → a = 0) ∧ (1 < k → b = 0))) (fun i _ => 2 - (intOf i).toNat)
  case atStart => exact ⟨0, by omega, rfl, rfl, by simp [Hid]⟩
  case round =>
    obtain ⟨k, hk, rfl, rfl, H⟩ := hrel
    rcases (show k = 0 ∨ k = 1 ∨ k = 2 by omega) with rfl | rfl | rfl
    · by_cases ha : a = 0
      · have HF := put_by ha
        subst ha
        go_wp2
        go_roundw
        case rel => exact ⟨1, by omega, by go_num, trivial, by simp [Hid]⟩
        case measure => simp [intOf]
      · have HF : Hid (orI a b = a) := if_neg ha
        have hn : (a != 0) = true := by simpa using ha
        go_wp2
        go_ret
        rw [HF.out]
        exact ⟨rfl, rfl⟩
    · have ha := H.out.1 (by omega)
      subst ha
      have HF : Hid (orI 0 b = b) := if_pos rfl
      by_cases hb : b = 0
      · subst hb
        go_wp2
        go_roundw
        case rel => exact ⟨2, by omega, by go_num, trivial, by simp [Hid]⟩
        case measure => simp [intOf]
      · have hn : (b != 0) = true := by simpa using hb
        go_wp2
        go_ret
        rw [HF.out]
        exact ⟨rfl, rfl⟩
    · have ha := H.out.1 (by omega)
      have hb := H.out.2 (by omega)
      subst ha hb
      go_wp2
      go_ret
      exact ⟨rfl, rfl⟩

/-- by whose they are -/
def cmpD (a b : Dn) : Int := orI (cmpI a.client b.client) (cmpI a.number b.number)

theorem cmpD_lt (a b : Dn) : cmpD a b < 0 ↔ dnAhead a b = true := by
  unfold cmpD orI cmpI dnAhead
  rw [decide_eq_true_eq]
  split <;> split <;> (try split) <;> omega

theorem cmpD_eq (a b : Dn) : cmpD a b = 0 ↔ (a.client = b.client ∧ a.number = b.number) := by
  unfold cmpD orI cmpI
  split <;> split <;> (try split) <;> omega

end Go.Proofs.Ytndnbkgejdindaa

/- What is done, held against each other: compareDones. -/
namespace Go.Proofs.Ytndnbkgejdindaa
open Go.ChangeShapes Go.WideShapes Go.ChangeAt Go.RowKit

set_option maxRecDepth 100000 in
set_option maxHeartbeats 1000000 in
theorem compareDones_any (x y : Dn) (w : World) :
    Calls Try.prog 32 #[.agg #[.int .i64 x.client, .int .i64 x.number, .int .i64 x.pos, .bool x.kept], .agg #[.int .i64 y.client, .int .i64 y.number, .int .i64 y.pos, .bool y.kept]] w fun e w' => e = .returned (.int .i64 (cmpD x y)) ∧ Below w.heap.size w w' := by
  unfold cmpD
  obtain ⟨a, b, c, d⟩ := x
  obtain ⟨a', b', c', d'⟩ := y
  simp only
  have HB := put_by (((Below.refl w.heap.size w).alloc (Nat.le_refl _) (.cells #[.int .i64 a, .int .i64 b, .int .i64 c, .bool d] 53)).alloc (by simp) (.cells #[.int .i64 a', .int .i64 b', .int .i64 c', .bool d'] 53))
  have hs : ((w.alloc (.cells #[.int .i64 a, .int .i64 b, .int .i64 c, .bool d] 53)).alloc (.cells #[.int .i64 a', .int .i64 b', .int .i64 c', .bool d'] 53)).heap.size = w.heap.size + 2 := by simp
  have x0 : ((w.alloc (.cells #[.int .i64 a, .int .i64 b, .int .i64 c, .bool d] 53)).alloc (.cells #[.int .i64 a', .int .i64 b', .int .i64 c', .bool d'] 53)).cell? ⟨w.heap.size, 0, none⟩ = some (.int .i64 a) := by simp
  have x1 : ((w.alloc (.cells #[.int .i64 a, .int .i64 b, .int .i64 c, .bool d] 53)).alloc (.cells #[.int .i64 a', .int .i64 b', .int .i64 c', .bool d'] 53)).cell? ⟨w.heap.size, 1, none⟩ = some (.int .i64 b) := by simp
  have y0 : ((w.alloc (.cells #[.int .i64 a, .int .i64 b, .int .i64 c, .bool d] 53)).alloc (.cells #[.int .i64 a', .int .i64 b', .int .i64 c', .bool d'] 53)).cell? ⟨w.heap.size + 1, 0, none⟩ = some (.int .i64 a') := by simp
  have y1 : ((w.alloc (.cells #[.int .i64 a, .int .i64 b, .int .i64 c, .bool d] 53)).alloc (.cells #[.int .i64 a', .int .i64 b', .int .i64 c', .bool d'] 53)).cell? ⟨w.heap.size + 1, 1, none⟩ = some (.int .i64 b') := by simp
  go_enter Try.func32, Try.ntmps32
  go_upto_region 1 with (fail)
  generalize (w.alloc (.cells #[.int .i64 a, .int .i64 b, .int .i64 c, .bool d] 53)).alloc (.cells #[.int .i64 a', .int .i64 b', .int .i64 c', .bool d'] 53) = V at HB hs x0 x1 y0 y1 ⊢
  have HS := put_by hs
  have hlt1 : w.heap.size < V.heap.size := by omega
  have hlt2 : w.heap.size + 1 < V.heap.size := by omega
  clear hs
  have bx : Below V.heap.size V V.drew := (Below.refl _ _).drew
  refine wp_region_held (S := fun W => Below V.heap.size V W) (by kernel_rfl) ?_
  change wpAnyH _ _ _ _ _ 13 #[false, false, false, false, false, false, false, false, false, false, false, false, false] _ V.drew
  refine takeH (i := 0) 5 (v := .pointer (some ⟨w.heap.size, 0, none⟩)) rfl rfl (by kernel_rfl) (by kernel_rfl) (by kernel_rfl) (fun _ _ _ h => h) (Or.inl ⟨by kernel_rfl, ?_⟩) bx ?_
  · intro wq hq
    go_simp
  simp only [Act.put, List.setIfInBounds_toArray, List.set_cons_zero]
  refine takeH (i := 1) 6 (v := .int .i64 a) rfl rfl (by kernel_rfl) (by kernel_rfl) (by kernel_rfl) (fun _ _ _ h => h) (Or.inl ⟨by kernel_rfl, ?_⟩) bx ?_
  · intro wq hq
    have q := (hq.cell (p := ⟨w.heap.size, 0, none⟩) hlt1).trans x0
    go_simp
  simp only [Act.put, List.setIfInBounds_toArray, List.set_cons_zero, List.set_cons_succ]
  refine takeH (i := 2) 7 (v := .pointer (some ⟨w.heap.size + 1, 0, none⟩)) rfl rfl (by kernel_rfl) (by kernel_rfl) (by kernel_rfl) (fun _ _ _ h => h) (Or.inl ⟨by kernel_rfl, ?_⟩) bx ?_
  · intro wq hq
    go_simp
  simp only [Act.put, List.setIfInBounds_toArray, List.set_cons_zero, List.set_cons_succ]
  refine takeH (i := 3) 8 (v := .int .i64 a') rfl rfl (by kernel_rfl) (by kernel_rfl) (by kernel_rfl) (fun _ _ _ h => h) (Or.inl ⟨by kernel_rfl, ?_⟩) bx ?_
  · intro wq hq
    have q := (hq.cell (p := ⟨w.heap.size + 1, 0, none⟩) hlt2).trans y0
    go_simp
  simp only [Act.put, List.setIfInBounds_toArray, List.set_cons_zero, List.set_cons_succ]
  refine takeH (i := 5) 10 (v := .pointer (some ⟨w.heap.size, 1, none⟩)) rfl rfl (by kernel_rfl) (by kernel_rfl) (by kernel_rfl) (fun _ _ _ h => h) (Or.inl ⟨by kernel_rfl, ?_⟩) bx ?_
  · intro wq hq
    go_simp
  simp only [Act.put, List.setIfInBounds_toArray, List.set_cons_zero, List.set_cons_succ]
  refine takeH (i := 6) 11 (v := .int .i64 b) rfl rfl (by kernel_rfl) (by kernel_rfl) (by kernel_rfl) (fun _ _ _ h => h) (Or.inl ⟨by kernel_rfl, ?_⟩) bx ?_
  · intro wq hq
    have q := (hq.cell (p := ⟨w.heap.size, 1, none⟩) hlt1).trans x1
    go_simp
  simp only [Act.put, List.setIfInBounds_toArray, List.set_cons_zero, List.set_cons_succ]
  refine takeH (i := 7) 12 (v := .pointer (some ⟨w.heap.size + 1, 1, none⟩)) rfl rfl (by kernel_rfl) (by kernel_rfl) (by kernel_rfl) (fun _ _ _ h => h) (Or.inl ⟨by kernel_rfl, ?_⟩) bx ?_
  · intro wq hq
    go_simp
  simp only [Act.put, List.setIfInBounds_toArray, List.set_cons_zero, List.set_cons_succ]
  refine takeH (i := 8) 13 (v := .int .i64 b') rfl rfl (by kernel_rfl) (by kernel_rfl) (by kernel_rfl) (fun _ _ _ h => h) (Or.inl ⟨by kernel_rfl, ?_⟩) bx ?_
  · intro wq hq
    have q := (hq.cell (p := ⟨w.heap.size + 1, 1, none⟩) hlt2).trans y1
    go_simp
  simp only [Act.put, List.setIfInBounds_toArray, List.set_cons_zero, List.set_cons_succ]
  refine wpAnyH_ready (rs := [4]) (by kernel_rfl) (by simp) ?_
  refine AllReadyH.cons rfl (fun K1 hK1 => ?_) AllReadyH.nil
  rw [if_pos (by kernel_rfl)]
  unfold Oper.wp
  go_simp
  go_wp2_with (go_at_call 58; (with_reducible refine (CompareI_any _ _ _).mono ?_); rintro e w1 ⟨rfl, rfl⟩)
  refine hK1.out _ _ bx (fun _ => ?_)
  simp only [List.setIfInBounds_toArray, List.set_cons_zero, List.set_cons_succ]
  refine wpAnyH_ready (rs := [9]) (by kernel_rfl) (by simp) ?_
  refine AllReadyH.cons rfl (fun K1 hK1 => ?_) AllReadyH.nil
  rw [if_pos (by kernel_rfl)]
  unfold Oper.wp
  go_simp
  go_wp2_with (go_at_call 58; (with_reducible refine (CompareI_any _ _ _).mono ?_); rintro e w1 ⟨rfl, rfl⟩)
  refine hK1.out _ _ bx (fun _ => ?_)
  simp only [List.setIfInBounds_toArray, List.set_cons_zero, List.set_cons_succ]
  have b2 : Below V.heap.size V (V.drew.alloc (.cells #[.int .i64 (cmpI a a'), .int .i64 (cmpI b b')] 3)) := bx.alloc (by simp) _
  refine wpAnyH_ready (rs := [10]) (by kernel_rfl) (by simp) ?_
  refine AllReadyH.cons rfl (fun K1 hK1 => ?_) AllReadyH.nil
  rw [if_pos (by kernel_rfl)]
  unfold Oper.wp
  go_simp
  refine hK1.out _ _ b2 (fun _ => ?_)
  simp only [List.setIfInBounds_toArray, List.set_cons_zero, List.set_cons_succ]
  refine wpAnyH_ready (rs := [11]) (by kernel_rfl) (by simp) ?_
  refine AllReadyH.cons rfl (fun K1 hK1 => ?_) AllReadyH.nil
  rw [if_pos (by kernel_rfl)]
  unfold Oper.wp
  go_simp
  go_wp2_with (go_at_call 57; refine (OrI_any _ _ _ _ (by simp; rfl) (by simp; rfl)).mono ?_; rintro e w1 ⟨rfl, rfl⟩)
  refine hK1.out _ _ b2 (fun _ => ?_)
  simp only [List.setIfInBounds_toArray, List.set_cons_zero, List.set_cons_succ]
  refine takeH (i := 12) 4 (v := .int .i64 (orI (cmpI a a') (cmpI b b'))) rfl rfl (by kernel_rfl) (by kernel_rfl) (by kernel_rfl) (fun _ _ _ h => h) (Or.inl ⟨by kernel_rfl, ?_⟩) b2 ?_
  · intro wq hq
    go_simp
  simp only [Act.put, List.setIfInBounds_toArray, List.set_cons_zero, List.set_cons_succ]
  refine wpAnyH_done (by kernel_rfl) ?_ _
  go_wp2
  go_ret
  exact ⟨rfl, HB.out.trans (b2.mono HB.out.size)⟩

end Go.Proofs.Ytndnbkgejdindaa

/- Which cells a state may have: what mayHave comes to. -/
namespace Go.Proofs.Ytndnbkgejdindaa
open Go.ChangeShapes Go.WideShapes Go.ChangeAt Go.RowKit

theorem cmpK_geq (xs ys : List Int) : decide (0 ≤ cmpK xs ys) = !ahead xs ys := by
  rw [← cmpK_lt]
  by_cases h : cmpK xs ys < 0
  · simp [h]
  · simp [h]; omega

set_option maxRecDepth 100000 in
set_option maxHeartbeats 2000000 in
theorem mayHave_any (ok : Nat → Prop) (p : Int) (l : List Cel) (hfew : l.length * 64 ≤ 140737488351232) (la : Option Addr) (lc : Nat) (w : World) (hL : Lies kCel ok w la lc l) (R : Bool) (hR : R = true ↔ CelsP p l) :
    Calls Try.prog 27 #[.slice la l.length lc, .int .i64 p] w fun e w' => e = .returned (.bool R) ∧ Below w.heap.size w w' := by
  obtain ⟨n, hn⟩ : ∃ n, n = l.length := ⟨_, rfl⟩
  rw [← hn]
  have HL := put_by hL
  have HN := put_by hn
  have HR := put_by hR
  have hn8 : n ≤ 140737488351232 := by omega
  clear hL hn hfew hR
  go_enter Try.func27, Try.ntmps27
  go_wp2
  go_loopw [9] (fun i wr => ∃ (k : Nat), k ≤ n ∧ i = .int .i64 k ∧ Hid (GoodL (OkC p) (fun a b => ahead a.key b.key = true) l k ∧ Below w.heap.size w wr)) (fun i _ => n - (intOf i).toNat)
  case atStart => exact ⟨0, Nat.zero_le _, rfl, GoodL.zero _ _ l, Below.refl _ _⟩
  case round =>
    obtain ⟨k, hk, rfl, HB⟩ := hrel
    rename World => wr
    by_cases hlt : k < n
    · have hx : k < l.length := by rw [← HN.out]; exact hlt
      have HBB := put_by HB.out.2
      have HG := put_by HB.out.1
      obtain ⟨R1, hR1⟩ := bool_of (1 ≤ (l[k]).key.length ∧ (l[k]).key.length ≤ 1200 ∧ (l[k]).val.length ≤ 4000 ∧ ((l[k]).gone = true → (l[k]).val = []))
      have HO : Hid (OkC p l[k] ↔ R1 = true ∧ 1 ≤ (l[k]).since ∧ (l[k]).since ≤ p) := by
        rw [hR1]
        exact ⟨fun h => ⟨⟨h.1, h.2.1, h.2.2.1, h.2.2.2.1⟩, h.2.2.2.2⟩, fun h => ⟨h.1.1, h.1.2.1, h.1.2.2.1, h.1.2.2.2, h.2⟩⟩
      have HNO : Hid (¬ OkC p l[k] → R = false) := fun h => of_not HR.out (fun hp => h (hp.1 _ (List.getElem_mem hx)))
      obtain ⟨bb, off, a1, c1, a2, c2, rfl, hk1, hk2, hb, hc⟩ := cel_at HL.out hx
      obtain ⟨d0, d1, d2, d3⟩ := hc wr HBB.out
      have HX : Hid (Octs w a1 c1 (l[k]).key) := by obtain ⟨xa, xc, e, hxo, -⟩ := hk1; cases e; exact hxo
      have cM : Hid (Calls Try.prog 52 #[.agg #[.slice a1 (l[k]).key.length c1, .slice a2 (l[k]).val.length c2, .bool (l[k]).gone, .int .i64 (l[k]).since]] (wr.alloc (.cells #[.slice a1 (l[k]).key.length c1, .slice a2 (l[k]).val.length c2, .bool (l[k]).gone, .int .i64 (l[k]).since] 51)) fun e w' => e = .returned (.bool R1) ∧ w'.cell? ⟨wr.heap.size, 0, none⟩ = some (.slice a1 (l[k]).key.length c1) ∧ w'.cell? ⟨wr.heap.size, 3, none⟩ = some (.int .i64 (l[k]).since) ∧ Hid (Below w.heap.size w w')) :=
        (mayBeCell_any l[k] a1 a2 c1 c2 _ R1 hR1).mono (fun e w' h => ⟨h.1, (h.2.cell (p := ⟨wr.heap.size, 0, none⟩) (by simp)).trans (by simp), (h.2.cell (p := ⟨wr.heap.size, 3, none⟩) (by simp)).trans (by simp), (HBB.out.trans (((Below.refl _ wr).alloc (Nat.le_refl _) _).mono HBB.out.size)).trans (h.2.mono (Nat.le_trans HBB.out.size ((Below.refl wr.heap.size wr).alloc (Nat.le_refl _) _).size))⟩)
      have ik : (k : Int) < (n : Int) := by omega
      have HIl : Hid ((l[k]).key.length = (l[k]).key.length) := rfl
      clear hc hk1 hk2 HB hR1
      obtain ⟨i1, e1⟩ : ∃ i1, i1 = (l[k]).key.length := ⟨_, rfl⟩
      obtain ⟨i2, e2⟩ : ∃ i2, i2 = (l[k]).val.length := ⟨_, rfl⟩
      obtain ⟨g, e3⟩ : ∃ g, g = (l[k]).gone := ⟨_, rfl⟩
      obtain ⟨s, e4⟩ : ∃ s, s = (l[k]).since := ⟨_, rfl⟩
      have HI := put_by e1
      rw [← e1] at d0 cM
      rw [← e2] at d1 cM
      rw [← e3] at d2 cM
      rw [← e4] at d3 cM HO
      clear e1 e2 e3 e4 HIl
      cases R1 with
      | false =>
        have HF := put_by (HNO.out (fun h => by cases (HO.out.1 h).1))
        clear HL HG HNO HO HX
        go_wp2_with (first
          | (go_at_call 52; (with_reducible refine cM.out.mono ?_); clear cM; rintro e w1 ⟨rfl, x0, x3, H1⟩))
        go_ret
        rw [HF.out]
        exact ⟨rfl, H1.out⟩
      | true =>
        by_cases hs1 : s < 1
        · have HF := put_by (HNO.out (fun h => by have := (HO.out.1 h).2.1; omega))
          clear HL HG HNO HO HX
          go_wp2_with (first
            | (go_at_call 52; (with_reducible refine cM.out.mono ?_); clear cM; rintro e w1 ⟨rfl, x0, x3, H1⟩))
          go_ret
          rw [HF.out]
          exact ⟨rfl, H1.out⟩
        · by_cases hs2 : p < s
          · have HF := put_by (HNO.out (fun h => by have := (HO.out.1 h).2.2; omega))
            clear HL HG HNO HO HX
            go_wp2_with (first
              | (go_at_call 52; (with_reducible refine cM.out.mono ?_); clear cM; rintro e w1 ⟨rfl, x0, x3, H1⟩))
            go_ret
            rw [HF.out]
            exact ⟨rfl, H1.out⟩
          · have HOk := put_by (HO.out.2 ⟨rfl, by omega, by omega⟩)
            cases k with
            | zero =>
              rw [Nat.zero_mul, Nat.add_zero] at d0 d1 d2 d3
              have HT : Hid (GoodL (OkC p) (fun a b => ahead a.key b.key = true) l 1) := GoodL.step (R := fun a b : Cel => ahead a.key b.key = true) (fun h1 h2 => ahead_trans h1 h2) hx HG.out HOk.out (fun p hp _ => by omega)
              clear HL HG HNO HO HX
              go_upto_region 6 with (first
                | (go_at_call 52; (with_reducible refine cM.out.mono ?_); clear cM; rintro e w1 ⟨rfl, x0, x3, H1⟩))
              go_quiet (fail)
              go_wp2
              go_roundw
              case rel => exact ⟨1, by omega, by go_num, HT.out, drawn_below H1.out _⟩
              case measure => simp [intOf]; omega
            | succ q =>
              have hq : q < l.length := by omega
              obtain ⟨bb', off', a3, c3, a4, c4, e', hk3, -, -, hc3⟩ := cel_at HL.out hq
              cases e'
              have HY : Hid (Octs w a3 c3 (l[q]).key) := by obtain ⟨xa, xc, e, hxo, -⟩ := hk3; cases e; exact hxo
              obtain ⟨cm, hcm⟩ : ∃ cm, cm = cmpK (l[q]).key (l[q + 1]).key := ⟨_, rfl⟩
              have hcw := cmpK_wf (l[q]).key (l[q + 1]).key
              rw [← hcm] at hcw
              obtain ⟨i3, e5⟩ : ∃ i3, i3 = (l[q]).key.length := ⟨_, rfl⟩
              have HC3 : Hid (∀ W, Below w.heap.size w W → W.cell? ⟨bb, off + q * 4, none⟩ = some (.slice a3 i3 c3)) := fun W hW => by rw [e5]; exact (hc3 W hW).1
              have cC : Hid (∀ V, Below w.heap.size w V → Calls Try.prog 53 #[.slice a3 i3 c3, .slice a1 i1 c1] V fun e w' => e = .returned (.int .i64 cm) ∧ w' = V) := fun V hV => by rw [e5, HI.out, hcm]; exact Compare_any a3 a1 c3 c1 _ _ V (HY.out.later hV) (HX.out.later hV)
              have HCm : Hid (decide (0 ≤ cm) = !ahead (l[q]).key (l[q + 1]).key) := by rw [hcm]; exact cmpK_geq _ _
              have HT : Hid (ahead (l[q]).key (l[q + 1]).key = true → GoodL (OkC p) (fun a b => ahead a.key b.key = true) l (q + 2)) := fun h => GoodL.step (R := fun a b : Cel => ahead a.key b.key = true) (fun h1 h2 => ahead_trans h1 h2) hx HG.out HOk.out (fun p hp _ => by have e : p = q := (by omega); subst e; exact h)
              have HNA : Hid (¬ ahead (l[q]).key (l[q + 1]).key = true → R = false) := fun h => of_not HR.out (fun hp => h (pair_next hp.2 hx))
              clear hk3 hc3 hcm e5 HL HNO HO HX HY
              have iq : (q : Int) < (n : Int) := by omega
              have iz : (0 : Int) < (q : Int) + 1 := by omega
              go_upto_region 6 with (first
                | (go_at_call 52; (with_reducible refine cM.out.mono ?_); clear cM; rintro e w1 ⟨rfl, x0, x3, H1⟩))
              have x5 := HC3.out _ H1.out
              have cC2 : Hid (∀ j, Calls Try.prog 53 #[.slice a3 i3 c3, .slice a1 i1 c1] (w1.drewN j) fun e w' => e = .returned (.int .i64 cm) ∧ w' = w1.drewN j) := fun j => cC.out _ (drawn_below H1.out j)
              clear cC HC3
              go_quiet (first | (go_at_call 53; with_reducible exact Calls.quiet_of_same (cC2.out _)))
              by_cases hcz : 0 ≤ cm
              · have hF : R = false := HNA.out (fun h => by have := HCm.out; rw [h] at this; simp [hcz] at this)
                have HF := put_by hF
                clear hF
                go_wp2
                go_ret
                rw [HF.out]
                exact ⟨rfl, drawn_below H1.out _⟩
              · have HTT := put_by (HT.out (by have := HCm.out; simp only [hcz, decide_false] at this; simpa using this.symm))
                go_wp2
                go_roundw
                case rel => exact ⟨q + 2, by omega, by go_num, HTT.out, drawn_below H1.out _⟩
                case measure => simp [intOf]; omega
    · have HT : Hid (R = true) := HR.out.2 (HB.out.1.all (by rw [← HN.out]; omega))
      have HBB := put_by HB.out.2
      have ik : ¬ (k : Int) < (n : Int) := by omega
      clear HB
      go_wp2
      go_ret
      rw [HT.out]
      exact ⟨rfl, HBB.out⟩

end Go.Proofs.Ytndnbkgejdindaa

/- Which dones a state may have: what mayHaveDone comes to. -/
namespace Go.Proofs.Ytndnbkgejdindaa
open Go.ChangeShapes Go.WideShapes Go.ChangeAt Go.RowKit

set_option maxRecDepth 100000 in
set_option maxHeartbeats 2000000 in
theorem mayHaveDone_any (ok : Nat → Prop) (p : Int) (l : List Dn) (hfew : l.length * 32 ≤ 140737488351232) (la : Option Addr) (lc : Nat) (w : World) (hL : Lies kDn ok w la lc l) (R : Bool) (hR : R = true ↔ DnsP p l) :
    Calls Try.prog 28 #[.slice la l.length lc, .int .i64 p] w fun e w' => e = .returned (.bool R) ∧ Below w.heap.size w w' := by
  obtain ⟨n, hn⟩ : ∃ n, n = l.length := ⟨_, rfl⟩
  rw [← hn]
  have HL := put_by hL
  have HN := put_by hn
  have HR := put_by hR
  have hn8 : n ≤ 140737488351232 := by omega
  clear hL hn hfew hR
  go_enter Try.func28, Try.ntmps28
  go_wp2
  go_loopw [9] (fun i wr => ∃ (k : Nat), k ≤ n ∧ i = .int .i64 k ∧ Hid (GoodL (OkD p) (fun a b => dnAhead a b = true) l k ∧ Below w.heap.size w wr)) (fun i _ => n - (intOf i).toNat)
  case atStart => exact ⟨0, Nat.zero_le _, rfl, GoodL.zero _ _ l, Below.refl _ _⟩
  case round =>
    obtain ⟨k, hk, rfl, HB⟩ := hrel
    rename World => wr
    by_cases hlt : k < n
    · have hx : k < l.length := by rw [← HN.out]; exact hlt
      have HBB := put_by HB.out.2
      have HG := put_by HB.out.1
      have HNO : Hid (¬ OkD p l[k] → R = false) := fun h => of_not HR.out (fun hp => h (hp.1 _ (List.getElem_mem hx)))
      obtain ⟨bb, off, rfl, hb, hc⟩ := dn_at HL.out hx
      obtain ⟨d0, d1, d2, d3⟩ := hc wr HBB.out
      have HA := put_by (HBB.out.trans (((Below.refl wr.heap.size wr).alloc (Nat.le_refl _) (.cells #[.int .i64 (l[k]).client, .int .i64 (l[k]).number, .int .i64 (l[k]).pos, .bool (l[k]).kept] 53)).mono HBB.out.size))
      have ik : (k : Int) < (n : Int) := by omega
      clear hc HB
      have HO : Hid (OkD p l[k] ↔ (1 ≤ (l[k]).client ∧ (l[k]).client ≤ 1048576) ∧ (1 ≤ (l[k]).number ∧ (l[k]).number ≤ 1048576) ∧ 1 ≤ (l[k]).pos ∧ (l[k]).pos ≤ p) := Iff.rfl
      obtain ⟨c, e1⟩ : ∃ c, c = (l[k]).client := ⟨_, rfl⟩
      obtain ⟨m, e2⟩ : ∃ m, m = (l[k]).number := ⟨_, rfl⟩
      obtain ⟨s, e3⟩ : ∃ s, s = (l[k]).pos := ⟨_, rfl⟩
      obtain ⟨g, e4⟩ : ∃ g, g = (l[k]).kept := ⟨_, rfl⟩
      have HE : Hid (l[k] = ⟨c, m, s, g⟩) := by rw [e1, e2, e3, e4]; exact rfl
      rw [← e1] at d0 HO HA
      rw [← e2] at d1 HO HA
      rw [← e3] at d2 HO HA
      rw [← e4] at d3 HA
      clear e1 e2 e3 e4
      have cK : Hid (∀ (x : Int) (r : Bool) (V : World), decide (1 ≤ x ∧ x ≤ 1048576) = r → Calls Try.prog 54 #[.int .i64 x] V fun e w' => e = .returned (.bool r) ∧ w' = V) := fun x r V h => by rw [← h]; exact mayCount_any x V
      obtain ⟨r1, h1⟩ : ∃ r, decide (1 ≤ c ∧ c ≤ 1048576) = r := ⟨_, rfl⟩
      obtain ⟨r2, h2⟩ : ∃ r, decide (1 ≤ m ∧ m ≤ 1048576) = r := ⟨_, rfl⟩
      have K1 := put_by (fun V => cK.out c r1 V h1)
      have K2 := put_by (fun V => cK.out m r2 V h2)
      have H1 := put_by h1
      have H2 := put_by h2
      clear cK h1 h2
      by_cases hall : r1 = true ∧ r2 = true ∧ 1 ≤ s ∧ s ≤ p
      · obtain ⟨rfl, rfl, hs1, hs2⟩ := hall
        have HOk := put_by (HO.out.2 ⟨by have := H1.out; simpa using this, by have := H2.out; simpa using this, hs1, hs2⟩)
        have is1 : ¬ s < 1 := by omega
        have is2 : ¬ p < s := by omega
        cases k with
        | zero =>
          rw [Nat.zero_mul, Nat.add_zero] at d0 d1 d2 d3
          have HT : Hid (GoodL (OkD p) (fun a b => dnAhead a b = true) l 1) := GoodL.step (R := fun a b : Dn => dnAhead a b = true) (fun h1 h2 => dnAhead_trans h1 h2) hx HG.out HOk.out (fun p hp _ => by omega)
          clear HL HG HNO HO
          go_upto_region 6 with (first
            | (go_at_call 54; (with_reducible refine (K1.out _).mono ?_); rintro e w1 ⟨rfl, rfl⟩)
            | (go_at_call 54; (with_reducible refine (K2.out _).mono ?_); rintro e w1 ⟨rfl, rfl⟩))
          go_quiet (fail)
          go_wp2
          go_roundw
          case rel => exact ⟨1, by omega, by go_num, HT.out, drawn_below HA.out _⟩
          case measure => simp [intOf]; omega
        | succ q =>
          have hq : q < l.length := by omega
          obtain ⟨bb', off', e', -, hc3⟩ := dn_at HL.out hq
          cases e'
          have HT : Hid (dnAhead l[q] l[q + 1] = true → GoodL (OkD p) (fun a b => dnAhead a b = true) l (q + 2)) := fun h => GoodL.step (R := fun a b : Dn => dnAhead a b = true) (fun h1 h2 => dnAhead_trans h1 h2) hx HG.out HOk.out (fun p hp _ => by have e : p = q := (by omega); subst e; exact h)
          have HNA : Hid (¬ dnAhead l[q] l[q + 1] = true → R = false) := fun h => of_not HR.out (fun hp => h (pair_next hp.2 hx))
          obtain ⟨cm, hcm⟩ : ∃ cm, cm = cmpD l[q] l[q + 1] := ⟨_, rfl⟩
          have HCm : Hid (cm < 0 ↔ dnAhead l[q] l[q + 1] = true) := by rw [hcm]; exact cmpD_lt _ _
          have cC : Hid (∀ V, Below w.heap.size w V → Calls Try.prog 32 #[.agg #[.int .i64 (l[q]).client, .int .i64 (l[q]).number, .int .i64 (l[q]).pos, .bool (l[q]).kept], .agg #[.int .i64 c, .int .i64 m, .int .i64 s, .bool g]] V fun e w' => e = .returned (.int .i64 cm) ∧ Below V.heap.size V w') := fun V hV => by
            rw [hcm, HE.out]
            exact compareDones_any l[q] ⟨c, m, s, g⟩ V
          generalize (l[q]).client = c' at hc3 cC
          generalize (l[q]).number = m' at hc3 cC
          generalize (l[q]).pos = s' at hc3 cC
          generalize (l[q]).kept = g' at hc3 cC
          have HC3 := put_by hc3
          clear HL HG HNO HO hcm hc3
          have iq : (q : Int) < (n : Int) := by omega
          have iz : (0 : Int) < (q : Int) + 1 := by omega
          have iw : IntKind.i64.wrap (q : Int) = (q : Int) := by rw [IntKind.wrap_i64]; omega
          go_upto_region 6 with (first
            | (go_at_call 54; (with_reducible refine (K1.out _).mono ?_); rintro e w1 ⟨rfl, rfl⟩)
            | (go_at_call 54; (with_reducible refine (K2.out _).mono ?_); rintro e w1 ⟨rfl, rfl⟩))
          have n0 : (wr.alloc (.cells #[.int .i64 c, .int .i64 m, .int .i64 s, .bool g] 53)).cell? ⟨wr.heap.size, 0, none⟩ = some (.int .i64 c) := by simp
          have n1 : (wr.alloc (.cells #[.int .i64 c, .int .i64 m, .int .i64 s, .bool g] 53)).cell? ⟨wr.heap.size, 1, none⟩ = some (.int .i64 m) := by simp
          have n2 : (wr.alloc (.cells #[.int .i64 c, .int .i64 m, .int .i64 s, .bool g] 53)).cell? ⟨wr.heap.size, 2, none⟩ = some (.int .i64 s) := by simp
          have n3 : (wr.alloc (.cells #[.int .i64 c, .int .i64 m, .int .i64 s, .bool g] 53)).cell? ⟨wr.heap.size, 3, none⟩ = some (.bool g) := by simp
          have HCN : Hid (∀ W, Below (wr.alloc (.cells #[.int .i64 c, .int .i64 m, .int .i64 s, .bool g] 53)).heap.size (wr.alloc (.cells #[.int .i64 c, .int .i64 m, .int .i64 s, .bool g] 53)) W → W.cell? ⟨wr.heap.size, 0, none⟩ = some (.int .i64 c) ∧ W.cell? ⟨wr.heap.size, 1, none⟩ = some (.int .i64 m) ∧ W.cell? ⟨wr.heap.size, 2, none⟩ = some (.int .i64 s) ∧ W.cell? ⟨wr.heap.size, 3, none⟩ = some (.bool g)) := fun W hW => ⟨(hW.cell (p := ⟨wr.heap.size, 0, none⟩) (by simp)).trans n0, (hW.cell (p := ⟨wr.heap.size, 1, none⟩) (by simp)).trans n1, (hW.cell (p := ⟨wr.heap.size, 2, none⟩) (by simp)).trans n2, (hW.cell (p := ⟨wr.heap.size, 3, none⟩) (by simp)).trans n3⟩
          clear n0 n1 n2 n3
          generalize wr.alloc (.cells #[.int .i64 c, .int .i64 m, .int .i64 s, .bool g] _) = W0 at HA HCN ⊢
          have bx : Below W0.heap.size W0 W0.drew := (Below.refl _ _).drew
          replace cC : Hid (∀ V, Below W0.heap.size W0 V → Calls Try.prog 32 #[.agg #[.int .i64 c', .int .i64 m', .int .i64 s', .bool g'], .agg #[.int .i64 c, .int .i64 m, .int .i64 s, .bool g]] V fun e w' => e = .returned (.int .i64 cm) ∧ Hid (Below w.heap.size w w') ∧ Below W0.heap.size W0 w') := fun V hV => (cC.out V (HA.out.trans (hV.mono HA.out.size))).mono (fun e w' h => ⟨h.1, HA.out.trans ((hV.trans (h.2.mono hV.size)).mono HA.out.size), hV.trans (h.2.mono hV.size)⟩)
          clear d0 d1 d2 d3
          refine wp_region_held (S := fun W => Below W0.heap.size W0 W) (by kernel_rfl) ?_
          change wpAnyH _ _ _ _ _ 12 #[false, false, false, false, false, false, false, false, false, false, false, false] _ W0.drew
          refine takeH (i := 0) 35 (v := .int .i64 ((q : Int) + 1)) rfl rfl (by kernel_rfl) (by kernel_rfl) (by kernel_rfl) (fun _ _ _ h => h) (Or.inl ⟨by kernel_rfl, ?_⟩) bx ?_
          · intro wq hq
            go_simp
          simp only [Act.put, List.setIfInBounds_toArray, List.set_cons_zero]
          refine takeH (i := 1) 36 (v := .bool true) rfl rfl (by kernel_rfl) (by kernel_rfl) (by kernel_rfl) (fun _ _ _ h => h) (Or.inl ⟨by kernel_rfl, ?_⟩) bx ?_
          · intro wq hq
            go_simp
          simp only [Act.put, List.setIfInBounds_toArray, List.set_cons_zero, List.set_cons_succ]
          refine takeH (i := 2) 37 (v := .bool true) rfl rfl (by kernel_rfl) (by kernel_rfl) (by kernel_rfl) (fun _ _ _ h => h) (Or.inl ⟨by kernel_rfl, ?_⟩) bx ?_
          · intro wq hq
            go_simp
          simp only [Act.put, List.setIfInBounds_toArray, List.set_cons_zero, List.set_cons_succ]
          refine takeH (i := 3) 38 (v := .slice (some ⟨bb, off, none⟩) n lc) rfl rfl (by kernel_rfl) (by kernel_rfl) (by kernel_rfl) (fun _ _ _ h => h) (Or.inl ⟨by kernel_rfl, ?_⟩) bx ?_
          · intro wq hq
            go_simp
          simp only [Act.put, List.setIfInBounds_toArray, List.set_cons_zero, List.set_cons_succ]
          refine takeH (i := 4) 39 (v := .int .i64 ((q : Int) + 1)) rfl rfl (by kernel_rfl) (by kernel_rfl) (by kernel_rfl) (fun _ _ _ h => h) (Or.inl ⟨by kernel_rfl, ?_⟩) bx ?_
          · intro wq hq
            go_simp
          simp only [Act.put, List.setIfInBounds_toArray, List.set_cons_zero, List.set_cons_succ]
          refine takeH (i := 5) 40 (v := .int .i64 (q : Int)) rfl rfl (by kernel_rfl) (by kernel_rfl) (by kernel_rfl) (fun _ _ _ h => h) (Or.inl ⟨by kernel_rfl, ?_⟩) bx ?_
          · intro wq hq
            go_simp
          simp only [Act.put, List.setIfInBounds_toArray, List.set_cons_zero, List.set_cons_succ]
          refine takeH (i := 6) 41 (v := .pointer (some ⟨bb, off + q * 4, none⟩)) rfl rfl (by kernel_rfl) (by kernel_rfl) (by kernel_rfl) (fun _ _ _ h => h) (Or.inl ⟨by kernel_rfl, ?_⟩) bx ?_
          · intro wq hq
            go_simp
          simp only [Act.put, List.setIfInBounds_toArray, List.set_cons_zero, List.set_cons_succ]
          refine takeH (i := 7) 42 (v := .agg #[.int .i64 c', .int .i64 m', .int .i64 s', .bool g']) rfl rfl (by kernel_rfl) (by kernel_rfl) (by kernel_rfl) (fun _ _ _ h => h) (Or.inl ⟨by kernel_rfl, ?_⟩) bx ?_
          · intro wq hq
            have hh := HC3.out wq (HA.out.trans (hq.mono HA.out.size))
            clear HC3
            obtain ⟨q0, q1, q2, q3⟩ := hh
            go_simp
          simp only [Act.put, List.setIfInBounds_toArray, List.set_cons_zero, List.set_cons_succ]
          refine takeH (i := 8) 43 (v := .agg #[.int .i64 c, .int .i64 m, .int .i64 s, .bool g]) rfl rfl (by kernel_rfl) (by kernel_rfl) (by kernel_rfl) (fun _ _ _ h => h) (Or.inl ⟨by kernel_rfl, ?_⟩) bx ?_
          · intro wq hq
            have hh := HCN.out wq hq
            clear HC3 HCN
            obtain ⟨q0, q1, q2, q3⟩ := hh
            go_simp
          simp only [Act.put, List.setIfInBounds_toArray, List.set_cons_zero, List.set_cons_succ]
          refine wpAnyH_ready (rs := [9]) (by kernel_rfl) (by simp) ?_
          refine AllReadyH.cons rfl (fun K1 hK1 => ?_) AllReadyH.nil
          rw [if_pos (by kernel_rfl)]
          unfold Oper.wp
          go_simp
          go_wp2_with (go_at_call 32; (with_reducible refine (cC.out _ bx).mono ?_); clear cC; rintro e w1 ⟨rfl, H3, b3⟩)
          refine hK1.out _ _ b3 (fun _ => ?_)
          simp only [List.setIfInBounds_toArray, List.set_cons_zero, List.set_cons_succ]
          refine takeH (i := 10) 45 (v := .bool (decide (0 ≤ cm))) rfl rfl (by kernel_rfl) (by kernel_rfl) (by kernel_rfl) (fun _ _ _ h => h) (Or.inl ⟨by kernel_rfl, ?_⟩) b3 ?_
          · intro wq hq
            go_simp
          simp only [Act.put, List.setIfInBounds_toArray, List.set_cons_zero, List.set_cons_succ]
          refine takeH (i := 11) 46 (v := .bool (decide (0 ≤ cm))) rfl rfl (by kernel_rfl) (by kernel_rfl) (by kernel_rfl) (fun _ _ _ h => h) (Or.inl ⟨by kernel_rfl, ?_⟩) b3 ?_
          · intro wq hq
            go_simp
          simp only [Act.put, List.setIfInBounds_toArray, List.set_cons_zero, List.set_cons_succ]
          refine wpAnyH_done (by kernel_rfl) ?_ _
          by_cases hcz : 0 ≤ cm
          · have hF : R = false := HNA.out (fun h => by have := HCm.out.2 h; omega)
            have HF := put_by hF
            clear hF
            go_wp2
            go_ret
            rw [HF.out]
            exact ⟨rfl, H3.out⟩
          · have HTT := put_by (HT.out (HCm.out.1 (by omega)))
            go_wp2
            go_roundw
            case rel => exact ⟨q + 2, by omega, by go_num, HTT.out, H3.out⟩
            case measure => simp [intOf]; omega
      · have HF := put_by (HNO.out (fun h => hall ⟨by rw [← H1.out]; exact decide_eq_true (HO.out.1 h).1, by rw [← H2.out]; exact decide_eq_true (HO.out.1 h).2.1, (HO.out.1 h).2.2.1, (HO.out.1 h).2.2.2⟩))
        clear HL HG HNO HO H1 H2
        cases r1 with
        | false =>
          go_wp2_with (first
            | (go_at_call 54; (with_reducible refine (K1.out _).mono ?_); rintro e w1 ⟨rfl, rfl⟩)
            | (go_at_call 54; (with_reducible refine (K2.out _).mono ?_); rintro e w1 ⟨rfl, rfl⟩))
          go_ret
          rw [HF.out]
          exact ⟨rfl, HA.out⟩
        | true =>
          cases r2 with
          | false =>
            go_wp2_with (first
              | (go_at_call 54; (with_reducible refine (K1.out _).mono ?_); rintro e w1 ⟨rfl, rfl⟩)
              | (go_at_call 54; (with_reducible refine (K2.out _).mono ?_); rintro e w1 ⟨rfl, rfl⟩))
            go_ret
            rw [HF.out]
            exact ⟨rfl, HA.out⟩
          | true =>
            by_cases hs1 : s < 1
            · clear hall
              go_wp2_with (first
                | (go_at_call 54; (with_reducible refine (K1.out _).mono ?_); rintro e w1 ⟨rfl, rfl⟩)
                | (go_at_call 54; (with_reducible refine (K2.out _).mono ?_); rintro e w1 ⟨rfl, rfl⟩))
              go_ret
              rw [HF.out]
              exact ⟨rfl, HA.out⟩
            · have hs2 : p < s := by
                refine Int.not_le.1 (fun h => hall ⟨rfl, rfl, by omega, h⟩)
              clear hall
              go_wp2_with (first
                | (go_at_call 54; (with_reducible refine (K1.out _).mono ?_); rintro e w1 ⟨rfl, rfl⟩)
                | (go_at_call 54; (with_reducible refine (K2.out _).mono ?_); rintro e w1 ⟨rfl, rfl⟩))
              go_ret
              rw [HF.out]
              exact ⟨rfl, HA.out⟩
    · have HT : Hid (R = true) := HR.out.2 (HB.out.1.all (by rw [← HN.out]; omega))
      have HBB := put_by HB.out.2
      have ik : ¬ (k : Int) < (n : Int) := by omega
      clear HB
      go_wp2
      go_ret
      rw [HT.out]
      exact ⟨rfl, HBB.out⟩

end Go.Proofs.Ytndnbkgejdindaa

/- Which states may be: what May comes to at every state. -/
namespace Go.Proofs.Ytndnbkgejdindaa
open Go.ChangeShapes Go.WideShapes Go.ChangeAt Go.RowKit

theorem mayS_iff {p : Int} {cs : List Cel} {ds : List Dn} : MayS ⟨p, cs, ds⟩ ↔ (0 ≤ p ∧ p ≤ 1048576) ∧ CelsP p cs ∧ DnsP p ds :=
  ⟨fun h => ⟨h.pos, ⟨h.cells, h.asc⟩, ⟨h.dones, h.ascD⟩⟩, fun h => ⟨h.1, h.2.1.1, h.2.1.2, h.2.2.1, h.2.2.2⟩⟩

set_option maxRecDepth 100000 in
set_option maxHeartbeats 4000000 in
theorem MayS_any (ok : Nat → Prop) (p : Int) (cs : List Cel) (ds : List Dn) (ca : Option Addr) (cc : Nat) (da : Option Addr) (dc : Nat) (w : World) (hI : StIs ok w cs ds ca cc da dc) (R : Bool) (hR : R = true ↔ MayS ⟨p, cs, ds⟩) :
    Calls Try.prog 16 #[.agg #[.int .i64 p, .slice ca cs.length cc, .slice da ds.length dc]] w fun e w' => e = .returned (.bool R) ∧ Below w.heap.size w w' := by
  rw [mayS_iff] at hR
  obtain ⟨r1, h1⟩ := bool_of (CelsP p cs)
  obtain ⟨r2, h2⟩ := bool_of (DnsP p ds)
  have hV := (Below.refl w.heap.size w).alloc (Nat.le_refl _) (.cells #[.int .i64 p, .slice ca cs.length cc, .slice da ds.length dc] 25)
  have c1 : Hid (Calls Try.prog 27 #[.slice ca cs.length cc, .int .i64 p] (w.alloc (.cells #[.int .i64 p, .slice ca cs.length cc, .slice da ds.length dc] 25)) fun e w' => e = .returned (.bool r1) ∧ w'.cell? ⟨w.heap.size, 2, none⟩ = some (.slice da ds.length dc) ∧ w'.cell? ⟨w.heap.size, 0, none⟩ = some (.int .i64 p) ∧ Hid (Below w.heap.size w w')) :=
    (mayHave_any ok p cs hI.few.1 ca cc _ (hI.cells.later hV) r1 h1).mono (fun e w' h => ⟨h.1, (h.2.cell (p := ⟨w.heap.size, 2, none⟩) (by simp)).trans (by simp), (h.2.cell (p := ⟨w.heap.size, 0, none⟩) (by simp)).trans (by simp), hV.trans (h.2.mono hV.size)⟩)
  have c2 : Hid (∀ V, Below w.heap.size w V → Calls Try.prog 28 #[.slice da ds.length dc, .int .i64 p] V fun e w' => e = .returned (.bool r2) ∧ Hid (Below w.heap.size w w')) := fun V hW => (mayHaveDone_any ok p ds hI.few.2 da dc V (hI.dones.later hW) r2 h2).mono (fun e w' h => ⟨h.1, hW.trans (h.2.mono hW.size)⟩)
  have HV := put_by hV
  have HR : Hid (R = true ↔ (0 ≤ p ∧ p ≤ 1048576) ∧ r1 = true ∧ r2 = true) := by rw [h1, h2]; exact hR
  clear hI hR h1 h2 hV
  generalize cs.length = n1 at c1 HV ⊢
  generalize ds.length = n2 at c1 c2 HV ⊢
  by_cases p0 : 0 ≤ p
  · by_cases p1 : p ≤ 1048576
    · cases r1 with
      | false =>
        have HF : Hid (R = false) := of_not HR.out (fun h => by cases h.2.1)
        go_enter Try.func16, Try.ntmps16
        go_wp2_with (first
          | (go_at_call 27; (with_reducible refine c1.out.mono ?_); clear c1; rintro e w1 ⟨rfl, k2, k0, H1⟩))
        go_ret
        rw [HF.out]
        exact ⟨rfl, H1.out⟩
      | true =>
        cases r2 with
        | false =>
          have HF : Hid (R = false) := of_not HR.out (fun h => by cases h.2.2)
          go_enter Try.func16, Try.ntmps16
          go_wp2_with (first
            | (go_at_call 27; (with_reducible refine c1.out.mono ?_); clear c1; rintro e w1 ⟨rfl, k2, k0, H1⟩)
            | (go_at_call 28; (with_reducible refine (c2.out _ H1.out).mono ?_); clear c2; rintro e w2 ⟨rfl, H2⟩))
          go_ret
          rw [HF.out]
          exact ⟨rfl, H2.out⟩
        | true =>
          have HF : Hid (R = true) := HR.out.2 ⟨⟨p0, p1⟩, rfl, rfl⟩
          go_enter Try.func16, Try.ntmps16
          go_wp2_with (first
            | (go_at_call 27; (with_reducible refine c1.out.mono ?_); clear c1; rintro e w1 ⟨rfl, k2, k0, H1⟩)
            | (go_at_call 28; (with_reducible refine (c2.out _ H1.out).mono ?_); clear c2; rintro e w2 ⟨rfl, H2⟩))
          go_ret
          rw [HF.out]
          exact ⟨rfl, H2.out⟩
    · have HF : Hid (R = false) := of_not HR.out (fun h => p1 h.1.2)
      go_enter Try.func16, Try.ntmps16
      go_wp2
      go_ret
      rw [HF.out]
      exact ⟨rfl, HV.out⟩
  · have HF : Hid (R = false) := of_not HR.out (fun h => p0 h.1.1)
    go_enter Try.func16, Try.ntmps16
    go_wp2
    go_ret
    rw [HF.out]
    exact ⟨rfl, HV.out⟩

end Go.Proofs.Ytndnbkgejdindaa
