/- Where among things in order one stands, or would stand: dones, keys, cells. -/
import Derived.Test.YtjjdednlddnllaaMlCmp
import Derived.Test.YtjjdednlddnllaaKeyRow
namespace Go.Proofs.Ytjjdednlddnllaa
open Go.ChangeShapes Go.WideShapes Go.ChangeAt Go.RowKit

/-- is the first one the one -/
def headF {α : Type} (f : α → Int) (r : List α) : Bool := match r with
  | [] => false
  | y :: _ => f y == 0

theorem cut_atF {α : Type} {es : List α} {f : α → Int} {i : Nat} (hi : i ≤ es.length) (h1 : ∀ m (hm : m < es.length), m < i → f es[m] < 0) (h2 : ∀ m (hm : m < es.length), i ≤ m → 0 ≤ f es[m]) :
    ∃ l r, es = l ++ r ∧ l.length = i ∧ (∀ y ∈ l, f y < 0) ∧ (∀ y ∈ r, 0 ≤ f y) := by
  refine ⟨es.take i, es.drop i, (List.take_append_drop i es).symm, by rw [List.length_take]; omega, fun y hy => ?_, fun y hy => ?_⟩
  · obtain ⟨m, hm, rfl⟩ := List.getElem_of_mem hy
    rw [List.getElem_take]
    rw [List.length_take] at hm
    exact h1 m (by omega) (by omega)
  · obtain ⟨m, hm, rfl⟩ := List.getElem_of_mem hy
    rw [List.getElem_drop]
    rw [List.length_drop] at hm
    exact h2 (i + m) (by omega) (by omega)

theorem headF_at {α : Type} {es l r : List α} {f : α → Int} {i : Nat} (h : es = l ++ r) (hl : l.length = i) (hi : i < es.length) : headF f r = (f es[i] == 0) := by
  subst h
  cases r with
  | nil => simp at hi; omega
  | cons e r =>
    have : (l ++ e :: r)[i] = e := by
      rw [List.getElem_append_right (by omega)]
      simp [hl]
    rw [this]
    rfl

/-- what a search comes to -/
def FindPost {α : Type} (f : α → Int) (es : List α) (w : World) (e : Ending) (w' : World) : Prop := ∃ l r, es = l ++ r ∧ (∀ y ∈ l, f y < 0) ∧ (∀ y ∈ r, 0 ≤ f y) ∧ e = .returned (.tuple #[.int .i64 l.length, .bool (headF f r)]) ∧ Below w.heap.size w w'

set_option maxRecDepth 100000 in
set_option maxHeartbeats 4000000 in
theorem searchD_any {α : Type} (es : List α) (hl : es.length ≤ 140737488351232) (f : α → Int) (hm : ∀ i j (hi : i < es.length) (hj : j < es.length), i < j → f es[j] < 0 → f es[i] < 0) (ao : Option Addr) (cap : Nat) (y0 y1 y2 : Int) (y3 : Bool) (w : World)
    (cF0 : ∀ k (hk : k < es.length), ∃ (b off : Nat) (x0 x1 x2 : Int) (x3 : Bool), ao = some ⟨b, off, none⟩ ∧ ∀ W : World, Below w.heap.size w W → W.cell? ⟨b, off + k * 4, none⟩ = some (.int .i64 x0) ∧ W.cell? ⟨b, off + k * 4 + 1, none⟩ = some (.int .i64 x1) ∧ W.cell? ⟨b, off + k * 4 + 2, none⟩ = some (.int .i64 x2) ∧ W.cell? ⟨b, off + k * 4 + 3, none⟩ = some (.bool x3) ∧ Calls Try.prog 49 #[.agg #[.int .i64 x0, .int .i64 x1, .int .i64 x2, .bool x3], .agg #[.int .i64 y0, .int .i64 y1, .int .i64 y2, .bool y3]] W fun e w' => e = .returned (.int .i64 (f es[k])) ∧ Below W.heap.size W w') :
    Calls Try.prog 52 #[.slice ao es.length cap, .agg #[.int .i64 y0, .int .i64 y1, .int .i64 y2, .bool y3], .func (.func 49) #[] #[]] w fun e w' => FindPost f es w e w' := by
  generalize hpost : (fun e w' => FindPost f es w e w') = R
  have HP : Hid (∀ e w', FindPost f es w e w' → R e w') := fun e w' h => by rw [← hpost]; exact h
  clear hpost
  have HA := put_by hm
  have cF := put_by cF0
  obtain ⟨n, hn⟩ : ∃ n, n = es.length := ⟨_, rfl⟩
  rw [← hn] at hl ⊢
  have HN : Hid (n = es.length) := hn
  clear hm hn cF0
  have HB := put_by ((Below.refl w.heap.size w).alloc (Nat.le_refl _) (.cells #[.int .i64 y0, .int .i64 y1, .int .i64 y2, .bool y3] 57))
  have HX : Hid (∀ W, Below (w.alloc (.cells #[.int .i64 y0, .int .i64 y1, .int .i64 y2, .bool y3] 57)).heap.size (w.alloc (.cells #[.int .i64 y0, .int .i64 y1, .int .i64 y2, .bool y3] 57)) W → W.cell? ⟨w.heap.size, 0, none⟩ = some (.int .i64 y0) ∧ W.cell? ⟨w.heap.size, 1, none⟩ = some (.int .i64 y1) ∧ W.cell? ⟨w.heap.size, 2, none⟩ = some (.int .i64 y2) ∧ W.cell? ⟨w.heap.size, 3, none⟩ = some (.bool y3)) := fun W hW => ⟨(hW.cell (p := ⟨w.heap.size, 0, none⟩) (by simp)).trans (by simp), (hW.cell (p := ⟨w.heap.size, 1, none⟩) (by simp)).trans (by simp), (hW.cell (p := ⟨w.heap.size, 2, none⟩) (by simp)).trans (by simp), (hW.cell (p := ⟨w.heap.size, 3, none⟩) (by simp)).trans (by simp)⟩
  go_enter Try.func52, Try.ntmps52
  go_upto_region 1 with (fail)
  generalize (w.alloc (.cells #[.int .i64 y0, .int .i64 y1, .int .i64 y2, .bool y3] 57)) = W0 at HB HX ⊢
  go_wp2
  go_loopw [9, 10] (fun x y wr => ∃ (i j : Nat), i ≤ j ∧ j ≤ n ∧ x = .int .i64 i ∧ y = .int .i64 j ∧ Hid ((∀ m (hm : m < es.length), m < i → f es[m] < 0) ∧ (∀ m (hm : m < es.length), j ≤ m → 0 ≤ f es[m]) ∧ Below W0.heap.size W0 wr)) (fun x y _ => (intOf y).toNat - (intOf x).toNat)
  case atStart => exact ⟨0, n, Nat.zero_le _, Nat.le_refl _, rfl, rfl, fun _ _ h => absurd h (Nat.not_lt_zero _), fun m hm h => absurd hm (by rw [← HN.out]; omega), Below.refl _ _⟩
  case round =>
    obtain ⟨i, j, hij, hjn, rfl, rfl, HI⟩ := hrel
    rename World => wr
    have bx : Below W0.heap.size W0 wr.drew := HI.out.2.2.drew
    by_cases hlt : i < j
    · have hx : (i + j) / 2 < es.length := by rw [← HN.out]; omega
      obtain ⟨b, off, x0, x1, x2, x3, rfl, hcc0⟩ := cF.out _ hx
      obtain ⟨h, hh⟩ : ∃ h, h = (i + j) / 2 := ⟨_, rfl⟩
      have h1 : i ≤ h := by omega
      have h2 : h < j := by omega
      have HC : Hid (((f es[(i + j) / 2] < 0) → ∀ m (hm : m < es.length), m < h + 1 → f es[m] < 0) ∧ (¬ (f es[(i + j) / 2] < 0) → ∀ m (hm : m < es.length), h ≤ m → 0 ≤ f es[m])) := by
        subst hh
        refine ⟨fun e m hm hmi => ?_, fun e m hm hmi => Int.not_lt.1 (fun h0 => ?_)⟩
        · rcases Nat.lt_or_ge m ((i + j) / 2) with q | q
          · exact HA.out _ _ hm hx q e
          · have : m = (i + j) / 2 := by omega
            subst this
            exact e
        · rcases Nat.lt_or_ge ((i + j) / 2) m with q | q
          · exact e (HA.out _ _ hx hm q h0)
          · have : m = (i + j) / 2 := by omega
            subst this
            exact e h0
      generalize f es[(i + j) / 2] = r at HC hcc0
      rw [← hh] at hcc0
      have hcc := put_by hcc0
      have hi2 : ((i : Int) + (j : Int)) / 2 = (h : Int) := by omega
      have hn2 : (h : Int) < (n : Int) := by omega
      have HH := put_by hh
      clear hcc0 hx hh
      by_cases hr0 : r < 0
      · have HD := put_by (HC.out.1 hr0)
        clear HC
        go_upto_region 5 with (fail)
        try simp only [hi2]
        refine wp_region_held (S := fun W => Below W0.heap.size W0 W) (by kernel_rfl) ?_
        change wpAnyH _ _ _ _ _ 8 #[false, false, false, false, false, false, false, false] _ wr.drew
        refine takeH (i := 0) 24 (v := .func (.func 49) #[] #[]) rfl rfl (by kernel_rfl) (by kernel_rfl) (by kernel_rfl) (fun _ _ _ h => h) (Or.inl ⟨by kernel_rfl, ?_⟩) bx ?_
        · intro wq hq
          go_simp
        simp only [Act.put, List.setIfInBounds_toArray, List.set_cons_zero]
        refine takeH (i := 1) 25 (v := .slice (some ⟨b, off, none⟩) n cap) rfl rfl (by kernel_rfl) (by kernel_rfl) (by kernel_rfl) (fun _ _ _ h => h) (Or.inl ⟨by kernel_rfl, ?_⟩) bx ?_
        · intro wq hq
          go_simp
        simp only [Act.put, List.setIfInBounds_toArray, List.set_cons_zero, List.set_cons_succ]
        refine takeH (i := 2) 26 (v := .int .i64 (h : Int)) rfl rfl (by kernel_rfl) (by kernel_rfl) (by kernel_rfl) (fun _ _ _ h => h) (Or.inl ⟨by kernel_rfl, ?_⟩) bx ?_
        · intro wq hq
          go_simp
        simp only [Act.put, List.setIfInBounds_toArray, List.set_cons_zero, List.set_cons_succ]
        refine takeH (i := 3) 27 (v := .pointer (some ⟨b, off + h * 4, none⟩)) rfl rfl (by kernel_rfl) (by kernel_rfl) (by kernel_rfl) (fun _ _ _ h => h) (Or.inl ⟨by kernel_rfl, ?_⟩) bx ?_
        · intro wq hq
          go_simp
        simp only [Act.put, List.setIfInBounds_toArray, List.set_cons_zero, List.set_cons_succ]
        refine takeH (i := 4) 28 (v := .agg #[.int .i64 x0, .int .i64 x1, .int .i64 x2, .bool x3]) rfl rfl (by kernel_rfl) (by kernel_rfl) (by kernel_rfl) (fun _ _ _ h => h) (Or.inl ⟨by kernel_rfl, ?_⟩) bx ?_
        · intro wq hq
          obtain ⟨q0, q1, q2, q3, -⟩ := hcc.out wq (HB.out.trans (Below.mono hq HB.out.size))
          go_simp
        simp only [Act.put, List.setIfInBounds_toArray, List.set_cons_zero, List.set_cons_succ]
        refine takeH (i := 5) 29 (v := .agg #[.int .i64 y0, .int .i64 y1, .int .i64 y2, .bool y3]) rfl rfl (by kernel_rfl) (by kernel_rfl) (by kernel_rfl) (fun _ _ _ h => h) (Or.inl ⟨by kernel_rfl, ?_⟩) bx ?_
        · intro wq hq
          obtain ⟨q0, q1, q2, q3⟩ := HX.out wq hq
          go_simp
        simp only [Act.put, List.setIfInBounds_toArray, List.set_cons_zero, List.set_cons_succ]
        refine wpAnyH_ready (rs := [6]) (by kernel_rfl) (by simp) ?_
        refine AllReadyH.cons rfl (fun K1 hK1 => ?_) AllReadyH.nil
        rw [if_pos (by kernel_rfl)]
        unfold Oper.wp
        go_simp
        go_wp2_with (go_at_call 49; (with_reducible refine ((hcc.out _ (HB.out.trans (bx.mono HB.out.size))).2.2.2.2).mono ?_); clear hcc; rintro e w1 ⟨rfl, b0⟩; have b1 := bx.trans (b0.mono bx.size); clear b0)
        refine hK1.out _ _ b1 (fun _ => ?_)
        simp only [List.setIfInBounds_toArray, List.set_cons_zero, List.set_cons_succ]
        refine takeH (i := 7) 31 (v := .bool true) rfl rfl (by kernel_rfl) (by kernel_rfl) (by kernel_rfl) (fun _ _ _ h => h) (Or.inl ⟨by kernel_rfl, ?_⟩) b1 ?_
        · intro wq hq
          go_simp
        simp only [Act.put, List.setIfInBounds_toArray, List.set_cons_zero, List.set_cons_succ]
        refine wpAnyH_done (by kernel_rfl) ?_ _
        go_wp2
        go_roundw
        case rel => exact ⟨h + 1, j, by omega, hjn, by go_num, rfl, HD.out, HI.out.2.1, b1⟩
        case measure => simp [intOf]; omega
      · have HD := put_by (HC.out.2 hr0)
        clear HC
        go_upto_region 5 with (fail)
        try simp only [hi2]
        refine wp_region_held (S := fun W => Below W0.heap.size W0 W) (by kernel_rfl) ?_
        change wpAnyH _ _ _ _ _ 8 #[false, false, false, false, false, false, false, false] _ wr.drew
        refine takeH (i := 0) 24 (v := .func (.func 49) #[] #[]) rfl rfl (by kernel_rfl) (by kernel_rfl) (by kernel_rfl) (fun _ _ _ h => h) (Or.inl ⟨by kernel_rfl, ?_⟩) bx ?_
        · intro wq hq
          go_simp
        simp only [Act.put, List.setIfInBounds_toArray, List.set_cons_zero]
        refine takeH (i := 1) 25 (v := .slice (some ⟨b, off, none⟩) n cap) rfl rfl (by kernel_rfl) (by kernel_rfl) (by kernel_rfl) (fun _ _ _ h => h) (Or.inl ⟨by kernel_rfl, ?_⟩) bx ?_
        · intro wq hq
          go_simp
        simp only [Act.put, List.setIfInBounds_toArray, List.set_cons_zero, List.set_cons_succ]
        refine takeH (i := 2) 26 (v := .int .i64 (h : Int)) rfl rfl (by kernel_rfl) (by kernel_rfl) (by kernel_rfl) (fun _ _ _ h => h) (Or.inl ⟨by kernel_rfl, ?_⟩) bx ?_
        · intro wq hq
          go_simp
        simp only [Act.put, List.setIfInBounds_toArray, List.set_cons_zero, List.set_cons_succ]
        refine takeH (i := 3) 27 (v := .pointer (some ⟨b, off + h * 4, none⟩)) rfl rfl (by kernel_rfl) (by kernel_rfl) (by kernel_rfl) (fun _ _ _ h => h) (Or.inl ⟨by kernel_rfl, ?_⟩) bx ?_
        · intro wq hq
          go_simp
        simp only [Act.put, List.setIfInBounds_toArray, List.set_cons_zero, List.set_cons_succ]
        refine takeH (i := 4) 28 (v := .agg #[.int .i64 x0, .int .i64 x1, .int .i64 x2, .bool x3]) rfl rfl (by kernel_rfl) (by kernel_rfl) (by kernel_rfl) (fun _ _ _ h => h) (Or.inl ⟨by kernel_rfl, ?_⟩) bx ?_
        · intro wq hq
          obtain ⟨q0, q1, q2, q3, -⟩ := hcc.out wq (HB.out.trans (Below.mono hq HB.out.size))
          go_simp
        simp only [Act.put, List.setIfInBounds_toArray, List.set_cons_zero, List.set_cons_succ]
        refine takeH (i := 5) 29 (v := .agg #[.int .i64 y0, .int .i64 y1, .int .i64 y2, .bool y3]) rfl rfl (by kernel_rfl) (by kernel_rfl) (by kernel_rfl) (fun _ _ _ h => h) (Or.inl ⟨by kernel_rfl, ?_⟩) bx ?_
        · intro wq hq
          obtain ⟨q0, q1, q2, q3⟩ := HX.out wq hq
          go_simp
        simp only [Act.put, List.setIfInBounds_toArray, List.set_cons_zero, List.set_cons_succ]
        refine wpAnyH_ready (rs := [6]) (by kernel_rfl) (by simp) ?_
        refine AllReadyH.cons rfl (fun K1 hK1 => ?_) AllReadyH.nil
        rw [if_pos (by kernel_rfl)]
        unfold Oper.wp
        go_simp
        go_wp2_with (go_at_call 49; (with_reducible refine ((hcc.out _ (HB.out.trans (bx.mono HB.out.size))).2.2.2.2).mono ?_); clear hcc; rintro e w1 ⟨rfl, b0⟩; have b1 := bx.trans (b0.mono bx.size); clear b0)
        refine hK1.out _ _ b1 (fun _ => ?_)
        simp only [List.setIfInBounds_toArray, List.set_cons_zero, List.set_cons_succ]
        refine takeH (i := 7) 31 (v := .bool false) rfl rfl (by kernel_rfl) (by kernel_rfl) (by kernel_rfl) (fun _ _ _ h => h) (Or.inl ⟨by kernel_rfl, ?_⟩) b1 ?_
        · intro wq hq
          go_simp
        simp only [Act.put, List.setIfInBounds_toArray, List.set_cons_zero, List.set_cons_succ]
        refine wpAnyH_done (by kernel_rfl) ?_ _
        go_wp2
        go_roundw
        case rel => exact ⟨i, h, h1, by omega, rfl, rfl, HI.out.1, HD.out, b1⟩
        case measure => simp [intOf]; omega
    · have hije : i = j := by omega
      subst hije
      obtain ⟨l, r, e1, e2, e3, e4⟩ := cut_atF (i := i) (by rw [← HN.out]; exact hjn) HI.out.1 HI.out.2.1
      by_cases hin : i < n
      · have hx : i < es.length := by rw [← HN.out]; exact hin
        obtain ⟨b, off, x0, x1, x2, x3, rfl, hcc0⟩ := cF.out _ hx
        have H9 : Hid (es = l ++ r ∧ l.length = i ∧ (∀ y ∈ l, f y < 0) ∧ (∀ y ∈ r, 0 ≤ f y) ∧ (f es[i] == 0) = headF f r) := ⟨e1, e2, e3, e4, by rw [headF_at e1 e2 hx]⟩
        generalize f es[i] = q at hcc0 H9
        have hcc := put_by hcc0
        have hn2 : (i : Int) < (n : Int) := by omega
        clear e1 e2 e3 e4 hx hlt hcc0
        go_upto_region 8 with (fail)
        refine wp_region_held (S := fun W => Below W0.heap.size W0 W) (by kernel_rfl) ?_
        change wpAnyH _ _ _ _ _ 16 #[false, false, false, false, false, false, false, false, false, false, false, false, false, false, false, false] _ wr.drew
        refine takeH (i := 0) 35 (v := .int .i64 (i : Int)) rfl rfl (by kernel_rfl) (by kernel_rfl) (by kernel_rfl) (fun _ _ _ h => h) (Or.inl ⟨by kernel_rfl, ?_⟩) bx ?_
        · intro wq hq
          go_simp
        simp only [Act.put, List.setIfInBounds_toArray, List.set_cons_zero]
        refine takeH (i := 1) 36 (v := .int .i64 (i : Int)) rfl rfl (by kernel_rfl) (by kernel_rfl) (by kernel_rfl) (fun _ _ _ h => h) (Or.inl ⟨by kernel_rfl, ?_⟩) bx ?_
        · intro wq hq
          go_simp
        simp only [Act.put, List.setIfInBounds_toArray, List.set_cons_zero, List.set_cons_succ]
        refine takeH (i := 2) 37 (v := .int .i64 (n : Int)) rfl rfl (by kernel_rfl) (by kernel_rfl) (by kernel_rfl) (fun _ _ _ h => h) (Or.inl ⟨by kernel_rfl, ?_⟩) bx ?_
        · intro wq hq
          go_simp
        simp only [Act.put, List.setIfInBounds_toArray, List.set_cons_zero, List.set_cons_succ]
        refine takeH (i := 3) 38 (v := .bool true) rfl rfl (by kernel_rfl) (by kernel_rfl) (by kernel_rfl) (fun _ _ _ h => h) (Or.inl ⟨by kernel_rfl, ?_⟩) bx ?_
        · intro wq hq
          go_simp
        simp only [Act.put, List.setIfInBounds_toArray, List.set_cons_zero, List.set_cons_succ]
        refine takeH (i := 4) 39 (v := .bool true) rfl rfl (by kernel_rfl) (by kernel_rfl) (by kernel_rfl) (fun _ _ _ h => h) (Or.inl ⟨by kernel_rfl, ?_⟩) bx ?_
        · intro wq hq
          go_simp
        simp only [Act.put, List.setIfInBounds_toArray, List.set_cons_zero, List.set_cons_succ]
        refine takeH (i := 5) 40 (v := .func (.func 49) #[] #[]) rfl rfl (by kernel_rfl) (by kernel_rfl) (by kernel_rfl) (fun _ _ _ h => h) (Or.inl ⟨by kernel_rfl, ?_⟩) bx ?_
        · intro wq hq
          go_simp
        simp only [Act.put, List.setIfInBounds_toArray, List.set_cons_zero, List.set_cons_succ]
        refine takeH (i := 6) 41 (v := .slice (some ⟨b, off, none⟩) n cap) rfl rfl (by kernel_rfl) (by kernel_rfl) (by kernel_rfl) (fun _ _ _ h => h) (Or.inl ⟨by kernel_rfl, ?_⟩) bx ?_
        · intro wq hq
          go_simp
        simp only [Act.put, List.setIfInBounds_toArray, List.set_cons_zero, List.set_cons_succ]
        refine takeH (i := 7) 42 (v := .int .i64 (i : Int)) rfl rfl (by kernel_rfl) (by kernel_rfl) (by kernel_rfl) (fun _ _ _ h => h) (Or.inl ⟨by kernel_rfl, ?_⟩) bx ?_
        · intro wq hq
          go_simp
        simp only [Act.put, List.setIfInBounds_toArray, List.set_cons_zero, List.set_cons_succ]
        refine takeH (i := 8) 43 (v := .pointer (some ⟨b, off + i * 4, none⟩)) rfl rfl (by kernel_rfl) (by kernel_rfl) (by kernel_rfl) (fun _ _ _ h => h) (Or.inl ⟨by kernel_rfl, ?_⟩) bx ?_
        · intro wq hq
          go_simp
        simp only [Act.put, List.setIfInBounds_toArray, List.set_cons_zero, List.set_cons_succ]
        refine takeH (i := 9) 44 (v := .agg #[.int .i64 x0, .int .i64 x1, .int .i64 x2, .bool x3]) rfl rfl (by kernel_rfl) (by kernel_rfl) (by kernel_rfl) (fun _ _ _ h => h) (Or.inl ⟨by kernel_rfl, ?_⟩) bx ?_
        · intro wq hq
          obtain ⟨q0, q1, q2, q3, -⟩ := hcc.out wq (HB.out.trans (Below.mono hq HB.out.size))
          go_simp
        simp only [Act.put, List.setIfInBounds_toArray, List.set_cons_zero, List.set_cons_succ]
        refine takeH (i := 10) 45 (v := .agg #[.int .i64 y0, .int .i64 y1, .int .i64 y2, .bool y3]) rfl rfl (by kernel_rfl) (by kernel_rfl) (by kernel_rfl) (fun _ _ _ h => h) (Or.inl ⟨by kernel_rfl, ?_⟩) bx ?_
        · intro wq hq
          obtain ⟨q0, q1, q2, q3⟩ := HX.out wq hq
          go_simp
        simp only [Act.put, List.setIfInBounds_toArray, List.set_cons_zero, List.set_cons_succ]
        refine wpAnyH_ready (rs := [11]) (by kernel_rfl) (by simp) ?_
        refine AllReadyH.cons rfl (fun K1 hK1 => ?_) AllReadyH.nil
        rw [if_pos (by kernel_rfl)]
        unfold Oper.wp
        go_simp
        go_wp2_with (go_at_call 49; (with_reducible refine ((hcc.out _ (HB.out.trans (bx.mono HB.out.size))).2.2.2.2).mono ?_); clear hcc; rintro e w1 ⟨rfl, b0⟩; have b1 := bx.trans (b0.mono bx.size); clear b0)
        refine hK1.out _ _ b1 (fun _ => ?_)
        simp only [List.setIfInBounds_toArray, List.set_cons_zero, List.set_cons_succ]
        refine takeH (i := 12) 47 (v := .bool (q == 0)) rfl rfl (by kernel_rfl) (by kernel_rfl) (by kernel_rfl) (fun _ _ _ h => h) (Or.inl ⟨by kernel_rfl, ?_⟩) b1 ?_
        · intro wq hq
          go_simp
        simp only [Act.put, List.setIfInBounds_toArray, List.set_cons_zero, List.set_cons_succ]
        refine takeH (i := 13) 48 (v := .bool (q == 0)) rfl rfl (by kernel_rfl) (by kernel_rfl) (by kernel_rfl) (fun _ _ _ h => h) (Or.inl ⟨by kernel_rfl, ?_⟩) b1 ?_
        · intro wq hq
          go_simp
        simp only [Act.put, List.setIfInBounds_toArray, List.set_cons_zero, List.set_cons_succ]
        refine takeH (i := 14) 6 (v := .int .i64 (i : Int)) rfl rfl (by kernel_rfl) (by kernel_rfl) (by kernel_rfl) (fun _ _ _ h => h) (Or.inl ⟨by kernel_rfl, ?_⟩) b1 ?_
        · intro wq hq
          go_simp
        simp only [Act.put, List.setIfInBounds_toArray, List.set_cons_zero, List.set_cons_succ]
        refine takeH (i := 15) 7 (v := .bool (q == 0)) rfl rfl (by kernel_rfl) (by kernel_rfl) (by kernel_rfl) (fun _ _ _ h => h) (Or.inl ⟨by kernel_rfl, ?_⟩) b1 ?_
        · intro wq hq
          go_simp
        simp only [Act.put, List.setIfInBounds_toArray, List.set_cons_zero, List.set_cons_succ]
        refine wpAnyH_done (by kernel_rfl) ?_ _
        go_wp2
        have h9 := H9.out
        rw [← h9.2.1]
        exact HP.out _ _ ⟨l, r, h9.1, h9.2.2.1, h9.2.2.2.1, by rw [← h9.2.2.2.2]; rfl, HB.out.trans (b1.mono HB.out.size)⟩
      · have hr : r = [] := by
          have := congrArg List.length e1
          rw [List.length_append, e2, ← HN.out] at this
          exact List.length_eq_zero_iff.1 (by omega)
        subst hr
        have H9 : Hid (es = l ++ [] ∧ l.length = i ∧ (∀ y ∈ l, f y < 0)) := ⟨e1, e2, e3⟩
        have hn2 : ¬ (i : Int) < (n : Int) := by omega
        clear e1 e2 e3 e4 hlt
        go_upto_region 8 with (fail)
        refine wp_region_held (S := fun W => Below W0.heap.size W0 W) (by kernel_rfl) ?_
        change wpAnyH _ _ _ _ _ 16 #[false, false, false, false, false, false, false, false, false, false, false, false, false, false, false, false] _ wr.drew
        refine takeH (i := 0) 35 (v := .int .i64 (i : Int)) rfl rfl (by kernel_rfl) (by kernel_rfl) (by kernel_rfl) (fun _ _ _ h => h) (Or.inl ⟨by kernel_rfl, ?_⟩) bx ?_
        · intro wq hq
          go_simp
        simp only [Act.put, List.setIfInBounds_toArray, List.set_cons_zero]
        refine takeH (i := 1) 36 (v := .int .i64 (i : Int)) rfl rfl (by kernel_rfl) (by kernel_rfl) (by kernel_rfl) (fun _ _ _ h => h) (Or.inl ⟨by kernel_rfl, ?_⟩) bx ?_
        · intro wq hq
          go_simp
        simp only [Act.put, List.setIfInBounds_toArray, List.set_cons_zero, List.set_cons_succ]
        refine takeH (i := 2) 37 (v := .int .i64 (n : Int)) rfl rfl (by kernel_rfl) (by kernel_rfl) (by kernel_rfl) (fun _ _ _ h => h) (Or.inl ⟨by kernel_rfl, ?_⟩) bx ?_
        · intro wq hq
          go_simp
        simp only [Act.put, List.setIfInBounds_toArray, List.set_cons_zero, List.set_cons_succ]
        refine takeH (i := 3) 38 (v := .bool false) rfl rfl (by kernel_rfl) (by kernel_rfl) (by kernel_rfl) (fun _ _ _ h => h) (Or.inl ⟨by kernel_rfl, ?_⟩) bx ?_
        · intro wq hq
          go_simp
        simp only [Act.put, List.setIfInBounds_toArray, List.set_cons_zero, List.set_cons_succ]
        refine takeH (i := 4) 39 (v := .bool false) rfl rfl (by kernel_rfl) (by kernel_rfl) (by kernel_rfl) (fun _ _ _ h => h) (Or.inl ⟨by kernel_rfl, ?_⟩) bx ?_
        · intro wq hq
          go_simp
        simp only [Act.put, List.setIfInBounds_toArray, List.set_cons_zero, List.set_cons_succ]
        refine takeH (i := 5) 40 (v := undef) rfl rfl (by kernel_rfl) (by kernel_rfl) (by kernel_rfl) (fun _ _ _ h => h) (Or.inr ⟨by kernel_rfl, rfl⟩) bx ?_
        simp only [Act.put, List.setIfInBounds_toArray, List.set_cons_zero, List.set_cons_succ]
        refine takeH (i := 6) 41 (v := undef) rfl rfl (by kernel_rfl) (by kernel_rfl) (by kernel_rfl) (fun _ _ _ h => h) (Or.inr ⟨by kernel_rfl, rfl⟩) bx ?_
        simp only [Act.put, List.setIfInBounds_toArray, List.set_cons_zero, List.set_cons_succ]
        refine takeH (i := 7) 42 (v := undef) rfl rfl (by kernel_rfl) (by kernel_rfl) (by kernel_rfl) (fun _ _ _ h => h) (Or.inr ⟨by kernel_rfl, rfl⟩) bx ?_
        simp only [Act.put, List.setIfInBounds_toArray, List.set_cons_zero, List.set_cons_succ]
        refine takeH (i := 8) 43 (v := undef) rfl rfl (by kernel_rfl) (by kernel_rfl) (by kernel_rfl) (fun _ _ _ h => h) (Or.inr ⟨by kernel_rfl, rfl⟩) bx ?_
        simp only [Act.put, List.setIfInBounds_toArray, List.set_cons_zero, List.set_cons_succ]
        refine takeH (i := 9) 44 (v := undef) rfl rfl (by kernel_rfl) (by kernel_rfl) (by kernel_rfl) (fun _ _ _ h => h) (Or.inr ⟨by kernel_rfl, rfl⟩) bx ?_
        simp only [Act.put, List.setIfInBounds_toArray, List.set_cons_zero, List.set_cons_succ]
        refine takeH (i := 10) 45 (v := undef) rfl rfl (by kernel_rfl) (by kernel_rfl) (by kernel_rfl) (fun _ _ _ h => h) (Or.inr ⟨by kernel_rfl, rfl⟩) bx ?_
        simp only [Act.put, List.setIfInBounds_toArray, List.set_cons_zero, List.set_cons_succ]
        refine takeH (i := 11) 46 (v := undef) rfl rfl (by kernel_rfl) (by kernel_rfl) (by kernel_rfl) (fun _ _ _ h => h) (Or.inr ⟨by kernel_rfl, rfl⟩) bx ?_
        simp only [Act.put, List.setIfInBounds_toArray, List.set_cons_zero, List.set_cons_succ]
        refine takeH (i := 12) 47 (v := undef) rfl rfl (by kernel_rfl) (by kernel_rfl) (by kernel_rfl) (fun _ _ _ h => h) (Or.inr ⟨by kernel_rfl, rfl⟩) bx ?_
        simp only [Act.put, List.setIfInBounds_toArray, List.set_cons_zero, List.set_cons_succ]
        refine takeH (i := 13) 48 (v := .bool false) rfl rfl (by kernel_rfl) (by kernel_rfl) (by kernel_rfl) (fun _ _ _ h => h) (Or.inl ⟨by kernel_rfl, ?_⟩) bx ?_
        · intro wq hq
          go_simp
        simp only [Act.put, List.setIfInBounds_toArray, List.set_cons_zero, List.set_cons_succ]
        refine takeH (i := 14) 6 (v := .int .i64 (i : Int)) rfl rfl (by kernel_rfl) (by kernel_rfl) (by kernel_rfl) (fun _ _ _ h => h) (Or.inl ⟨by kernel_rfl, ?_⟩) bx ?_
        · intro wq hq
          go_simp
        simp only [Act.put, List.setIfInBounds_toArray, List.set_cons_zero, List.set_cons_succ]
        refine takeH (i := 15) 7 (v := .bool false) rfl rfl (by kernel_rfl) (by kernel_rfl) (by kernel_rfl) (fun _ _ _ h => h) (Or.inl ⟨by kernel_rfl, ?_⟩) bx ?_
        · intro wq hq
          go_simp
        simp only [Act.put, List.setIfInBounds_toArray, List.set_cons_zero, List.set_cons_succ]
        refine wpAnyH_done (by kernel_rfl) ?_ _
        go_wp2
        have h9 := H9.out
        rw [← h9.2.1]
        exact HP.out _ _ ⟨l, [], h9.1, h9.2.2, by simp, rfl, HB.out.trans (bx.mono HB.out.size)⟩

set_option maxRecDepth 100000 in
set_option maxHeartbeats 4000000 in
theorem searchK_any {α : Type} (es : List α) (hl : es.length ≤ 140737488351232) (f : α → Int) (hm : ∀ i j (hi : i < es.length) (hj : j < es.length), i < j → f es[j] < 0 → f es[i] < 0) (ao : Option Addr) (cap : Nat) (ko : Option Addr) (km kc : Nat) (w : World)
    (cF0 : ∀ k (hk : k < es.length), ∃ (b off : Nat) (a1 : Option Addr) (n1 c1 : Nat), ao = some ⟨b, off, none⟩ ∧ ∀ W : World, Below w.heap.size w W → W.cell? ⟨b, off + k, none⟩ = some (.slice a1 n1 c1) ∧ Calls Try.prog 47 #[.slice a1 n1 c1, .slice ko km kc] W fun e w' => e = .returned (.int .i64 (f es[k])) ∧ Below W.heap.size W w') :
    Calls Try.prog 101 #[.slice ao es.length cap, .slice ko km kc, .func (.func 47) #[] #[]] w fun e w' => FindPost f es w e w' := by
  generalize hpost : (fun e w' => FindPost f es w e w') = R
  have HP : Hid (∀ e w', FindPost f es w e w' → R e w') := fun e w' h => by rw [← hpost]; exact h
  clear hpost
  have HA := put_by hm
  have cF := put_by cF0
  obtain ⟨n, hn⟩ : ∃ n, n = es.length := ⟨_, rfl⟩
  rw [← hn] at hl ⊢
  have HN : Hid (n = es.length) := hn
  clear hm hn cF0
  go_enter Try.func101, Try.ntmps101
  go_wp2
  go_loopw [9, 10] (fun x y wr => ∃ (i j : Nat), i ≤ j ∧ j ≤ n ∧ x = .int .i64 i ∧ y = .int .i64 j ∧ Hid ((∀ m (hm : m < es.length), m < i → f es[m] < 0) ∧ (∀ m (hm : m < es.length), j ≤ m → 0 ≤ f es[m]) ∧ Below w.heap.size w wr)) (fun x y _ => (intOf y).toNat - (intOf x).toNat)
  case atStart => exact ⟨0, n, Nat.zero_le _, Nat.le_refl _, rfl, rfl, fun _ _ h => absurd h (Nat.not_lt_zero _), fun m hm h => absurd hm (by rw [← HN.out]; omega), Below.refl _ _⟩
  case round =>
    obtain ⟨i, j, hij, hjn, rfl, rfl, HI⟩ := hrel
    rename World => wr
    by_cases hlt : i < j
    · have hx : (i + j) / 2 < es.length := by rw [← HN.out]; omega
      obtain ⟨b, off, a1, n1, c1, rfl, hcc⟩ := cF.out _ hx
      obtain ⟨k0, cc⟩ := hcc wr HI.out.2.2
      clear hcc
      obtain ⟨h, hh⟩ : ∃ h, h = (i + j) / 2 := ⟨_, rfl⟩
      have h1 : i ≤ h := by omega
      have h2 : h < j := by omega
      have HC : Hid (((f es[(i + j) / 2] < 0) → ∀ m (hm : m < es.length), m < h + 1 → f es[m] < 0) ∧ (¬ (f es[(i + j) / 2] < 0) → ∀ m (hm : m < es.length), h ≤ m → 0 ≤ f es[m])) := by
        subst hh
        refine ⟨fun e m hm hmi => ?_, fun e m hm hmi => Int.not_lt.1 (fun h0 => ?_)⟩
        · rcases Nat.lt_or_ge m ((i + j) / 2) with q | q
          · exact HA.out _ _ hm hx q e
          · have : m = (i + j) / 2 := by omega
            subst this
            exact e
        · rcases Nat.lt_or_ge ((i + j) / 2) m with q | q
          · exact e (HA.out _ _ hx hm q h0)
          · have : m = (i + j) / 2 := by omega
            subst this
            exact e h0
      generalize f es[(i + j) / 2] = r at HC cc
      by_cases hr0 : r < 0
      · have HD := put_by (HC.out.1 hr0)
        clear HC hx
        go_wp2_with (go_at_call 47; (with_reducible refine cc.mono ?_); rintro e w1 ⟨rfl, b0⟩; have b1 := put_by (HI.out.2.2.trans (b0.mono HI.out.2.2.size)); clear b0)
        go_roundw
        case rel => exact ⟨h + 1, j, by omega, hjn, by rw [hh]; go_num, rfl, HD.out, HI.out.2.1, b1.out⟩
        case measure =>
          have : (((i : Int) + j) / 2) = (h : Int) := by omega
          simp [intOf]
          omega
      · have HD := put_by (HC.out.2 hr0)
        clear HC hx
        go_wp2_with (go_at_call 47; (with_reducible refine cc.mono ?_); rintro e w1 ⟨rfl, b0⟩; have b1 := put_by (HI.out.2.2.trans (b0.mono HI.out.2.2.size)); clear b0)
        go_roundw
        case rel => exact ⟨i, h, h1, by omega, rfl, by rw [hh]; go_num, HI.out.1, HD.out, b1.out⟩
        case measure =>
          simp [intOf]
          omega
    · have hije : i = j := by omega
      subst hije
      obtain ⟨l, r, e1, e2, e3, e4⟩ := cut_atF (i := i) (by rw [← HN.out]; exact hjn) HI.out.1 HI.out.2.1
      by_cases hin : i < n
      · have hx : i < es.length := by rw [← HN.out]; exact hin
        obtain ⟨b, off, a1, n1, c1, rfl, hcc⟩ := cF.out _ hx
        obtain ⟨k0, cc⟩ := hcc wr HI.out.2.2
        clear hcc
        have H9 : Hid (es = l ++ r ∧ l.length = i ∧ (∀ y ∈ l, f y < 0) ∧ (∀ y ∈ r, 0 ≤ f y) ∧ (f es[i] == 0) = headF f r) := ⟨e1, e2, e3, e4, by rw [headF_at e1 e2 hx]⟩
        generalize f es[i] = q at cc H9
        clear e1 e2 e3 e4 hx hlt
        go_wp2_with (go_at_call 47; (with_reducible refine cc.mono ?_); rintro e w1 ⟨rfl, b0⟩; have b1 := put_by (HI.out.2.2.trans (b0.mono HI.out.2.2.size)); clear b0)
        have h9 := H9.out
        rw [← h9.2.1]
        exact HP.out _ _ ⟨l, r, h9.1, h9.2.2.1, h9.2.2.2.1, by rw [← h9.2.2.2.2]; rfl, b1.out⟩
      · have hr : r = [] := by
          have := congrArg List.length e1
          rw [List.length_append, e2, ← HN.out] at this
          exact List.length_eq_zero_iff.1 (by omega)
        subst hr
        have H9 : Hid (es = l ++ [] ∧ l.length = i ∧ (∀ y ∈ l, f y < 0)) := ⟨e1, e2, e3⟩
        clear e1 e2 e3 e4 hlt
        go_wp2
        have h9 := H9.out
        rw [← h9.2.1]
        exact HP.out _ _ ⟨l, [], h9.1, h9.2.2, by simp, rfl, HI.out.2.2⟩

set_option maxRecDepth 100000 in
set_option maxHeartbeats 4000000 in
theorem searchC_any {α : Type} (es : List α) (hl : es.length ≤ 140737488351232) (f : α → Int) (hm : ∀ i j (hi : i < es.length) (hj : j < es.length), i < j → f es[j] < 0 → f es[i] < 0) (ao : Option Addr) (cap : Nat) (ko : Option Addr) (km kc : Nat) (w : World)
    (cF0 : ∀ k (hk : k < es.length), ∃ (b off : Nat) (a1 : Option Addr) (n1 c1 : Nat) (a2 : Option Addr) (n2 c2 : Nat) (g : Bool) (s : Int), ao = some ⟨b, off, none⟩ ∧ ∀ W : World, Below w.heap.size w W → W.cell? ⟨b, off + k * 4, none⟩ = some (.slice a1 n1 c1) ∧ W.cell? ⟨b, off + k * 4 + 1, none⟩ = some (.slice a2 n2 c2) ∧ W.cell? ⟨b, off + k * 4 + 2, none⟩ = some (.bool g) ∧ W.cell? ⟨b, off + k * 4 + 3, none⟩ = some (.int .i64 s) ∧ Calls Try.prog 103 #[.agg #[.slice a1 n1 c1, .slice a2 n2 c2, .bool g, .int .i64 s], .slice ko km kc] W fun e w' => e = .returned (.int .i64 (f es[k])) ∧ Below W.heap.size W w') :
    Calls Try.prog 102 #[.slice ao es.length cap, .slice ko km kc, .func (.func 103) #[] #[]] w fun e w' => FindPost f es w e w' := by
  generalize hpost : (fun e w' => FindPost f es w e w') = R
  have HP : Hid (∀ e w', FindPost f es w e w' → R e w') := fun e w' h => by rw [← hpost]; exact h
  clear hpost
  have HA := put_by hm
  have cF := put_by cF0
  obtain ⟨n, hn⟩ : ∃ n, n = es.length := ⟨_, rfl⟩
  rw [← hn] at hl ⊢
  have HN : Hid (n = es.length) := hn
  clear hm hn cF0
  go_enter Try.func102, Try.ntmps102
  go_wp2
  go_loopw [9, 10] (fun x y wr => ∃ (i j : Nat), i ≤ j ∧ j ≤ n ∧ x = .int .i64 i ∧ y = .int .i64 j ∧ Hid ((∀ m (hm : m < es.length), m < i → f es[m] < 0) ∧ (∀ m (hm : m < es.length), j ≤ m → 0 ≤ f es[m]) ∧ Below w.heap.size w wr)) (fun x y _ => (intOf y).toNat - (intOf x).toNat)
  case atStart => exact ⟨0, n, Nat.zero_le _, Nat.le_refl _, rfl, rfl, fun _ _ h => absurd h (Nat.not_lt_zero _), fun m hm h => absurd hm (by rw [← HN.out]; omega), Below.refl _ _⟩
  case round =>
    obtain ⟨i, j, hij, hjn, rfl, rfl, HI⟩ := hrel
    rename World => wr
    by_cases hlt : i < j
    · have hx : (i + j) / 2 < es.length := by rw [← HN.out]; omega
      obtain ⟨b, off, a1, n1, c1, a2, n2, c2, g, s, rfl, hcc⟩ := cF.out _ hx
      obtain ⟨k0, k1, k2, k3, cc⟩ := hcc wr HI.out.2.2
      clear hcc
      obtain ⟨h, hh⟩ : ∃ h, h = (i + j) / 2 := ⟨_, rfl⟩
      have h1 : i ≤ h := by omega
      have h2 : h < j := by omega
      have HC : Hid (((f es[(i + j) / 2] < 0) → ∀ m (hm : m < es.length), m < h + 1 → f es[m] < 0) ∧ (¬ (f es[(i + j) / 2] < 0) → ∀ m (hm : m < es.length), h ≤ m → 0 ≤ f es[m])) := by
        subst hh
        refine ⟨fun e m hm hmi => ?_, fun e m hm hmi => Int.not_lt.1 (fun h0 => ?_)⟩
        · rcases Nat.lt_or_ge m ((i + j) / 2) with q | q
          · exact HA.out _ _ hm hx q e
          · have : m = (i + j) / 2 := by omega
            subst this
            exact e
        · rcases Nat.lt_or_ge ((i + j) / 2) m with q | q
          · exact e (HA.out _ _ hx hm q h0)
          · have : m = (i + j) / 2 := by omega
            subst this
            exact e h0
      generalize f es[(i + j) / 2] = r at HC cc
      by_cases hr0 : r < 0
      · have HD := put_by (HC.out.1 hr0)
        clear HC hx
        go_wp2_with (go_at_call 103; (with_reducible refine cc.mono ?_); rintro e w1 ⟨rfl, b0⟩; have b1 := put_by (HI.out.2.2.trans (b0.mono HI.out.2.2.size)); clear b0)
        go_roundw
        case rel => exact ⟨h + 1, j, by omega, hjn, by rw [hh]; go_num, rfl, HD.out, HI.out.2.1, b1.out⟩
        case measure =>
          have : (((i : Int) + j) / 2) = (h : Int) := by omega
          simp [intOf]
          omega
      · have HD := put_by (HC.out.2 hr0)
        clear HC hx
        go_wp2_with (go_at_call 103; (with_reducible refine cc.mono ?_); rintro e w1 ⟨rfl, b0⟩; have b1 := put_by (HI.out.2.2.trans (b0.mono HI.out.2.2.size)); clear b0)
        go_roundw
        case rel => exact ⟨i, h, h1, by omega, rfl, by rw [hh]; go_num, HI.out.1, HD.out, b1.out⟩
        case measure =>
          simp [intOf]
          omega
    · have hije : i = j := by omega
      subst hije
      obtain ⟨l, r, e1, e2, e3, e4⟩ := cut_atF (i := i) (by rw [← HN.out]; exact hjn) HI.out.1 HI.out.2.1
      by_cases hin : i < n
      · have hx : i < es.length := by rw [← HN.out]; exact hin
        obtain ⟨b, off, a1, n1, c1, a2, n2, c2, g, s, rfl, hcc⟩ := cF.out _ hx
        obtain ⟨k0, k1, k2, k3, cc⟩ := hcc wr HI.out.2.2
        clear hcc
        have H9 : Hid (es = l ++ r ∧ l.length = i ∧ (∀ y ∈ l, f y < 0) ∧ (∀ y ∈ r, 0 ≤ f y) ∧ (f es[i] == 0) = headF f r) := ⟨e1, e2, e3, e4, by rw [headF_at e1 e2 hx]⟩
        generalize f es[i] = q at cc H9
        clear e1 e2 e3 e4 hx hlt
        go_wp2_with (go_at_call 103; (with_reducible refine cc.mono ?_); rintro e w1 ⟨rfl, b0⟩; have b1 := put_by (HI.out.2.2.trans (b0.mono HI.out.2.2.size)); clear b0)
        have h9 := H9.out
        rw [← h9.2.1]
        exact HP.out _ _ ⟨l, r, h9.1, h9.2.2.1, h9.2.2.2.1, by rw [← h9.2.2.2.2]; rfl, b1.out⟩
      · have hr : r = [] := by
          have := congrArg List.length e1
          rw [List.length_append, e2, ← HN.out] at this
          exact List.length_eq_zero_iff.1 (by omega)
        subst hr
        have H9 : Hid (es = l ++ [] ∧ l.length = i ∧ (∀ y ∈ l, f y < 0)) := ⟨e1, e2, e3⟩
        clear e1 e2 e3 e4 hlt
        go_wp2
        have h9 := H9.out
        rw [← h9.2.1]
        exact HP.out _ _ ⟨l, [], h9.1, h9.2.2, by simp, rfl, HI.out.2.2⟩

set_option maxRecDepth 100000 in
set_option maxHeartbeats 1000000 in
theorem findCmpM_any (a : Option Addr) (c : Nat) (xs : List Int) (v2 : Option Addr) (n2 c2 : Nat) (g : Bool) (s : Int) (ko : Option Addr) (kc : Nat) (ks : List Int) (w : World) (he : Octs w a c xs) (hf : Octs w ko kc ks) :
    Calls Try.prog 103 #[.agg #[.slice a xs.length c, .slice v2 n2 c2, .bool g, .int .i64 s], .slice ko ks.length kc] w fun e w' => e = .returned (.int .i64 (cmpK xs ks)) ∧ Below w.heap.size w w' := by
  have cC : Hid (∀ o, Calls Try.prog 47 #[.slice a xs.length c, .slice ko ks.length kc] (w.alloc o) fun e w' => e = .returned (.int .i64 (cmpK xs ks)) ∧ w' = w.alloc o) := fun o =>
    Compare_any _ _ _ _ _ _ _ (he.later ((Below.refl _ w).alloc (Nat.le_refl _) _)) (hf.later ((Below.refl _ w).alloc (Nat.le_refl _) _))
  generalize xs.length = n at cC ⊢
  generalize ks.length = m at cC ⊢
  generalize cmpK xs ks = r at cC ⊢
  clear he hf
  go_enter Try.func103, Try.ntmps103
  go_wp2_with (go_at_call 47; (with_reducible refine (cC.out _).mono ?_); rintro e w1 ⟨rfl, rfl⟩)
  go_ret
  exact ⟨rfl, (Below.refl _ w).alloc (Nat.le_refl _) _⟩

theorem cmpK_neg {x y : List Int} : cmpK x y < 0 ↔ ahead x y = true := by
  have := cmpK_lt x y
  rw [← this]
  simp

/-- among cells -/
theorem findC_any (ok : Nat → Prop) (es : List Cel) (hl : es.length ≤ 140737488351232) (ha : AscC es) (ao : Option Addr) (cap : Nat) (ko : Option Addr) (kc : Nat) (ks : List Int) (w : World) (he : Lies kCel ok w ao cap es) (hf : Octs w ko kc ks) :
    Calls Try.prog 102 #[.slice ao es.length cap, .slice ko ks.length kc, .func (.func 103) #[] #[]] w fun e w' => FindPost (fun c : Cel => cmpK c.key ks) es w e w' := by
  refine searchC_any es hl (fun c : Cel => cmpK c.key ks) (fun i j hi hj hij h => cmpK_neg.2 (ahead_trans (List.pairwise_iff_getElem.1 ha i j hi hj hij) (cmpK_neg.1 h))) ao cap ko ks.length kc w (fun k hk => ?_)
  obtain ⟨b, off, a1, c1, a2, c2, e, h1, h2, hb, hc⟩ := cel_at he hk
  obtain ⟨xa, xc, e1, hxo, -⟩ := h1
  cases e1
  refine ⟨b, off, a1, (es[k]).key.length, c1, a2, (es[k]).val.length, c2, (es[k]).gone, (es[k]).since, e, fun W hW => ?_⟩
  obtain ⟨d0, d1, d2, d3⟩ := hc W hW
  exact ⟨d0, d1, d2, d3, (findCmpM_any a1 c1 _ a2 _ c2 _ _ ko kc ks W (hxo.later hW) (hf.later hW)).mono fun e w' h => ⟨h.1, h.2⟩⟩

/-- among keys -/
theorem findK_any (ok : Nat → Prop) (es : List (List Int)) (hl : es.length ≤ 140737488351232) (ha : es.Pairwise (fun x y => ahead x y = true)) (ao : Option Addr) (cap : Nat) (ko : Option Addr) (kc : Nat) (ks : List Int) (w : World) (he : Lies kKey ok w ao cap es) (hf : Octs w ko kc ks) :
    Calls Try.prog 101 #[.slice ao es.length cap, .slice ko ks.length kc, .func (.func 47) #[] #[]] w fun e w' => FindPost (fun c : List Int => cmpK c ks) es w e w' := by
  refine searchK_any es hl (fun c : List Int => cmpK c ks) (fun i j hi hj hij h => cmpK_neg.2 (ahead_trans (List.pairwise_iff_getElem.1 ha i j hi hj hij) (cmpK_neg.1 h))) ao cap ko ks.length kc w (fun k hk => ?_)
  obtain ⟨b, off, a1, c1, e, hb, hxo, hc⟩ := key_at he hk
  exact ⟨b, off, a1, (es[k]).length, c1, e, fun W hW => ⟨hc W hW, (Compare_any _ _ _ _ _ _ W (hxo.later hW) (hf.later hW)).mono fun e w' h => ⟨h.1, by rw [h.2]; exact Below.refl _ _⟩⟩⟩

theorem cmpD_neg {x y : Dn} : cmpD x y < 0 ↔ dnAhead x y = true := cmpD_lt x y

/-- among dones -/
theorem findD_any (ok : Nat → Prop) (es : List Dn) (hl : es.length ≤ 140737488351232) (ha : es.Pairwise (fun a b => dnAhead a b = true)) (ao : Option Addr) (cap : Nat) (d : Dn) (w : World) (he : Lies kDn ok w ao cap es) :
    Calls Try.prog 52 #[.slice ao es.length cap, .agg #[.int .i64 d.client, .int .i64 d.number, .int .i64 d.pos, .bool d.kept], .func (.func 49) #[] #[]] w fun e w' => FindPost (fun c : Dn => cmpD c d) es w e w' := by
  refine searchD_any es hl (fun c : Dn => cmpD c d) (fun i j hi hj hij h => cmpD_neg.2 (dnAhead_trans (List.pairwise_iff_getElem.1 ha i j hi hj hij) (cmpD_neg.1 h))) ao cap d.client d.number d.pos d.kept w (fun k hk => ?_)
  obtain ⟨b, off, e, hb, hc⟩ := dn_at he hk
  refine ⟨b, off, (es[k]).client, (es[k]).number, (es[k]).pos, (es[k]).kept, e, fun W hW => ?_⟩
  obtain ⟨d0, d1, d2, d3⟩ := hc W hW
  exact ⟨d0, d1, d2, d3, compareDones_any es[k] d W⟩

end Go.Proofs.Ytjjdednlddnllaa
