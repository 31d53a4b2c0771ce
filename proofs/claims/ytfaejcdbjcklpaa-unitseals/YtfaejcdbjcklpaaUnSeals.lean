/- What comes from an epoch that is over does nothing, and is told so: the walk. -/
import Derived.Test.YtfaejcdbjcklpaaUnSealsP
import Derived.Test.YtfaejcdbjcklpaaUnSameK
namespace Go.Proofs.Ytfaejcdbjcklpaa
open Go.ChangeShapes Go.WideShapes Go.ChangeAt Go.RowKit

set_option maxRecDepth 100000 in
set_option maxHeartbeats 8000000 in
theorem UnitSeals_any (ts ls : List Tsk) (ta la : Option Addr) (tc lc len lenl : Nat) (hlen : len = ts.length) (hlenl : lenl = ls.length) (up : Int) (w : World) (hL : Lies kTs (fun _ => True) w ta tc ts) (hL2 : Lies kTs (fun _ => True) w la lc ls) :
    Calls Try.prog 3 #[.slice ta len tc, .slice la lenl lc, .int .i64 up] w fun e w' => e = .returned (.bool true) ∧ Below w.heap.size w w' := by
  obtain ⟨js, hjs⟩ : ∃ js, js = (jobsOf 0 (ts.take 30)).1 := ⟨_, rfl⟩
  have hfew := jobs_few ts 30 (by omega)
  have cJ : Hid (Calls Try.prog 4 #[.slice ta len tc, .int .i64 30] w fun e w' => ∃ (a : Option Addr) (m c : Nat) (q : Int), e = .returned (.tuple #[.slice a m c, .int .i64 q]) ∧ 0 ≤ q ∧ q ≤ 120 ∧ m ≤ 30 ∧ Hid (q = (jobsOf 0 (ts.take 30)).2 ∧ m = js.length) ∧ Hid (RowI w js (.slice a m c) w')) := put_by ((Jobs_law ts 30 (by omega) ta tc len hlen w hL).mono fun e w' ⟨a, m, c, q, e1, e2, e3⟩ => ⟨a, m, c, q, e1, by rw [e2.out.1]; exact hfew.2.1, by rw [e2.out.1]; exact hfew.2.2, by rw [e2.out.2]; exact hfew.1, put_by ⟨e2.out.1, by rw [hjs]; exact e2.out.2⟩, put_by (by rw [hjs]; exact ⟨e3.out.rows, e3.out.below⟩)⟩)
  have HPK := put_by (fun (x y : Int) (h1 : 0 < y) (h2 : y ≤ 9223372036854775807) (W : World) => Picked_any x y h1 h2 W)
  obtain ⟨x, hx⟩ : ∃ x : Int, x = up % 5 := ⟨_, rfl⟩
  have hx0 : 0 ≤ x := by rw [hx]; exact Int.emod_nonneg _ (by decide)
  have hx1 : x < 5 := by rw [hx]; exact Int.emod_lt_of_pos up (show (0 : Int) < 5 by decide)
  have HPU := put_by (fun V => Picked_any up 5 (by decide) (by decide) V)
  rw [← hx] at HPU
  have HF := put_by (fun q e2 => seals_facts ts 30 (by omega) x ⟨hx0, hx1⟩ js q hjs e2)
  have HLJ : Hid (js.length ≤ 30) := put_by (by rw [hjs]; exact hfew.1)
  have HLL := put_by (And.intro hlenl hL2)
  clear hfew hjs hlen hL hlenl hL2 hx
  go_enter Try.func3, Try.ntmps3
  go_upto_region 3 with (first
    | (go_at_call 4; (with_reducible refine cJ.out.mono ?_); clear cJ; rintro e w1 ⟨a, m, c, q, rfl, hq0, hq1, hm, HQ, HR1⟩)
    | (go_at_call 5; (with_reducible refine (HPU.out _).mono ?_); clear HPU; rintro e w9 ⟨rfl, rfl⟩))
  obtain ⟨nx, hnx⟩ : ∃ nx : Int, nx = q + 1 + x := ⟨_, rfl⟩
  have HNX := put_by hnx
  have hnx0 : 1 ≤ nx := by omega
  have hnx1 : nx ≤ 130 := by omega
  rw [← hnx]
  clear hnx
  have HP : Hid (m = js.length) := put_by HQ.out.2
  go_upto_region 4 with (first
    | (at_builtin; refine wpList_append_one eltJb rfl (.tmp 27) (.tmp 30) rfl w.heap.size (.slice a m c) js rfl HR1.out.rows ⟨5, nx, 0, []⟩ [.int .i64 5, .int .i64 nx, .int .i64 0, .slice none 0 0] _ _ rfl rfl (bare_job _ _ _ _ _) (fun _ _ => trivial) (by have := HLJ.out; omega) (by decide) HR1.out.below.size ?_; intro v2 w3 r1 r2 r3; have HR2 := put_by (HR1.out.grown r1 r2); clear r1 r2 r3; obtain ⟨a2, k2, e2, -⟩ := rows_slice HR2.out; rw [List.length_append, List.length_singleton, ← HP.out] at e2; subst e2))
  obtain ⟨js', hjs'⟩ : ∃ js', js' = js ++ [(⟨5, nx, 0, []⟩ : Jb)] := ⟨_, rfl⟩
  have HLN : Hid (m + 1 = js'.length) := put_by (by rw [hjs', List.length_append, List.length_singleton, ← HP.out])
  rw [← hjs'] at HR2
  have HJS := put_by hjs'
  clear hjs'
  have HJL : Hid (∀ W, Below w3.heap.size w3 W → Lies kJb (fun _ => True) W a2 k2 js') := put_by fun W hW => (by obtain ⟨p, r, e, h⟩ := rows_slice (HR2.out.later hW); simp only [Value.slice.injEq] at e; rw [e.1, e.2.2]; exact h)
  have HBw := put_by HR2.out.below
  go_upto_region 5 with (first
    | (at_builtin; refine wpList_append_rows eltJb rfl (.const (.slice none 0 0)) (.tmp 32) rfl w3.heap.size (.slice none 0 0) ([] : List Jb) rfl (Rows.nil kJb (fun _ => True) _ _ _) a2 k2 (m + 1) js' rfl HLN.out (ok2 := fun _ => True) (HJL.out _ (Below.refl _ _)) (fun _ _ _ _ => trivial) (fun _ _ _ e => by cases e) (by simp only [List.length_nil]; omega) (by decide) (Nat.le_refl _) ?_; intro v4 w4 r1 r2 r3; have H4 : Hid (Rows kJb (fun _ => True) w4 w3.heap.size 29 v4 js' ∧ Below w3.heap.size w3 w4) := put_by ⟨r1, below_nil r2⟩; clear r1 r2 r3; obtain ⟨ma, mc, e4⟩ := rows_form H4.out.1; rw [← HLN.out] at e4; subst e4))
  go_wp2
  go_loopw [10, 11] (fun v iv wr => ∃ (k : Nat) (ma : Option Addr) (mc : Nat) (l : List Jb), k ≤ lenl ∧ k ≤ 12 ∧ iv = .int .i64 k ∧ v = .slice ma (m + 1 + k) mc ∧ Hid (Rows kJb (fun _ => True) wr w3.heap.size 29 (.slice ma (m + 1 + k) mc) (js' ++ l) ∧ Below w3.heap.size w3 wr ∧ (∀ j ∈ l, LateJ nx j) ∧ l.length = k)) (fun _ iv _ => lenl - (intOf iv).toNat)
  case atStart => exact ⟨0, ma, mc, [], Nat.zero_le _, Nat.zero_le _, rfl, rfl, put_by ⟨by rw [List.append_nil]; exact H4.out.1, H4.out.2, by simp, rfl⟩⟩
  case round =>
    clear H4
    obtain ⟨k, ma, mc, l, hk, hk12, rfl, rfl, HI⟩ := hrel
    by_cases hlt : k < lenl ∧ k < 12
    · obtain ⟨hlt1, hlt2⟩ := hlt
      have hxk : k < ls.length := by have := HLL.out.1; omega
      obtain ⟨b4, off, rfl, hb4, _, cs, ⟨u, rfl, hv⟩, hc⟩ := HLL.out.2.at hxk
      obtain ⟨ea, ec, rfl, hvo, -⟩ := id hv
      have hbw : Below w.heap.size w wr := HBw.out.trans (HI.out.2.1.mono HBw.out.size)
      have hcell : ∀ j y, [Value.int .i64 (ls[k]).kind, .int .i64 (ls[k]).addr, .int .i64 (ls[k]).epoch, .slice ea (ls[k]).data.length ec][j]? = some y → wr.cell? ⟨b4, off + k * 4 + j, none⟩ = some y := fun j y hj => (hbw.cell (p := ⟨b4, off + k * 4 + j, none⟩) hb4).trans (hc j y hj)
      have d0 := hcell 0 _ rfl
      have d1 := hcell 1 _ rfl
      have d2 := hcell 2 _ rfl
      have d3 := hcell 3 _ rfl
      simp only [Nat.add_zero] at d0
      have HVO := put_by (hvo.later hbw)
      have HB4w := put_by hb4
      have HB4 : Hid (b4 < wr.heap.size) := put_by (Nat.lt_of_lt_of_le hb4 hbw.size)
      obtain ⟨t, ht⟩ : ∃ t, t = ls[k] := ⟨_, rfl⟩
      rw [← ht] at d0 d1 d2 d3 HVO
      clear ht hcell hc hv hvo hbw hb4
      obtain ⟨tk, tad, te, td⟩ := t
      simp only at d0 d1 d2 d3 HVO
      obtain ⟨z1, hz1⟩ : ∃ z, z = tk % 5 := ⟨_, rfl⟩
      obtain ⟨z2, hz2⟩ : ∃ z, z = te % nx := ⟨_, rfl⟩
      obtain ⟨z3, hz3⟩ : ∃ z, z = tad % 6 := ⟨_, rfl⟩
      have q1 : 0 ≤ z1 ∧ z1 < 5 := by rw [hz1]; exact ⟨Int.emod_nonneg _ (by decide), Int.emod_lt_of_pos _ (by decide)⟩
      have q2 : z2 < nx := by rw [hz2]; exact Int.emod_lt_of_pos _ (by omega)
      have P1 := put_by (fun V => Picked_any tk 5 (by decide) (by decide) V)
      have P2 := put_by (fun V => Picked_any te nx (by omega) (by omega) V)
      have P3 := put_by (fun V => Picked_any tad 6 (by decide) (by decide) V)
      rw [← hz1] at P1
      rw [← hz2] at P2
      rw [← hz3] at P3
      clear hz1 hz2 hz3
      have HW : Hid (IntKind.i64.wrap (1 + z1) = 1 + z1) := put_by (by rw [IntKind.wrap_i64]; omega)
      have HLate : Hid (LateJ nx ⟨1 + z1, z2, z3, td.take 10⟩) := put_by ⟨by show 1 ≤ 1 + z1; omega, by show 1 + z1 ≤ 5; omega, q2⟩
      have cO : Hid (∀ W, Below wr.heap.size wr W → Calls Try.prog 6 #[.slice ea td.length ec, .int .i64 10] W fun e w' => ∃ (sa : Option Addr) (sn sc : Nat), e = .returned (.slice sa sn sc) ∧ Hid ((sn = (td.take 10).length ∧ Octs w' sa sc (td.take 10) ∧ ∀ a, sa = some a → W.heap.size ≤ a.block) ∧ Below W.heap.size W w')) := put_by fun W hW => (Octets_new ea ec td 10 (by decide) W (HVO.out.later hW)).mono fun e w' ⟨p, r, e1, e2, e3, e4⟩ => ⟨p, _, r, e1, put_by ⟨⟨rfl, e2, e3⟩, e4⟩⟩
      have HCel : Hid (∀ W, Below wr.heap.size wr W → (W.cell? ⟨b4, off + k * 4, none⟩ = some (.int .i64 tk) ∧ W.cell? ⟨b4, off + k * 4 + 1, none⟩ = some (.int .i64 tad)) ∧ W.cell? ⟨b4, off + k * 4 + 2, none⟩ = some (.int .i64 te) ∧ W.cell? ⟨b4, off + k * 4 + 3, none⟩ = some (.slice ea td.length ec)) := put_by (fun W hW => ⟨⟨(hW.cell (p := ⟨b4, off + k * 4, none⟩) HB4.out).trans d0, (hW.cell (p := ⟨b4, off + k * 4 + 1, none⟩) HB4.out).trans d1⟩, (hW.cell (p := ⟨b4, off + k * 4 + 2, none⟩) HB4.out).trans d2, (hW.cell (p := ⟨b4, off + k * 4 + 3, none⟩) HB4.out).trans d3⟩)
      have HJL9 : Hid ((js' ++ l).length = m + 1 + k) := put_by (by rw [List.length_append, ← HLN.out, HI.out.2.2.2])
      have hk60 : (k : Int) ≤ 12 := by omega
      go_upto_region 8 with (fail)
      have HJd := put_by (Below.refl wr.heap.size wr).drew
      go_region_held3 (fun W => W.cell? ⟨b4, off + k * 4, none⟩ = some (.int .i64 tk) ∧ W.cell? ⟨b4, off + k * 4 + 1, none⟩ = some (.int .i64 tad) ∧ W.cell? ⟨b4, off + k * 4 + 2, none⟩ = some (.int .i64 te) ∧ W.cell? ⟨b4, off + k * 4 + 3, none⟩ = some (.slice ea td.length ec)) (go_keep) (first
        | (go_at_call 5; (with_reducible refine (P1.out _).mono ?_); rintro e w' ⟨rfl, rfl⟩)
        | (go_at_call 5; (with_reducible refine (P2.out _).mono ?_); rintro e w' ⟨rfl, rfl⟩)
        | (go_at_call 5; (with_reducible refine (P3.out _).mono ?_); rintro e w' ⟨rfl, rfl⟩)
        | (go_at_call 6; (with_reducible refine (cO.out _ HJd.out).mono ?_); rintro e w5 ⟨sa, sn, sc, rfl, HO⟩; have HB5 := put_by (HJd.out.trans (HO.out.2.mono HJd.out.size)); have HR5 := put_by (HI.out.1.later HB5.out); have HNE : Hid (∀ ad, sa = some ad → (Value.slice ma (m + 1 + k) mc).ownBlock ≠ some ad.block) := put_by (fun ad e e2 => by have h1 := HO.out.1.2.2 ad e; have h2 := (rows_lt HI.out.1 _ e2).2; have h3 := HJd.out.size; omega); obtain ⟨⟨x0, x1⟩, x2, x3⟩ := HCel.out _ HB5.out)
        | (rw [if_pos (by rfl)]; refine wp_of_list rfl (by rintro ⟨_, _, hh⟩; cases hh.1) (wpList_append_one (K := kJb) eltJb rfl (.tmp 44) (.tmp 72) rfl w3.heap.size (.slice ma (m + 1 + k) mc) (js' ++ l) rfl HR5.out (⟨1 + z1, z2, z3, td.take 10⟩ : Jb) [.int .i64 (1 + z1), .int .i64 z2, .int .i64 z3, .slice sa sn sc] _ _ rfl (by rw [HW.out]) ⟨_, rfl, sa, sc, by rw [HO.out.1.1], HO.out.1.2.1, fun _ ad e => ⟨trivial, HNE.out ad e⟩⟩ (fun _ _ => trivial) (by rw [HJL9.out]; omega) (by decide) (HI.out.2.1.trans (HB5.out.mono HI.out.2.1.size)).size (fun v6 w6 r1 r2 r3 => ?_)); have H6 : Hid (Rows kJb (fun _ => True) w6 w3.heap.size 29 v6 ((js' ++ l) ++ [(⟨1 + z1, z2, z3, td.take 10⟩ : Jb)]) ∧ Below w3.heap.size w3 w6) := put_by ⟨r1, below_grown (HI.out.2.1.trans (HB5.out.mono HI.out.2.1.size)) (HI.out.2.1.trans (HB5.out.mono HI.out.2.1.size)).size r2 (fun r hr => (rows_lt HI.out.1 r hr).1)⟩; have HC6 : Hid (∀ j y, w5.cell? ⟨b4, j, none⟩ = some y → w6.cell? ⟨b4, j, none⟩ = some y) := put_by (fun j y h => (World.cell?_of_block (w := w5) (a := ⟨b4, j, none⟩) (show w6.heap[b4]? = w5.heap[b4]? from r2.block b4 (Nat.lt_of_lt_of_le HB4.out HB5.out.size) (fun e => by have h1 := (rows_lt HI.out.1 b4 (by first | exact e | exact e.symm)).1; have h2 := HB4w.out; have h3 := HBw.out.size; omega))).trans h); clear r1 r2 r3; have y0 := HC6.out _ _ x0; have y1 := HC6.out _ _ x1; have y2 := HC6.out _ _ x2; have y3 := HC6.out _ _ x3; refine list_end ?_))
      obtain ⟨a3, c3, e3⟩ := rows_form H6.out.1
      have hl9 : ((js' ++ l) ++ [(⟨1 + z1, z2, z3, td.take 10⟩ : Jb)]).length = m + 1 + (k + 1) := by rw [List.length_append, HJL9.out, List.length_singleton]; omega
      rw [hl9] at e3
      subst e3
      have HI2 : Hid (Rows kJb (fun _ => True) w6 w3.heap.size 29 (.slice a3 (m + 1 + (k + 1)) c3) (js' ++ (l ++ [(⟨1 + z1, z2, z3, td.take 10⟩ : Jb)])) ∧ Below w3.heap.size w3 w6 ∧ (∀ j ∈ l ++ [(⟨1 + z1, z2, z3, td.take 10⟩ : Jb)], LateJ nx j) ∧ (l ++ [(⟨1 + z1, z2, z3, td.take 10⟩ : Jb)]).length = k + 1) := put_by ⟨by rw [← List.append_assoc]; exact H6.out.1, H6.out.2, fun j hj => by
        rcases List.mem_append.1 hj with hj | hj
        · exact HI.out.2.2.1 j hj
        · rw [List.mem_singleton.1 hj]; exact HLate.out, by rw [List.length_append, List.length_singleton, HI.out.2.2.2]⟩
      clear hl9
      go_wp2
      go_roundw
      case rel => exact ⟨k + 1, a3, c3, l ++ [(⟨1 + z1, z2, z3, td.take 10⟩ : Jb)], by omega, by omega, by simp, rfl, HI2⟩
      case measure => simp [intOf]; omega
    · have HMo := put_by (fun W (hW : Below wr.heap.size wr W) => (show Lies kJb (fun _ => True) W ma mc (js' ++ l) from by
        obtain ⟨-, h2, -, -⟩ := rows_lies HI.out.1 (fun _ _ => trivial)
        exact h2.later hW))
      have HB3 := put_by HI.out.2.1
      have HLt := put_by HI.out.2.2
      have HMM : Hid (m + 1 + k = (js' ++ l).length) := put_by (by rw [List.length_append, ← HLN.out, HI.out.2.2.2])
      have HBz := put_by (HBw.out.trans (HI.out.2.1.mono HBw.out.size))
      clear HI HPK
      by_cases h1 : k < lenl
      · have i1 : (k : Int) < (lenl : Int) := by omega
        have i2 : decide ((k : Int) < 12) = false := decide_eq_false (by omega)
        go_upto_region 10 with (first
          | (at_builtin; refine wpList_append_rows eltJb rfl (.const (.slice none 0 0)) (.tmp 75) rfl wr.heap.size (.slice none 0 0) ([] : List Jb) rfl (Rows.nil kJb (fun _ => True) _ _ _) a2 k2 (m + 1) js' rfl HLN.out (ok2 := fun _ => True) (HJL.out _ HB3.out) (fun _ _ _ _ => trivial) (fun _ _ _ e => by cases e) (by simp only [List.length_nil]; omega) (by decide) (Nat.le_refl _) ?_; intro v9 w9 r1 r2 r3; have H9 : Hid (Rows kJb (fun _ => True) w9 wr.heap.size 29 v9 js' ∧ Below wr.heap.size wr w9) := put_by ⟨r1, below_nil r2⟩; clear r1 r2 r3)
          | (go_at_call 8; (with_reducible refine (look_law _ _).mono ?_); rintro e w10 ⟨a10, c10, rfl, HL10, HB10⟩)
          | (at_builtin; refine wpList_append_rows eltJb rfl (.tmp 76) (.tmp 78) rfl wr.heap.size v9 js' rfl (H9.out.1.later HB10.out) a10 c10 6 (askK nx 6) rfl (askK_length _ _).symm HL10.out (fun _ _ _ _ => trivial) (fun b _ hb e => by have := (rows_lt H9.out.1 b e).2; omega) (by rw [← HLN.out]; omega) (by decide) (H9.out.2.trans (HB10.out.mono H9.out.2.size)).size ?_; intro v11 w11 r1 r2 r3; have H11 : Hid (Rows kJb (fun _ => True) w11 wr.heap.size 29 v11 (js' ++ askK nx 6) ∧ Below wr.heap.size wr w11) := put_by ⟨r1, below_grown (H9.out.2.trans (HB10.out.mono H9.out.2.size)) (H9.out.2.trans (HB10.out.mono H9.out.2.size)).size r2 (fun r hr => (rows_lt H9.out.1 r hr).1)⟩; clear r1 r2 r3)
          | (go_at_call 7; (with_reducible refine (Play_law _ (by rw [List.length_append, askK_length, ← HLN.out]; omega) _ _ (Jbs.of_rows H11.out.1)).mono ?_); rintro e w12 ⟨aT, nT, cT, rfl, HPT, HB12⟩; have HW12 := put_by (H11.out.2.trans (HB12.out.mono H11.out.2.size))))
        clear H9 H11 HL10 HB10 HB12
        go_upto_region 11 with (first
          | (at_builtin; refine wpList_append_rows eltJb rfl (.const (.slice none 0 0)) (.tmp 84) rfl w12.heap.size (.slice none 0 0) ([] : List Jb) rfl (Rows.nil kJb (fun _ => True) _ _ _) ma mc (m + 1 + k) (js' ++ l) rfl HMM.out (ok2 := fun _ => True) (HMo.out _ HW12.out) (fun _ _ _ _ => trivial) (fun _ _ _ e => by cases e) (by simp only [List.length_nil]; omega) (by decide) (Nat.le_refl _) ?_; intro v13 w13 r1 r2 r3; have H13 : Hid (Rows kJb (fun _ => True) w13 w12.heap.size 29 v13 (js' ++ l) ∧ Below w12.heap.size w12 w13) := put_by ⟨r1, below_nil r2⟩; clear r1 r2 r3)
          | (go_at_call 8; (with_reducible refine (look_law _ _).mono ?_); rintro e w14 ⟨a14, c14, rfl, HL14, HB14⟩)
          | (at_builtin; refine wpList_append_rows eltJb rfl (.tmp 85) (.tmp 87) rfl w12.heap.size v13 (js' ++ l) rfl (H13.out.1.later HB14.out) a14 c14 6 (askK nx 6) rfl (askK_length _ _).symm HL14.out (fun _ _ _ _ => trivial) (fun b _ hb e => by have := (rows_lt H13.out.1 b e).2; omega) (by rw [← HMM.out]; omega) (by decide) (H13.out.2.trans (HB14.out.mono H13.out.2.size)).size ?_; intro v15 w15 r1 r2 r3; have H15 : Hid (Rows kJb (fun _ => True) w15 w12.heap.size 29 v15 ((js' ++ l) ++ askK nx 6) ∧ Below w12.heap.size w12 w15) := put_by ⟨r1, below_grown (H13.out.2.trans (HB14.out.mono H13.out.2.size)) (H13.out.2.trans (HB14.out.mono H13.out.2.size)).size r2 (fun r hr => (rows_lt H13.out.1 r hr).1)⟩; clear r1 r2 r3)
          | (go_at_call 7; (with_reducible refine (Play_law _ (by rw [List.length_append, askK_length, ← HMM.out]; omega) _ _ (Jbs.of_rows H15.out.1)).mono ?_); rintro e w16 ⟨aN, nN, cN, rfl, HPN, HB16⟩; have HW16 := put_by (H15.out.2.trans (HB16.out.mono H15.out.2.size))))
        clear H13 H15 HL14 HB14 HB16
        obtain ⟨pp, tt, lp, lt, e1, e2⟩ := HF.out q HQ.out.1
        rw [← HNX.out] at e1 e2
        rw [← HJS.out] at e1 e2
        have e3 := e2 l HLt.out.1
        have hnT : nT = m + 1 + 6 := by rw [HPT.out.1, List.length_append, askK_length, ← HLN.out]
        have hnN : nN = m + 1 + k + 6 := by rw [HPN.out.1, List.length_append, askK_length, ← HMM.out]
        subst hnT hnN
        have hA : Rps w16 aT cT (pp ++ tt) := by rw [← e1]; exact Lies.later HPT.out.2 HW16.out
        have hBB : Rps w16 aN cN ((pp ++ List.replicate l.length (rp 18)) ++ tt) := by rw [← e3]; exact HPN.out.2
        have lp1 : m + 1 = pp.length := by rw [lp, ← HP.out]
        have lp2 : m + 1 + k = (pp ++ List.replicate l.length (rp 18)).length := by rw [List.length_append, List.length_replicate, ← lp1, HLt.out.2]
        have cS := put_by (sameTailK_yes pp (pp ++ List.replicate l.length (rp 18)) tt lt (m + 1) (m + 1 + k) (m + 1 + 6) (m + 1 + k + 6) lp1 lp2 (by omega) (by omega) rfl rfl aT aN cT cN w16 hA hBB)
        have HCode : Hid (∀ (i : Nat) (W : World), m + 1 ≤ i → i < m + 1 + k → Below w16.heap.size w16 W → ∃ b off, aN = some ⟨b, off, none⟩ ∧ W.cell? ⟨b, off + i * 4, none⟩ = some (.int .i64 18)) := put_by (fun i W h1 h2 hW => by
          have hi : i < ((pp ++ List.replicate l.length (rp 18)) ++ tt).length := by rw [List.length_append, ← lp2]; omega
          obtain ⟨b, off, da, dc, e, hc, -⟩ := Rps.cell (Lies.later hBB hW) hi
          refine ⟨b, off, e, ?_⟩
          rw [hc]
          have hv : (((pp ++ List.replicate l.length (rp 18)) ++ tt)[i]).code = 18 := by
            rw [List.getElem_append_left (by rw [← lp2]; exact h2), List.getElem_append_right (by omega), List.getElem_replicate]
            rfl
          rw [hv])
        have HBF := put_by (HBz.out.trans ((HW12.out.trans (HW16.out.mono HW12.out.size)).mono HBz.out.size))
        clear e1 e2 e3 hA hBB lp1 lp2 lp lt HPT HPN
        go_wp2_with (go_at_call 9; (with_reducible refine (cS.out).mono ?_); clear cS; rintro e w17 ⟨rfl, h17⟩; have H17 := put_by h17; clear h17)
        go_loopw [16] (fun iv ws => ws = w17 ∧ ∃ i : Nat, m + 1 ≤ i ∧ i ≤ m + 1 + k ∧ iv = .int .i64 i) (fun iv _ => (m + 1 + k) - (intOf iv).toNat)
        case atStart => exact ⟨rfl, m + 1, Nat.le_refl _, by omega, by simp⟩
        case round =>
          obtain ⟨rfl, i, hi1, hi2, rfl⟩ := hrel
          by_cases hit : i < m + 1 + k
          · obtain ⟨b, off, rfl, hcd⟩ := HCode.out i _ hi1 hit H17.out
            go_wp2
            go_roundw
            case rel => exact ⟨trivial, i + 1, by omega, by omega, by simp⟩
            case measure => simp [intOf]; omega
          · obtain rfl : i = m + 1 + k := by omega
            go_wp2
            go_ret
            exact ⟨rfl, HBF.out.trans (H17.out.mono HBF.out.size)⟩

      · have i1 : decide ((k : Int) < (lenl : Int)) = false := decide_eq_false (by omega)
        go_upto_region 10 with (first
          | (at_builtin; refine wpList_append_rows eltJb rfl (.const (.slice none 0 0)) (.tmp 75) rfl wr.heap.size (.slice none 0 0) ([] : List Jb) rfl (Rows.nil kJb (fun _ => True) _ _ _) a2 k2 (m + 1) js' rfl HLN.out (ok2 := fun _ => True) (HJL.out _ HB3.out) (fun _ _ _ _ => trivial) (fun _ _ _ e => by cases e) (by simp only [List.length_nil]; omega) (by decide) (Nat.le_refl _) ?_; intro v9 w9 r1 r2 r3; have H9 : Hid (Rows kJb (fun _ => True) w9 wr.heap.size 29 v9 js' ∧ Below wr.heap.size wr w9) := put_by ⟨r1, below_nil r2⟩; clear r1 r2 r3)
          | (go_at_call 8; (with_reducible refine (look_law _ _).mono ?_); rintro e w10 ⟨a10, c10, rfl, HL10, HB10⟩)
          | (at_builtin; refine wpList_append_rows eltJb rfl (.tmp 76) (.tmp 78) rfl wr.heap.size v9 js' rfl (H9.out.1.later HB10.out) a10 c10 6 (askK nx 6) rfl (askK_length _ _).symm HL10.out (fun _ _ _ _ => trivial) (fun b _ hb e => by have := (rows_lt H9.out.1 b e).2; omega) (by rw [← HLN.out]; omega) (by decide) (H9.out.2.trans (HB10.out.mono H9.out.2.size)).size ?_; intro v11 w11 r1 r2 r3; have H11 : Hid (Rows kJb (fun _ => True) w11 wr.heap.size 29 v11 (js' ++ askK nx 6) ∧ Below wr.heap.size wr w11) := put_by ⟨r1, below_grown (H9.out.2.trans (HB10.out.mono H9.out.2.size)) (H9.out.2.trans (HB10.out.mono H9.out.2.size)).size r2 (fun r hr => (rows_lt H9.out.1 r hr).1)⟩; clear r1 r2 r3)
          | (go_at_call 7; (with_reducible refine (Play_law _ (by rw [List.length_append, askK_length, ← HLN.out]; omega) _ _ (Jbs.of_rows H11.out.1)).mono ?_); rintro e w12 ⟨aT, nT, cT, rfl, HPT, HB12⟩; have HW12 := put_by (H11.out.2.trans (HB12.out.mono H11.out.2.size))))
        clear H9 H11 HL10 HB10 HB12
        go_upto_region 11 with (first
          | (at_builtin; refine wpList_append_rows eltJb rfl (.const (.slice none 0 0)) (.tmp 84) rfl w12.heap.size (.slice none 0 0) ([] : List Jb) rfl (Rows.nil kJb (fun _ => True) _ _ _) ma mc (m + 1 + k) (js' ++ l) rfl HMM.out (ok2 := fun _ => True) (HMo.out _ HW12.out) (fun _ _ _ _ => trivial) (fun _ _ _ e => by cases e) (by simp only [List.length_nil]; omega) (by decide) (Nat.le_refl _) ?_; intro v13 w13 r1 r2 r3; have H13 : Hid (Rows kJb (fun _ => True) w13 w12.heap.size 29 v13 (js' ++ l) ∧ Below w12.heap.size w12 w13) := put_by ⟨r1, below_nil r2⟩; clear r1 r2 r3)
          | (go_at_call 8; (with_reducible refine (look_law _ _).mono ?_); rintro e w14 ⟨a14, c14, rfl, HL14, HB14⟩)
          | (at_builtin; refine wpList_append_rows eltJb rfl (.tmp 85) (.tmp 87) rfl w12.heap.size v13 (js' ++ l) rfl (H13.out.1.later HB14.out) a14 c14 6 (askK nx 6) rfl (askK_length _ _).symm HL14.out (fun _ _ _ _ => trivial) (fun b _ hb e => by have := (rows_lt H13.out.1 b e).2; omega) (by rw [← HMM.out]; omega) (by decide) (H13.out.2.trans (HB14.out.mono H13.out.2.size)).size ?_; intro v15 w15 r1 r2 r3; have H15 : Hid (Rows kJb (fun _ => True) w15 w12.heap.size 29 v15 ((js' ++ l) ++ askK nx 6) ∧ Below w12.heap.size w12 w15) := put_by ⟨r1, below_grown (H13.out.2.trans (HB14.out.mono H13.out.2.size)) (H13.out.2.trans (HB14.out.mono H13.out.2.size)).size r2 (fun r hr => (rows_lt H13.out.1 r hr).1)⟩; clear r1 r2 r3)
          | (go_at_call 7; (with_reducible refine (Play_law _ (by rw [List.length_append, askK_length, ← HMM.out]; omega) _ _ (Jbs.of_rows H15.out.1)).mono ?_); rintro e w16 ⟨aN, nN, cN, rfl, HPN, HB16⟩; have HW16 := put_by (H15.out.2.trans (HB16.out.mono H15.out.2.size))))
        clear H13 H15 HL14 HB14 HB16
        obtain ⟨pp, tt, lp, lt, e1, e2⟩ := HF.out q HQ.out.1
        rw [← HNX.out] at e1 e2
        rw [← HJS.out] at e1 e2
        have e3 := e2 l HLt.out.1
        have hnT : nT = m + 1 + 6 := by rw [HPT.out.1, List.length_append, askK_length, ← HLN.out]
        have hnN : nN = m + 1 + k + 6 := by rw [HPN.out.1, List.length_append, askK_length, ← HMM.out]
        subst hnT hnN
        have hA : Rps w16 aT cT (pp ++ tt) := by rw [← e1]; exact Lies.later HPT.out.2 HW16.out
        have hBB : Rps w16 aN cN ((pp ++ List.replicate l.length (rp 18)) ++ tt) := by rw [← e3]; exact HPN.out.2
        have lp1 : m + 1 = pp.length := by rw [lp, ← HP.out]
        have lp2 : m + 1 + k = (pp ++ List.replicate l.length (rp 18)).length := by rw [List.length_append, List.length_replicate, ← lp1, HLt.out.2]
        have cS := put_by (sameTailK_yes pp (pp ++ List.replicate l.length (rp 18)) tt lt (m + 1) (m + 1 + k) (m + 1 + 6) (m + 1 + k + 6) lp1 lp2 (by omega) (by omega) rfl rfl aT aN cT cN w16 hA hBB)
        have HCode : Hid (∀ (i : Nat) (W : World), m + 1 ≤ i → i < m + 1 + k → Below w16.heap.size w16 W → ∃ b off, aN = some ⟨b, off, none⟩ ∧ W.cell? ⟨b, off + i * 4, none⟩ = some (.int .i64 18)) := put_by (fun i W h1 h2 hW => by
          have hi : i < ((pp ++ List.replicate l.length (rp 18)) ++ tt).length := by rw [List.length_append, ← lp2]; omega
          obtain ⟨b, off, da, dc, e, hc, -⟩ := Rps.cell (Lies.later hBB hW) hi
          refine ⟨b, off, e, ?_⟩
          rw [hc]
          have hv : (((pp ++ List.replicate l.length (rp 18)) ++ tt)[i]).code = 18 := by
            rw [List.getElem_append_left (by rw [← lp2]; exact h2), List.getElem_append_right (by omega), List.getElem_replicate]
            rfl
          rw [hv])
        have HBF := put_by (HBz.out.trans ((HW12.out.trans (HW16.out.mono HW12.out.size)).mono HBz.out.size))
        clear e1 e2 e3 hA hBB lp1 lp2 lp lt HPT HPN
        go_wp2_with (go_at_call 9; (with_reducible refine (cS.out).mono ?_); clear cS; rintro e w17 ⟨rfl, h17⟩; have H17 := put_by h17; clear h17)
        go_loopw [16] (fun iv ws => ws = w17 ∧ ∃ i : Nat, m + 1 ≤ i ∧ i ≤ m + 1 + k ∧ iv = .int .i64 i) (fun iv _ => (m + 1 + k) - (intOf iv).toNat)
        case atStart => exact ⟨rfl, m + 1, Nat.le_refl _, by omega, by simp⟩
        case round =>
          obtain ⟨rfl, i, hi1, hi2, rfl⟩ := hrel
          by_cases hit : i < m + 1 + k
          · obtain ⟨b, off, rfl, hcd⟩ := HCode.out i _ hi1 hit H17.out
            go_wp2
            go_roundw
            case rel => exact ⟨trivial, i + 1, by omega, by omega, by simp⟩
            case measure => simp [intOf]; omega
          · obtain rfl : i = m + 1 + k := by omega
            go_wp2
            go_ret
            exact ⟨rfl, HBF.out.trans (H17.out.mono HBF.out.size)⟩


end Go.Proofs.Ytfaejcdbjcklpaa
