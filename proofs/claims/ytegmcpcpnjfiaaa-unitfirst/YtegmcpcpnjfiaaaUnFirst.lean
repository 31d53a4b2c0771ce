/- Who comes first has the slot. -/
import Derived.Test.YtegmcpcpnjfiaaaUnReg
import Derived.Test.YtegmcpcpnjfiaaaRtSameK
namespace Go.Proofs.Ytegmcpcpnjfiaaa
open Go.ChangeShapes Go.WideShapes Go.ChangeAt Go.RowKit

/-- what the two at the end come to -/
theorem first_facts (ts : List Tsk) (n : Nat) (hn : n ≤ 40) (a : Nat) (ha : 10 ≤ a ∧ a < 64) (d : List Int) (hd : d.length ≤ 20) (fill again : Bool) (js : List Jb) (q : Int) (e1 : js = (jobsOf 0 (ts.take n)).1) (e2 : q = (jobsOf 0 (ts.take n)).2) :
    ∃ r2 : Rp, r2.code = 15 ∧ r2.junk = fill ∧ (fill = false → r2.data = d) ∧
      (playU unit0 (js ++ [if fill then ⟨3, q, (a : Int), []⟩ else ⟨1, q, (a : Int), d⟩, if again then ⟨3, q, (a : Int), []⟩ else ⟨1, q, (a : Int), d⟩])).1 = (playU unit0 js).1 ++ [rp 0, r2] := by
  have hs := jobs_state ts n (by omega)
  rw [← e1, ← e2] at hs
  obtain ⟨u, hu⟩ : ∃ u, u = (playU unit0 js).2 := ⟨_, rfl⟩
  rw [← hu] at hs
  have hep := hs.ep
  have hk := hs.high a (by omega)
  have hr : ¬ ((a : Int) < 0 ∨ 64 ≤ (a : Int)) := by omega
  have hd4 : ¬ 4000 < d.length := by omega
  have hpl : ∀ x y : Jb, (playU unit0 (js ++ [x, y])).1 = (playU unit0 js).1 ++ [(stepU u x).1, (stepU (stepU u x).2 y).1] := fun x y => by
    rw [playU_append, ← hu]
    rfl
  rw [hpl]
  cases fill <;> cases again
  · refine ⟨⟨15, false, d, 0⟩, rfl, rfl, fun _ => rfl, ?_⟩
    simp [stepU, atU, storeU, Un.calm, Un.put, hep, hr, hk, hd4, hasSl, readSl, rp]
  · refine ⟨⟨15, false, d, 0⟩, rfl, rfl, fun _ => rfl, ?_⟩
    simp [stepU, atU, storeU, putU, Un.calm, Un.put, hep, hr, hk, hd4, hasSl, readSl, rp]
  · refine ⟨⟨15, true, [], 0⟩, rfl, rfl, (fun h => by cases h), ?_⟩
    simp [stepU, atU, storeU, putU, Un.calm, Un.put, hep, hr, hk, hd4, hasSl, readSl, rp]
  · refine ⟨⟨15, true, [], 0⟩, rfl, rfl, (fun h => by cases h), ?_⟩
    simp [stepU, atU, putU, Un.calm, Un.put, hep, hr, hk, hasSl, readSl, rp]

set_option maxRecDepth 10000 in
set_option maxHeartbeats 1600000 in
theorem UnitFirst_any (ts : List Tsk) (ta : Option Addr) (tc len : Nat) (hlen : len = ts.length) (ad : Int) (xa : Option Addr) (xc xn : Nat) (xs : List Int) (hxn : xn = xs.length) (fill again : Bool) (w : World) (hL : Lies kTs (fun _ => True) w ta tc ts) (hX : Octs w xa xc xs) :
    Calls Try.prog 8 #[.slice ta len tc, .int .i64 ad, .slice xa xn xc, .bool fill, .bool again] w fun e w' => e = .returned (.bool true) ∧ Below w.heap.size w w' := by
  obtain ⟨js, hjs⟩ : ∃ js, js = (jobsOf 0 (ts.take 30)).1 := ⟨_, rfl⟩
  have hfew := jobs_few ts 30 (by omega)
  have cJ : Hid (Calls Try.prog 12 #[.slice ta len tc, .int .i64 30] w fun e w' => ∃ (a : Option Addr) (m c : Nat) (q : Int), e = .returned (.tuple #[.slice a m c, .int .i64 q]) ∧ 0 ≤ q ∧ q ≤ 120 ∧ m ≤ 30 ∧ Hid (q = (jobsOf 0 (ts.take 30)).2 ∧ m = js.length) ∧ Hid (RowI w js (.slice a m c) w')) := put_by ((Jobs_law ts 30 (by omega) ta tc len hlen w hL).mono fun e w' ⟨a, m, c, q, e1, e2, e3⟩ => ⟨a, m, c, q, e1, by rw [e2.out.1]; exact hfew.2.1, by rw [e2.out.1]; exact hfew.2.2, by rw [e2.out.2]; exact hfew.1, put_by ⟨e2.out.1, by rw [hjs]; exact e2.out.2⟩, put_by (by rw [hjs]; exact ⟨e3.out.rows, e3.out.below⟩)⟩)
  have HPK := put_by (fun (x y : Int) (h1 : 0 < y) (h2 : y ≤ 9223372036854775807) (W : World) => Picked_any x y h1 h2 W)
  obtain ⟨an, han⟩ : ∃ an : Nat, (an : Int) = ad % 54 := ⟨(ad % 54).toNat, Int.toNat_of_nonneg (Int.emod_nonneg _ (by decide))⟩
  have han2 : an < 54 := by have := Int.emod_lt_of_pos ad (show (0 : Int) < 54 by decide); omega
  have HF := put_by (fun q e2 => first_facts ts 30 (by omega) (10 + an) (by omega) (xs.take 20) (by rw [List.length_take]; omega) fill again js q hjs e2)
  have cO : Hid (∀ W, Below w.heap.size w W → Calls Try.prog 15 #[.slice xa xn xc, .int .i64 20] W fun e w' => ∃ (sa : Option Addr) (sn sc : Nat), e = .returned (.slice sa sn sc) ∧ Hid (sn = (xs.take 20).length ∧ Octs w' sa sc (xs.take 20)) ∧ Hid (Below W.heap.size W w')) := put_by fun W hW => by
    rw [hxn]
    exact (Octets_new xa xc xs 20 (by decide) W (hX.later hW)).mono fun e w' ⟨p, r, e1, e2, e3, e4⟩ => ⟨p, _, r, e1, put_by ⟨rfl, e2⟩, put_by e4⟩
  have hlj : js.length ≤ 30 := by rw [hjs]; exact hfew.1
  have HLJ := put_by hlj
  clear hfew hjs hlen hL hlj hxn hX
  have HAN := put_by han
  have hw10 : IntKind.i64.wrap (10 + (an : Int)) = 10 + (an : Int) := by rw [IntKind.wrap_i64]; omega
  rw [han] at hw10
  clear han
  cases fill <;> cases again
  · go_enter Try.func8, Try.ntmps8
    go_upto_region 11 with (first
      | (go_at_call 12; (with_reducible refine cJ.out.mono ?_); clear cJ; rintro e w1 ⟨a, m, c, q, rfl, hq0, hq1, hm, HQ, HR1⟩)
      | (go_at_call 14; (with_reducible refine (HPK.out _ _ ?_ ?_ _).mono ?_); (first | decide | omega); (first | decide | omega); rintro e w9 ⟨rfl, rfl⟩)
      | (go_at_call 15; (with_reducible refine (cO.out _ HR1.out.below).mono ?_); rintro e w2 ⟨sa, sn, sc, rfl, HO, HB2⟩))
    obtain ⟨V, hV, hbV, hqS, -, hqO, hqT⟩ := four_vars w2 (.int .i64 1) (.int .i64 q) (.int .i64 (10 + ad % 54)) (.slice sa sn sc) (.int .i64 3) (.int .i64 q) (.int .i64 (10 + ad % 54)) (.slice none 0 0) (.int .i64 1) (.int .i64 q) (.int .i64 (10 + ad % 54)) (.slice sa sn sc) (.int .i64 1) (.int .i64 q) (.int .i64 (10 + ad % 54)) (.slice sa sn sc) 34 34 34 34
    rw [← hV]
    clear hV
    rw [← HAN.out] at hqS hqO hqT
    rw [← HAN.out]
    obtain ⟨sb, hsb⟩ : ∃ sb, sb = w2.heap.size := ⟨_, rfl⟩
    rw [← hsb] at hqS hqO hqT
    rw [← hsb]
    have HRV : Hid (∀ W, Below V.heap.size V W → RowI w js (.slice a m c) W) := put_by fun W hW => ((HR1.out.later HB2.out).later hbV).later hW
    have HJL : Hid (∀ W, Below V.heap.size V W → Lies kJb (fun _ => True) W a c js) := put_by fun W hW => (by obtain ⟨p, r, e, h⟩ := rows_slice (HRV.out W hW); simp only [Value.slice.injEq] at e; rw [e.1, e.2.2]; exact h)
    have HOV : Hid (∀ W, Below V.heap.size V W → Octs W sa sc (xs.take 20)) := put_by fun W hW => ((HO.out.2.later hbV)).later hW
    have HQS : Hid (∀ W, Below V.heap.size V W → Quad W sb (.int .i64 1) (.int .i64 q) (.int .i64 (10 + (an : Int))) (.slice sa sn sc)) := put_by fun W hW => hqS.later hW
    have HQO : Hid (∀ W, Below V.heap.size V W → Quad W (sb + 1 + 1) (.int .i64 1) (.int .i64 q) (.int .i64 (10 + (an : Int))) (.slice sa sn sc)) := put_by fun W hW => hqO.later hW
    have HQT : Hid (∀ W, Below V.heap.size V W → Quad W (sb + 1 + 1 + 1) (.int .i64 1) (.int .i64 q) (.int .i64 (10 + (an : Int))) (.slice sa sn sc)) := put_by fun W hW => hqT.later hW
    obtain ⟨c0, c1, c2, c3, -, -, -, -⟩ := hqO
    obtain ⟨d0, d1, d2, d3, -, -, -, -⟩ := hqT
    clear hqS hsb hbV
    have HOB : Hid (xs.take 20 ≠ [] → ∀ ad, sa = some ad → ad.block < V.heap.size) := put_by (HOV.out V (Below.refl _ _)).blocks
    have hm40 : m ≤ 30 := hm
    go_region_held3 (fun W => W.cell? ⟨sb + 1 + 1, 0, none⟩ = some (.int .i64 1) ∧ W.cell? ⟨sb + 1 + 1, 1, none⟩ = some (.int .i64 q) ∧ W.cell? ⟨sb + 1 + 1, 2, none⟩ = some (.int .i64 (10 + (an : Int))) ∧ W.cell? ⟨sb + 1 + 1, 3, none⟩ = some (.slice sa sn sc) ∧ W.cell? ⟨sb + 1 + 1 + 1, 0, none⟩ = some (.int .i64 1) ∧ W.cell? ⟨sb + 1 + 1 + 1, 1, none⟩ = some (.int .i64 q) ∧ W.cell? ⟨sb + 1 + 1 + 1, 2, none⟩ = some (.int .i64 (10 + (an : Int))) ∧ W.cell? ⟨sb + 1 + 1 + 1, 3, none⟩ = some (.slice sa sn sc)) (go_keep) (first
      | (rw [if_pos (by rfl)]; refine wp_of_list rfl (by rintro ⟨_, _, hh⟩; cases hh.1) (wpList_append_rows eltJb rfl (.const (.slice none 0 0)) (.tmp 44) rfl w.heap.size (.slice none 0 0) ([] : List Jb) rfl (Rows.nil kJb (fun _ => True) _ _ _) a c m js rfl HQ.out.2 (ok2 := fun _ => True) (HJL.out _ (by first | exact Below.refl _ _ | exact (Below.refl _ _).drew | exact ((Below.refl _ _).alloc (Nat.le_refl _) _).drew | exact (Below.refl _ _).alloc (Nat.le_refl _) _)) (fun _ _ _ _ => trivial) (fun _ _ _ e => by cases e) (by simp only [List.length_nil]; omega) (by decide) (HRV.out _ (by first | exact Below.refl _ _ | exact (Below.refl _ _).drew | exact ((Below.refl _ _).alloc (Nat.le_refl _) _).drew | exact (Below.refl _ _).alloc (Nat.le_refl _) _)).below.size (fun v3 w3 r1 r2 r3 => ?_)); have HB3 := put_by (below_nil r2); have HV3 := put_by (own_not (d := 0) r3); have HV4 : Hid (∀ b, b < V.heap.size → v3.ownBlock ≠ some b) := put_by (fun b hb => own_not (d := 0) r3 b (by simp; omega)); have HVW := put_by (show Below V.heap.size V w3 from Below.trans (by first | exact Below.refl _ _ | exact (Below.refl _ _).drew | exact ((Below.refl _ _).alloc (Nat.le_refl _) _).drew | exact (Below.refl _ _).alloc (Nat.le_refl _) _) (HB3.out.mono (by simp))); have HR3 := put_by (RowI.mk (w := w) (v := v3) r1 ((HRV.out V (Below.refl _ _)).below.trans (HVW.out.mono (HRV.out V (Below.refl _ _)).below.size))); clear r1 r2 r3; obtain ⟨x0, x1, x2, x3, -, -, -, -⟩ := HQO.out _ HVW.out; obtain ⟨y0, y1, y2, y3, -, -, -, -⟩ := HQT.out _ HVW.out; refine list_end ?_)
      | (rw [if_pos (by rfl)]; refine wp_of_list rfl (by rintro ⟨_, _, hh⟩; cases hh.1) (wpList_append_rows (ok := fun _ => True) eltJb rfl (.tmp 45) (.tmp 48) rfl w.heap.size v3 js rfl (HR3.out.later (by first | exact Below.refl _ _ | exact (Below.refl _ _).drew | exact ((Below.refl _ _).alloc (Nat.le_refl _) _).drew | exact (Below.refl _ _).alloc (Nat.le_refl _) _)).rows (some ⟨w3.heap.size, 0, none⟩) 2 2 [⟨1, q, 10 + (an : Int), xs.take 20⟩, ⟨1, q, 10 + (an : Int), xs.take 20⟩] rfl rfl (Lies.later (lies_jobs (ok := fun b => v3.ownBlock ≠ some b) (W := w3) (⟨1, q, 10 + (an : Int), xs.take 20⟩ : Jb) (⟨1, q, 10 + (an : Int), xs.take 20⟩ : Jb) (.slice sa sn sc) (.slice sa sn sc) ⟨sa, sc, by rw [HO.out.1], HOV.out _ HVW.out, fun hx ad e => HV4.out _ (HOB.out hx ad e)⟩ ⟨sa, sc, by rw [HO.out.1], HOV.out _ HVW.out, fun hx ad e => HV4.out _ (HOB.out hx ad e)⟩ (fun e => Nat.lt_irrefl _ (rows_lt HR3.out.rows _ e).2) 34) (by first | exact Below.refl _ _ | exact (Below.refl _ _).drew | exact ((Below.refl _ _).alloc (Nat.le_refl _) _).drew | exact (Below.refl _ _).alloc (Nat.le_refl _) _)) (fun _ _ _ _ => trivial) (fun b _ hb => hb) (by have := HLJ.out; omega) (by decide) (HR3.out.later (by first | exact Below.refl _ _ | exact (Below.refl _ _).drew | exact ((Below.refl _ _).alloc (Nat.le_refl _) _).drew | exact (Below.refl _ _).alloc (Nat.le_refl _) _)).below.size (fun v5 w5 r1 r2 r3 => ?_)); have HR5 := put_by (RowI.grown (w := w) (HR3.out.later (by first | exact Below.refl _ _ | exact (Below.refl _ _).drew | exact ((Below.refl _ _).alloc (Nat.le_refl _) _).drew | exact (Below.refl _ _).alloc (Nat.le_refl _) _)) r1 r2); have HVW5 := put_by (below_grown (n := V.heap.size) (w := V) (HVW.out.trans (Below.mono (by first | exact Below.refl _ _ | exact (Below.refl _ _).drew | exact ((Below.refl _ _).alloc (Nat.le_refl _) _).drew | exact (Below.refl _ _).alloc (Nat.le_refl _) _) HVW.out.size)) (Nat.le_trans HVW.out.size (by simp)) r2 (fun r hr => Nat.le_of_not_lt (fun hl => HV4.out r hl hr))); clear r1 r2 r3; obtain ⟨x0, x1, x2, x3, -, -, -, -⟩ := HQO.out _ HVW5.out; obtain ⟨y0, y1, y2, y3, -, -, -, -⟩ := HQT.out _ HVW5.out; refine list_end ?_)
      | (rw [if_pos (by rfl)]; refine wp_of_list rfl (by rintro ⟨_, _, hh⟩; cases hh.1) (wpList_append_rows (ok := fun _ => True) eltJb rfl (.tmp 45) (.tmp 48) rfl w.heap.size v3 js rfl HR3.out.rows (some ⟨V.heap.size, 0, none⟩) 2 2 [⟨1, q, 10 + (an : Int), xs.take 20⟩, ⟨1, q, 10 + (an : Int), xs.take 20⟩] rfl rfl ((lies_jobs (ok := fun b => v3.ownBlock ≠ some b) (W := V) (⟨1, q, 10 + (an : Int), xs.take 20⟩ : Jb) (⟨1, q, 10 + (an : Int), xs.take 20⟩ : Jb) (.slice sa sn sc) (.slice sa sn sc) ⟨sa, sc, by rw [HO.out.1], HOV.out _ (Below.refl _ _), fun hx ad e => HV4.out _ (HOB.out hx ad e)⟩ ⟨sa, sc, by rw [HO.out.1], HOV.out _ (Below.refl _ _), fun hx ad e => HV4.out _ (HOB.out hx ad e)⟩ (HV3.out _ (by simp)) 34).later (Below.trans (by first | exact Below.refl _ _ | exact (Below.refl _ _).drew | exact ((Below.refl _ _).alloc (Nat.le_refl _) _).drew | exact (Below.refl _ _).alloc (Nat.le_refl _) _) (HB3.out.mono (by simp)))) (fun _ _ _ _ => trivial) (fun b _ hb => hb) (by have := HLJ.out; omega) (by decide) HR3.out.below.size (fun v5 w5 r1 r2 r3 => ?_)); have HR5 := put_by (RowI.grown (w := w) HR3.out r1 r2); have HVW5 := put_by (below_grown (n := V.heap.size) (w := V) HVW.out HVW.out.size r2 (fun r hr => Nat.le_of_not_lt (fun hl => HV4.out r hl hr))); clear r1 r2 r3; obtain ⟨x0, x1, x2, x3, -, -, -, -⟩ := HQO.out _ HVW5.out; obtain ⟨y0, y1, y2, y3, -, -, -, -⟩ := HQT.out _ HVW5.out; refine list_end ?_)
      | (go_at_call 9; (with_reducible refine (Play_law _ (by simp only [List.length_append, List.length_cons, List.length_nil]; have := HLJ.out; omega) _ _ (Jbs.of_rows HR5.out.rows)).mono ?_); rintro e w6 ⟨a6, n6, c6, rfl, HP6, HB6⟩; have HVW6 := put_by (HVW5.out.trans (HB6.out.mono HVW5.out.size)); obtain ⟨p0, p1, p2, p3, -, -, -, -⟩ := HQO.out _ HVW6.out; obtain ⟨r0, r1, r2, r3, -, -, -, -⟩ := HQT.out _ HVW6.out))
    all_goals
      obtain ⟨r2, g1, g2, g3, g4⟩ := HF.out q HQ.out.1
      have e10 : ((10 + an : Nat) : Int) = 10 + (an : Int) := by omega
      simp only [Bool.false_eq_true, if_false, e10] at g4
      have hR : Rps w6 a6 c6 ((playU unit0 js).1 ++ [rp 0, r2]) := by rw [← g4]; exact HP6.out.2
      obtain ⟨p, hp⟩ : ∃ p, p = js.length := ⟨_, rfl⟩
      have hpl : (playU unit0 js).1.length = p := by rw [playU_length, hp]
      have hRl : ((playU unit0 js).1 ++ [rp 0, r2]).length = p + 2 := by simp [hpl]
      obtain ⟨rb, ro, _, _, rfl, x0, -⟩ := hR.cell (k := p) (by rw [hRl]; omega)
      obtain ⟨rb', ro', da, dc, e, z0, z1, z2, -, zo⟩ := hR.cell (k := p + 1) (by rw [hRl]; omega)
      cases e
      have hat : ((playU unit0 js).1 ++ [rp 0, r2])[p]'(by rw [hRl]; omega) = rp 0 := by
        rw [List.getElem_append_right (by omega)]
        simp [hpl]
      have hat2 : ((playU unit0 js).1 ++ [rp 0, r2])[p + 1]'(by rw [hRl]; omega) = r2 := by
        rw [List.getElem_append_right (by omega)]
        simp [hpl]
      rw [hat] at x0
      rw [hat2] at z0 z1 z2 zo
      rw [g1] at z0
      rw [g2] at z1
      have hmp : m = p := by rw [HQ.out.2, hp]
      have hn6 : n6 = p + 2 := by rw [HP6.out.1]; simp [hp]
      subst hmp hn6
      have hp40 : (m : Int) ≤ 30 := by omega
      obtain ⟨s0, s1, s2, s3, -, -, -, -⟩ := HQS.out _ HVW6.out
      have HBE := put_by (HR5.out.below.trans (HB6.out.mono HR5.out.below.size))
      have hsn := HO.out.1
      have hdl : r2.data.length = sn := by rw [g3 (by first | rfl | trivial), hsn]
      rw [hdl] at z2
      have cK : Hid (∀ i, Calls Try.prog 18 #[.slice da sn dc, .slice sa sn sc] (w6.drewN i) fun e w' => e = .returned (.bool true) ∧ ∃ j, w' = (w6.drewN i).drewN j) := put_by fun i => by
        have h1 := (zo : Octs w6 da dc r2.data)
        rw [g3 (by first | rfl | trivial)] at h1
        rw [hsn]
        refine (sameBytesK_q da sa dc sc _ _ (w6.drewN i) (octs_drawn h1 _) (octs_drawn (HOV.out _ HVW6.out) _)).mono fun e w' h => ?_
        simpa using h
      clear g1 g2 g3 g4 hR hpl hRl hat hat2 hp zo hsn hdl HRV HJL HOV HQS HQO HQT HP6 HQ HF HR5 HB6 HVW6
      simp only [rp] at x0
      go_wp2
      go_quiet (first
        | (go_at_call 18; with_reducible exact Calls.quiet_of (cK.out _)))
      go_wp2
      go_ret
      exact ⟨rfl, belowN HBE.out _⟩
  · go_enter Try.func8, Try.ntmps8
    go_upto_region 11 with (first
      | (go_at_call 12; (with_reducible refine cJ.out.mono ?_); clear cJ; rintro e w1 ⟨a, m, c, q, rfl, hq0, hq1, hm, HQ, HR1⟩)
      | (go_at_call 14; (with_reducible refine (HPK.out _ _ ?_ ?_ _).mono ?_); (first | decide | omega); (first | decide | omega); rintro e w9 ⟨rfl, rfl⟩)
      | (go_at_call 15; (with_reducible refine (cO.out _ HR1.out.below).mono ?_); rintro e w2 ⟨sa, sn, sc, rfl, HO, HB2⟩))
    obtain ⟨V, hV, hbV, hqS, -, hqO, hqT⟩ := four_vars w2 (.int .i64 1) (.int .i64 q) (.int .i64 (10 + ad % 54)) (.slice sa sn sc) (.int .i64 3) (.int .i64 q) (.int .i64 (10 + ad % 54)) (.slice none 0 0) (.int .i64 1) (.int .i64 q) (.int .i64 (10 + ad % 54)) (.slice sa sn sc) (.int .i64 3) (.int .i64 q) (.int .i64 (10 + ad % 54)) (.slice none 0 0) 34 34 34 34
    rw [← hV]
    clear hV
    rw [← HAN.out] at hqS hqO hqT
    rw [← HAN.out]
    obtain ⟨sb, hsb⟩ : ∃ sb, sb = w2.heap.size := ⟨_, rfl⟩
    rw [← hsb] at hqS hqO hqT
    rw [← hsb]
    have HRV : Hid (∀ W, Below V.heap.size V W → RowI w js (.slice a m c) W) := put_by fun W hW => ((HR1.out.later HB2.out).later hbV).later hW
    have HJL : Hid (∀ W, Below V.heap.size V W → Lies kJb (fun _ => True) W a c js) := put_by fun W hW => (by obtain ⟨p, r, e, h⟩ := rows_slice (HRV.out W hW); simp only [Value.slice.injEq] at e; rw [e.1, e.2.2]; exact h)
    have HOV : Hid (∀ W, Below V.heap.size V W → Octs W sa sc (xs.take 20)) := put_by fun W hW => ((HO.out.2.later hbV)).later hW
    have HQS : Hid (∀ W, Below V.heap.size V W → Quad W sb (.int .i64 1) (.int .i64 q) (.int .i64 (10 + (an : Int))) (.slice sa sn sc)) := put_by fun W hW => hqS.later hW
    have HQO : Hid (∀ W, Below V.heap.size V W → Quad W (sb + 1 + 1) (.int .i64 1) (.int .i64 q) (.int .i64 (10 + (an : Int))) (.slice sa sn sc)) := put_by fun W hW => hqO.later hW
    have HQT : Hid (∀ W, Below V.heap.size V W → Quad W (sb + 1 + 1 + 1) (.int .i64 3) (.int .i64 q) (.int .i64 (10 + (an : Int))) (.slice none 0 0)) := put_by fun W hW => hqT.later hW
    obtain ⟨c0, c1, c2, c3, -, -, -, -⟩ := hqO
    obtain ⟨d0, d1, d2, d3, -, -, -, -⟩ := hqT
    clear hqS hsb hbV
    have HOB : Hid (xs.take 20 ≠ [] → ∀ ad, sa = some ad → ad.block < V.heap.size) := put_by (HOV.out V (Below.refl _ _)).blocks
    have hm40 : m ≤ 30 := hm
    go_region_held3 (fun W => W.cell? ⟨sb + 1 + 1, 0, none⟩ = some (.int .i64 1) ∧ W.cell? ⟨sb + 1 + 1, 1, none⟩ = some (.int .i64 q) ∧ W.cell? ⟨sb + 1 + 1, 2, none⟩ = some (.int .i64 (10 + (an : Int))) ∧ W.cell? ⟨sb + 1 + 1, 3, none⟩ = some (.slice sa sn sc) ∧ W.cell? ⟨sb + 1 + 1 + 1, 0, none⟩ = some (.int .i64 3) ∧ W.cell? ⟨sb + 1 + 1 + 1, 1, none⟩ = some (.int .i64 q) ∧ W.cell? ⟨sb + 1 + 1 + 1, 2, none⟩ = some (.int .i64 (10 + (an : Int))) ∧ W.cell? ⟨sb + 1 + 1 + 1, 3, none⟩ = some (.slice none 0 0)) (go_keep) (first
      | (rw [if_pos (by rfl)]; refine wp_of_list rfl (by rintro ⟨_, _, hh⟩; cases hh.1) (wpList_append_rows eltJb rfl (.const (.slice none 0 0)) (.tmp 44) rfl w.heap.size (.slice none 0 0) ([] : List Jb) rfl (Rows.nil kJb (fun _ => True) _ _ _) a c m js rfl HQ.out.2 (ok2 := fun _ => True) (HJL.out _ (by first | exact Below.refl _ _ | exact (Below.refl _ _).drew | exact ((Below.refl _ _).alloc (Nat.le_refl _) _).drew | exact (Below.refl _ _).alloc (Nat.le_refl _) _)) (fun _ _ _ _ => trivial) (fun _ _ _ e => by cases e) (by simp only [List.length_nil]; omega) (by decide) (HRV.out _ (by first | exact Below.refl _ _ | exact (Below.refl _ _).drew | exact ((Below.refl _ _).alloc (Nat.le_refl _) _).drew | exact (Below.refl _ _).alloc (Nat.le_refl _) _)).below.size (fun v3 w3 r1 r2 r3 => ?_)); have HB3 := put_by (below_nil r2); have HV3 := put_by (own_not (d := 0) r3); have HV4 : Hid (∀ b, b < V.heap.size → v3.ownBlock ≠ some b) := put_by (fun b hb => own_not (d := 0) r3 b (by simp; omega)); have HVW := put_by (show Below V.heap.size V w3 from Below.trans (by first | exact Below.refl _ _ | exact (Below.refl _ _).drew | exact ((Below.refl _ _).alloc (Nat.le_refl _) _).drew | exact (Below.refl _ _).alloc (Nat.le_refl _) _) (HB3.out.mono (by simp))); have HR3 := put_by (RowI.mk (w := w) (v := v3) r1 ((HRV.out V (Below.refl _ _)).below.trans (HVW.out.mono (HRV.out V (Below.refl _ _)).below.size))); clear r1 r2 r3; obtain ⟨x0, x1, x2, x3, -, -, -, -⟩ := HQO.out _ HVW.out; obtain ⟨y0, y1, y2, y3, -, -, -, -⟩ := HQT.out _ HVW.out; refine list_end ?_)
      | (rw [if_pos (by rfl)]; refine wp_of_list rfl (by rintro ⟨_, _, hh⟩; cases hh.1) (wpList_append_rows (ok := fun _ => True) eltJb rfl (.tmp 45) (.tmp 48) rfl w.heap.size v3 js rfl (HR3.out.later (by first | exact Below.refl _ _ | exact (Below.refl _ _).drew | exact ((Below.refl _ _).alloc (Nat.le_refl _) _).drew | exact (Below.refl _ _).alloc (Nat.le_refl _) _)).rows (some ⟨w3.heap.size, 0, none⟩) 2 2 [⟨1, q, 10 + (an : Int), xs.take 20⟩, ⟨3, q, 10 + (an : Int), []⟩] rfl rfl (Lies.later (lies_jobs (ok := fun b => v3.ownBlock ≠ some b) (W := w3) (⟨1, q, 10 + (an : Int), xs.take 20⟩ : Jb) (⟨3, q, 10 + (an : Int), []⟩ : Jb) (.slice sa sn sc) (.slice none 0 0) ⟨sa, sc, by rw [HO.out.1], HOV.out _ HVW.out, fun hx ad e => HV4.out _ (HOB.out hx ad e)⟩ ⟨none, 0, rfl, Octs.nil _ _ _ (fun _ => rfl), fun h => absurd rfl h⟩ (fun e => Nat.lt_irrefl _ (rows_lt HR3.out.rows _ e).2) 34) (by first | exact Below.refl _ _ | exact (Below.refl _ _).drew | exact ((Below.refl _ _).alloc (Nat.le_refl _) _).drew | exact (Below.refl _ _).alloc (Nat.le_refl _) _)) (fun _ _ _ _ => trivial) (fun b _ hb => hb) (by have := HLJ.out; omega) (by decide) (HR3.out.later (by first | exact Below.refl _ _ | exact (Below.refl _ _).drew | exact ((Below.refl _ _).alloc (Nat.le_refl _) _).drew | exact (Below.refl _ _).alloc (Nat.le_refl _) _)).below.size (fun v5 w5 r1 r2 r3 => ?_)); have HR5 := put_by (RowI.grown (w := w) (HR3.out.later (by first | exact Below.refl _ _ | exact (Below.refl _ _).drew | exact ((Below.refl _ _).alloc (Nat.le_refl _) _).drew | exact (Below.refl _ _).alloc (Nat.le_refl _) _)) r1 r2); have HVW5 := put_by (below_grown (n := V.heap.size) (w := V) (HVW.out.trans (Below.mono (by first | exact Below.refl _ _ | exact (Below.refl _ _).drew | exact ((Below.refl _ _).alloc (Nat.le_refl _) _).drew | exact (Below.refl _ _).alloc (Nat.le_refl _) _) HVW.out.size)) (Nat.le_trans HVW.out.size (by simp)) r2 (fun r hr => Nat.le_of_not_lt (fun hl => HV4.out r hl hr))); clear r1 r2 r3; obtain ⟨x0, x1, x2, x3, -, -, -, -⟩ := HQO.out _ HVW5.out; obtain ⟨y0, y1, y2, y3, -, -, -, -⟩ := HQT.out _ HVW5.out; refine list_end ?_)
      | (rw [if_pos (by rfl)]; refine wp_of_list rfl (by rintro ⟨_, _, hh⟩; cases hh.1) (wpList_append_rows (ok := fun _ => True) eltJb rfl (.tmp 45) (.tmp 48) rfl w.heap.size v3 js rfl HR3.out.rows (some ⟨V.heap.size, 0, none⟩) 2 2 [⟨1, q, 10 + (an : Int), xs.take 20⟩, ⟨3, q, 10 + (an : Int), []⟩] rfl rfl ((lies_jobs (ok := fun b => v3.ownBlock ≠ some b) (W := V) (⟨1, q, 10 + (an : Int), xs.take 20⟩ : Jb) (⟨3, q, 10 + (an : Int), []⟩ : Jb) (.slice sa sn sc) (.slice none 0 0) ⟨sa, sc, by rw [HO.out.1], HOV.out _ (Below.refl _ _), fun hx ad e => HV4.out _ (HOB.out hx ad e)⟩ ⟨none, 0, rfl, Octs.nil _ _ _ (fun _ => rfl), fun h => absurd rfl h⟩ (HV3.out _ (by simp)) 34).later (Below.trans (by first | exact Below.refl _ _ | exact (Below.refl _ _).drew | exact ((Below.refl _ _).alloc (Nat.le_refl _) _).drew | exact (Below.refl _ _).alloc (Nat.le_refl _) _) (HB3.out.mono (by simp)))) (fun _ _ _ _ => trivial) (fun b _ hb => hb) (by have := HLJ.out; omega) (by decide) HR3.out.below.size (fun v5 w5 r1 r2 r3 => ?_)); have HR5 := put_by (RowI.grown (w := w) HR3.out r1 r2); have HVW5 := put_by (below_grown (n := V.heap.size) (w := V) HVW.out HVW.out.size r2 (fun r hr => Nat.le_of_not_lt (fun hl => HV4.out r hl hr))); clear r1 r2 r3; obtain ⟨x0, x1, x2, x3, -, -, -, -⟩ := HQO.out _ HVW5.out; obtain ⟨y0, y1, y2, y3, -, -, -, -⟩ := HQT.out _ HVW5.out; refine list_end ?_)
      | (go_at_call 9; (with_reducible refine (Play_law _ (by simp only [List.length_append, List.length_cons, List.length_nil]; have := HLJ.out; omega) _ _ (Jbs.of_rows HR5.out.rows)).mono ?_); rintro e w6 ⟨a6, n6, c6, rfl, HP6, HB6⟩; have HVW6 := put_by (HVW5.out.trans (HB6.out.mono HVW5.out.size)); obtain ⟨p0, p1, p2, p3, -, -, -, -⟩ := HQO.out _ HVW6.out; obtain ⟨r0, r1, r2, r3, -, -, -, -⟩ := HQT.out _ HVW6.out))
    all_goals
      obtain ⟨r2, g1, g2, g3, g4⟩ := HF.out q HQ.out.1
      have e10 : ((10 + an : Nat) : Int) = 10 + (an : Int) := by omega
      simp only [Bool.false_eq_true, if_false, if_true, e10] at g4
      have hR : Rps w6 a6 c6 ((playU unit0 js).1 ++ [rp 0, r2]) := by rw [← g4]; exact HP6.out.2
      obtain ⟨p, hp⟩ : ∃ p, p = js.length := ⟨_, rfl⟩
      have hpl : (playU unit0 js).1.length = p := by rw [playU_length, hp]
      have hRl : ((playU unit0 js).1 ++ [rp 0, r2]).length = p + 2 := by simp [hpl]
      obtain ⟨rb, ro, _, _, rfl, x0, -⟩ := hR.cell (k := p) (by rw [hRl]; omega)
      obtain ⟨rb', ro', da, dc, e, z0, z1, z2, -, zo⟩ := hR.cell (k := p + 1) (by rw [hRl]; omega)
      cases e
      have hat : ((playU unit0 js).1 ++ [rp 0, r2])[p]'(by rw [hRl]; omega) = rp 0 := by
        rw [List.getElem_append_right (by omega)]
        simp [hpl]
      have hat2 : ((playU unit0 js).1 ++ [rp 0, r2])[p + 1]'(by rw [hRl]; omega) = r2 := by
        rw [List.getElem_append_right (by omega)]
        simp [hpl]
      rw [hat] at x0
      rw [hat2] at z0 z1 z2 zo
      rw [g1] at z0
      rw [g2] at z1
      have hmp : m = p := by rw [HQ.out.2, hp]
      have hn6 : n6 = p + 2 := by rw [HP6.out.1]; simp [hp]
      subst hmp hn6
      have hp40 : (m : Int) ≤ 30 := by omega
      obtain ⟨s0, s1, s2, s3, -, -, -, -⟩ := HQS.out _ HVW6.out
      have HBE := put_by (HR5.out.below.trans (HB6.out.mono HR5.out.below.size))
      have hsn := HO.out.1
      have hdl : r2.data.length = sn := by rw [g3 (by first | rfl | trivial), hsn]
      rw [hdl] at z2
      have cK : Hid (∀ i, Calls Try.prog 18 #[.slice da sn dc, .slice sa sn sc] (w6.drewN i) fun e w' => e = .returned (.bool true) ∧ ∃ j, w' = (w6.drewN i).drewN j) := put_by fun i => by
        have h1 := (zo : Octs w6 da dc r2.data)
        rw [g3 (by first | rfl | trivial)] at h1
        rw [hsn]
        refine (sameBytesK_q da sa dc sc _ _ (w6.drewN i) (octs_drawn h1 _) (octs_drawn (HOV.out _ HVW6.out) _)).mono fun e w' h => ?_
        simpa using h
      clear g1 g2 g3 g4 hR hpl hRl hat hat2 hp zo hsn hdl HRV HJL HOV HQS HQO HQT HP6 HQ HF HR5 HB6 HVW6
      simp only [rp] at x0
      go_wp2
      go_quiet (first
        | (go_at_call 18; with_reducible exact Calls.quiet_of (cK.out _)))
      go_wp2
      go_ret
      exact ⟨rfl, belowN HBE.out _⟩
  · go_enter Try.func8, Try.ntmps8
    go_upto_region 11 with (first
      | (go_at_call 12; (with_reducible refine cJ.out.mono ?_); clear cJ; rintro e w1 ⟨a, m, c, q, rfl, hq0, hq1, hm, HQ, HR1⟩)
      | (go_at_call 14; (with_reducible refine (HPK.out _ _ ?_ ?_ _).mono ?_); (first | decide | omega); (first | decide | omega); rintro e w9 ⟨rfl, rfl⟩)
      | (go_at_call 15; (with_reducible refine (cO.out _ HR1.out.below).mono ?_); rintro e w2 ⟨sa, sn, sc, rfl, HO, HB2⟩))
    obtain ⟨V, hV, hbV, hqS, -, hqO, hqT⟩ := four_vars w2 (.int .i64 1) (.int .i64 q) (.int .i64 (10 + ad % 54)) (.slice sa sn sc) (.int .i64 3) (.int .i64 q) (.int .i64 (10 + ad % 54)) (.slice none 0 0) (.int .i64 3) (.int .i64 q) (.int .i64 (10 + ad % 54)) (.slice none 0 0) (.int .i64 1) (.int .i64 q) (.int .i64 (10 + ad % 54)) (.slice sa sn sc) 34 34 34 34
    rw [← hV]
    clear hV
    rw [← HAN.out] at hqS hqO hqT
    rw [← HAN.out]
    obtain ⟨sb, hsb⟩ : ∃ sb, sb = w2.heap.size := ⟨_, rfl⟩
    rw [← hsb] at hqS hqO hqT
    rw [← hsb]
    have HRV : Hid (∀ W, Below V.heap.size V W → RowI w js (.slice a m c) W) := put_by fun W hW => ((HR1.out.later HB2.out).later hbV).later hW
    have HJL : Hid (∀ W, Below V.heap.size V W → Lies kJb (fun _ => True) W a c js) := put_by fun W hW => (by obtain ⟨p, r, e, h⟩ := rows_slice (HRV.out W hW); simp only [Value.slice.injEq] at e; rw [e.1, e.2.2]; exact h)
    have HOV : Hid (∀ W, Below V.heap.size V W → Octs W sa sc (xs.take 20)) := put_by fun W hW => ((HO.out.2.later hbV)).later hW
    have HQS : Hid (∀ W, Below V.heap.size V W → Quad W sb (.int .i64 1) (.int .i64 q) (.int .i64 (10 + (an : Int))) (.slice sa sn sc)) := put_by fun W hW => hqS.later hW
    have HQO : Hid (∀ W, Below V.heap.size V W → Quad W (sb + 1 + 1) (.int .i64 3) (.int .i64 q) (.int .i64 (10 + (an : Int))) (.slice none 0 0)) := put_by fun W hW => hqO.later hW
    have HQT : Hid (∀ W, Below V.heap.size V W → Quad W (sb + 1 + 1 + 1) (.int .i64 1) (.int .i64 q) (.int .i64 (10 + (an : Int))) (.slice sa sn sc)) := put_by fun W hW => hqT.later hW
    obtain ⟨c0, c1, c2, c3, -, -, -, -⟩ := hqO
    obtain ⟨d0, d1, d2, d3, -, -, -, -⟩ := hqT
    clear hqS hsb hbV
    have HOB : Hid (xs.take 20 ≠ [] → ∀ ad, sa = some ad → ad.block < V.heap.size) := put_by (HOV.out V (Below.refl _ _)).blocks
    have hm40 : m ≤ 30 := hm
    go_region_held3 (fun W => W.cell? ⟨sb + 1 + 1, 0, none⟩ = some (.int .i64 3) ∧ W.cell? ⟨sb + 1 + 1, 1, none⟩ = some (.int .i64 q) ∧ W.cell? ⟨sb + 1 + 1, 2, none⟩ = some (.int .i64 (10 + (an : Int))) ∧ W.cell? ⟨sb + 1 + 1, 3, none⟩ = some (.slice none 0 0) ∧ W.cell? ⟨sb + 1 + 1 + 1, 0, none⟩ = some (.int .i64 1) ∧ W.cell? ⟨sb + 1 + 1 + 1, 1, none⟩ = some (.int .i64 q) ∧ W.cell? ⟨sb + 1 + 1 + 1, 2, none⟩ = some (.int .i64 (10 + (an : Int))) ∧ W.cell? ⟨sb + 1 + 1 + 1, 3, none⟩ = some (.slice sa sn sc)) (go_keep) (first
      | (rw [if_pos (by rfl)]; refine wp_of_list rfl (by rintro ⟨_, _, hh⟩; cases hh.1) (wpList_append_rows eltJb rfl (.const (.slice none 0 0)) (.tmp 44) rfl w.heap.size (.slice none 0 0) ([] : List Jb) rfl (Rows.nil kJb (fun _ => True) _ _ _) a c m js rfl HQ.out.2 (ok2 := fun _ => True) (HJL.out _ (by first | exact Below.refl _ _ | exact (Below.refl _ _).drew | exact ((Below.refl _ _).alloc (Nat.le_refl _) _).drew | exact (Below.refl _ _).alloc (Nat.le_refl _) _)) (fun _ _ _ _ => trivial) (fun _ _ _ e => by cases e) (by simp only [List.length_nil]; omega) (by decide) (HRV.out _ (by first | exact Below.refl _ _ | exact (Below.refl _ _).drew | exact ((Below.refl _ _).alloc (Nat.le_refl _) _).drew | exact (Below.refl _ _).alloc (Nat.le_refl _) _)).below.size (fun v3 w3 r1 r2 r3 => ?_)); have HB3 := put_by (below_nil r2); have HV3 := put_by (own_not (d := 0) r3); have HV4 : Hid (∀ b, b < V.heap.size → v3.ownBlock ≠ some b) := put_by (fun b hb => own_not (d := 0) r3 b (by simp; omega)); have HVW := put_by (show Below V.heap.size V w3 from Below.trans (by first | exact Below.refl _ _ | exact (Below.refl _ _).drew | exact ((Below.refl _ _).alloc (Nat.le_refl _) _).drew | exact (Below.refl _ _).alloc (Nat.le_refl _) _) (HB3.out.mono (by simp))); have HR3 := put_by (RowI.mk (w := w) (v := v3) r1 ((HRV.out V (Below.refl _ _)).below.trans (HVW.out.mono (HRV.out V (Below.refl _ _)).below.size))); clear r1 r2 r3; obtain ⟨x0, x1, x2, x3, -, -, -, -⟩ := HQO.out _ HVW.out; obtain ⟨y0, y1, y2, y3, -, -, -, -⟩ := HQT.out _ HVW.out; refine list_end ?_)
      | (rw [if_pos (by rfl)]; refine wp_of_list rfl (by rintro ⟨_, _, hh⟩; cases hh.1) (wpList_append_rows (ok := fun _ => True) eltJb rfl (.tmp 45) (.tmp 48) rfl w.heap.size v3 js rfl (HR3.out.later (by first | exact Below.refl _ _ | exact (Below.refl _ _).drew | exact ((Below.refl _ _).alloc (Nat.le_refl _) _).drew | exact (Below.refl _ _).alloc (Nat.le_refl _) _)).rows (some ⟨w3.heap.size, 0, none⟩) 2 2 [⟨3, q, 10 + (an : Int), []⟩, ⟨1, q, 10 + (an : Int), xs.take 20⟩] rfl rfl (Lies.later (lies_jobs (ok := fun b => v3.ownBlock ≠ some b) (W := w3) (⟨3, q, 10 + (an : Int), []⟩ : Jb) (⟨1, q, 10 + (an : Int), xs.take 20⟩ : Jb) (.slice none 0 0) (.slice sa sn sc) ⟨none, 0, rfl, Octs.nil _ _ _ (fun _ => rfl), fun h => absurd rfl h⟩ ⟨sa, sc, by rw [HO.out.1], HOV.out _ HVW.out, fun hx ad e => HV4.out _ (HOB.out hx ad e)⟩ (fun e => Nat.lt_irrefl _ (rows_lt HR3.out.rows _ e).2) 34) (by first | exact Below.refl _ _ | exact (Below.refl _ _).drew | exact ((Below.refl _ _).alloc (Nat.le_refl _) _).drew | exact (Below.refl _ _).alloc (Nat.le_refl _) _)) (fun _ _ _ _ => trivial) (fun b _ hb => hb) (by have := HLJ.out; omega) (by decide) (HR3.out.later (by first | exact Below.refl _ _ | exact (Below.refl _ _).drew | exact ((Below.refl _ _).alloc (Nat.le_refl _) _).drew | exact (Below.refl _ _).alloc (Nat.le_refl _) _)).below.size (fun v5 w5 r1 r2 r3 => ?_)); have HR5 := put_by (RowI.grown (w := w) (HR3.out.later (by first | exact Below.refl _ _ | exact (Below.refl _ _).drew | exact ((Below.refl _ _).alloc (Nat.le_refl _) _).drew | exact (Below.refl _ _).alloc (Nat.le_refl _) _)) r1 r2); have HVW5 := put_by (below_grown (n := V.heap.size) (w := V) (HVW.out.trans (Below.mono (by first | exact Below.refl _ _ | exact (Below.refl _ _).drew | exact ((Below.refl _ _).alloc (Nat.le_refl _) _).drew | exact (Below.refl _ _).alloc (Nat.le_refl _) _) HVW.out.size)) (Nat.le_trans HVW.out.size (by simp)) r2 (fun r hr => Nat.le_of_not_lt (fun hl => HV4.out r hl hr))); clear r1 r2 r3; obtain ⟨x0, x1, x2, x3, -, -, -, -⟩ := HQO.out _ HVW5.out; obtain ⟨y0, y1, y2, y3, -, -, -, -⟩ := HQT.out _ HVW5.out; refine list_end ?_)
      | (rw [if_pos (by rfl)]; refine wp_of_list rfl (by rintro ⟨_, _, hh⟩; cases hh.1) (wpList_append_rows (ok := fun _ => True) eltJb rfl (.tmp 45) (.tmp 48) rfl w.heap.size v3 js rfl HR3.out.rows (some ⟨V.heap.size, 0, none⟩) 2 2 [⟨3, q, 10 + (an : Int), []⟩, ⟨1, q, 10 + (an : Int), xs.take 20⟩] rfl rfl ((lies_jobs (ok := fun b => v3.ownBlock ≠ some b) (W := V) (⟨3, q, 10 + (an : Int), []⟩ : Jb) (⟨1, q, 10 + (an : Int), xs.take 20⟩ : Jb) (.slice none 0 0) (.slice sa sn sc) ⟨none, 0, rfl, Octs.nil _ _ _ (fun _ => rfl), fun h => absurd rfl h⟩ ⟨sa, sc, by rw [HO.out.1], HOV.out _ (Below.refl _ _), fun hx ad e => HV4.out _ (HOB.out hx ad e)⟩ (HV3.out _ (by simp)) 34).later (Below.trans (by first | exact Below.refl _ _ | exact (Below.refl _ _).drew | exact ((Below.refl _ _).alloc (Nat.le_refl _) _).drew | exact (Below.refl _ _).alloc (Nat.le_refl _) _) (HB3.out.mono (by simp)))) (fun _ _ _ _ => trivial) (fun b _ hb => hb) (by have := HLJ.out; omega) (by decide) HR3.out.below.size (fun v5 w5 r1 r2 r3 => ?_)); have HR5 := put_by (RowI.grown (w := w) HR3.out r1 r2); have HVW5 := put_by (below_grown (n := V.heap.size) (w := V) HVW.out HVW.out.size r2 (fun r hr => Nat.le_of_not_lt (fun hl => HV4.out r hl hr))); clear r1 r2 r3; obtain ⟨x0, x1, x2, x3, -, -, -, -⟩ := HQO.out _ HVW5.out; obtain ⟨y0, y1, y2, y3, -, -, -, -⟩ := HQT.out _ HVW5.out; refine list_end ?_)
      | (go_at_call 9; (with_reducible refine (Play_law _ (by simp only [List.length_append, List.length_cons, List.length_nil]; have := HLJ.out; omega) _ _ (Jbs.of_rows HR5.out.rows)).mono ?_); rintro e w6 ⟨a6, n6, c6, rfl, HP6, HB6⟩; have HVW6 := put_by (HVW5.out.trans (HB6.out.mono HVW5.out.size)); obtain ⟨p0, p1, p2, p3, -, -, -, -⟩ := HQO.out _ HVW6.out; obtain ⟨r0, r1, r2, r3, -, -, -, -⟩ := HQT.out _ HVW6.out))
    all_goals
      obtain ⟨r2, g1, g2, g3, g4⟩ := HF.out q HQ.out.1
      have e10 : ((10 + an : Nat) : Int) = 10 + (an : Int) := by omega
      simp only [Bool.false_eq_true, if_false, if_true, e10] at g4
      have hR : Rps w6 a6 c6 ((playU unit0 js).1 ++ [rp 0, r2]) := by rw [← g4]; exact HP6.out.2
      obtain ⟨p, hp⟩ : ∃ p, p = js.length := ⟨_, rfl⟩
      have hpl : (playU unit0 js).1.length = p := by rw [playU_length, hp]
      have hRl : ((playU unit0 js).1 ++ [rp 0, r2]).length = p + 2 := by simp [hpl]
      obtain ⟨rb, ro, _, _, rfl, x0, -⟩ := hR.cell (k := p) (by rw [hRl]; omega)
      obtain ⟨rb', ro', da, dc, e, z0, z1, z2, -, zo⟩ := hR.cell (k := p + 1) (by rw [hRl]; omega)
      cases e
      have hat : ((playU unit0 js).1 ++ [rp 0, r2])[p]'(by rw [hRl]; omega) = rp 0 := by
        rw [List.getElem_append_right (by omega)]
        simp [hpl]
      have hat2 : ((playU unit0 js).1 ++ [rp 0, r2])[p + 1]'(by rw [hRl]; omega) = r2 := by
        rw [List.getElem_append_right (by omega)]
        simp [hpl]
      rw [hat] at x0
      rw [hat2] at z0 z1 z2 zo
      rw [g1] at z0
      rw [g2] at z1
      have hmp : m = p := by rw [HQ.out.2, hp]
      have hn6 : n6 = p + 2 := by rw [HP6.out.1]; simp [hp]
      subst hmp hn6
      have hp40 : (m : Int) ≤ 30 := by omega
      obtain ⟨s0, s1, s2, s3, -, -, -, -⟩ := HQS.out _ HVW6.out
      have HBE := put_by (HR5.out.below.trans (HB6.out.mono HR5.out.below.size))
      clear g1 g2 g3 g4 hR hpl hRl hat hat2 hp zo HRV HJL HOV HQS HQO HQT HP6 HQ HF HR5 HB6 HVW6
      simp only [rp] at x0
      go_wp2
      go_quiet (fail)
      go_wp2
      go_ret
      exact ⟨rfl, belowN HBE.out _⟩
  · go_enter Try.func8, Try.ntmps8
    go_upto_region 11 with (first
      | (go_at_call 12; (with_reducible refine cJ.out.mono ?_); clear cJ; rintro e w1 ⟨a, m, c, q, rfl, hq0, hq1, hm, HQ, HR1⟩)
      | (go_at_call 14; (with_reducible refine (HPK.out _ _ ?_ ?_ _).mono ?_); (first | decide | omega); (first | decide | omega); rintro e w9 ⟨rfl, rfl⟩)
      | (go_at_call 15; (with_reducible refine (cO.out _ HR1.out.below).mono ?_); rintro e w2 ⟨sa, sn, sc, rfl, HO, HB2⟩))
    obtain ⟨V, hV, hbV, hqS, -, hqO, hqT⟩ := four_vars w2 (.int .i64 1) (.int .i64 q) (.int .i64 (10 + ad % 54)) (.slice sa sn sc) (.int .i64 3) (.int .i64 q) (.int .i64 (10 + ad % 54)) (.slice none 0 0) (.int .i64 3) (.int .i64 q) (.int .i64 (10 + ad % 54)) (.slice none 0 0) (.int .i64 3) (.int .i64 q) (.int .i64 (10 + ad % 54)) (.slice none 0 0) 34 34 34 34
    rw [← hV]
    clear hV
    rw [← HAN.out] at hqS hqO hqT
    rw [← HAN.out]
    obtain ⟨sb, hsb⟩ : ∃ sb, sb = w2.heap.size := ⟨_, rfl⟩
    rw [← hsb] at hqS hqO hqT
    rw [← hsb]
    have HRV : Hid (∀ W, Below V.heap.size V W → RowI w js (.slice a m c) W) := put_by fun W hW => ((HR1.out.later HB2.out).later hbV).later hW
    have HJL : Hid (∀ W, Below V.heap.size V W → Lies kJb (fun _ => True) W a c js) := put_by fun W hW => (by obtain ⟨p, r, e, h⟩ := rows_slice (HRV.out W hW); simp only [Value.slice.injEq] at e; rw [e.1, e.2.2]; exact h)
    have HOV : Hid (∀ W, Below V.heap.size V W → Octs W sa sc (xs.take 20)) := put_by fun W hW => ((HO.out.2.later hbV)).later hW
    have HQS : Hid (∀ W, Below V.heap.size V W → Quad W sb (.int .i64 1) (.int .i64 q) (.int .i64 (10 + (an : Int))) (.slice sa sn sc)) := put_by fun W hW => hqS.later hW
    have HQO : Hid (∀ W, Below V.heap.size V W → Quad W (sb + 1 + 1) (.int .i64 3) (.int .i64 q) (.int .i64 (10 + (an : Int))) (.slice none 0 0)) := put_by fun W hW => hqO.later hW
    have HQT : Hid (∀ W, Below V.heap.size V W → Quad W (sb + 1 + 1 + 1) (.int .i64 3) (.int .i64 q) (.int .i64 (10 + (an : Int))) (.slice none 0 0)) := put_by fun W hW => hqT.later hW
    obtain ⟨c0, c1, c2, c3, -, -, -, -⟩ := hqO
    obtain ⟨d0, d1, d2, d3, -, -, -, -⟩ := hqT
    clear hqS hsb hbV
    have HOB : Hid (xs.take 20 ≠ [] → ∀ ad, sa = some ad → ad.block < V.heap.size) := put_by (HOV.out V (Below.refl _ _)).blocks
    have hm40 : m ≤ 30 := hm
    go_region_held3 (fun W => W.cell? ⟨sb + 1 + 1, 0, none⟩ = some (.int .i64 3) ∧ W.cell? ⟨sb + 1 + 1, 1, none⟩ = some (.int .i64 q) ∧ W.cell? ⟨sb + 1 + 1, 2, none⟩ = some (.int .i64 (10 + (an : Int))) ∧ W.cell? ⟨sb + 1 + 1, 3, none⟩ = some (.slice none 0 0) ∧ W.cell? ⟨sb + 1 + 1 + 1, 0, none⟩ = some (.int .i64 3) ∧ W.cell? ⟨sb + 1 + 1 + 1, 1, none⟩ = some (.int .i64 q) ∧ W.cell? ⟨sb + 1 + 1 + 1, 2, none⟩ = some (.int .i64 (10 + (an : Int))) ∧ W.cell? ⟨sb + 1 + 1 + 1, 3, none⟩ = some (.slice none 0 0)) (go_keep) (first
      | (rw [if_pos (by rfl)]; refine wp_of_list rfl (by rintro ⟨_, _, hh⟩; cases hh.1) (wpList_append_rows eltJb rfl (.const (.slice none 0 0)) (.tmp 44) rfl w.heap.size (.slice none 0 0) ([] : List Jb) rfl (Rows.nil kJb (fun _ => True) _ _ _) a c m js rfl HQ.out.2 (ok2 := fun _ => True) (HJL.out _ (by first | exact Below.refl _ _ | exact (Below.refl _ _).drew | exact ((Below.refl _ _).alloc (Nat.le_refl _) _).drew | exact (Below.refl _ _).alloc (Nat.le_refl _) _)) (fun _ _ _ _ => trivial) (fun _ _ _ e => by cases e) (by simp only [List.length_nil]; omega) (by decide) (HRV.out _ (by first | exact Below.refl _ _ | exact (Below.refl _ _).drew | exact ((Below.refl _ _).alloc (Nat.le_refl _) _).drew | exact (Below.refl _ _).alloc (Nat.le_refl _) _)).below.size (fun v3 w3 r1 r2 r3 => ?_)); have HB3 := put_by (below_nil r2); have HV3 := put_by (own_not (d := 0) r3); have HV4 : Hid (∀ b, b < V.heap.size → v3.ownBlock ≠ some b) := put_by (fun b hb => own_not (d := 0) r3 b (by simp; omega)); have HVW := put_by (show Below V.heap.size V w3 from Below.trans (by first | exact Below.refl _ _ | exact (Below.refl _ _).drew | exact ((Below.refl _ _).alloc (Nat.le_refl _) _).drew | exact (Below.refl _ _).alloc (Nat.le_refl _) _) (HB3.out.mono (by simp))); have HR3 := put_by (RowI.mk (w := w) (v := v3) r1 ((HRV.out V (Below.refl _ _)).below.trans (HVW.out.mono (HRV.out V (Below.refl _ _)).below.size))); clear r1 r2 r3; obtain ⟨x0, x1, x2, x3, -, -, -, -⟩ := HQO.out _ HVW.out; obtain ⟨y0, y1, y2, y3, -, -, -, -⟩ := HQT.out _ HVW.out; refine list_end ?_)
      | (rw [if_pos (by rfl)]; refine wp_of_list rfl (by rintro ⟨_, _, hh⟩; cases hh.1) (wpList_append_rows (ok := fun _ => True) eltJb rfl (.tmp 45) (.tmp 48) rfl w.heap.size v3 js rfl (HR3.out.later (by first | exact Below.refl _ _ | exact (Below.refl _ _).drew | exact ((Below.refl _ _).alloc (Nat.le_refl _) _).drew | exact (Below.refl _ _).alloc (Nat.le_refl _) _)).rows (some ⟨w3.heap.size, 0, none⟩) 2 2 [⟨3, q, 10 + (an : Int), []⟩, ⟨3, q, 10 + (an : Int), []⟩] rfl rfl (Lies.later (lies_jobs (ok := fun b => v3.ownBlock ≠ some b) (W := w3) (⟨3, q, 10 + (an : Int), []⟩ : Jb) (⟨3, q, 10 + (an : Int), []⟩ : Jb) (.slice none 0 0) (.slice none 0 0) ⟨none, 0, rfl, Octs.nil _ _ _ (fun _ => rfl), fun h => absurd rfl h⟩ ⟨none, 0, rfl, Octs.nil _ _ _ (fun _ => rfl), fun h => absurd rfl h⟩ (fun e => Nat.lt_irrefl _ (rows_lt HR3.out.rows _ e).2) 34) (by first | exact Below.refl _ _ | exact (Below.refl _ _).drew | exact ((Below.refl _ _).alloc (Nat.le_refl _) _).drew | exact (Below.refl _ _).alloc (Nat.le_refl _) _)) (fun _ _ _ _ => trivial) (fun b _ hb => hb) (by have := HLJ.out; omega) (by decide) (HR3.out.later (by first | exact Below.refl _ _ | exact (Below.refl _ _).drew | exact ((Below.refl _ _).alloc (Nat.le_refl _) _).drew | exact (Below.refl _ _).alloc (Nat.le_refl _) _)).below.size (fun v5 w5 r1 r2 r3 => ?_)); have HR5 := put_by (RowI.grown (w := w) (HR3.out.later (by first | exact Below.refl _ _ | exact (Below.refl _ _).drew | exact ((Below.refl _ _).alloc (Nat.le_refl _) _).drew | exact (Below.refl _ _).alloc (Nat.le_refl _) _)) r1 r2); have HVW5 := put_by (below_grown (n := V.heap.size) (w := V) (HVW.out.trans (Below.mono (by first | exact Below.refl _ _ | exact (Below.refl _ _).drew | exact ((Below.refl _ _).alloc (Nat.le_refl _) _).drew | exact (Below.refl _ _).alloc (Nat.le_refl _) _) HVW.out.size)) (Nat.le_trans HVW.out.size (by simp)) r2 (fun r hr => Nat.le_of_not_lt (fun hl => HV4.out r hl hr))); clear r1 r2 r3; obtain ⟨x0, x1, x2, x3, -, -, -, -⟩ := HQO.out _ HVW5.out; obtain ⟨y0, y1, y2, y3, -, -, -, -⟩ := HQT.out _ HVW5.out; refine list_end ?_)
      | (rw [if_pos (by rfl)]; refine wp_of_list rfl (by rintro ⟨_, _, hh⟩; cases hh.1) (wpList_append_rows (ok := fun _ => True) eltJb rfl (.tmp 45) (.tmp 48) rfl w.heap.size v3 js rfl HR3.out.rows (some ⟨V.heap.size, 0, none⟩) 2 2 [⟨3, q, 10 + (an : Int), []⟩, ⟨3, q, 10 + (an : Int), []⟩] rfl rfl ((lies_jobs (ok := fun b => v3.ownBlock ≠ some b) (W := V) (⟨3, q, 10 + (an : Int), []⟩ : Jb) (⟨3, q, 10 + (an : Int), []⟩ : Jb) (.slice none 0 0) (.slice none 0 0) ⟨none, 0, rfl, Octs.nil _ _ _ (fun _ => rfl), fun h => absurd rfl h⟩ ⟨none, 0, rfl, Octs.nil _ _ _ (fun _ => rfl), fun h => absurd rfl h⟩ (HV3.out _ (by simp)) 34).later (Below.trans (by first | exact Below.refl _ _ | exact (Below.refl _ _).drew | exact ((Below.refl _ _).alloc (Nat.le_refl _) _).drew | exact (Below.refl _ _).alloc (Nat.le_refl _) _) (HB3.out.mono (by simp)))) (fun _ _ _ _ => trivial) (fun b _ hb => hb) (by have := HLJ.out; omega) (by decide) HR3.out.below.size (fun v5 w5 r1 r2 r3 => ?_)); have HR5 := put_by (RowI.grown (w := w) HR3.out r1 r2); have HVW5 := put_by (below_grown (n := V.heap.size) (w := V) HVW.out HVW.out.size r2 (fun r hr => Nat.le_of_not_lt (fun hl => HV4.out r hl hr))); clear r1 r2 r3; obtain ⟨x0, x1, x2, x3, -, -, -, -⟩ := HQO.out _ HVW5.out; obtain ⟨y0, y1, y2, y3, -, -, -, -⟩ := HQT.out _ HVW5.out; refine list_end ?_)
      | (go_at_call 9; (with_reducible refine (Play_law _ (by simp only [List.length_append, List.length_cons, List.length_nil]; have := HLJ.out; omega) _ _ (Jbs.of_rows HR5.out.rows)).mono ?_); rintro e w6 ⟨a6, n6, c6, rfl, HP6, HB6⟩; have HVW6 := put_by (HVW5.out.trans (HB6.out.mono HVW5.out.size)); obtain ⟨p0, p1, p2, p3, -, -, -, -⟩ := HQO.out _ HVW6.out; obtain ⟨r0, r1, r2, r3, -, -, -, -⟩ := HQT.out _ HVW6.out))
    all_goals
      obtain ⟨r2, g1, g2, g3, g4⟩ := HF.out q HQ.out.1
      have e10 : ((10 + an : Nat) : Int) = 10 + (an : Int) := by omega
      simp only [if_true, e10] at g4
      have hR : Rps w6 a6 c6 ((playU unit0 js).1 ++ [rp 0, r2]) := by rw [← g4]; exact HP6.out.2
      obtain ⟨p, hp⟩ : ∃ p, p = js.length := ⟨_, rfl⟩
      have hpl : (playU unit0 js).1.length = p := by rw [playU_length, hp]
      have hRl : ((playU unit0 js).1 ++ [rp 0, r2]).length = p + 2 := by simp [hpl]
      obtain ⟨rb, ro, _, _, rfl, x0, -⟩ := hR.cell (k := p) (by rw [hRl]; omega)
      obtain ⟨rb', ro', da, dc, e, z0, z1, z2, -, zo⟩ := hR.cell (k := p + 1) (by rw [hRl]; omega)
      cases e
      have hat : ((playU unit0 js).1 ++ [rp 0, r2])[p]'(by rw [hRl]; omega) = rp 0 := by
        rw [List.getElem_append_right (by omega)]
        simp [hpl]
      have hat2 : ((playU unit0 js).1 ++ [rp 0, r2])[p + 1]'(by rw [hRl]; omega) = r2 := by
        rw [List.getElem_append_right (by omega)]
        simp [hpl]
      rw [hat] at x0
      rw [hat2] at z0 z1 z2 zo
      rw [g1] at z0
      rw [g2] at z1
      have hmp : m = p := by rw [HQ.out.2, hp]
      have hn6 : n6 = p + 2 := by rw [HP6.out.1]; simp [hp]
      subst hmp hn6
      have hp40 : (m : Int) ≤ 30 := by omega
      obtain ⟨s0, s1, s2, s3, -, -, -, -⟩ := HQS.out _ HVW6.out
      have HBE := put_by (HR5.out.below.trans (HB6.out.mono HR5.out.below.size))
      clear g1 g2 g3 g4 hR hpl hRl hat hat2 hp zo HRV HJL HOV HQS HQO HQT HP6 HQ HF HR5 HB6 HVW6
      simp only [rp] at x0
      go_wp2
      go_quiet (fail)
      go_wp2
      go_ret
      exact ⟨rfl, belowN HBE.out _⟩

end Go.Proofs.Ytegmcpcpnjfiaaa
