/- What was kept found all that it had read still so: the walk. -/
import Derived.Test.YtjjdednlddnllabPieceM
import Derived.Test.YtjjdednlddnllabMsW
import Derived.Test.YtjjdednlddnllabAnyU
namespace Go.Proofs.Ytjjdednlddnllab
open Go.ChangeShapes Go.WideShapes Go.ChangeAt Go.RowKit

/-- a state that was played, as its own variable -/
structure StV (w : World) (A : Nat) (s : Sta) (p : Int) (ca : Option Addr) (cn cc : Nat) (da : Option Addr) (dn dc : Nat) : Prop where
  var : Cls w A [.int .i64 p, .slice ca cn cc, .slice da dn dc]
  pos : p = s.pos
  lc : cn = s.cells.length
  ld : dn = s.dones.length
  st : StIs (fun _ => True) w s.cells s.dones ca cc da dc

theorem StV.later {w w' : World} {A : Nat} {s : Sta} {p : Int} {ca : Option Addr} {cn cc : Nat} {da : Option Addr} {dn dc : Nat} (h : StV w A s p ca cn cc da dn dc) (hb : Below w.heap.size w w') : StV w' A s p ca cn cc da dn dc := ⟨h.var.later hb, h.pos, h.lc, h.ld, h.st.later hb⟩

theorem StV.laid {w : World} {s : Sta} {es : List (Option Itt)} {p : Int} {ca : Option Addr} {cn cc : Nat} {da : Option Addr} {dn dc : Nat} {ta : Option Addr} {tn tc : Nat} (ty : TypeId) (h : PlH s es p ca cn cc da dn dc ta tn tc w) : StV (w.alloc (.cells #[.int .i64 p, .slice ca cn cc, .slice da dn dc] ty)) w.heap.size (playM s es).1 p ca cn cc da dn dc :=
  ⟨Cls.new w [.int .i64 p, .slice ca cn cc, .slice da dn dc] ty, h.pos, h.cn, h.dn, h.st.later ((Below.refl _ w).alloc (Nat.le_refl _) _)⟩

/-- its entries -/
theorem StV.snap {w : World} {A : Nat} {s : Sta} {p : Int} {ca : Option Addr} {cn cc : Nat} {da : Option Addr} {dn dc : Nat} (h : StV w A s p ca cn cc da dn dc) (hM : MayS s) :
    Calls Try.prog 12 #[.agg #[.int .i64 p, .slice ca cn cc, .slice da dn dc]] w fun e w' => ∃ (a : Option Addr) (n c : Nat), e = .returned (.slice a n c) ∧ Hid ((n = (snapK s.cells).length ∧ (snapK s.cells).length * 48 ≤ 140737488351232 ∧ Lies kEnt (fun _ => True) w' a c (snapK s.cells)) ∧ Below w.heap.size w w') := by
  have h0 := Snap_any _ s.pos _ _ ca cc da dc w h.st true ⟨fun _ => hM, fun _ => rfl⟩
  rw [← h.pos, ← h.lc, ← h.ld] at h0
  refine h0.mono ?_
  rintro e w' ⟨a, n, c, h1, h2, h3, h4, h5⟩
  rw [if_pos rfl] at h2 h3 h4
  exact ⟨a, n, c, h1, ⟨h2, h3, h4⟩, h5⟩

/-- one alone may come up, and its guard lets it -/
theorem U_oneG {P : Program} {ops : Array Oper} {Q : Exit → Act → World → Prop} {S : World → Prop} {m i : Nat} {o : Oper} {fuel : Nat} {listed listed' : Array Bool} {a : Act} {w : World} (hr : Region.ready .any ops listed = [i]) (ho : ops[i]? = some o) (hl : listed.setIfInBounds i true = listed') (hw : Region.wanted o (yielded ops a.tmps) = true)
    (h : ∀ K : Act → World → Prop, (∀ a w, (listed'.getD m true = false → S w) → wpAnyU P ops Q S m fuel listed' a w → K a w) → o.wp P a w K Q) : wpAnyU P ops Q S m (fuel + 1) listed a w := by
  subst hl
  refine ⟨fun h0 => (by rw [hr] at h0; cases h0), fun j hj => ?_⟩
  rw [hr] at hj
  obtain rfl := List.mem_singleton.1 hj
  refine wpOp_step ho (fun K' hK => ?_)
  rw [if_pos hw]
  exact h K' (fun a w h1 h2 => hK a w ⟨h1, h2⟩)

set_option maxRecDepth 100000 in
set_option maxHeartbeats 3000000 in
theorem MeldReads_any (l : List Wsh) (la : Option Addr) (lc : Nat) (w : World) (hL : Lies kWi (fun _ => True) w la lc l) :
    Calls Try.prog 3 #[.slice la l.length lc] w fun e w' => e = .returned (.bool true) ∧ Below w.heap.size w w' := by
  generalize hpost : (fun (e : Ending) (w' : World) => e = .returned (.bool true) ∧ Below w.heap.size w w') = Q
  have HO : Hid (∀ w', ¬ Q .outgrown w') := fun w' hh => by
    rw [← hpost] at hh
    cases hh.1
  have HP : Hid (∀ w', Below w.heap.size w w' → Q (.returned (.bool true)) w') := fun w' h => by rw [← hpost]; exact ⟨rfl, h⟩
  clear hpost
  have c0 : Hid (Calls Try.prog 8 #[.slice la l.length lc, .int .i64 16] w fun e w' => ∃ (oa : Option Addr) (on oc : Nat) (xa : Option Addr) (xc : Nat), e = .returned (.tuple #[.slice oa on oc, .slice xa on xc, .bool true]) ∧ Hid (∃ js : List Itt, LogJ 16 js ∧ on = js.length ∧ Lies kLog (fun b => w.heap.size ≤ b) w' oa oc (js.map encI) ∧ Lies kItt (fun b => w.heap.size ≤ b) w' xa xc js ∧ Below w.heap.size w w')) := by
    refine (LogOf_law l la lc 16 (by omega) w w (Below.refl _ _) hL).mono ?_
    rintro e w' ⟨oa, on, oc, xa, xn, xc, rfl, js, h1, h2, h3, h4, -, h6, h7⟩
    exact ⟨oa, on, oc, xa, xc, by rw [h3, ← h2], js, h1, h2, h4, h6, h7⟩
  clear hL
  generalize l.length = nl at c0 ⊢
  go_enter Try.func3, Try.ntmps3
  go_upto_region 4 with (first
    | (go_at_call 8; (with_reducible refine c0.out.mono ?_); clear c0; rintro e w1 ⟨oa, on, oc, xa, xc, rfl, H1⟩))
  obtain ⟨js, hJ, hon, hlog, hits, hbw⟩ := H1.out
  have HJ := put_by (And.intro hJ hon)
  have HLG := put_by hlog
  have HIT := put_by hits
  have HB1 := put_by hbw
  have hoc : on ≤ oc := by have := hlog.1; rw [List.length_map] at this; omega
  have hon16 : on ≤ 16 := by rw [hon]; exact hJ.1
  have c4 := put_by (Play_law hlog (tells_js hJ.2.1) (by rw [List.length_map, ← hon]; omega) (show on = (js.map encI).length by rw [List.length_map]; exact hon))
  clear H1 hJ hon hlog hits hbw
  go_upto_region 5 with (first
    | (go_at_call 9; (with_reducible refine c4.out.mono ?_); clear c4; rintro e w4 ⟨p1, ca, cn, cc, da, dn, dc, ta, tc, rfl, H4⟩))
  have hb4 := (Below.refl w4.heap.size w4).alloc (Nat.le_refl _) (.cells #[.int .i64 p1, .slice ca cn cc, .slice da dn dc] 30)
  have H5 : Hid (Lies kNum (fun _ => True) (w4.alloc (.cells #[.int .i64 p1, .slice ca cn cc, .slice da dn dc] 30)) ta tc (playM noSta (js.map some)).2 ∧ Below w1.heap.size w1 (w4.alloc (.cells #[.int .i64 p1, .slice ca cn cc, .slice da dn dc] 30))) := ⟨H4.out.1.told.later hb4, H4.out.2.trans (hb4.mono H4.out.2.size)⟩
  clear H4 hb4
  generalize w4.alloc (.cells #[.int .i64 p1, .slice ca cn cc, .slice da dn dc] _) = W5 at H5 ⊢
  go_upto_region 8 with (fail)
  go_loopw [9] (fun i wr => ∃ p : Nat, p ≤ on ∧ i = .int .i64 p ∧ Hid (Below W5.heap.size W5 wr)) (fun i _ => on - (intOf i).toNat)
  case atStart => exact ⟨0, Nat.zero_le _, rfl, Below.refl _ _⟩
  case round =>
    obtain ⟨p, hp, rfl, HR⟩ := hrel
    rename World => wr
    have HBW := put_by (H5.out.2.trans (HR.out.mono H5.out.2.size))
    by_cases hlt : p < on
    · have hx : p < js.length := by rw [← HJ.out.2]; exact hlt
      obtain ⟨xb, xo, ra, rc, wa, wc', rfl, hr, -, hcell⟩ := it_at HIT.out hx
      have hbp := HJ.out.1.2.2 p hx
      have hb0 := (HJ.out.1.2.1 _ (List.getElem_mem hx)).base.1
      obtain ⟨b, hb⟩ : ∃ b : Nat, (b : Int) = (js[p]).base := ⟨(js[p]).base.toNat, Int.toNat_of_nonneg hb0⟩
      have hbp2 : b ≤ p := by omega
      obtain ⟨z, hz1, hz2⟩ := reads_js HJ.out.1 hx hb
      have HZ := put_by hz2
      obtain ⟨rs, hrs⟩ : ∃ x, x = (js[p]).reads := ⟨_, rfl⟩
      obtain ⟨rn, hrn⟩ : ∃ n, n = rs.length := ⟨_, rfl⟩
      have hr4 : rn ≤ 4 := by rw [hrn, hrs]; exact (HJ.out.1.2.1 _ (List.getElem_mem hx)).few.1
      have HXC : Hid (∀ V, Below w1.heap.size w1 V → V.cell? ⟨xb, xo + p * 5 + 2, none⟩ = some (.int .i64 (b : Int)) ∧ V.cell? ⟨xb, xo + p * 5 + 3, none⟩ = some (.slice ra rn rc)) := fun V hV => by
        obtain ⟨-, -, h2, h3, -⟩ := hcell V hV
        rw [← hrs, ← hrn] at h3
        rw [← hb] at h2
        exact ⟨h2, h3⟩
      rw [← hrs, ← hb] at HZ
      have HRS := put_by (And.intro hrn (show Lies kEnt (fun b => w.heap.size ≤ b) w1 ra rc rs by rw [hrs]; exact hr))
      have hpx : p < (playM noSta (js.map some)).2.length := by rw [playM_length, List.length_map]; exact hx
      obtain ⟨tb, to', rfl, -, hzc⟩ := num_at H5.out.1 hpx
      have hze : (playM noSta (js.map some)).2[p] = z := by rw [List.getElem?_eq_getElem hpx] at hz1; exact Option.some.inj hz1
      rw [hze] at hzc
      have HZC := put_by hzc
      have ip : (p : Int) < (on : Int) := by omega
      have hbn : b ≤ on := by omega
      have hpn : p ≤ on := hp
      obtain ⟨SB, hSB⟩ : ∃ s, s = (playM noSta ((js.take b).map some)).1 := ⟨_, rfl⟩
      obtain ⟨SN, hSN⟩ : ∃ s, s = (playM noSta ((js.take p).map some)).1 := ⟨_, rfl⟩
      rw [← hSB, ← hSN] at HZ
      have HMS : Hid (MayS SB ∧ MayS SN) := by
        rw [hSB, hSN]
        exact ⟨may_js (fun x hx => HJ.out.1.2.1 x (List.mem_of_mem_take hx)) (by rw [List.length_take]; omega), may_js (fun x hx => HJ.out.1.2.1 x (List.mem_of_mem_take hx)) (by rw [List.length_take]; omega)⟩
      have cB : Hid (∀ V, Below w1.heap.size w1 V → Calls Try.prog 9 #[.agg #[.int .i64 0, .slice none 0 0, .slice none 0 0], .slice oa b oc] V fun e w' => ∃ (p : Int) (a : Option Addr) (n c : Nat) (a2 : Option Addr) (n2 c2 : Nat) (a3 : Option Addr) (c3 : Nat), e = .returned (.tuple #[.agg #[.int .i64 p, .slice a n c, .slice a2 n2 c2], .slice a3 b c3, .int .i64 0]) ∧ Hid (PlH noSta ((js.take b).map some) p a n c a2 n2 c2 a3 b c3 w' ∧ Below V.heap.size V w')) := fun V hV =>
        Play_law ((log_take HLG.out b).later hV) (tells_js (fun x hx => HJ.out.1.2.1 x (List.mem_of_mem_take hx))) (by rw [List.length_map, List.length_take]; omega) (by rw [List.length_map, List.length_take, ← HJ.out.2]; omega)
      have cN : Hid (∀ V, Below w1.heap.size w1 V → Calls Try.prog 9 #[.agg #[.int .i64 0, .slice none 0 0, .slice none 0 0], .slice oa p oc] V fun e w' => ∃ (p' : Int) (a : Option Addr) (n c : Nat) (a2 : Option Addr) (n2 c2 : Nat) (a3 : Option Addr) (c3 : Nat), e = .returned (.tuple #[.agg #[.int .i64 p', .slice a n c, .slice a2 n2 c2], .slice a3 p c3, .int .i64 0]) ∧ Hid (PlH noSta ((js.take p).map some) p' a n c a2 n2 c2 a3 p c3 w' ∧ Below V.heap.size V w')) := fun V hV =>
        Play_law ((log_take HLG.out p).later hV) (tells_js (fun x hx => HJ.out.1.2.1 x (List.mem_of_mem_take hx))) (by rw [List.length_map, List.length_take]; omega) (by rw [List.length_map, List.length_take, ← HJ.out.2]; omega)
      obtain ⟨y2, -⟩ := HXC.out wr HBW.out
      clear hcell hr hb hb0 hbp hz1 hz2 hrs hrn hzc hze hpx
      go_upto_region 11 with (first
        | (go_at_call 9; (with_reducible refine (cB.out _ HBW.out).mono ?_); clear cB; rintro e w10 ⟨q1, ba, bn, bc, ea, en, ec, fa, fc, rfl, H10⟩))
      have HV10 := put_by (StV.laid 30 H10.out.1)
      rw [← hSB] at HV10
      have H11 : Hid (Below wr.heap.size wr (w10.alloc (.cells #[.int .i64 q1, .slice ba bn bc, .slice ea en ec] 30))) := H10.out.2.alloc H10.out.2.size _
      clear H10 y2
      generalize w10.heap.size = B1 at HV10 ⊢
      generalize w10.alloc (.cells #[.int .i64 q1, .slice ba bn bc, .slice ea en ec] _) = W10 at HV10 H11 ⊢
      go_upto_region 12 with (first
        | (go_at_call 9; (with_reducible refine (cN.out _ (HBW.out.trans (H11.out.mono HBW.out.size))).mono ?_); clear cN; rintro e w11 ⟨q2, cb, cm, cd, ga, gn, gc, fb, fd, rfl, H12⟩))
      have HVN := put_by (StV.laid 30 H12.out.1)
      rw [← hSN] at HVN
      have hb12 : Below w11.heap.size w11 (w11.alloc (.cells #[.int .i64 q2, .slice cb cm cd, .slice ga gn gc] 30)) := (Below.refl _ _).alloc (Nat.le_refl _) _
      have HVB := put_by ((HV10.out.later H12.out.2).later hb12)
      have H13 : Hid (Below wr.heap.size wr (w11.alloc (.cells #[.int .i64 q2, .slice cb cm cd, .slice ga gn gc] 30))) := H11.out.trans ((H12.out.2.trans (hb12.mono H12.out.2.size)).mono H11.out.size)
      clear H11 H12 HV10 hb12 hSB hSN
      generalize w11.heap.size = N1 at HVN ⊢
      generalize w11.alloc (.cells #[.int .i64 q2, .slice cb cm cd, .slice ga gn gc] _) = W12 at HVN HVB H13 ⊢
      have HWV : Hid (∀ V, Below W12.heap.size W12 V → Below w1.heap.size w1 V ∧ StV V B1 SB q1 ba bn bc ea en ec ∧ StV V N1 SN q2 cb cm cd ga gn gc) := fun V hV => ⟨HBW.out.trans ((H13.out.trans (hV.mono H13.out.size)).mono HBW.out.size), HVB.out.later hV, HVN.out.later hV⟩
      go_upto_region 17 with (fail)
      go_loopw [16, 17, 18] (fun s t i V => ∃ k : Nat, k ≤ rn ∧ i = .int .i64 k ∧ s = .bool (sameK (snapK SB.cells) (snapK SN.cells) (rs.take k)) ∧ t = .bool (touchC (b : Int) (rs.take k) SN.cells) ∧ Hid (Below W12.heap.size W12 V)) (fun _ _ i _ => rn - (intOf i).toNat)
      case atStart => exact ⟨0, Nat.zero_le _, rfl, rfl, rfl, Below.refl _ _⟩
      case round =>
        obtain ⟨k, hk, rfl, rfl, rfl, HB⟩ := hrel
        rename World => V
        obtain ⟨hbv, hvb, hvn⟩ := HWV.out V HB.out
        obtain ⟨-, y3⟩ := HXC.out V hbv
        by_cases hkr : k < rn
        · have hkx : k < rs.length := by rw [← HRS.out.1]; exact hkr
          have ik : (k : Int) < (rn : Int) := by omega
          obtain ⟨rb, ro, a1, c1, a2, c2, rfl, hl, hh, hrc⟩ := ent_at HRS.out.2 hkx
          obtain ⟨d0, d1⟩ := hrc V hbv
          obtain ⟨r, hre⟩ : ∃ r, r = rs[k] := ⟨_, rfl⟩
          have HTK : Hid (sameK (snapK SB.cells) (snapK SN.cells) (rs.take (k + 1)) = (sameK (snapK SB.cells) (snapK SN.cells) (rs.take k) && decide (pieceK (snapK SB.cells) r = pieceK (snapK SN.cells) r)) ∧ touchC (b : Int) (rs.take (k + 1)) SN.cells = (touchC (b : Int) (rs.take k) SN.cells || hitC (b : Int) r SN.cells)) := ⟨by rw [sameK_take hkx, hre], by rw [touchC_take hkx, hre]⟩
          rw [← hre] at hl hh d0 d1
          obtain ⟨l1, hl1⟩ : ∃ n, n = r.1.length := ⟨_, rfl⟩
          obtain ⟨l2, hl2⟩ : ∃ n, n = r.2.length := ⟨_, rfl⟩
          rw [← hl1] at hl d0
          rw [← hl2] at hh d1
          obtain ⟨lo, hlo⟩ : ∃ v : Value, v = .slice a1 l1 c1 := ⟨_, rfl⟩
          obtain ⟨hi, hhi⟩ : ∃ v : Value, v = .slice a2 l2 c2 := ⟨_, rfl⟩
          rw [← hlo] at hl d0
          rw [← hhi] at hh d1
          have HRB : Hid (∀ U, Below w1.heap.size w1 U → IsBody U (fun b => w.heap.size ≤ b) lo r.1 ∧ IsBody U (fun b => w.heap.size ≤ b) hi r.2) := fun U hU => ⟨hl.move (Kept.of_below hU) (fun _ _ h => h), hh.move (Kept.of_below hU) (fun _ _ h => h)⟩
          have HVR := put_by (Cls.new V [lo, hi] 41)
          have H19 : Hid (Below W12.heap.size W12 (V.alloc (.cells #[lo, hi] 41))) := HB.out.alloc HB.out.size _
          have hlo1 : lo.oneCell' = true := hl.one
          have hhi1 : hi.oneCell' = true := hh.one
          have HLI : Hid (lo = .slice a1 l1 c1 ∧ hi = .slice a2 l2 c2) := ⟨hlo, hhi⟩
          clear hrc hl hh hre hl1 hl2 hvb hvn hbv
          subst hlo hhi
          go_upto_region 20 with (fail)
          clear d0 d1 y3
          obtain ⟨lo, hlo⟩ : ∃ v : Value, v = .slice a1 l1 c1 := ⟨_, rfl⟩
          obtain ⟨hi, hhi⟩ : ∃ v : Value, v = .slice a2 l2 c2 := ⟨_, rfl⟩
          rw [← hlo, ← hhi] at HRB HVR H19 ⊢
          clear hlo hhi HLI
          generalize V.heap.size = R1 at HVR ⊢
          generalize V.alloc (.cells #[lo, hi] _) = W19 at HVR H19 ⊢
          have HWR : Hid (∀ U, Below W19.heap.size W19 U → (U.cell? ⟨R1, 0, none⟩ = some lo ∧ U.cell? ⟨R1, 1, none⟩ = some hi) ∧ Below W12.heap.size W12 U) := fun U hU => ⟨⟨((HVR.out.later hU) 0 _ rfl).1, ((HVR.out.later hU) 1 _ rfl).1⟩, H19.out.trans (hU.mono H19.out.size)⟩
          generalize htv : touchC (b : Int) (rs.take k) SN.cells = tv at HTK ⊢
          clear htv
          go_cut [16] from 97 to 108 (fun v U => v = .bool (sameK (snapK SB.cells) (snapK SN.cells) (rs.take (k + 1))) ∧ Hid (Below W19.heap.size W19 U))
          case first =>
            generalize sameK (snapK SB.cells) (snapK SN.cells) (rs.take k) = sv at HTK ⊢
            cases sv with
            | false =>
              go_quiet (fail)
              go_wp2
              go_meet
              exact ⟨by rw [HTK.out.1]; rfl, drawn_below (Below.refl _ _) _⟩
            | true =>
              have hs12 := HWV.out W19 H19.out
              have HAL : Hid (∀ U, Below W19.heap.size W19 U → (U.cell? ⟨B1, 0, none⟩ = some (.int .i64 q1) ∧ U.cell? ⟨B1, 1, none⟩ = some (.slice ba bn bc) ∧ U.cell? ⟨B1, 2, none⟩ = some (.slice ea en ec)) ∧ (U.cell? ⟨N1, 0, none⟩ = some (.int .i64 q2) ∧ U.cell? ⟨N1, 1, none⟩ = some (.slice cb cm cd) ∧ U.cell? ⟨N1, 2, none⟩ = some (.slice ga gn gc)) ∧ U.cell? ⟨R1, 0, none⟩ = some lo ∧ U.cell? ⟨R1, 1, none⟩ = some hi) := fun U hU => by
                obtain ⟨h1, h2⟩ := HWR.out U hU
                obtain ⟨-, h3, h4⟩ := HWV.out U h2
                exact ⟨⟨(h3.var 0 _ rfl).1, (h3.var 1 _ rfl).1, (h3.var 2 _ rfl).1⟩, ⟨(h4.var 0 _ rfl).1, (h4.var 1 _ rfl).1, (h4.var 2 _ rfl).1⟩, h1⟩
              have cS1 : Hid (∀ U, Below W19.heap.size W19 U → Calls Try.prog 12 #[.agg #[.int .i64 q1, .slice ba bn bc, .slice ea en ec]] U fun e w' => ∃ (a : Option Addr) (n c : Nat), e = .returned (.slice a n c) ∧ Hid ((n = (snapK SB.cells).length ∧ (snapK SB.cells).length * 48 ≤ 140737488351232 ∧ Lies kEnt (fun _ => True) w' a c (snapK SB.cells)) ∧ Below U.heap.size U w')) := fun U hU => (HWV.out U (HWR.out U hU).2).2.1.snap HMS.out.1
              have cS2 : Hid (∀ U, Below W19.heap.size W19 U → Calls Try.prog 12 #[.agg #[.int .i64 q2, .slice cb cm cd, .slice ga gn gc]] U fun e w' => ∃ (a : Option Addr) (n c : Nat), e = .returned (.slice a n c) ∧ Hid ((n = (snapK SN.cells).length ∧ (snapK SN.cells).length * 48 ≤ 140737488351232 ∧ Lies kEnt (fun _ => True) w' a c (snapK SN.cells)) ∧ Below U.heap.size U w')) := fun U hU => (HWV.out U (HWR.out U hU).2).2.2.snap HMS.out.2
              have cP : Hid (∀ (U : World) (l : List Ent) (sa : Option Addr) (sn sc : Nat), Below W19.heap.size W19 U → sn = l.length → l.length * 48 ≤ 140737488351232 → Lies kEnt (fun _ => True) U sa sc l → Calls Try.prog 11 #[.slice sa sn sc, .agg #[lo, hi]] U fun e w' => ∃ (a : Option Addr) (n c : Nat), e = .returned (.slice a n c) ∧ Hid ((n = (pieceK l r).length ∧ Lies kEnt (fun _ => True) w' a c (pieceK l r)) ∧ Below U.heap.size U w')) := fun U l sa sn sc hU h1 h2 h3 => by
                subst h1
                obtain ⟨g1, g2⟩ := HRB.out U (HWV.out U (HWR.out U hU).2).1
                refine (piece_any _ _ _ l h2 sa sc lo hi r.1 r.2 U h3 g1 g2).mono ?_
                rintro e w' ⟨a, n, c, h4, h5, h6, h7⟩
                exact ⟨a, n, c, h4, ⟨h5, h6⟩, h7⟩
              have hlp : ∀ l : List Ent, (pieceK l r).length ≤ l.length := fun l => List.length_filter_le _ _
              have HLP := put_by hlp
              have cE : Hid (∀ (U : World) (l m : List Ent) (sa sb : Option Addr) (sn sc sm sd : Nat), sn = l.length → sm = m.length → l.length * 48 ≤ 140737488351232 → Lies kEnt (fun _ => True) U sa sc l → Lies kEnt (fun _ => True) U sb sd m → Calls Try.prog 10 #[.slice sa sn sc, .slice sb sm sd] U fun e w' => e = .returned (.bool (decide (l = m))) ∧ Hid (Below U.heap.size U w')) := fun U l m sa sb sn sc sm sd h1 h2 h3 h4 h5 => by
                subst h1 h2
                refine (sameEntriesK_q (fun _ => True) (fun _ => True) l m (by omega) sa sb sc sd U h4 h5).mono ?_
                rintro e w' ⟨rfl, j, rfl⟩
                exact ⟨rfl, drawn_below (Below.refl _ _) j⟩
              clear hs12 hlp
              obtain ⟨⟨x0, x1, x2⟩, ⟨y0, y1, y2⟩, r0, r1⟩ := HAL.out W19 (Below.refl _ _)
              go_region_held3 (fun U => U.cell? ⟨B1, 0, none⟩ = some (.int .i64 q1) ∧ U.cell? ⟨B1, 1, none⟩ = some (.slice ba bn bc) ∧ U.cell? ⟨B1, 2, none⟩ = some (.slice ea en ec) ∧ U.cell? ⟨N1, 0, none⟩ = some (.int .i64 q2) ∧ U.cell? ⟨N1, 1, none⟩ = some (.slice cb cm cd) ∧ U.cell? ⟨N1, 2, none⟩ = some (.slice ga gn gc) ∧ U.cell? ⟨R1, 0, none⟩ = some lo ∧ U.cell? ⟨R1, 1, none⟩ = some hi) (go_keep) (first
                | (go_at_call 12; (with_reducible refine (cS1.out _ (Below.refl _ _).drew).mono ?_); clear cS1; rintro e w20 ⟨sa, sn, sc, rfl, H20⟩; have G20 : Hid (Below W19.heap.size W19 w20) := (Below.refl _ _).drew.trans H20.out.2; obtain ⟨⟨t0, t1, t2⟩, ⟨t3, t4, t5⟩, t6, t7⟩ := HAL.out _ G20.out)
                | (go_at_call 11; (with_reducible refine (cP.out _ _ _ _ _ G20.out H20.out.1.1 H20.out.1.2.1 H20.out.1.2.2).mono ?_); rintro e w21 ⟨ua, un, uc, rfl, H21⟩; have G21 : Hid (Below W19.heap.size W19 w21) := G20.out.trans (H21.out.2.mono G20.out.size); obtain ⟨⟨t0, t1, t2⟩, ⟨t3, t4, t5⟩, t6, t7⟩ := HAL.out _ G21.out)
                | (go_at_call 12; (with_reducible refine (cS2.out _ G21.out).mono ?_); clear cS2; rintro e w22 ⟨va, vn, vc, rfl, H22⟩; have G22 : Hid (Below W19.heap.size W19 w22) := G21.out.trans (H22.out.2.mono G21.out.size); obtain ⟨⟨t0, t1, t2⟩, ⟨t3, t4, t5⟩, t6, t7⟩ := HAL.out _ G22.out)
                | (go_at_call 11; (with_reducible refine (cP.out _ _ _ _ _ G22.out H22.out.1.1 H22.out.1.2.1 H22.out.1.2.2).mono ?_); rintro e w23 ⟨wa', wn', wc', rfl, H23⟩; have G23 : Hid (Below W19.heap.size W19 w23) := G22.out.trans (H23.out.2.mono G22.out.size); obtain ⟨⟨t0, t1, t2⟩, ⟨t3, t4, t5⟩, t6, t7⟩ := HAL.out _ G23.out)
                | (go_at_call 10; (with_reducible refine (cE.out _ _ _ _ _ _ _ _ _ H21.out.1.1 H23.out.1.1 (by have h1 := HLP.out (snapK SB.cells); have h2 := H20.out.1.2.1; omega) ((H21.out.1.2.later H22.out.2).later H23.out.2) H23.out.1.2).mono ?_); clear cE; rintro e w24 ⟨rfl, H24⟩; have G24 : Hid (Below W19.heap.size W19 w24) := G23.out.trans (H24.out.mono G23.out.size); obtain ⟨⟨t0, t1, t2⟩, ⟨t3, t4, t5⟩, t6, t7⟩ := HAL.out _ G24.out))
              go_wp2
              go_meet
              exact ⟨by rw [HTK.out.1]; simp, G24.out⟩
          case rest =>
            obtain ⟨rfl, H20⟩ := hcut
            rename World => W20
            obtain ⟨-, hw12⟩ := HWR.out W20 H20.out
            have HW12 := put_by hw12
            clear hw12
            go_upto_region 22 with (fail)
            go_loopw [17, 20] (fun t c U => ∃ j : Nat, j ≤ cm ∧ c = .int .i64 j ∧ t = .bool (tv || hitC (b : Int) r (SN.cells.take j)) ∧ Hid (Below W20.heap.size W20 U)) (fun _ c _ => cm - (intOf c).toNat)
            case atStart => exact ⟨0, Nat.zero_le _, rfl, by simp [hitC], Below.refl _ _⟩
            case round =>
              obtain ⟨j, hj, rfl, rfl, HU⟩ := hrel
              rename World => V
              have HU12 := put_by (HW12.out.trans (HU.out.mono HW12.out.size))
              obtain ⟨hu1, -, hun⟩ := HWV.out V HU12.out
              obtain ⟨n1, -⟩ := hun.var 1 _ rfl
              by_cases hjc : j < cm
              · have hjx : j < SN.cells.length := by rw [← HVN.out.lc]; exact hjc
                obtain ⟨cbb, cbo, ka, kc, va, vc, rfl, hk1, -, hbb, hcc⟩ := cel_at HVN.out.st.cells hjx
                obtain ⟨e0, -, -, e3⟩ := hcc V HU12.out
                obtain ⟨y2, -⟩ := HXC.out V hu1
                obtain ⟨⟨r0, r1⟩, -⟩ := HWR.out V (H20.out.trans (HU.out.mono H20.out.size))
                have ij : (j : Int) < (cm : Int) := by omega
                have hcm8 : cm ≤ 140737488351232 := by have h1 := HVN.out.st.few.1; have h2 := HVN.out.lc; omega
                have HT := put_by (hitC_take (b := (b : Int)) (r := r) hjx)
                have cW0 : Hid (∀ U, Below V.heap.size V U → Calls Try.prog 13 #[.slice ka (SN.cells[j]).key.length kc, .agg #[lo, hi]] U fun e w' => e = .returned (.bool (inRng (SN.cells[j]).key r)) ∧ Hid (Below V.heap.size V w')) := fun U hU => by
                  have hb := HU12.out.trans (hU.mono HU12.out.size)
                  obtain ⟨g1, g2⟩ := HRB.out U (HWV.out U hb).1
                  refine (withinK_any _ _ _ _ lo hi (SN.cells[j]).key r.1 r.2 U (hk1.move (Kept.of_below hb) (fun _ _ h => h)) g1 g2).mono ?_
                  rintro e w' ⟨h1, h2⟩
                  exact ⟨h1, hU.trans (h2.mono hU.size)⟩
                have HSV0 : Hid (∀ U, Below V.heap.size V U → (fun W : World => W.cell? ⟨N1, 1, none⟩ = some (.slice (some ⟨cbb, cbo, none⟩) cm cd) ∧ W.cell? ⟨R1, 0, none⟩ = some lo ∧ W.cell? ⟨R1, 1, none⟩ = some hi ∧ W.cell? ⟨cbb, cbo + j * 4, none⟩ = some (.slice ka (SN.cells[j]).key.length kc) ∧ W.cell? ⟨cbb, cbo + j * 4 + 3, none⟩ = some (.int .i64 (SN.cells[j]).since) ∧ W.cell? ⟨xb, xo + p * 5 + 2, none⟩ = some (.int .i64 (b : Int))) U) := fun U hU => by
                  have hb := HU12.out.trans (hU.mono HU12.out.size)
                  obtain ⟨g1, -, g3⟩ := HWV.out U hb
                  obtain ⟨g4, -⟩ := HWR.out U (H20.out.trans ((HU.out.trans (hU.mono HU.out.size)).mono H20.out.size))
                  obtain ⟨g5, -, -, g6⟩ := hcc U hb
                  exact ⟨(g3.var 1 _ rfl).1, g4.1, g4.2, g5, g6, (HXC.out U g1).1⟩
                clear hcc hk1 hu1 hun
                generalize (SN.cells[j]).key.length = i1 at e0 cW0 HSV0
                obtain ⟨t, ht⟩ : ∃ t, t = inRng (SN.cells[j]).key r := ⟨_, rfl⟩
                rw [← ht] at HT cW0
                obtain ⟨sc, hsc⟩ : ∃ t, t = (SN.cells[j]).since := ⟨_, rfl⟩
                rw [← hsc] at HT e3 HSV0
                clear ht hsc
                have cW := cW0
                have HSV := HSV0
                clear cW0 HSV0
                generalize htw : (tv || hitC (b : Int) r (SN.cells.take j)) = tw
                have HTW := put_by htw
                clear htw
                go_upto_region 24 with (fail)
                cases tw with
                | true =>
                  clear cW HSV
                  go_quiet (fail)
                  go_wp2
                  go_roundw
                  case rel => exact ⟨j + 1, by omega, by go_num, by rw [HT.out, ← Bool.or_assoc, HTW.out]; rfl, drawn_below HU.out _⟩
                  case measure => simp [intOf]; omega
                | false =>
                  have hS := HSV.out V.drew (Below.refl _ _).drew
                  cases t with
                  | true =>
                    by_cases hbs : (b : Int) < sc
                    · clear n1 e0 e3 y2 r0 r1
                      refine region_plain (fun W : World => W.cell? ⟨N1, 1, none⟩ = some (.slice (some ⟨cbb, cbo, none⟩) cm cd) ∧ W.cell? ⟨R1, 0, none⟩ = some lo ∧ W.cell? ⟨R1, 1, none⟩ = some hi ∧ W.cell? ⟨cbb, cbo + j * 4, none⟩ = some (.slice ka i1 kc) ∧ W.cell? ⟨cbb, cbo + j * 4 + 3, none⟩ = some (.int .i64 sc) ∧ W.cell? ⟨xb, xo + p * 5 + 2, none⟩ = some (.int .i64 (b : Int))) 25 (by kernel_rfl) ?_
                      change wpAnyU _ _ _ _ _ 26 #[false, false, false, false, false, false, false, false, false, false, false, false, false, false, false, false, false, false, false, false, false, false, false, false, false, false] _ V.drew
                      refine V_takeS [25] 116 (k := 0) (v := .bool false) rfl rfl (by kernel_rfl) (by kernel_rfl) (by kernel_rfl) (by kernel_rfl) (by kernel_rfl) (by kernel_rfl) (fun _ _ _ h => h) (Or.inl ⟨by rfl, fun V hV => ?_⟩) hS ?_
                      · obtain ⟨z0, z1, z2, z3, z4, z5⟩ := hV; go_simp
                      try simp only [Act.put, List.setIfInBounds_toArray, List.set_cons_zero, List.set_cons_succ]
                      refine V_takeS [25] 117 (k := 1) (v := .bool false) rfl rfl (by kernel_rfl) (by kernel_rfl) (by kernel_rfl) (by kernel_rfl) (by kernel_rfl) (by kernel_rfl) (fun _ _ _ h => h) (Or.inl ⟨by rfl, fun V hV => ?_⟩) hS ?_
                      · obtain ⟨z0, z1, z2, z3, z4, z5⟩ := hV; go_simp
                      try simp only [Act.put, List.setIfInBounds_toArray, List.set_cons_zero, List.set_cons_succ]
                      refine V_takeS [25] 118 (k := 2) (v := .pointer (some ⟨N1, 1, none⟩)) rfl rfl (by kernel_rfl) (by kernel_rfl) (by kernel_rfl) (by kernel_rfl) (by kernel_rfl) (by kernel_rfl) (fun _ _ _ h => h) (Or.inl ⟨by rfl, fun V hV => ?_⟩) hS ?_
                      · obtain ⟨z0, z1, z2, z3, z4, z5⟩ := hV; go_simp
                      try simp only [Act.put, List.setIfInBounds_toArray, List.set_cons_zero, List.set_cons_succ]
                      refine V_takeS [25] 119 (k := 3) (v := .slice (some ⟨cbb, cbo, none⟩) cm cd) rfl rfl (by kernel_rfl) (by kernel_rfl) (by kernel_rfl) (by kernel_rfl) (by kernel_rfl) (by kernel_rfl) (fun _ _ _ h => h) (Or.inl ⟨by rfl, fun V hV => ?_⟩) hS ?_
                      · obtain ⟨z0, z1, z2, z3, z4, z5⟩ := hV; go_simp
                      try simp only [Act.put, List.setIfInBounds_toArray, List.set_cons_zero, List.set_cons_succ]
                      refine V_takeS [25] 120 (k := 4) (v := .int .i64 (j : Int)) rfl rfl (by kernel_rfl) (by kernel_rfl) (by kernel_rfl) (by kernel_rfl) (by kernel_rfl) (by kernel_rfl) (fun _ _ _ h => h) (Or.inl ⟨by rfl, fun V hV => ?_⟩) hS ?_
                      · obtain ⟨z0, z1, z2, z3, z4, z5⟩ := hV; go_simp
                      try simp only [Act.put, List.setIfInBounds_toArray, List.set_cons_zero, List.set_cons_succ]
                      refine V_takeS [25] 121 (k := 5) (v := .pointer (some ⟨cbb, cbo + j * 4, none⟩)) rfl rfl (by kernel_rfl) (by kernel_rfl) (by kernel_rfl) (by kernel_rfl) (by kernel_rfl) (by kernel_rfl) (fun _ _ _ h => h) (Or.inl ⟨by rfl, fun V hV => ?_⟩) hS ?_
                      · obtain ⟨z0, z1, z2, z3, z4, z5⟩ := hV; go_simp
                      try simp only [Act.put, List.setIfInBounds_toArray, List.set_cons_zero, List.set_cons_succ]
                      refine V_takeS [25] 122 (k := 6) (v := .pointer (some ⟨cbb, cbo + j * 4, none⟩)) rfl rfl (by kernel_rfl) (by kernel_rfl) (by kernel_rfl) (by kernel_rfl) (by kernel_rfl) (by kernel_rfl) (fun _ _ _ h => h) (Or.inl ⟨by rfl, fun V hV => ?_⟩) hS ?_
                      · obtain ⟨z0, z1, z2, z3, z4, z5⟩ := hV; go_simp
                      try simp only [Act.put, List.setIfInBounds_toArray, List.set_cons_zero, List.set_cons_succ]
                      refine V_takeS [25] 123 (k := 7) (v := .slice ka i1 kc) rfl rfl (by kernel_rfl) (by kernel_rfl) (by kernel_rfl) (by kernel_rfl) (by kernel_rfl) (by kernel_rfl) (fun _ _ _ h => h) (Or.inl ⟨by rfl, fun V hV => ?_⟩) hS ?_
                      · obtain ⟨z0, z1, z2, z3, z4, z5⟩ := hV; go_simp
                      try simp only [Act.put, List.setIfInBounds_toArray, List.set_cons_zero, List.set_cons_succ]
                      refine V_takeS [25] 124 (k := 8) (v := .agg #[lo, hi]) rfl rfl (by kernel_rfl) (by kernel_rfl) (by kernel_rfl) (by kernel_rfl) (by kernel_rfl) (by kernel_rfl) (fun _ _ _ h => h) (Or.inl ⟨by rfl, fun V hV => ?_⟩) hS ?_
                      · obtain ⟨z0, z1, z2, z3, z4, z5⟩ := hV; go_simp
                      try simp only [Act.put, List.setIfInBounds_toArray, List.set_cons_zero, List.set_cons_succ]
                      refine U_oneG (i := 9) (listed' := #[true, true, true, true, true, true, true, true, true, true, false, false, false, false, false, false, false, false, false, false, false, false, false, false, false, false]) (by kernel_rfl) rfl (by kernel_rfl) (by rfl) (fun K hK => ?_)
                      go_simp
                      refine (cW.out _ (Below.refl _ _).drew).mono ?_
                      rintro e w9 ⟨rfl, H9⟩
                      have hS9 := HSV.out _ H9.out
                      refine hK _ _ (fun _ => hS9) ?_
                      clear hK K
                      try simp only [Act.put, List.setIfInBounds_toArray, List.set_cons_zero, List.set_cons_succ]
                      clear cW hS
                      refine V_takeS [25] 126 (k := 10) (v := .bool true) rfl rfl (by kernel_rfl) (by kernel_rfl) (by kernel_rfl) (by kernel_rfl) (by kernel_rfl) (by kernel_rfl) (fun _ _ _ h => h) (Or.inl ⟨by rfl, fun V hV => ?_⟩) hS9 ?_
                      · obtain ⟨z0, z1, z2, z3, z4, z5⟩ := hV; go_simp
                      try simp only [Act.put, List.setIfInBounds_toArray, List.set_cons_zero, List.set_cons_succ]
                      refine V_takeS [25] 127 (k := 11) (v := .pointer (some ⟨N1, 1, none⟩)) rfl rfl (by kernel_rfl) (by kernel_rfl) (by kernel_rfl) (by kernel_rfl) (by kernel_rfl) (by kernel_rfl) (fun _ _ _ h => h) (Or.inl ⟨by rfl, fun V hV => ?_⟩) hS9 ?_
                      · obtain ⟨z0, z1, z2, z3, z4, z5⟩ := hV; go_simp
                      try simp only [Act.put, List.setIfInBounds_toArray, List.set_cons_zero, List.set_cons_succ]
                      refine V_takeS [25] 128 (k := 12) (v := .slice (some ⟨cbb, cbo, none⟩) cm cd) rfl rfl (by kernel_rfl) (by kernel_rfl) (by kernel_rfl) (by kernel_rfl) (by kernel_rfl) (by kernel_rfl) (fun _ _ _ h => h) (Or.inl ⟨by rfl, fun V hV => ?_⟩) hS9 ?_
                      · obtain ⟨z0, z1, z2, z3, z4, z5⟩ := hV; go_simp
                      try simp only [Act.put, List.setIfInBounds_toArray, List.set_cons_zero, List.set_cons_succ]
                      refine V_takeS [25] 129 (k := 13) (v := .int .i64 (j : Int)) rfl rfl (by kernel_rfl) (by kernel_rfl) (by kernel_rfl) (by kernel_rfl) (by kernel_rfl) (by kernel_rfl) (fun _ _ _ h => h) (Or.inl ⟨by rfl, fun V hV => ?_⟩) hS9 ?_
                      · obtain ⟨z0, z1, z2, z3, z4, z5⟩ := hV; go_simp
                      try simp only [Act.put, List.setIfInBounds_toArray, List.set_cons_zero, List.set_cons_succ]
                      refine V_takeS [25] 130 (k := 14) (v := .pointer (some ⟨cbb, cbo + j * 4, none⟩)) rfl rfl (by kernel_rfl) (by kernel_rfl) (by kernel_rfl) (by kernel_rfl) (by kernel_rfl) (by kernel_rfl) (fun _ _ _ h => h) (Or.inl ⟨by rfl, fun V hV => ?_⟩) hS9 ?_
                      · obtain ⟨z0, z1, z2, z3, z4, z5⟩ := hV; go_simp
                      try simp only [Act.put, List.setIfInBounds_toArray, List.set_cons_zero, List.set_cons_succ]
                      refine V_takeS [25] 131 (k := 15) (v := .pointer (some ⟨cbb, cbo + j * 4 + 3, none⟩)) rfl rfl (by kernel_rfl) (by kernel_rfl) (by kernel_rfl) (by kernel_rfl) (by kernel_rfl) (by kernel_rfl) (fun _ _ _ h => h) (Or.inl ⟨by rfl, fun V hV => ?_⟩) hS9 ?_
                      · obtain ⟨z0, z1, z2, z3, z4, z5⟩ := hV; go_simp
                      try simp only [Act.put, List.setIfInBounds_toArray, List.set_cons_zero, List.set_cons_succ]
                      refine V_takeS [25] 132 (k := 16) (v := .int .i64 sc) rfl rfl (by kernel_rfl) (by kernel_rfl) (by kernel_rfl) (by kernel_rfl) (by kernel_rfl) (by kernel_rfl) (fun _ _ _ h => h) (Or.inl ⟨by rfl, fun V hV => ?_⟩) hS9 ?_
                      · obtain ⟨z0, z1, z2, z3, z4, z5⟩ := hV; go_simp
                      try simp only [Act.put, List.setIfInBounds_toArray, List.set_cons_zero, List.set_cons_succ]
                      refine V_takeS [25] 133 (k := 17) (v := .slice (some ⟨xb, xo, none⟩) on xc) rfl rfl (by kernel_rfl) (by kernel_rfl) (by kernel_rfl) (by kernel_rfl) (by kernel_rfl) (by kernel_rfl) (fun _ _ _ h => h) (Or.inl ⟨by rfl, fun V hV => ?_⟩) hS9 ?_
                      · obtain ⟨z0, z1, z2, z3, z4, z5⟩ := hV; go_simp
                      try simp only [Act.put, List.setIfInBounds_toArray, List.set_cons_zero, List.set_cons_succ]
                      refine V_takeS [25] 134 (k := 18) (v := .int .i64 (p : Int)) rfl rfl (by kernel_rfl) (by kernel_rfl) (by kernel_rfl) (by kernel_rfl) (by kernel_rfl) (by kernel_rfl) (fun _ _ _ h => h) (Or.inl ⟨by rfl, fun V hV => ?_⟩) hS9 ?_
                      · obtain ⟨z0, z1, z2, z3, z4, z5⟩ := hV; go_simp
                      try simp only [Act.put, List.setIfInBounds_toArray, List.set_cons_zero, List.set_cons_succ]
                      refine V_takeS [25] 135 (k := 19) (v := .pointer (some ⟨xb, xo + p * 5, none⟩)) rfl rfl (by kernel_rfl) (by kernel_rfl) (by kernel_rfl) (by kernel_rfl) (by kernel_rfl) (by kernel_rfl) (fun _ _ _ h => h) (Or.inl ⟨by rfl, fun V hV => ?_⟩) hS9 ?_
                      · obtain ⟨z0, z1, z2, z3, z4, z5⟩ := hV; go_simp
                      try simp only [Act.put, List.setIfInBounds_toArray, List.set_cons_zero, List.set_cons_succ]
                      refine V_takeS [25] 136 (k := 20) (v := .pointer (some ⟨xb, xo + p * 5 + 2, none⟩)) rfl rfl (by kernel_rfl) (by kernel_rfl) (by kernel_rfl) (by kernel_rfl) (by kernel_rfl) (by kernel_rfl) (fun _ _ _ h => h) (Or.inl ⟨by rfl, fun V hV => ?_⟩) hS9 ?_
                      · obtain ⟨z0, z1, z2, z3, z4, z5⟩ := hV; go_simp
                      try simp only [Act.put, List.setIfInBounds_toArray, List.set_cons_zero, List.set_cons_succ]
                      refine V_takeS [25] 137 (k := 21) (v := .int .i64 (b : Int)) rfl rfl (by kernel_rfl) (by kernel_rfl) (by kernel_rfl) (by kernel_rfl) (by kernel_rfl) (by kernel_rfl) (fun _ _ _ h => h) (Or.inl ⟨by rfl, fun V hV => ?_⟩) hS9 ?_
                      · obtain ⟨z0, z1, z2, z3, z4, z5⟩ := hV; go_simp
                      try simp only [Act.put, List.setIfInBounds_toArray, List.set_cons_zero, List.set_cons_succ]
                      refine V_takeS [25] 138 (k := 22) (v := .bool true) rfl rfl (by kernel_rfl) (by kernel_rfl) (by kernel_rfl) (by kernel_rfl) (by kernel_rfl) (by kernel_rfl) (fun _ _ _ h => h) (Or.inl ⟨by rfl, fun V hV => ?_⟩) hS9 ?_
                      · obtain ⟨z0, z1, z2, z3, z4, z5⟩ := hV; go_simp
                      try simp only [Act.put, List.setIfInBounds_toArray, List.set_cons_zero, List.set_cons_succ]
                      refine V_takeS [25] 139 (k := 23) (v := .bool true) rfl rfl (by kernel_rfl) (by kernel_rfl) (by kernel_rfl) (by kernel_rfl) (by kernel_rfl) (by kernel_rfl) (fun _ _ _ h => h) (Or.inl ⟨by rfl, fun V hV => ?_⟩) hS9 ?_
                      · obtain ⟨z0, z1, z2, z3, z4, z5⟩ := hV; go_simp
                      try simp only [Act.put, List.setIfInBounds_toArray, List.set_cons_zero, List.set_cons_succ]
                      refine V_takeS [25] 140 (k := 24) (v := .bool true) rfl rfl (by kernel_rfl) (by kernel_rfl) (by kernel_rfl) (by kernel_rfl) (by kernel_rfl) (by kernel_rfl) (fun _ _ _ h => h) (Or.inl ⟨by rfl, fun V hV => ?_⟩) hS9 ?_
                      · obtain ⟨z0, z1, z2, z3, z4, z5⟩ := hV; go_simp
                      try simp only [Act.put, List.setIfInBounds_toArray, List.set_cons_zero, List.set_cons_succ]
                      refine U_one (i := 25) (listed' := #[true, true, true, true, true, true, true, true, true, true, true, true, true, true, true, true, true, true, true, true, true, true, true, true, true, true]) (by kernel_rfl) rfl (by kernel_rfl) rfl (fun K hK => ?_)
                      go_simp
                      refine hK _ _ (fun hh => by cases (show true = false from hh)) ?_
                      clear hK K
                      try simp only [Act.put, List.setIfInBounds_toArray, List.set_cons_zero, List.set_cons_succ]
                      refine U_done (by kernel_rfl) ?_ _
                      go_wp2
                      go_roundw
                      case rel => exact ⟨j + 1, by omega, by go_num, by rw [HT.out, decide_eq_true hbs]; simp, HU.out.trans (H9.out.mono HU.out.size)⟩
                      case measure => simp [intOf]; omega
                    · clear n1 e0 e3 y2 r0 r1
                      refine region_plain (fun W : World => W.cell? ⟨N1, 1, none⟩ = some (.slice (some ⟨cbb, cbo, none⟩) cm cd) ∧ W.cell? ⟨R1, 0, none⟩ = some lo ∧ W.cell? ⟨R1, 1, none⟩ = some hi ∧ W.cell? ⟨cbb, cbo + j * 4, none⟩ = some (.slice ka i1 kc) ∧ W.cell? ⟨cbb, cbo + j * 4 + 3, none⟩ = some (.int .i64 sc) ∧ W.cell? ⟨xb, xo + p * 5 + 2, none⟩ = some (.int .i64 (b : Int))) 25 (by kernel_rfl) ?_
                      change wpAnyU _ _ _ _ _ 26 #[false, false, false, false, false, false, false, false, false, false, false, false, false, false, false, false, false, false, false, false, false, false, false, false, false, false] _ V.drew
                      refine V_takeS [25] 116 (k := 0) (v := .bool false) rfl rfl (by kernel_rfl) (by kernel_rfl) (by kernel_rfl) (by kernel_rfl) (by kernel_rfl) (by kernel_rfl) (fun _ _ _ h => h) (Or.inl ⟨by rfl, fun V hV => ?_⟩) hS ?_
                      · obtain ⟨z0, z1, z2, z3, z4, z5⟩ := hV; go_simp
                      try simp only [Act.put, List.setIfInBounds_toArray, List.set_cons_zero, List.set_cons_succ]
                      refine V_takeS [25] 117 (k := 1) (v := .bool false) rfl rfl (by kernel_rfl) (by kernel_rfl) (by kernel_rfl) (by kernel_rfl) (by kernel_rfl) (by kernel_rfl) (fun _ _ _ h => h) (Or.inl ⟨by rfl, fun V hV => ?_⟩) hS ?_
                      · obtain ⟨z0, z1, z2, z3, z4, z5⟩ := hV; go_simp
                      try simp only [Act.put, List.setIfInBounds_toArray, List.set_cons_zero, List.set_cons_succ]
                      refine V_takeS [25] 118 (k := 2) (v := .pointer (some ⟨N1, 1, none⟩)) rfl rfl (by kernel_rfl) (by kernel_rfl) (by kernel_rfl) (by kernel_rfl) (by kernel_rfl) (by kernel_rfl) (fun _ _ _ h => h) (Or.inl ⟨by rfl, fun V hV => ?_⟩) hS ?_
                      · obtain ⟨z0, z1, z2, z3, z4, z5⟩ := hV; go_simp
                      try simp only [Act.put, List.setIfInBounds_toArray, List.set_cons_zero, List.set_cons_succ]
                      refine V_takeS [25] 119 (k := 3) (v := .slice (some ⟨cbb, cbo, none⟩) cm cd) rfl rfl (by kernel_rfl) (by kernel_rfl) (by kernel_rfl) (by kernel_rfl) (by kernel_rfl) (by kernel_rfl) (fun _ _ _ h => h) (Or.inl ⟨by rfl, fun V hV => ?_⟩) hS ?_
                      · obtain ⟨z0, z1, z2, z3, z4, z5⟩ := hV; go_simp
                      try simp only [Act.put, List.setIfInBounds_toArray, List.set_cons_zero, List.set_cons_succ]
                      refine V_takeS [25] 120 (k := 4) (v := .int .i64 (j : Int)) rfl rfl (by kernel_rfl) (by kernel_rfl) (by kernel_rfl) (by kernel_rfl) (by kernel_rfl) (by kernel_rfl) (fun _ _ _ h => h) (Or.inl ⟨by rfl, fun V hV => ?_⟩) hS ?_
                      · obtain ⟨z0, z1, z2, z3, z4, z5⟩ := hV; go_simp
                      try simp only [Act.put, List.setIfInBounds_toArray, List.set_cons_zero, List.set_cons_succ]
                      refine V_takeS [25] 121 (k := 5) (v := .pointer (some ⟨cbb, cbo + j * 4, none⟩)) rfl rfl (by kernel_rfl) (by kernel_rfl) (by kernel_rfl) (by kernel_rfl) (by kernel_rfl) (by kernel_rfl) (fun _ _ _ h => h) (Or.inl ⟨by rfl, fun V hV => ?_⟩) hS ?_
                      · obtain ⟨z0, z1, z2, z3, z4, z5⟩ := hV; go_simp
                      try simp only [Act.put, List.setIfInBounds_toArray, List.set_cons_zero, List.set_cons_succ]
                      refine V_takeS [25] 122 (k := 6) (v := .pointer (some ⟨cbb, cbo + j * 4, none⟩)) rfl rfl (by kernel_rfl) (by kernel_rfl) (by kernel_rfl) (by kernel_rfl) (by kernel_rfl) (by kernel_rfl) (fun _ _ _ h => h) (Or.inl ⟨by rfl, fun V hV => ?_⟩) hS ?_
                      · obtain ⟨z0, z1, z2, z3, z4, z5⟩ := hV; go_simp
                      try simp only [Act.put, List.setIfInBounds_toArray, List.set_cons_zero, List.set_cons_succ]
                      refine V_takeS [25] 123 (k := 7) (v := .slice ka i1 kc) rfl rfl (by kernel_rfl) (by kernel_rfl) (by kernel_rfl) (by kernel_rfl) (by kernel_rfl) (by kernel_rfl) (fun _ _ _ h => h) (Or.inl ⟨by rfl, fun V hV => ?_⟩) hS ?_
                      · obtain ⟨z0, z1, z2, z3, z4, z5⟩ := hV; go_simp
                      try simp only [Act.put, List.setIfInBounds_toArray, List.set_cons_zero, List.set_cons_succ]
                      refine V_takeS [25] 124 (k := 8) (v := .agg #[lo, hi]) rfl rfl (by kernel_rfl) (by kernel_rfl) (by kernel_rfl) (by kernel_rfl) (by kernel_rfl) (by kernel_rfl) (fun _ _ _ h => h) (Or.inl ⟨by rfl, fun V hV => ?_⟩) hS ?_
                      · obtain ⟨z0, z1, z2, z3, z4, z5⟩ := hV; go_simp
                      try simp only [Act.put, List.setIfInBounds_toArray, List.set_cons_zero, List.set_cons_succ]
                      refine U_oneG (i := 9) (listed' := #[true, true, true, true, true, true, true, true, true, true, false, false, false, false, false, false, false, false, false, false, false, false, false, false, false, false]) (by kernel_rfl) rfl (by kernel_rfl) (by rfl) (fun K hK => ?_)
                      go_simp
                      refine (cW.out _ (Below.refl _ _).drew).mono ?_
                      rintro e w9 ⟨rfl, H9⟩
                      have hS9 := HSV.out _ H9.out
                      refine hK _ _ (fun _ => hS9) ?_
                      clear hK K
                      try simp only [Act.put, List.setIfInBounds_toArray, List.set_cons_zero, List.set_cons_succ]
                      clear cW hS
                      refine V_takeS [25] 126 (k := 10) (v := .bool true) rfl rfl (by kernel_rfl) (by kernel_rfl) (by kernel_rfl) (by kernel_rfl) (by kernel_rfl) (by kernel_rfl) (fun _ _ _ h => h) (Or.inl ⟨by rfl, fun V hV => ?_⟩) hS9 ?_
                      · obtain ⟨z0, z1, z2, z3, z4, z5⟩ := hV; go_simp
                      try simp only [Act.put, List.setIfInBounds_toArray, List.set_cons_zero, List.set_cons_succ]
                      refine V_takeS [25] 127 (k := 11) (v := .pointer (some ⟨N1, 1, none⟩)) rfl rfl (by kernel_rfl) (by kernel_rfl) (by kernel_rfl) (by kernel_rfl) (by kernel_rfl) (by kernel_rfl) (fun _ _ _ h => h) (Or.inl ⟨by rfl, fun V hV => ?_⟩) hS9 ?_
                      · obtain ⟨z0, z1, z2, z3, z4, z5⟩ := hV; go_simp
                      try simp only [Act.put, List.setIfInBounds_toArray, List.set_cons_zero, List.set_cons_succ]
                      refine V_takeS [25] 128 (k := 12) (v := .slice (some ⟨cbb, cbo, none⟩) cm cd) rfl rfl (by kernel_rfl) (by kernel_rfl) (by kernel_rfl) (by kernel_rfl) (by kernel_rfl) (by kernel_rfl) (fun _ _ _ h => h) (Or.inl ⟨by rfl, fun V hV => ?_⟩) hS9 ?_
                      · obtain ⟨z0, z1, z2, z3, z4, z5⟩ := hV; go_simp
                      try simp only [Act.put, List.setIfInBounds_toArray, List.set_cons_zero, List.set_cons_succ]
                      refine V_takeS [25] 129 (k := 13) (v := .int .i64 (j : Int)) rfl rfl (by kernel_rfl) (by kernel_rfl) (by kernel_rfl) (by kernel_rfl) (by kernel_rfl) (by kernel_rfl) (fun _ _ _ h => h) (Or.inl ⟨by rfl, fun V hV => ?_⟩) hS9 ?_
                      · obtain ⟨z0, z1, z2, z3, z4, z5⟩ := hV; go_simp
                      try simp only [Act.put, List.setIfInBounds_toArray, List.set_cons_zero, List.set_cons_succ]
                      refine V_takeS [25] 130 (k := 14) (v := .pointer (some ⟨cbb, cbo + j * 4, none⟩)) rfl rfl (by kernel_rfl) (by kernel_rfl) (by kernel_rfl) (by kernel_rfl) (by kernel_rfl) (by kernel_rfl) (fun _ _ _ h => h) (Or.inl ⟨by rfl, fun V hV => ?_⟩) hS9 ?_
                      · obtain ⟨z0, z1, z2, z3, z4, z5⟩ := hV; go_simp
                      try simp only [Act.put, List.setIfInBounds_toArray, List.set_cons_zero, List.set_cons_succ]
                      refine V_takeS [25] 131 (k := 15) (v := .pointer (some ⟨cbb, cbo + j * 4 + 3, none⟩)) rfl rfl (by kernel_rfl) (by kernel_rfl) (by kernel_rfl) (by kernel_rfl) (by kernel_rfl) (by kernel_rfl) (fun _ _ _ h => h) (Or.inl ⟨by rfl, fun V hV => ?_⟩) hS9 ?_
                      · obtain ⟨z0, z1, z2, z3, z4, z5⟩ := hV; go_simp
                      try simp only [Act.put, List.setIfInBounds_toArray, List.set_cons_zero, List.set_cons_succ]
                      refine V_takeS [25] 132 (k := 16) (v := .int .i64 sc) rfl rfl (by kernel_rfl) (by kernel_rfl) (by kernel_rfl) (by kernel_rfl) (by kernel_rfl) (by kernel_rfl) (fun _ _ _ h => h) (Or.inl ⟨by rfl, fun V hV => ?_⟩) hS9 ?_
                      · obtain ⟨z0, z1, z2, z3, z4, z5⟩ := hV; go_simp
                      try simp only [Act.put, List.setIfInBounds_toArray, List.set_cons_zero, List.set_cons_succ]
                      refine V_takeS [25] 133 (k := 17) (v := .slice (some ⟨xb, xo, none⟩) on xc) rfl rfl (by kernel_rfl) (by kernel_rfl) (by kernel_rfl) (by kernel_rfl) (by kernel_rfl) (by kernel_rfl) (fun _ _ _ h => h) (Or.inl ⟨by rfl, fun V hV => ?_⟩) hS9 ?_
                      · obtain ⟨z0, z1, z2, z3, z4, z5⟩ := hV; go_simp
                      try simp only [Act.put, List.setIfInBounds_toArray, List.set_cons_zero, List.set_cons_succ]
                      refine V_takeS [25] 134 (k := 18) (v := .int .i64 (p : Int)) rfl rfl (by kernel_rfl) (by kernel_rfl) (by kernel_rfl) (by kernel_rfl) (by kernel_rfl) (by kernel_rfl) (fun _ _ _ h => h) (Or.inl ⟨by rfl, fun V hV => ?_⟩) hS9 ?_
                      · obtain ⟨z0, z1, z2, z3, z4, z5⟩ := hV; go_simp
                      try simp only [Act.put, List.setIfInBounds_toArray, List.set_cons_zero, List.set_cons_succ]
                      refine V_takeS [25] 135 (k := 19) (v := .pointer (some ⟨xb, xo + p * 5, none⟩)) rfl rfl (by kernel_rfl) (by kernel_rfl) (by kernel_rfl) (by kernel_rfl) (by kernel_rfl) (by kernel_rfl) (fun _ _ _ h => h) (Or.inl ⟨by rfl, fun V hV => ?_⟩) hS9 ?_
                      · obtain ⟨z0, z1, z2, z3, z4, z5⟩ := hV; go_simp
                      try simp only [Act.put, List.setIfInBounds_toArray, List.set_cons_zero, List.set_cons_succ]
                      refine V_takeS [25] 136 (k := 20) (v := .pointer (some ⟨xb, xo + p * 5 + 2, none⟩)) rfl rfl (by kernel_rfl) (by kernel_rfl) (by kernel_rfl) (by kernel_rfl) (by kernel_rfl) (by kernel_rfl) (fun _ _ _ h => h) (Or.inl ⟨by rfl, fun V hV => ?_⟩) hS9 ?_
                      · obtain ⟨z0, z1, z2, z3, z4, z5⟩ := hV; go_simp
                      try simp only [Act.put, List.setIfInBounds_toArray, List.set_cons_zero, List.set_cons_succ]
                      refine V_takeS [25] 137 (k := 21) (v := .int .i64 (b : Int)) rfl rfl (by kernel_rfl) (by kernel_rfl) (by kernel_rfl) (by kernel_rfl) (by kernel_rfl) (by kernel_rfl) (fun _ _ _ h => h) (Or.inl ⟨by rfl, fun V hV => ?_⟩) hS9 ?_
                      · obtain ⟨z0, z1, z2, z3, z4, z5⟩ := hV; go_simp
                      try simp only [Act.put, List.setIfInBounds_toArray, List.set_cons_zero, List.set_cons_succ]
                      refine V_takeS [25] 138 (k := 22) (v := .bool false) rfl rfl (by kernel_rfl) (by kernel_rfl) (by kernel_rfl) (by kernel_rfl) (by kernel_rfl) (by kernel_rfl) (fun _ _ _ h => h) (Or.inl ⟨by rfl, fun V hV => ?_⟩) hS9 ?_
                      · obtain ⟨z0, z1, z2, z3, z4, z5⟩ := hV; go_simp
                      try simp only [Act.put, List.setIfInBounds_toArray, List.set_cons_zero, List.set_cons_succ]
                      refine V_takeS [25] 139 (k := 23) (v := .bool false) rfl rfl (by kernel_rfl) (by kernel_rfl) (by kernel_rfl) (by kernel_rfl) (by kernel_rfl) (by kernel_rfl) (fun _ _ _ h => h) (Or.inl ⟨by rfl, fun V hV => ?_⟩) hS9 ?_
                      · obtain ⟨z0, z1, z2, z3, z4, z5⟩ := hV; go_simp
                      try simp only [Act.put, List.setIfInBounds_toArray, List.set_cons_zero, List.set_cons_succ]
                      refine V_takeS [25] 140 (k := 24) (v := .bool false) rfl rfl (by kernel_rfl) (by kernel_rfl) (by kernel_rfl) (by kernel_rfl) (by kernel_rfl) (by kernel_rfl) (fun _ _ _ h => h) (Or.inl ⟨by rfl, fun V hV => ?_⟩) hS9 ?_
                      · obtain ⟨z0, z1, z2, z3, z4, z5⟩ := hV; go_simp
                      try simp only [Act.put, List.setIfInBounds_toArray, List.set_cons_zero, List.set_cons_succ]
                      refine U_one (i := 25) (listed' := #[true, true, true, true, true, true, true, true, true, true, true, true, true, true, true, true, true, true, true, true, true, true, true, true, true, true]) (by kernel_rfl) rfl (by kernel_rfl) rfl (fun K hK => ?_)
                      go_simp
                      refine hK _ _ (fun hh => by cases (show true = false from hh)) ?_
                      clear hK K
                      try simp only [Act.put, List.setIfInBounds_toArray, List.set_cons_zero, List.set_cons_succ]
                      refine U_done (by kernel_rfl) ?_ _
                      go_wp2
                      go_roundw
                      case rel => exact ⟨j + 1, by omega, by go_num, by rw [HT.out, decide_eq_false hbs, ← Bool.or_assoc, HTW.out]; rfl, HU.out.trans (H9.out.mono HU.out.size)⟩
                      case measure => simp [intOf]; omega
                  | false =>
                    clear n1 e0 e3 y2 r0 r1
                    refine region_plain (fun W : World => W.cell? ⟨N1, 1, none⟩ = some (.slice (some ⟨cbb, cbo, none⟩) cm cd) ∧ W.cell? ⟨R1, 0, none⟩ = some lo ∧ W.cell? ⟨R1, 1, none⟩ = some hi ∧ W.cell? ⟨cbb, cbo + j * 4, none⟩ = some (.slice ka i1 kc) ∧ W.cell? ⟨cbb, cbo + j * 4 + 3, none⟩ = some (.int .i64 sc) ∧ W.cell? ⟨xb, xo + p * 5 + 2, none⟩ = some (.int .i64 (b : Int))) 25 (by kernel_rfl) ?_
                    change wpAnyU _ _ _ _ _ 26 #[false, false, false, false, false, false, false, false, false, false, false, false, false, false, false, false, false, false, false, false, false, false, false, false, false, false] _ V.drew
                    refine V_takeS [25] 116 (k := 0) (v := .bool false) rfl rfl (by kernel_rfl) (by kernel_rfl) (by kernel_rfl) (by kernel_rfl) (by kernel_rfl) (by kernel_rfl) (fun _ _ _ h => h) (Or.inl ⟨by rfl, fun V hV => ?_⟩) hS ?_
                    · obtain ⟨z0, z1, z2, z3, z4, z5⟩ := hV; go_simp
                    try simp only [Act.put, List.setIfInBounds_toArray, List.set_cons_zero, List.set_cons_succ]
                    refine V_takeS [25] 117 (k := 1) (v := .bool false) rfl rfl (by kernel_rfl) (by kernel_rfl) (by kernel_rfl) (by kernel_rfl) (by kernel_rfl) (by kernel_rfl) (fun _ _ _ h => h) (Or.inl ⟨by rfl, fun V hV => ?_⟩) hS ?_
                    · obtain ⟨z0, z1, z2, z3, z4, z5⟩ := hV; go_simp
                    try simp only [Act.put, List.setIfInBounds_toArray, List.set_cons_zero, List.set_cons_succ]
                    refine V_takeS [25] 118 (k := 2) (v := .pointer (some ⟨N1, 1, none⟩)) rfl rfl (by kernel_rfl) (by kernel_rfl) (by kernel_rfl) (by kernel_rfl) (by kernel_rfl) (by kernel_rfl) (fun _ _ _ h => h) (Or.inl ⟨by rfl, fun V hV => ?_⟩) hS ?_
                    · obtain ⟨z0, z1, z2, z3, z4, z5⟩ := hV; go_simp
                    try simp only [Act.put, List.setIfInBounds_toArray, List.set_cons_zero, List.set_cons_succ]
                    refine V_takeS [25] 119 (k := 3) (v := .slice (some ⟨cbb, cbo, none⟩) cm cd) rfl rfl (by kernel_rfl) (by kernel_rfl) (by kernel_rfl) (by kernel_rfl) (by kernel_rfl) (by kernel_rfl) (fun _ _ _ h => h) (Or.inl ⟨by rfl, fun V hV => ?_⟩) hS ?_
                    · obtain ⟨z0, z1, z2, z3, z4, z5⟩ := hV; go_simp
                    try simp only [Act.put, List.setIfInBounds_toArray, List.set_cons_zero, List.set_cons_succ]
                    refine V_takeS [25] 120 (k := 4) (v := .int .i64 (j : Int)) rfl rfl (by kernel_rfl) (by kernel_rfl) (by kernel_rfl) (by kernel_rfl) (by kernel_rfl) (by kernel_rfl) (fun _ _ _ h => h) (Or.inl ⟨by rfl, fun V hV => ?_⟩) hS ?_
                    · obtain ⟨z0, z1, z2, z3, z4, z5⟩ := hV; go_simp
                    try simp only [Act.put, List.setIfInBounds_toArray, List.set_cons_zero, List.set_cons_succ]
                    refine V_takeS [25] 121 (k := 5) (v := .pointer (some ⟨cbb, cbo + j * 4, none⟩)) rfl rfl (by kernel_rfl) (by kernel_rfl) (by kernel_rfl) (by kernel_rfl) (by kernel_rfl) (by kernel_rfl) (fun _ _ _ h => h) (Or.inl ⟨by rfl, fun V hV => ?_⟩) hS ?_
                    · obtain ⟨z0, z1, z2, z3, z4, z5⟩ := hV; go_simp
                    try simp only [Act.put, List.setIfInBounds_toArray, List.set_cons_zero, List.set_cons_succ]
                    refine V_takeS [25] 122 (k := 6) (v := .pointer (some ⟨cbb, cbo + j * 4, none⟩)) rfl rfl (by kernel_rfl) (by kernel_rfl) (by kernel_rfl) (by kernel_rfl) (by kernel_rfl) (by kernel_rfl) (fun _ _ _ h => h) (Or.inl ⟨by rfl, fun V hV => ?_⟩) hS ?_
                    · obtain ⟨z0, z1, z2, z3, z4, z5⟩ := hV; go_simp
                    try simp only [Act.put, List.setIfInBounds_toArray, List.set_cons_zero, List.set_cons_succ]
                    refine V_takeS [25] 123 (k := 7) (v := .slice ka i1 kc) rfl rfl (by kernel_rfl) (by kernel_rfl) (by kernel_rfl) (by kernel_rfl) (by kernel_rfl) (by kernel_rfl) (fun _ _ _ h => h) (Or.inl ⟨by rfl, fun V hV => ?_⟩) hS ?_
                    · obtain ⟨z0, z1, z2, z3, z4, z5⟩ := hV; go_simp
                    try simp only [Act.put, List.setIfInBounds_toArray, List.set_cons_zero, List.set_cons_succ]
                    refine V_takeS [25] 124 (k := 8) (v := .agg #[lo, hi]) rfl rfl (by kernel_rfl) (by kernel_rfl) (by kernel_rfl) (by kernel_rfl) (by kernel_rfl) (by kernel_rfl) (fun _ _ _ h => h) (Or.inl ⟨by rfl, fun V hV => ?_⟩) hS ?_
                    · obtain ⟨z0, z1, z2, z3, z4, z5⟩ := hV; go_simp
                    try simp only [Act.put, List.setIfInBounds_toArray, List.set_cons_zero, List.set_cons_succ]
                    refine U_oneG (i := 9) (listed' := #[true, true, true, true, true, true, true, true, true, true, false, false, false, false, false, false, false, false, false, false, false, false, false, false, false, false]) (by kernel_rfl) rfl (by kernel_rfl) (by rfl) (fun K hK => ?_)
                    go_simp
                    refine (cW.out _ (Below.refl _ _).drew).mono ?_
                    rintro e w9 ⟨rfl, H9⟩
                    have hS9 := HSV.out _ H9.out
                    refine hK _ _ (fun _ => hS9) ?_
                    clear hK K
                    try simp only [Act.put, List.setIfInBounds_toArray, List.set_cons_zero, List.set_cons_succ]
                    clear cW hS
                    refine V_takeS [25] 126 (k := 10) (v := .bool false) rfl rfl (by kernel_rfl) (by kernel_rfl) (by kernel_rfl) (by kernel_rfl) (by kernel_rfl) (by kernel_rfl) (fun _ _ _ h => h) (Or.inl ⟨by rfl, fun V hV => ?_⟩) hS9 ?_
                    · obtain ⟨z0, z1, z2, z3, z4, z5⟩ := hV; go_simp
                    try simp only [Act.put, List.setIfInBounds_toArray, List.set_cons_zero, List.set_cons_succ]
                    refine V_takeS [25] 127 (k := 11) (v := undef) rfl rfl (by kernel_rfl) (by kernel_rfl) (by kernel_rfl) (by kernel_rfl) (by kernel_rfl) (by kernel_rfl) (fun _ _ _ h => h) (Or.inr ⟨by rfl, rfl⟩) hS9 ?_
                    try simp only [Act.put, List.setIfInBounds_toArray, List.set_cons_zero, List.set_cons_succ]
                    refine V_takeS [25] 128 (k := 12) (v := undef) rfl rfl (by kernel_rfl) (by kernel_rfl) (by kernel_rfl) (by kernel_rfl) (by kernel_rfl) (by kernel_rfl) (fun _ _ _ h => h) (Or.inr ⟨by rfl, rfl⟩) hS9 ?_
                    try simp only [Act.put, List.setIfInBounds_toArray, List.set_cons_zero, List.set_cons_succ]
                    refine V_takeS [25] 129 (k := 13) (v := undef) rfl rfl (by kernel_rfl) (by kernel_rfl) (by kernel_rfl) (by kernel_rfl) (by kernel_rfl) (by kernel_rfl) (fun _ _ _ h => h) (Or.inr ⟨by rfl, rfl⟩) hS9 ?_
                    try simp only [Act.put, List.setIfInBounds_toArray, List.set_cons_zero, List.set_cons_succ]
                    refine V_takeS [25] 130 (k := 14) (v := undef) rfl rfl (by kernel_rfl) (by kernel_rfl) (by kernel_rfl) (by kernel_rfl) (by kernel_rfl) (by kernel_rfl) (fun _ _ _ h => h) (Or.inr ⟨by rfl, rfl⟩) hS9 ?_
                    try simp only [Act.put, List.setIfInBounds_toArray, List.set_cons_zero, List.set_cons_succ]
                    refine V_takeS [25] 131 (k := 15) (v := undef) rfl rfl (by kernel_rfl) (by kernel_rfl) (by kernel_rfl) (by kernel_rfl) (by kernel_rfl) (by kernel_rfl) (fun _ _ _ h => h) (Or.inr ⟨by rfl, rfl⟩) hS9 ?_
                    try simp only [Act.put, List.setIfInBounds_toArray, List.set_cons_zero, List.set_cons_succ]
                    refine V_takeS [25] 132 (k := 16) (v := undef) rfl rfl (by kernel_rfl) (by kernel_rfl) (by kernel_rfl) (by kernel_rfl) (by kernel_rfl) (by kernel_rfl) (fun _ _ _ h => h) (Or.inr ⟨by rfl, rfl⟩) hS9 ?_
                    try simp only [Act.put, List.setIfInBounds_toArray, List.set_cons_zero, List.set_cons_succ]
                    refine V_takeS [25] 133 (k := 17) (v := undef) rfl rfl (by kernel_rfl) (by kernel_rfl) (by kernel_rfl) (by kernel_rfl) (by kernel_rfl) (by kernel_rfl) (fun _ _ _ h => h) (Or.inr ⟨by rfl, rfl⟩) hS9 ?_
                    try simp only [Act.put, List.setIfInBounds_toArray, List.set_cons_zero, List.set_cons_succ]
                    refine V_takeS [25] 134 (k := 18) (v := undef) rfl rfl (by kernel_rfl) (by kernel_rfl) (by kernel_rfl) (by kernel_rfl) (by kernel_rfl) (by kernel_rfl) (fun _ _ _ h => h) (Or.inr ⟨by rfl, rfl⟩) hS9 ?_
                    try simp only [Act.put, List.setIfInBounds_toArray, List.set_cons_zero, List.set_cons_succ]
                    refine V_takeS [25] 135 (k := 19) (v := undef) rfl rfl (by kernel_rfl) (by kernel_rfl) (by kernel_rfl) (by kernel_rfl) (by kernel_rfl) (by kernel_rfl) (fun _ _ _ h => h) (Or.inr ⟨by rfl, rfl⟩) hS9 ?_
                    try simp only [Act.put, List.setIfInBounds_toArray, List.set_cons_zero, List.set_cons_succ]
                    refine V_takeS [25] 136 (k := 20) (v := undef) rfl rfl (by kernel_rfl) (by kernel_rfl) (by kernel_rfl) (by kernel_rfl) (by kernel_rfl) (by kernel_rfl) (fun _ _ _ h => h) (Or.inr ⟨by rfl, rfl⟩) hS9 ?_
                    try simp only [Act.put, List.setIfInBounds_toArray, List.set_cons_zero, List.set_cons_succ]
                    refine V_takeS [25] 137 (k := 21) (v := undef) rfl rfl (by kernel_rfl) (by kernel_rfl) (by kernel_rfl) (by kernel_rfl) (by kernel_rfl) (by kernel_rfl) (fun _ _ _ h => h) (Or.inr ⟨by rfl, rfl⟩) hS9 ?_
                    try simp only [Act.put, List.setIfInBounds_toArray, List.set_cons_zero, List.set_cons_succ]
                    refine V_takeS [25] 138 (k := 22) (v := undef) rfl rfl (by kernel_rfl) (by kernel_rfl) (by kernel_rfl) (by kernel_rfl) (by kernel_rfl) (by kernel_rfl) (fun _ _ _ h => h) (Or.inr ⟨by rfl, rfl⟩) hS9 ?_
                    try simp only [Act.put, List.setIfInBounds_toArray, List.set_cons_zero, List.set_cons_succ]
                    refine V_takeS [25] 139 (k := 23) (v := .bool false) rfl rfl (by kernel_rfl) (by kernel_rfl) (by kernel_rfl) (by kernel_rfl) (by kernel_rfl) (by kernel_rfl) (fun _ _ _ h => h) (Or.inl ⟨by rfl, fun V hV => ?_⟩) hS9 ?_
                    · obtain ⟨z0, z1, z2, z3, z4, z5⟩ := hV; go_simp
                    try simp only [Act.put, List.setIfInBounds_toArray, List.set_cons_zero, List.set_cons_succ]
                    refine V_takeS [25] 140 (k := 24) (v := .bool false) rfl rfl (by kernel_rfl) (by kernel_rfl) (by kernel_rfl) (by kernel_rfl) (by kernel_rfl) (by kernel_rfl) (fun _ _ _ h => h) (Or.inl ⟨by rfl, fun V hV => ?_⟩) hS9 ?_
                    · obtain ⟨z0, z1, z2, z3, z4, z5⟩ := hV; go_simp
                    try simp only [Act.put, List.setIfInBounds_toArray, List.set_cons_zero, List.set_cons_succ]
                    refine U_one (i := 25) (listed' := #[true, true, true, true, true, true, true, true, true, true, true, true, true, true, true, true, true, true, true, true, true, true, true, true, true, true]) (by kernel_rfl) rfl (by kernel_rfl) rfl (fun K hK => ?_)
                    go_simp
                    refine hK _ _ (fun hh => by cases (show true = false from hh)) ?_
                    clear hK K
                    try simp only [Act.put, List.setIfInBounds_toArray, List.set_cons_zero, List.set_cons_succ]
                    refine U_done (by kernel_rfl) ?_ _
                    go_wp2
                    go_roundw
                    case rel => exact ⟨j + 1, by omega, by go_num, by rw [HT.out, ← Bool.or_assoc, HTW.out]; rfl, HU.out.trans (H9.out.mono HU.out.size)⟩
                    case measure => simp [intOf]; omega
              · have hjm : j = cm := by omega
                have ij : ¬ (j : Int) < (cm : Int) := by omega
                have HTE : Hid ((tv || hitC (b : Int) r (SN.cells.take j)) = touchC (b : Int) (rs.take (k + 1)) SN.cells) := by
                  show _ = _
                  rw [HTK.out.2, List.take_of_length_le (by rw [hjm, HVN.out.lc]; exact Nat.le_refl _)]
                rw [HTE.out]
                clear hjm
                go_wp2
                go_roundw
                case rel => exact ⟨k + 1, by omega, by go_num, rfl, rfl, HU12.out⟩
                case measure => simp [intOf]; omega
        · have hkn : k = rn := by omega
          have ik : ¬ (k : Int) < (rn : Int) := by omega
          have htk : rs.take k = rs := List.take_of_length_le (by rw [hkn, HRS.out.1]; exact Nat.le_refl _)
          rw [htk]
          have HB5 := put_by (HR.out.trans ((H13.out.trans (HB.out.mono H13.out.size)).mono HR.out.size))
          have z0 := HZC.out V HB5.out
          clear htk hkn hvb hvn hbv
          rcases HZ.out with ⟨rfl, hs⟩ | ⟨rfl, hs⟩ | rfl
          · rw [hs]
            generalize touchC (b : Int) rs SN.cells = tv
            go_wp2
            go_roundw
            case rel => exact ⟨p + 1, by omega, by go_num, HB5.out⟩
            case measure => simp [intOf]; omega
          · rw [hs]
            generalize sameK (snapK SB.cells) (snapK SN.cells) rs = sv
            go_wp2
            go_roundw
            case rel => exact ⟨p + 1, by omega, by go_num, HB5.out⟩
            case measure => simp [intOf]; omega
          · generalize touchC (b : Int) rs SN.cells = tv
            generalize sameK (snapK SB.cells) (snapK SN.cells) rs = sv
            go_wp2
            go_roundw
            case rel => exact ⟨p + 1, by omega, by go_num, HB5.out⟩
            case measure => simp [intOf]; omega
    · have ip : ¬ (p : Int) < (on : Int) := by omega
      have cM : Hid (∀ V, Calls Try.prog 14 #[.agg #[.int .i64 0, .slice none 0 0, .slice none 0 0]] V fun e w' => e = .returned (.bool true) ∧ Hid (Below V.heap.size V w')) := fun V => MayS_any (fun _ => True) 0 [] [] none 0 none 0 V ⟨Lies.nil _ _ _ (fun _ => rfl), Lies.nil _ _ _ (fun _ => rfl), by simp⟩ true ⟨fun _ => noSta_may, fun _ => rfl⟩
      go_wp2_with (first
        | (go_at_call 14; (with_reducible refine (cM.out _).mono ?_); clear cM; rintro e w2 ⟨rfl, H2⟩))
      exact HP.out _ (HB1.out.trans ((HBW.out.trans (H2.out.mono HBW.out.size)).mono HB1.out.size))

end Go.Proofs.Ytjjdednlddnllab
