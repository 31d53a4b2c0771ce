/- A log that is played in two parts, the state between saved and loaded, comes to the same: the walk. -/
import Derived.Test.YtjjdednlddnllaaMpP
namespace Go.Proofs.Ytjjdednlddnllaa
open Go.ChangeShapes Go.WideShapes Go.ChangeAt Go.RowKit

set_option maxRecDepth 100000 in
set_option maxHeartbeats 4000000 in
theorem MeldParts_any (l : List Wsh) (la : Option Addr) (lc : Nat) (at' : Int) (w : World) (hL : Lies kWi (fun _ => True) w la lc l) :
    Calls Try.prog 8 #[.slice la l.length lc, .int .i64 at'] w fun e w' => e = .returned (.bool true) ∧ Below w.heap.size w w' := by
  generalize hpost : (fun (e : Ending) (w' : World) => e = .returned (.bool true) ∧ Below w.heap.size w w') = Q
  have HO : Hid (∀ w', ¬ Q .outgrown w') := fun w' hh => by
    rw [← hpost] at hh
    cases hh.1
  have HP : Hid (∀ w', Below w.heap.size w w' → Q (.returned (.bool true)) w') := fun w' h => by rw [← hpost]; exact ⟨rfl, h⟩
  clear hpost
  have c0 : Hid (Calls Try.prog 24 #[.slice la l.length lc, .int .i64 24] w fun e w' => ∃ (oa : Option Addr) (on oc : Nat) (xa : Option Addr) (xn xc : Nat), e = .returned (.tuple #[.slice oa on oc, .slice xa xn xc, .bool true]) ∧ Hid (∃ js : List Itt, LogJ 24 js ∧ on = js.length ∧ xn = js.length ∧ Lies kLog (fun b => w.heap.size ≤ b) w' oa oc (js.map encI) ∧ Ples oa oc ∧ Lies kItt (fun b => w.heap.size ≤ b) w' xa xc js ∧ Below w.heap.size w w')) := LogOf_law l la lc 24 (by omega) w w (Below.refl _ _) hL
  clear hL
  generalize l.length = nl at c0 ⊢
  go_enter Try.func8, Try.ntmps8
  go_upto_region 4 with (first
    | (go_at_call 24; (with_reducible refine c0.out.mono ?_); clear c0; rintro e w1 ⟨oa, on, oc, xa, xn, xc, rfl, H1⟩))
  obtain ⟨js, hJ, hon, -, hlog, hples, -, hbw⟩ := H1.out
  have HJ := put_by (And.intro hJ hon)
  have HLG := put_by (hlog.move (ok' := fun _ => True) (Kept.of_below (Below.refl _ _)) (fun _ _ _ => trivial))
  have HPL := put_by hples
  have HB1 := put_by hbw
  have hoc : on ≤ oc := by have := hlog.1; rw [List.length_map] at this; omega
  have hon24 : on ≤ 24 := by rw [hon]; exact hJ.1
  clear H1 hJ hon hlog hples hbw
  obtain ⟨k, hk⟩ : ∃ k : Nat, (k : Int) = at' % ((on : Int) + 1) := ⟨(at' % ((on : Int) + 1)).toNat, Int.toNat_of_nonneg (Int.emod_nonneg _ (by omega))⟩
  have hkn : k ≤ on := by have := Int.emod_lt_of_pos at' (show (0 : Int) < (on : Int) + 1 by omega); omega
  have cK : Hid (∀ V, Calls Try.prog 25 #[.int .i64 at', .int .i64 ((on : Int) + 1)] V fun e w' => e = .returned (.int .i64 (k : Int)) ∧ V = w') := fun V => by rw [hk]; exact Picked_any at' _ (by omega) (by omega) V
  have iw1 : IntKind.i64.wrap ((on : Int) + 1) = (on : Int) + 1 := by rw [IntKind.wrap_i64]; omega
  clear hk
  obtain ⟨s2, hs2⟩ : ∃ s2, s2 = (playM noSta ((js.take k).map some)).1 := ⟨_, rfl⟩
  have htk : (js.take k).length = k := by rw [List.length_take, ← HJ.out.2]; omega
  have hmt : ∀ x ∈ js.take k, Mild x := fun x hx => HJ.out.1.2.1 x (List.mem_of_mem_take hx)
  have HS2 : Hid (s2 = (playM noSta ((js.take k).map some)).1 ∧ MayS s2 ∧ s2.pos = (k : Int) ∧ s2.cells.length ≤ 9600 ∧ s2.dones.length ≤ 24) := by
    have h1 := may_js hmt (by omega)
    have h2 := few_js hmt
    have h3 := playM_pos ((js.take k).map some) noSta
    rw [List.length_map, htk] at h3
    have h4 : noSta.pos = 0 := rfl
    rw [← hs2] at h1 h2 h3
    exact ⟨hs2, h1, by omega, by omega, by omega⟩
  have cP1 : Hid (∀ V, Below w1.heap.size w1 V → Calls Try.prog 11 #[.agg #[.int .i64 0, .slice none 0 0, .slice none 0 0], .slice oa on oc] V fun e w' => ∃ (p : Int) (a : Option Addr) (n c : Nat) (a2 : Option Addr) (n2 c2 : Nat) (a3 : Option Addr) (c3 : Nat), e = .returned (.tuple #[.agg #[.int .i64 p, .slice a n c, .slice a2 n2 c2], .slice a3 on c3, .int .i64 0]) ∧ Hid (PlH noSta (js.map some) p a n c a2 n2 c2 a3 on c3 w' ∧ Below V.heap.size V w')) := fun V hV => Play_law (HLG.out.later hV) (tells_js HJ.out.1.2.1) (by rw [List.length_map, ← HJ.out.2]; omega) (by rw [List.length_map]; exact HJ.out.2)
  have cP2 : Hid (∀ V, Below w1.heap.size w1 V → Calls Try.prog 11 #[.agg #[.int .i64 0, .slice none 0 0, .slice none 0 0], .slice oa k oc] V fun e w' => ∃ (p : Int) (a : Option Addr) (n c : Nat) (a2 : Option Addr) (n2 c2 : Nat) (a3 : Option Addr) (c3 : Nat), e = .returned (.tuple #[.agg #[.int .i64 p, .slice a n c, .slice a2 n2 c2], .slice a3 k c3, .int .i64 0]) ∧ Hid (PlH noSta ((js.take k).map some) p a n c a2 n2 c2 a3 k c3 w' ∧ Below V.heap.size V w')) := fun V hV => Play_law (log_take (HLG.out.later hV) k) (tells_js hmt) (by rw [List.length_map, htk]; omega) (by rw [List.length_map, htk])
  have cS : Hid (∀ V p a n c a2 n2 c2, QSt s2 p a n c a2 n2 c2 V → Calls Try.prog 18 #[.agg #[.int .i64 p, .slice a n c, .slice a2 n2 c2]] V fun e w' => ∃ (sa : Option Addr) (sm sk : Nat), e = .returned (.tuple #[.slice sa sm sk, .int .i64 0]) ∧ Hid (sm = (encS s2).length ∧ Octs w' sa sk (encS s2) ∧ Below V.heap.size V w')) := fun V p a n c a2 n2 c2 h => Save_good HS2.out.2.1 (by have h1 := encS_few HS2.out.2.1; have h2 := HS2.out.2.2.2; omega) h.pos h.cn h.dn h.st
  have cL : Hid (∀ V sa sm sk, sm = (encS s2).length → Octs V sa sk (encS s2) → Calls Try.prog 21 #[.slice sa sm sk] V fun e w' => ∃ (a : Option Addr) (n c : Nat) (a2 : Option Addr) (n2 c2 : Nat), e = .returned (.tuple #[.agg #[.int .i64 (k : Int), .slice a n c, .slice a2 n2 c2], .int .i64 0]) ∧ Hid (n = s2.cells.length ∧ n2 = s2.dones.length ∧ StIs (fun _ => True) w' s2.cells s2.dones a c a2 c2 ∧ Below V.heap.size V w')) := fun V sa sm sk h1 h2 => Load_from HS2.out.2.1 (by have h2 := HS2.out.2.2.2; omega) (by have h2 := HS2.out.2.2.2; omega) HS2.out.2.2.1 h1 h2
  clear htk hmt hs2
  go_upto_region 5 with (first
    | (go_at_call 25; (with_reducible refine (cK.out _).mono ?_); clear cK; rintro e w2 ⟨rfl, rfl⟩))
  clear iw1
  go_upto_region 6 with (first
    | (go_at_call 11; (with_reducible refine (cP1.out _ (Below.refl _ _)).mono ?_); clear cP1; rintro e w2 ⟨p1, ca, cn, cc, da, dn, dc, t1, q1, rfl, H5⟩))
  obtain rfl : p1 = (on : Int) := by
    have h1 := H5.out.1.pos
    rw [playM_pos, List.length_map, ← HJ.out.2] at h1
    have h4 : noSta.pos = 0 := rfl
    omega
  have h5 : Below w2.heap.size w2 (w2.alloc (.cells #[.int .i64 (on : Int), .slice ca cn cc, .slice da dn dc] 25)) := (Below.refl _ _).alloc (Nat.le_refl _) _
  have V5 := put_by (Cls.new w2 [.int .i64 (on : Int), .slice ca cn cc, .slice da dn dc] 25)
  have P5 := put_by (H5.out.1.later h5)
  have B5 : Hid (Below w1.heap.size w1 (w2.alloc (.cells #[.int .i64 (on : Int), .slice ca cn cc, .slice da dn dc] 25))) := H5.out.2.trans (h5.mono H5.out.2.size)
  clear h5 H5
  generalize w2.alloc (.cells #[.int .i64 (on : Int), .slice ca cn cc, .slice da dn dc] 25) = W5 at V5 P5 B5 ⊢
  generalize w2.heap.size = A1 at V5 ⊢
  rcases HPL.out with ⟨rfl, rfl⟩ | ⟨b, off, rfl⟩
  · obtain rfl : on = 0 := by omega
    obtain rfl : k = 0 := by omega
    have HLT0 : Hid (Lies kLog (fun _ => True) w1 none 0 ((js.drop 0).map encI)) := by
      have h : js = [] := List.length_eq_zero_iff.1 HJ.out.2.symm
      rw [h]
      exact Lies.nil _ _ _ (fun _ => rfl)
    have HMD : Hid (0 = ((js.drop 0).map encI).length) := by show _ = _; rw [List.length_map, List.length_drop, ← HJ.out.2]
    go_upto_region 7 with (first
      | (go_at_call 11; (with_reducible refine (cP2.out _ B5.out).mono ?_); clear cP2; rintro e w3 ⟨p2, ea, en, ec, fa, fn, fc, t2, q2, rfl, H6⟩))
    have h6 : Below w3.heap.size w3 (w3.alloc (.cells #[.int .i64 p2, .slice ea en ec, .slice fa fn fc] 25)) := (Below.refl _ _).alloc (Nat.le_refl _) _
    have V6 := put_by (Cls.new w3 [.int .i64 p2, .slice ea en ec, .slice fa fn fc] 25)
    have B6 : Hid (Below W5.heap.size W5 (w3.alloc (.cells #[.int .i64 p2, .slice ea en ec, .slice fa fn fc] 25))) := H6.out.2.trans (h6.mono H6.out.2.size)
    have Q6 : Hid (QSt s2 p2 ea en ec fa fn fc (w3.alloc (.cells #[.int .i64 p2, .slice ea en ec, .slice fa fn fc] 25)) ∧ Lies kNum (fun _ => True) (w3.alloc (.cells #[.int .i64 p2, .slice ea en ec, .slice fa fn fc] 25)) t2 q2 (playM noSta ((js.take 0).map some)).2) := by
      rw [HS2.out.1]
      have h := H6.out.1.later h6
      exact ⟨⟨h.pos, h.cn, h.dn, h.st⟩, h.told⟩
    clear h6 H6
    generalize w3.alloc (.cells #[.int .i64 p2, .slice ea en ec, .slice fa fn fc] 25) = W6 at V6 B6 Q6 ⊢
    generalize w3.heap.size = A2 at V6 ⊢
    obtain ⟨y0, -⟩ := V6.out 0 _ rfl
    obtain ⟨y1, -⟩ := V6.out 1 _ rfl
    obtain ⟨y2, -⟩ := V6.out 2 _ rfl
    go_upto_region 8 with (first
      | (go_at_call 18; (with_reducible refine (cS.out _ _ _ _ _ _ _ _ Q6.out.1).mono ?_); clear cS; rintro e w4 ⟨sa, sm, sk, rfl, H7⟩))
    clear y0 y1 y2
    go_upto_region 9 with (first
      | (go_at_call 21; (with_reducible refine (cL.out _ _ _ _ H7.out.1 H7.out.2.1).mono ?_); clear cL; rintro e w5 ⟨ga, gn, gc, ha, hn, hc, rfl, H8⟩))
    have h8 : Below w5.heap.size w5 (w5.alloc (.cells #[.int .i64 (0 : Int), .slice ga gn gc, .slice ha hn hc] 25)) := (Below.refl _ _).alloc (Nat.le_refl _) _
    have V8 := put_by (Cls.new w5 [.int .i64 (0 : Int), .slice ga gn gc, .slice ha hn hc] 25)
    have B8 : Hid (Below W6.heap.size W6 (w5.alloc (.cells #[.int .i64 (0 : Int), .slice ga gn gc, .slice ha hn hc] 25))) := H7.out.2.2.trans ((H8.out.2.2.2.trans (h8.mono H8.out.2.2.2.size)).mono H7.out.2.2.size)
    have L8 : Hid (QSt s2 (0 : Int) ga gn gc ha hn hc (w5.alloc (.cells #[.int .i64 (0 : Int), .slice ga gn gc, .slice ha hn hc] 25))) := ⟨HS2.out.2.2.1.symm, H8.out.1, H8.out.2.1, H8.out.2.2.1.later h8⟩
    clear h8 H7 H8
    generalize w5.alloc (.cells #[.int .i64 (0 : Int), .slice ga gn gc, .slice ha hn hc] 25) = W8 at V8 B8 L8 ⊢
    generalize w5.heap.size = A3 at V8 ⊢
    have B58 : Hid (Below W5.heap.size W5 W8) := B6.out.trans (B8.out.mono B6.out.size)
    have B18 : Hid (Below w1.heap.size w1 W8) := B5.out.trans (B58.out.mono B5.out.size)
    have HLT := put_by (HLT0.out.later B18.out)
    have V58 := put_by (V5.out.later B58.out)
    have P58 := put_by (P5.out.later B58.out)
    have V68 := put_by (V6.out.later B8.out)
    have Q68 := put_by (And.intro (Q6.out.1.later B8.out) (Q6.out.2.later B8.out))
    clear V5 P5 V6 Q6 HLT0
    have HSV : Hid (∀ V : World, Below W8.heap.size W8 V → V.cell? ⟨A3, 0, none⟩ = some (.int .i64 (0 : Int)) ∧ V.cell? ⟨A3, 1, none⟩ = some (.slice ga gn gc) ∧ V.cell? ⟨A3, 2, none⟩ = some (.slice ha hn hc)) := fun V hV => by
      have h := V8.out.later hV
      exact ⟨(h 0 _ rfl).1, (h 1 _ rfl).1, (h 2 _ rfl).1⟩
    have cP3 : Hid (∀ V m ta tc, Below W8.heap.size W8 V → Lies kLog (fun _ => True) W8 ta tc ((js.drop 0).map encI) → m = ((js.drop 0).map encI).length → Calls Try.prog 11 #[.agg #[.int .i64 (0 : Int), .slice ga gn gc, .slice ha hn hc], .slice ta m tc] V fun e w' => ∃ (p : Int) (a : Option Addr) (n c : Nat) (a2 : Option Addr) (n2 c2 : Nat) (a3 : Option Addr) (c3 : Nat), e = .returned (.tuple #[.agg #[.int .i64 p, .slice a n c, .slice a2 n2 c2], .slice a3 m c3, .int .i64 0]) ∧ Hid (PlQ (fun b => V.heap.size ≤ b) s2 ((js.drop 0).map some) p a n c a2 n2 c2 a3 m c3 w' ∧ Below V.heap.size V w')) := fun V m ta tc hV hl hm => by
      have hll : ((js.drop 0).map encI).length ≤ 24 := by rw [List.length_map, List.length_drop, ← HJ.out.2]; omega
      have h2 := HS2.out.2.2
      exact Play_fresh L8.out.pos L8.out.cn L8.out.dn (L8.out.st.later hV) HS2.out.2.1 (hl.later hV) (tells_js (fun x hx => HJ.out.1.2.1 x (List.mem_of_mem_drop hx))) (by omega) hm (by omega) (by omega) (by omega)
    go_cut [19, 20, 21] from 61 to 69 (fun pb cx ee wx => ∃ (AX : Nat) (p3 : Int) (cb : Option Addr) (cm cd : Nat) (db : Option Addr) (dm dd : Nat) (tb : Option Addr) (tm td : Nat), pb = .pointer (some ⟨AX, 0, none⟩) ∧ cx = .slice tb tm td ∧ ee = .int .i64 0 ∧ Hid (tm = ((js.drop 0).map encI).length ∧ Cls wx AX [.int .i64 p3, .slice cb cm cd, .slice db dm dd] ∧ PlQ (fun _ => True) s2 ((js.drop 0).map some) p3 cb cm cd db dm dd tb tm td wx ∧ Below W8.heap.size W8 wx))
    case first =>
      have hS := HSV.out W8.drew (Below.refl _ _).drew
      have HB : Hid (Below W8.heap.size W8 W8.drew) := (Below.refl _ _).drew
      refine region_plain (fun V : World => V.cell? ⟨A3, 0, none⟩ = some (.int .i64 (0 : Int)) ∧ V.cell? ⟨A3, 1, none⟩ = some (.slice ga gn gc) ∧ V.cell? ⟨A3, 2, none⟩ = some (.slice ha hn hc)) 12 (by kernel_rfl) ?_
      change wpAnyU _ _ _ _ _ 13 #[false, false, false, false, false, false, false, false, false, false, false, false, false] _ W8.drew
      refine V_takeS [12] 62 (k := 0) (v := .agg #[.int .i64 0, .slice ga gn gc, .slice ha hn hc]) rfl rfl (by kernel_rfl) (by kernel_rfl) (by kernel_rfl) (by kernel_rfl) (by kernel_rfl) (by kernel_rfl) (fun _ _ _ h => h) (Or.inl ⟨by rfl, fun V hV => ?_⟩) hS ?_
      · obtain ⟨z0, z1, z2⟩ := hV; go_simp
      try simp only [Act.put, List.setIfInBounds_toArray, List.set_cons_zero, List.set_cons_succ]
      refine V_takeS [12] 63 (k := 1) (v := .slice none 0 0) rfl rfl (by kernel_rfl) (by kernel_rfl) (by kernel_rfl) (by kernel_rfl) (by kernel_rfl) (by kernel_rfl) (fun _ _ _ h => h) (Or.inl ⟨by rfl, fun V hV => ?_⟩) hS ?_
      · obtain ⟨z0, z1, z2⟩ := hV; go_simp
      try simp only [Act.put, List.setIfInBounds_toArray, List.set_cons_zero, List.set_cons_succ]
      refine V_takeS [12] 64 (k := 2) (v := .int .i64 0) rfl rfl (by kernel_rfl) (by kernel_rfl) (by kernel_rfl) (by kernel_rfl) (by kernel_rfl) (by kernel_rfl) (fun _ _ _ h => h) (Or.inl ⟨by rfl, fun V hV => ?_⟩) hS ?_
      · obtain ⟨z0, z1, z2⟩ := hV; go_simp
      try simp only [Act.put, List.setIfInBounds_toArray, List.set_cons_zero, List.set_cons_succ]
      refine V_takeS [12] 65 (k := 3) (v := .slice none 0 0) rfl rfl (by kernel_rfl) (by kernel_rfl) (by kernel_rfl) (by kernel_rfl) (by kernel_rfl) (by kernel_rfl) (fun _ _ _ h => h) (Or.inl ⟨by rfl, fun V hV => ?_⟩) hS ?_
      · obtain ⟨z0, z1, z2⟩ := hV; go_simp
      try simp only [Act.put, List.setIfInBounds_toArray, List.set_cons_zero, List.set_cons_succ]
      refine U_two (i := 4) (j := 9) (by kernel_rfl) rfl rfl rfl rfl (fun K hK => ?_) (fun K hK => ?_)
      · go_simp
        refine (cP3.out _ _ _ _ HB.out HLT.out HMD.out).mono ?_
        rintro e wp ⟨p3, cb, cm, cd, db, dm, dd, tb, td, rfl, H9⟩
        have HBn : Hid (Below W8.heap.size W8 wp) := HB.out.trans (H9.out.2.mono HB.out.size)
        have hSn := HSV.out _ HBn.out
        have HPL9 : Hid (PlQ (fun b => W8.heap.size ≤ b) s2 ((js.drop 0).map some) p3 cb cm cd db dm dd tb 0 td wp) := H9.out.1
        refine hK _ _ (fun _ => hSn) ?_
        clear hK K HB hS H9
        try simp only [List.setIfInBounds_toArray, List.set_cons_zero, List.set_cons_succ]
        have HB := HBn
        have hS := hSn
        clear HBn hSn
        refine V_takeS [12] 61 (k := 5) (v := .tuple #[.agg #[.int .i64 p3, .slice cb cm cd, .slice db dm dd], .slice tb 0 td, .int .i64 0]) rfl rfl (by kernel_rfl) (by kernel_rfl) (by kernel_rfl) (by kernel_rfl) (by kernel_rfl) (by kernel_rfl) (fun _ _ _ h => h) (Or.inl ⟨by rfl, fun V hV => ?_⟩) hS ?_
        · obtain ⟨z0, z1, z2⟩ := hV; go_simp
        try simp only [Act.put, List.setIfInBounds_toArray, List.set_cons_zero, List.set_cons_succ]
        refine V_takeS [12] 67 (k := 6) (v := .agg #[.int .i64 p3, .slice cb cm cd, .slice db dm dd]) rfl rfl (by kernel_rfl) (by kernel_rfl) (by kernel_rfl) (by kernel_rfl) (by kernel_rfl) (by kernel_rfl) (fun _ _ _ h => h) (Or.inl ⟨by rfl, fun V hV => ?_⟩) hS ?_
        · obtain ⟨z0, z1, z2⟩ := hV; go_simp
        try simp only [Act.put, List.setIfInBounds_toArray, List.set_cons_zero, List.set_cons_succ]
        refine V_takeS [12] 68 (k := 7) (v := .slice tb 0 td) rfl rfl (by kernel_rfl) (by kernel_rfl) (by kernel_rfl) (by kernel_rfl) (by kernel_rfl) (by kernel_rfl) (fun _ _ _ h => h) (Or.inl ⟨by rfl, fun V hV => ?_⟩) hS ?_
        · obtain ⟨z0, z1, z2⟩ := hV; go_simp
        try simp only [Act.put, List.setIfInBounds_toArray, List.set_cons_zero, List.set_cons_succ]
        refine V_takeS [12] 69 (k := 8) (v := .int .i64 0) rfl rfl (by kernel_rfl) (by kernel_rfl) (by kernel_rfl) (by kernel_rfl) (by kernel_rfl) (by kernel_rfl) (fun _ _ _ h => h) (Or.inl ⟨by rfl, fun V hV => ?_⟩) hS ?_
        · obtain ⟨z0, z1, z2⟩ := hV; go_simp
        try simp only [Act.put, List.setIfInBounds_toArray, List.set_cons_zero, List.set_cons_succ]
        refine U_one (i := 9) (listed' := #[true, true, true, true, true, true, true, true, true, true, false, false, false]) (by kernel_rfl) rfl (by kernel_rfl) rfl (fun K hK => ?_)
        go_simp
        have hba : Below wp.heap.size wp (wp.alloc (.cells #[.int .i64 0, .slice none 0 0, .slice none 0 0] 25)) := (Below.refl _ _).alloc (Nat.le_refl _) _
        have HAL : Hid (Cls (wp.alloc (.cells #[.int .i64 0, .slice none 0 0, .slice none 0 0] 25)) wp.heap.size [.int .i64 0, .slice none 0 0, .slice none 0 0] ∧ W8.heap.size ≤ wp.heap.size ∧ wp.heap.size < (wp.alloc (.cells #[.int .i64 0, .slice none 0 0, .slice none 0 0] 25)).heap.size) := ⟨Cls.new wp [.int .i64 0, .slice none 0 0, .slice none 0 0] 25, HB.out.size, by simp⟩
        have HBn : Hid (Below W8.heap.size W8 (wp.alloc (.cells #[.int .i64 0, .slice none 0 0, .slice none 0 0] 25))) := HB.out.trans (hba.mono HB.out.size)
        have hSn := HSV.out _ HBn.out
        have HPLn : Hid (PlQ (fun b => W8.heap.size ≤ b ∧ b ≠ wp.heap.size) s2 ((js.drop 0).map some) p3 cb cm cd db dm dd tb 0 td (wp.alloc (.cells #[.int .i64 0, .slice none 0 0, .slice none 0 0] 25))) := (HPL9.out.move (Kept.of_below (Below.refl _ _)) (fun b hb ho => ⟨ho, by omega⟩)).later hba
        refine hK _ _ (fun _ => hSn) ?_
        clear hK K hba HB hS HPL9
        try simp only [Act.put, List.setIfInBounds_toArray, List.set_cons_zero, List.set_cons_succ]
        have HB := HBn
        have hS := hSn
        clear HBn hSn
        have HPL9 := HPLn
        clear HPLn
        generalize (wp.alloc (.cells #[.int .i64 0, .slice none 0 0, .slice none 0 0] 25)) = wa at HB HAL hS HPL9 ⊢
        generalize wp.heap.size = AX at HAL HPL9 ⊢
        obtain ⟨o0, q0⟩ := HAL.out.1 0 _ rfl
        obtain ⟨o1, q1⟩ := HAL.out.1 1 _ rfl
        obtain ⟨o2, q2⟩ := HAL.out.1 2 _ rfl
        refine U_one (i := 10) (listed' := #[true, true, true, true, true, true, true, true, true, true, true, false, false]) (by kernel_rfl) rfl (by kernel_rfl) rfl (fun K hK => ?_)
        go_simp
        have HF := put_by (three_set (N := W8.heap.size) HAL.out.1 HAL.out.2.1 (.int .i64 p3) (.slice cb cm cd) (.slice db dm dd))
        have hSf := HSV.out _ (HB.out.trans HF.out.2.1)
        refine hK _ _ (fun _ => hSf) ?_
        clear hK K o0 q0 o1 q1 o2 q2 hS
        try simp only [Act.put, List.setIfInBounds_toArray, List.set_cons_zero, List.set_cons_succ]
        have HE : Hid (0 = ((js.drop 0).map encI).length ∧ Cls (((wa.setCell ⟨AX, 0, none⟩ (.int .i64 p3)).setCell ⟨AX, 1, none⟩ (.slice cb cm cd)).setCell ⟨AX, 2, none⟩ (.slice db dm dd)) AX [.int .i64 p3, .slice cb cm cd, .slice db dm dd] ∧ PlQ (fun _ => True) s2 ((js.drop 0).map some) p3 cb cm cd db dm dd tb 0 td (((wa.setCell ⟨AX, 0, none⟩ (.int .i64 p3)).setCell ⟨AX, 1, none⟩ (.slice cb cm cd)).setCell ⟨AX, 2, none⟩ (.slice db dm dd)) ∧ Below W8.heap.size W8 (((wa.setCell ⟨AX, 0, none⟩ (.int .i64 p3)).setCell ⟨AX, 1, none⟩ (.slice cb cm cd)).setCell ⟨AX, 2, none⟩ (.slice db dm dd))) := ⟨HMD.out, HF.out.1, HPL9.out.move ⟨HF.out.2.1.size, fun g _ hg => HF.out.2.2 g hg.2⟩ (fun _ _ _ => trivial), HB.out.trans HF.out.2.1⟩
        generalize World.setCell (World.setCell (World.setCell wa _ _) _ _) _ _ = WE at HE hSf ⊢
        refine U_one (i := 11) (listed' := #[true, true, true, true, true, true, true, true, true, true, true, true, false]) (by kernel_rfl) rfl (by kernel_rfl) rfl (fun K hK => ?_)
        go_simp
        refine hK _ _ (fun _ => hSf) ?_
        clear hK K
        try simp only [Act.put, List.setIfInBounds_toArray, List.set_cons_zero, List.set_cons_succ]
        refine U_one (i := 12) (listed' := #[true, true, true, true, true, true, true, true, true, true, true, true, true]) (by kernel_rfl) rfl (by kernel_rfl) rfl (fun K hK => ?_)
        go_simp
        refine hK _ _ (fun hh => by cases (show true = false from hh)) ?_
        clear hK K
        try simp only [Act.put, List.setIfInBounds_toArray, List.set_cons_zero, List.set_cons_succ]
        refine U_done (by kernel_rfl) ?_ _
        go_wp2
        go_meet
        exact ⟨AX, p3, cb, cm, cd, db, dm, dd, tb, 0, td, rfl, rfl, rfl, HE.out⟩
      · go_simp
        have hba : Below W8.heap.size W8 (W8.alloc (.cells #[.int .i64 0, .slice none 0 0, .slice none 0 0] 25)).drew := ((Below.refl _ _).alloc (Nat.le_refl _) _).drew
        have HAL : Hid (Cls (W8.alloc (.cells #[.int .i64 0, .slice none 0 0, .slice none 0 0] 25)).drew W8.heap.size [.int .i64 0, .slice none 0 0, .slice none 0 0] ∧ W8.heap.size ≤ W8.heap.size ∧ W8.heap.size < (W8.alloc (.cells #[.int .i64 0, .slice none 0 0, .slice none 0 0] 25)).drew.heap.size) := ⟨(Cls.new W8 [.int .i64 0, .slice none 0 0, .slice none 0 0] 25).later (Below.refl _ _).drew, Nat.le_refl _, by simp⟩
        have HBn : Hid (Below W8.heap.size W8 (W8.alloc (.cells #[.int .i64 0, .slice none 0 0, .slice none 0 0] 25)).drew) := hba
        have hSn := HSV.out _ HBn.out
        refine hK _ _ (fun _ => hSn) ?_
        clear hK K hba HB hS
        try simp only [List.setIfInBounds_toArray, List.set_cons_zero, List.set_cons_succ]
        have HB := HBn
        have hS := hSn
        clear HBn hSn
        generalize (W8.alloc (.cells #[.int .i64 0, .slice none 0 0, .slice none 0 0] 25)).drew = wa at HB HAL hS ⊢
        refine U_one (i := 4) (listed' := #[true, true, true, true, true, false, false, false, false, true, false, false, false]) (by kernel_rfl) rfl (by kernel_rfl) rfl (fun K hK => ?_)
        go_simp
        refine (cP3.out _ _ _ _ HB.out HLT.out HMD.out).mono ?_
        rintro e wp ⟨p3, cb, cm, cd, db, dm, dd, tb, td, rfl, H9⟩
        have HBn : Hid (Below W8.heap.size W8 wp) := HB.out.trans (H9.out.2.mono HB.out.size)
        have hSn := HSV.out _ HBn.out
        have HALn := put_by (And.intro (HAL.out.1.later H9.out.2) (And.intro HAL.out.2.1 (Nat.lt_of_lt_of_le HAL.out.2.2 H9.out.2.size)))
        have HPL9 : Hid (PlQ (fun b => W8.heap.size ≤ b ∧ b ≠ W8.heap.size) s2 ((js.drop 0).map some) p3 cb cm cd db dm dd tb 0 td wp) := H9.out.1.move (Kept.of_below (Below.refl _ _)) (fun b _ hb => by have h1 := HAL.out.2; have h2 := HB.out.size; exact ⟨by omega, by omega⟩)
        refine hK _ _ (fun _ => hSn) ?_
        clear hK K HB hS H9 HAL
        try simp only [Act.put, List.setIfInBounds_toArray, List.set_cons_zero, List.set_cons_succ]
        have HB := HBn
        have hS := hSn
        clear HBn hSn
        have HAL := HALn
        clear HALn
        refine V_takeS [12] 61 (k := 5) (v := .tuple #[.agg #[.int .i64 p3, .slice cb cm cd, .slice db dm dd], .slice tb 0 td, .int .i64 0]) rfl rfl (by kernel_rfl) (by kernel_rfl) (by kernel_rfl) (by kernel_rfl) (by kernel_rfl) (by kernel_rfl) (fun _ _ _ h => h) (Or.inl ⟨by rfl, fun V hV => ?_⟩) hS ?_
        · obtain ⟨z0, z1, z2⟩ := hV; go_simp
        try simp only [Act.put, List.setIfInBounds_toArray, List.set_cons_zero, List.set_cons_succ]
        refine V_takeS [12] 67 (k := 6) (v := .agg #[.int .i64 p3, .slice cb cm cd, .slice db dm dd]) rfl rfl (by kernel_rfl) (by kernel_rfl) (by kernel_rfl) (by kernel_rfl) (by kernel_rfl) (by kernel_rfl) (fun _ _ _ h => h) (Or.inl ⟨by rfl, fun V hV => ?_⟩) hS ?_
        · obtain ⟨z0, z1, z2⟩ := hV; go_simp
        try simp only [Act.put, List.setIfInBounds_toArray, List.set_cons_zero, List.set_cons_succ]
        refine V_takeS [12] 68 (k := 7) (v := .slice tb 0 td) rfl rfl (by kernel_rfl) (by kernel_rfl) (by kernel_rfl) (by kernel_rfl) (by kernel_rfl) (by kernel_rfl) (fun _ _ _ h => h) (Or.inl ⟨by rfl, fun V hV => ?_⟩) hS ?_
        · obtain ⟨z0, z1, z2⟩ := hV; go_simp
        try simp only [Act.put, List.setIfInBounds_toArray, List.set_cons_zero, List.set_cons_succ]
        refine V_takeS [12] 69 (k := 8) (v := .int .i64 0) rfl rfl (by kernel_rfl) (by kernel_rfl) (by kernel_rfl) (by kernel_rfl) (by kernel_rfl) (by kernel_rfl) (fun _ _ _ h => h) (Or.inl ⟨by rfl, fun V hV => ?_⟩) hS ?_
        · obtain ⟨z0, z1, z2⟩ := hV; go_simp
        try simp only [Act.put, List.setIfInBounds_toArray, List.set_cons_zero, List.set_cons_succ]
        obtain ⟨o0, q0⟩ := HAL.out.1 0 _ rfl
        obtain ⟨o1, q1⟩ := HAL.out.1 1 _ rfl
        obtain ⟨o2, q2⟩ := HAL.out.1 2 _ rfl
        refine U_one (i := 10) (listed' := #[true, true, true, true, true, true, true, true, true, true, true, false, false]) (by kernel_rfl) rfl (by kernel_rfl) rfl (fun K hK => ?_)
        go_simp
        have HF := put_by (three_set (N := W8.heap.size) HAL.out.1 HAL.out.2.1 (.int .i64 p3) (.slice cb cm cd) (.slice db dm dd))
        have hSf := HSV.out _ (HB.out.trans HF.out.2.1)
        refine hK _ _ (fun _ => hSf) ?_
        clear hK K o0 q0 o1 q1 o2 q2 hS
        try simp only [Act.put, List.setIfInBounds_toArray, List.set_cons_zero, List.set_cons_succ]
        have HE : Hid (0 = ((js.drop 0).map encI).length ∧ Cls (((wp.setCell ⟨W8.heap.size, 0, none⟩ (.int .i64 p3)).setCell ⟨W8.heap.size, 1, none⟩ (.slice cb cm cd)).setCell ⟨W8.heap.size, 2, none⟩ (.slice db dm dd)) W8.heap.size [.int .i64 p3, .slice cb cm cd, .slice db dm dd] ∧ PlQ (fun _ => True) s2 ((js.drop 0).map some) p3 cb cm cd db dm dd tb 0 td (((wp.setCell ⟨W8.heap.size, 0, none⟩ (.int .i64 p3)).setCell ⟨W8.heap.size, 1, none⟩ (.slice cb cm cd)).setCell ⟨W8.heap.size, 2, none⟩ (.slice db dm dd)) ∧ Below W8.heap.size W8 (((wp.setCell ⟨W8.heap.size, 0, none⟩ (.int .i64 p3)).setCell ⟨W8.heap.size, 1, none⟩ (.slice cb cm cd)).setCell ⟨W8.heap.size, 2, none⟩ (.slice db dm dd))) := ⟨HMD.out, HF.out.1, HPL9.out.move ⟨HF.out.2.1.size, fun g _ hg => HF.out.2.2 g hg.2⟩ (fun _ _ _ => trivial), HB.out.trans HF.out.2.1⟩
        generalize World.setCell (World.setCell (World.setCell wp _ _) _ _) _ _ = WE at HE hSf ⊢
        refine U_one (i := 11) (listed' := #[true, true, true, true, true, true, true, true, true, true, true, true, false]) (by kernel_rfl) rfl (by kernel_rfl) rfl (fun K hK => ?_)
        go_simp
        refine hK _ _ (fun _ => hSf) ?_
        clear hK K
        try simp only [Act.put, List.setIfInBounds_toArray, List.set_cons_zero, List.set_cons_succ]
        refine U_one (i := 12) (listed' := #[true, true, true, true, true, true, true, true, true, true, true, true, true]) (by kernel_rfl) rfl (by kernel_rfl) rfl (fun K hK => ?_)
        go_simp
        refine hK _ _ (fun hh => by cases (show true = false from hh)) ?_
        clear hK K
        try simp only [Act.put, List.setIfInBounds_toArray, List.set_cons_zero, List.set_cons_succ]
        refine U_done (by kernel_rfl) ?_ _
        go_wp2
        go_meet
        exact ⟨W8.heap.size, p3, cb, cm, cd, db, dm, dd, tb, 0, td, rfl, rfl, rfl, HE.out⟩
    case rest =>
      obtain ⟨AX, p3, cb, cm, cd, db, dm, dd, tb, tm, td, rfl, rfl, rfl, H9⟩ := hcut
      have hbc := H9.out.2.2.2
      obtain ⟨x0, -⟩ := V58.out.later hbc 0 _ rfl
      obtain ⟨x1, -⟩ := V58.out.later hbc 1 _ rfl
      obtain ⟨x2, -⟩ := V58.out.later hbc 2 _ rfl
      obtain ⟨y0, -⟩ := V68.out.later hbc 0 _ rfl
      obtain ⟨y1, -⟩ := V68.out.later hbc 1 _ rfl
      obtain ⟨y2, -⟩ := V68.out.later hbc 2 _ rfl
      obtain ⟨z0, -⟩ := V8.out.later hbc 0 _ rfl
      obtain ⟨z1, -⟩ := V8.out.later hbc 1 _ rfl
      obtain ⟨z2, -⟩ := V8.out.later hbc 2 _ rfl
      obtain ⟨u0, -⟩ := H9.out.2.1 0 _ rfl
      obtain ⟨u1, -⟩ := H9.out.2.1 1 _ rfl
      obtain ⟨u2, -⟩ := H9.out.2.1 2 _ rfl
      obtain ⟨l2, hl2⟩ : ∃ l2, l2 = (playM noSta ((js.take 0).map some)).2 := ⟨_, rfl⟩
      obtain ⟨l3, hl3⟩ : ∃ l3, l3 = (playM s2 ((js.drop 0).map some)).2 := ⟨_, rfl⟩
      have htp := two_parts js 0
      rw [← HS2.out.1, ← hl2, ← hl3] at htp
      obtain ⟨s4, hs4⟩ : ∃ s4, s4 = (playM s2 ((js.drop 0).map some)).1 := ⟨_, rfl⟩
      rw [← hs4] at htp
      have HM4 : Hid (MayS s4) := by
        have h := may_js HJ.out.1.2.1 (by rw [← HJ.out.2]; omega)
        rw [htp] at h
        exact h
      have P9 := P58.out.later hbc
      have QA : Hid (QSt s4 (0 : Int) ca cn cc da dn dc wc) := by
        have h : QSt (playM noSta (js.map some)).1 (0 : Int) ca cn cc da dn dc wc := ⟨P9.pos, P9.cn, P9.dn, P9.st⟩
        rw [htp] at h
        exact h
      have QX : Hid (QSt s4 p3 cb cm cd db dm dd wc) := by
        have h := H9.out.2.2.1
        rw [hs4]
        exact ⟨h.pos, h.cn, h.dn, h.st⟩
      have QB := put_by (Q68.out.1.later hbc)
      have QC := put_by (L8.out.later hbc)
      have HC : Hid (Lies kNum (fun _ => True) wc t1 q1 (l2 ++ l3) ∧ Lies kNum (fun _ => True) wc t2 q2 l2 ∧ Lies kNum (fun _ => True) wc tb td l3 ∧ 0 = l2.length ∧ tm = l3.length ∧ 0 = (l2 ++ l3).length ∧ (l2 ++ l3).length ≤ 24) := by
        have h1 := P9.told
        have h2 : 0 = (playM noSta (js.map some)).2.length := P9.codes
        rw [htp] at h1 h2
        have h2' : 0 = (l2 ++ l3).length := h2
        refine ⟨h1, by rw [hl2]; exact Q68.out.2.later hbc, by rw [hl3]; exact H9.out.2.2.1.told, ?_, ?_, h2', by rw [← h2']; exact hon24⟩
        · rw [hl2, playM_length, List.length_map, List.length_take, ← HJ.out.2]; omega
        · rw [hl3, playM_length, H9.out.1]; simp only [List.length_map]
      have HB9 : Hid (Below w.heap.size w wc) := HB1.out.trans ((B18.out.trans (hbc.mono B18.out.size)).mono HB1.out.size)
      have cM : Hid (Calls Try.prog 9 #[.agg #[.int .i64 (0 : Int), .slice ca cn cc, .slice da dn dc]] wc fun e w' => e = .returned (.bool true) ∧ Below wc.heap.size wc w') := May_q HM4.out QA.out
      have cE1 : Hid (∀ V, Below wc.heap.size wc V → Calls Try.prog 26 #[.agg #[.int .i64 p2, .slice ea en ec, .slice fa fn fc], .agg #[.int .i64 (0 : Int), .slice ga gn gc, .slice ha hn hc]] V fun e w' => e = .returned (.bool true) ∧ Below V.heap.size V w') := fun V hV => same_q (QB.out.later hV) (QC.out.later hV)
      have cE2 : Hid (∀ V, Below wc.heap.size wc V → Calls Try.prog 26 #[.agg #[.int .i64 (0 : Int), .slice ca cn cc, .slice da dn dc], .agg #[.int .i64 p3, .slice cb cm cd, .slice db dm dd]] V fun e w' => e = .returned (.bool true) ∧ Below V.heap.size V w') := fun V hV => same_q (QA.out.later hV) (QX.out.later hV)
      have cX : Hid (∀ V b m c, Below wc.heap.size wc V → m = (l2 ++ l3).length → Lies kNum (fun _ => True) V b c (l2 ++ l3) → Calls Try.prog 27 #[.slice t1 0 q1, .slice b m c] V fun e w' => e = .returned (.bool true) ∧ Below V.heap.size V w') := fun V b m c hV hm hl => codes_q (by have := HC.out.2.2.2.2.2.2; omega) HC.out.2.2.2.2.2.1 hm (HC.out.1.later hV) hl
      have hk24 : 0 ≤ 24 := by omega
      have hm24 : tm ≤ 24 := by have h1 := HC.out.2.2.2.2; have h2 := h1.1; have h3 := h1.2.2; rw [List.length_append] at h3; omega
      have hk2 : Hid (0 = l2.length) := HC.out.2.2.2.1
      have hm3 : Hid (tm = l3.length) := HC.out.2.2.2.2.1
      clear htp hl2 hl3 hs4 P9 hbc
      go_upto_region 12 with (fail)
      go_wp2_with (first
        | (go_at_call 9; (with_reducible refine cM.out.mono ?_); clear cM; rintro e w10 ⟨rfl, hb10⟩; have H10 : Hid (Below wc.heap.size wc w10) := hb10; clear hb10; have x0 := (H10.out.cell (p := ⟨A1, 0, none⟩) (World.block_lt_of_cell? _ _ x0)).trans x0; have x1 := (H10.out.cell (p := ⟨A1, 1, none⟩) (World.block_lt_of_cell? _ _ x1)).trans x1; have x2 := (H10.out.cell (p := ⟨A1, 2, none⟩) (World.block_lt_of_cell? _ _ x2)).trans x2; have y0 := (H10.out.cell (p := ⟨A2, 0, none⟩) (World.block_lt_of_cell? _ _ y0)).trans y0; have y1 := (H10.out.cell (p := ⟨A2, 1, none⟩) (World.block_lt_of_cell? _ _ y1)).trans y1; have y2 := (H10.out.cell (p := ⟨A2, 2, none⟩) (World.block_lt_of_cell? _ _ y2)).trans y2; have z0 := (H10.out.cell (p := ⟨A3, 0, none⟩) (World.block_lt_of_cell? _ _ z0)).trans z0; have z1 := (H10.out.cell (p := ⟨A3, 1, none⟩) (World.block_lt_of_cell? _ _ z1)).trans z1; have z2 := (H10.out.cell (p := ⟨A3, 2, none⟩) (World.block_lt_of_cell? _ _ z2)).trans z2; have u0 := (H10.out.cell (p := ⟨AX, 0, none⟩) (World.block_lt_of_cell? _ _ u0)).trans u0; have u1 := (H10.out.cell (p := ⟨AX, 1, none⟩) (World.block_lt_of_cell? _ _ u1)).trans u1; have u2 := (H10.out.cell (p := ⟨AX, 2, none⟩) (World.block_lt_of_cell? _ _ u2)).trans u2)
        | (go_at_call 26; (with_reducible refine (cE1.out _ H10.out).mono ?_); clear cE1; rintro e w11 ⟨rfl, hb11⟩; have H11 : Hid (Below wc.heap.size wc w11) := H10.out.trans (hb11.mono H10.out.size); have x0 := (hb11.cell (p := ⟨A1, 0, none⟩) (World.block_lt_of_cell? _ _ x0)).trans x0; have x1 := (hb11.cell (p := ⟨A1, 1, none⟩) (World.block_lt_of_cell? _ _ x1)).trans x1; have x2 := (hb11.cell (p := ⟨A1, 2, none⟩) (World.block_lt_of_cell? _ _ x2)).trans x2; have u0 := (hb11.cell (p := ⟨AX, 0, none⟩) (World.block_lt_of_cell? _ _ u0)).trans u0; have u1 := (hb11.cell (p := ⟨AX, 1, none⟩) (World.block_lt_of_cell? _ _ u1)).trans u1; have u2 := (hb11.cell (p := ⟨AX, 2, none⟩) (World.block_lt_of_cell? _ _ u2)).trans u2; clear hb11)
        | (go_at_call 26; (with_reducible refine (cE2.out _ H11.out).mono ?_); clear cE2; rintro e w12 ⟨rfl, hb12⟩; have H12 : Hid (Below wc.heap.size wc w12) := H11.out.trans (hb12.mono H11.out.size); clear hb12)
        | (at_builtin; refine wpList_unguard rfl rfl ?_; refine wpList_append_rowsB (K := kNum) (ok := fun _ => True) (ok2 := fun _ => True) eltN rfl (.const (.slice none 0 0)) (.tmp 116) rfl w12.heap.size (.slice none 0 0) [] rfl (Rows.nil _ _ _ _ _) t2 q2 0 l2 rfl hk2.out (HC.out.2.1.later H12.out) (fun _ _ _ _ => trivial) (fun _ _ _ e => by cases e) (by simp only [List.length_nil]; omega) (by decide) (Nat.le_refl _) ?_; intro v13 w13 r1 r2 r3; have H13 : Hid (Rows kNum (fun _ => True) w13 w12.heap.size 29 v13 l2 ∧ Below w12.heap.size w12 w13) := ⟨by simpa using r1, below_grown (Below.refl _ _) (Nat.le_refl _) r2 (fun r e => by cases e)⟩; clear r1 r2 r3)
        | (at_builtin; refine wpList_unguard rfl rfl ?_; refine wpList_append_rowsB (K := kNum) (ok := fun _ => True) (ok2 := fun b => b < w12.heap.size) eltN rfl (.tmp 117) (.tmp 118) rfl w12.heap.size v13 l2 rfl H13.out.1 tb td tm l3 rfl hm3.out (((HC.out.2.2.1.later H12.out).move (ok' := fun b => b < w12.heap.size) (Kept.of_below (Below.refl _ _)) (fun b hb _ => hb)).later H13.out.2) (fun _ _ _ _ => trivial) (fun b _ hb e => by have h1 := (rows_lt H13.out.1 b e).1; omega) (by rw [← hk2.out]; omega) (by decide) H13.out.2.size ?_; intro v14 w14 r1 r2 r3; have H14 : Hid (Rows kNum (fun _ => True) w14 w12.heap.size 29 v14 (l2 ++ l3) ∧ Below w12.heap.size w12 w14) := ⟨r1, below_grown H13.out.2 H13.out.2.size r2 (fun r e => (rows_lt H13.out.1 r e).1)⟩; clear r1 r2 r3; obtain ⟨a14, c14, e14⟩ := rows_form H14.out.1; obtain ⟨m14, hm14⟩ : ∃ m14, m14 = (l2 ++ l3).length := ⟨_, rfl⟩; rw [← hm14] at e14; subst e14; have HM14 := put_by hm14; clear hm14)
        | (go_at_call 27; (with_reducible refine (cX.out _ _ _ _ (H12.out.trans (H14.out.2.mono H12.out.size)) HM14.out (rows_lies H14.out.1 (fun _ _ => trivial)).2.1).mono ?_); clear cX; rintro e w15 ⟨rfl, hb15⟩; have H15 := put_by hb15; clear hb15))
      exact HP.out _ (HB9.out.trans (((H12.out.trans (H14.out.2.mono H12.out.size)).trans (H15.out.mono (Nat.le_trans H12.out.size H14.out.2.size))).mono HB9.out.size))

  · by_cases hck : oc = k
    · have hok : k = on := by omega
      obtain rfl := hck.symm
      obtain rfl := hok
      have HMD : Hid (0 = ((js.drop k).map encI).length) := by show _ = _; rw [List.length_map, List.length_drop, ← HJ.out.2]; omega
      have HLT0 : Hid (Lies kLog (fun _ => True) w1 (some ⟨b, off, none⟩) 0 ((js.drop k).map encI)) := by
        rw [List.drop_of_length_le (by rw [← HJ.out.2]; exact Nat.le_refl _)]
        exact Lies.nil _ _ _ (fun e => by cases e)
      go_upto_region 7 with (first
        | (go_at_call 11; (with_reducible refine (cP2.out _ B5.out).mono ?_); clear cP2; rintro e w3 ⟨p2, ea, en, ec, fa, fn, fc, t2, q2, rfl, H6⟩))
      have h6 : Below w3.heap.size w3 (w3.alloc (.cells #[.int .i64 p2, .slice ea en ec, .slice fa fn fc] 25)) := (Below.refl _ _).alloc (Nat.le_refl _) _
      have V6 := put_by (Cls.new w3 [.int .i64 p2, .slice ea en ec, .slice fa fn fc] 25)
      have B6 : Hid (Below W5.heap.size W5 (w3.alloc (.cells #[.int .i64 p2, .slice ea en ec, .slice fa fn fc] 25))) := H6.out.2.trans (h6.mono H6.out.2.size)
      have Q6 : Hid (QSt s2 p2 ea en ec fa fn fc (w3.alloc (.cells #[.int .i64 p2, .slice ea en ec, .slice fa fn fc] 25)) ∧ Lies kNum (fun _ => True) (w3.alloc (.cells #[.int .i64 p2, .slice ea en ec, .slice fa fn fc] 25)) t2 q2 (playM noSta ((js.take k).map some)).2) := by
        rw [HS2.out.1]
        have h := H6.out.1.later h6
        exact ⟨⟨h.pos, h.cn, h.dn, h.st⟩, h.told⟩
      clear h6 H6
      generalize w3.alloc (.cells #[.int .i64 p2, .slice ea en ec, .slice fa fn fc] 25) = W6 at V6 B6 Q6 ⊢
      generalize w3.heap.size = A2 at V6 ⊢
      obtain ⟨y0, -⟩ := V6.out 0 _ rfl
      obtain ⟨y1, -⟩ := V6.out 1 _ rfl
      obtain ⟨y2, -⟩ := V6.out 2 _ rfl
      go_upto_region 8 with (first
        | (go_at_call 18; (with_reducible refine (cS.out _ _ _ _ _ _ _ _ Q6.out.1).mono ?_); clear cS; rintro e w4 ⟨sa, sm, sk, rfl, H7⟩))
      clear y0 y1 y2
      go_upto_region 9 with (first
        | (go_at_call 21; (with_reducible refine (cL.out _ _ _ _ H7.out.1 H7.out.2.1).mono ?_); clear cL; rintro e w5 ⟨ga, gn, gc, ha, hn, hc, rfl, H8⟩))
      have h8 : Below w5.heap.size w5 (w5.alloc (.cells #[.int .i64 (k : Int), .slice ga gn gc, .slice ha hn hc] 25)) := (Below.refl _ _).alloc (Nat.le_refl _) _
      have V8 := put_by (Cls.new w5 [.int .i64 (k : Int), .slice ga gn gc, .slice ha hn hc] 25)
      have B8 : Hid (Below W6.heap.size W6 (w5.alloc (.cells #[.int .i64 (k : Int), .slice ga gn gc, .slice ha hn hc] 25))) := H7.out.2.2.trans ((H8.out.2.2.2.trans (h8.mono H8.out.2.2.2.size)).mono H7.out.2.2.size)
      have L8 : Hid (QSt s2 (k : Int) ga gn gc ha hn hc (w5.alloc (.cells #[.int .i64 (k : Int), .slice ga gn gc, .slice ha hn hc] 25))) := ⟨HS2.out.2.2.1.symm, H8.out.1, H8.out.2.1, H8.out.2.2.1.later h8⟩
      clear h8 H7 H8
      generalize w5.alloc (.cells #[.int .i64 (k : Int), .slice ga gn gc, .slice ha hn hc] 25) = W8 at V8 B8 L8 ⊢
      generalize w5.heap.size = A3 at V8 ⊢
      have B58 : Hid (Below W5.heap.size W5 W8) := B6.out.trans (B8.out.mono B6.out.size)
      have B18 : Hid (Below w1.heap.size w1 W8) := B5.out.trans (B58.out.mono B5.out.size)
      have HLT := put_by (HLT0.out.later B18.out)
      have V58 := put_by (V5.out.later B58.out)
      have P58 := put_by (P5.out.later B58.out)
      have V68 := put_by (V6.out.later B8.out)
      have Q68 := put_by (And.intro (Q6.out.1.later B8.out) (Q6.out.2.later B8.out))
      clear V5 P5 V6 Q6 HLT0
      have HSV : Hid (∀ V : World, Below W8.heap.size W8 V → V.cell? ⟨A3, 0, none⟩ = some (.int .i64 (k : Int)) ∧ V.cell? ⟨A3, 1, none⟩ = some (.slice ga gn gc) ∧ V.cell? ⟨A3, 2, none⟩ = some (.slice ha hn hc)) := fun V hV => by
        have h := V8.out.later hV
        exact ⟨(h 0 _ rfl).1, (h 1 _ rfl).1, (h 2 _ rfl).1⟩
      have cP3 : Hid (∀ V m ta tc, Below W8.heap.size W8 V → Lies kLog (fun _ => True) W8 ta tc ((js.drop k).map encI) → m = ((js.drop k).map encI).length → Calls Try.prog 11 #[.agg #[.int .i64 (k : Int), .slice ga gn gc, .slice ha hn hc], .slice ta m tc] V fun e w' => ∃ (p : Int) (a : Option Addr) (n c : Nat) (a2 : Option Addr) (n2 c2 : Nat) (a3 : Option Addr) (c3 : Nat), e = .returned (.tuple #[.agg #[.int .i64 p, .slice a n c, .slice a2 n2 c2], .slice a3 m c3, .int .i64 0]) ∧ Hid (PlQ (fun b => V.heap.size ≤ b) s2 ((js.drop k).map some) p a n c a2 n2 c2 a3 m c3 w' ∧ Below V.heap.size V w')) := fun V m ta tc hV hl hm => by
        have hll : ((js.drop k).map encI).length ≤ 24 := by rw [List.length_map, List.length_drop, ← HJ.out.2]; omega
        have h2 := HS2.out.2.2
        exact Play_fresh L8.out.pos L8.out.cn L8.out.dn (L8.out.st.later hV) HS2.out.2.1 (hl.later hV) (tells_js (fun x hx => HJ.out.1.2.1 x (List.mem_of_mem_drop hx))) (by omega) hm (by omega) (by omega) (by omega)
      go_cut [19, 20, 21] from 61 to 69 (fun pb cx ee wx => ∃ (AX : Nat) (p3 : Int) (cb : Option Addr) (cm cd : Nat) (db : Option Addr) (dm dd : Nat) (tb : Option Addr) (tm td : Nat), pb = .pointer (some ⟨AX, 0, none⟩) ∧ cx = .slice tb tm td ∧ ee = .int .i64 0 ∧ Hid (tm = ((js.drop k).map encI).length ∧ Cls wx AX [.int .i64 p3, .slice cb cm cd, .slice db dm dd] ∧ PlQ (fun _ => True) s2 ((js.drop k).map some) p3 cb cm cd db dm dd tb tm td wx ∧ Below W8.heap.size W8 wx))
      case first =>
        have hS := HSV.out W8.drew (Below.refl _ _).drew
        have HB : Hid (Below W8.heap.size W8 W8.drew) := (Below.refl _ _).drew
        refine region_plain (fun V : World => V.cell? ⟨A3, 0, none⟩ = some (.int .i64 (k : Int)) ∧ V.cell? ⟨A3, 1, none⟩ = some (.slice ga gn gc) ∧ V.cell? ⟨A3, 2, none⟩ = some (.slice ha hn hc)) 12 (by kernel_rfl) ?_
        change wpAnyU _ _ _ _ _ 13 #[false, false, false, false, false, false, false, false, false, false, false, false, false] _ W8.drew
        refine V_takeS [12] 62 (k := 0) (v := .agg #[.int .i64 (k : Int), .slice ga gn gc, .slice ha hn hc]) rfl rfl (by kernel_rfl) (by kernel_rfl) (by kernel_rfl) (by kernel_rfl) (by kernel_rfl) (by kernel_rfl) (fun _ _ _ h => h) (Or.inl ⟨by rfl, fun V hV => ?_⟩) hS ?_
        · obtain ⟨z0, z1, z2⟩ := hV; go_simp
        try simp only [Act.put, List.setIfInBounds_toArray, List.set_cons_zero, List.set_cons_succ]
        refine V_takeS [12] 63 (k := 1) (v := .slice (some ⟨b, off, none⟩) k k) rfl rfl (by kernel_rfl) (by kernel_rfl) (by kernel_rfl) (by kernel_rfl) (by kernel_rfl) (by kernel_rfl) (fun _ _ _ h => h) (Or.inl ⟨by rfl, fun V hV => ?_⟩) hS ?_
        · obtain ⟨z0, z1, z2⟩ := hV; go_simp
        try simp only [Act.put, List.setIfInBounds_toArray, List.set_cons_zero, List.set_cons_succ]
        refine V_takeS [12] 64 (k := 2) (v := .int .i64 (k : Int)) rfl rfl (by kernel_rfl) (by kernel_rfl) (by kernel_rfl) (by kernel_rfl) (by kernel_rfl) (by kernel_rfl) (fun _ _ _ h => h) (Or.inl ⟨by rfl, fun V hV => ?_⟩) hS ?_
        · obtain ⟨z0, z1, z2⟩ := hV; go_simp
        try simp only [Act.put, List.setIfInBounds_toArray, List.set_cons_zero, List.set_cons_succ]
        refine V_takeS [12] 65 (k := 3) (v := .slice (some ⟨b, off, none⟩) 0 0) rfl rfl (by kernel_rfl) (by kernel_rfl) (by kernel_rfl) (by kernel_rfl) (by kernel_rfl) (by kernel_rfl) (fun _ _ _ h => h) (Or.inl ⟨by rfl, fun V hV => ?_⟩) hS ?_
        · obtain ⟨z0, z1, z2⟩ := hV; go_simp
        try simp only [Act.put, List.setIfInBounds_toArray, List.set_cons_zero, List.set_cons_succ]
        refine U_two (i := 4) (j := 9) (by kernel_rfl) rfl rfl rfl rfl (fun K hK => ?_) (fun K hK => ?_)
        · go_simp
          refine (cP3.out _ _ _ _ HB.out HLT.out HMD.out).mono ?_
          rintro e wp ⟨p3, cb, cm, cd, db, dm, dd, tb, td, rfl, H9⟩
          have HBn : Hid (Below W8.heap.size W8 wp) := HB.out.trans (H9.out.2.mono HB.out.size)
          have hSn := HSV.out _ HBn.out
          have HPL9 : Hid (PlQ (fun b => W8.heap.size ≤ b) s2 ((js.drop k).map some) p3 cb cm cd db dm dd tb 0 td wp) := H9.out.1
          refine hK _ _ (fun _ => hSn) ?_
          clear hK K HB hS H9
          try simp only [List.setIfInBounds_toArray, List.set_cons_zero, List.set_cons_succ]
          have HB := HBn
          have hS := hSn
          clear HBn hSn
          refine V_takeS [12] 61 (k := 5) (v := .tuple #[.agg #[.int .i64 p3, .slice cb cm cd, .slice db dm dd], .slice tb 0 td, .int .i64 0]) rfl rfl (by kernel_rfl) (by kernel_rfl) (by kernel_rfl) (by kernel_rfl) (by kernel_rfl) (by kernel_rfl) (fun _ _ _ h => h) (Or.inl ⟨by rfl, fun V hV => ?_⟩) hS ?_
          · obtain ⟨z0, z1, z2⟩ := hV; go_simp
          try simp only [Act.put, List.setIfInBounds_toArray, List.set_cons_zero, List.set_cons_succ]
          refine V_takeS [12] 67 (k := 6) (v := .agg #[.int .i64 p3, .slice cb cm cd, .slice db dm dd]) rfl rfl (by kernel_rfl) (by kernel_rfl) (by kernel_rfl) (by kernel_rfl) (by kernel_rfl) (by kernel_rfl) (fun _ _ _ h => h) (Or.inl ⟨by rfl, fun V hV => ?_⟩) hS ?_
          · obtain ⟨z0, z1, z2⟩ := hV; go_simp
          try simp only [Act.put, List.setIfInBounds_toArray, List.set_cons_zero, List.set_cons_succ]
          refine V_takeS [12] 68 (k := 7) (v := .slice tb 0 td) rfl rfl (by kernel_rfl) (by kernel_rfl) (by kernel_rfl) (by kernel_rfl) (by kernel_rfl) (by kernel_rfl) (fun _ _ _ h => h) (Or.inl ⟨by rfl, fun V hV => ?_⟩) hS ?_
          · obtain ⟨z0, z1, z2⟩ := hV; go_simp
          try simp only [Act.put, List.setIfInBounds_toArray, List.set_cons_zero, List.set_cons_succ]
          refine V_takeS [12] 69 (k := 8) (v := .int .i64 0) rfl rfl (by kernel_rfl) (by kernel_rfl) (by kernel_rfl) (by kernel_rfl) (by kernel_rfl) (by kernel_rfl) (fun _ _ _ h => h) (Or.inl ⟨by rfl, fun V hV => ?_⟩) hS ?_
          · obtain ⟨z0, z1, z2⟩ := hV; go_simp
          try simp only [Act.put, List.setIfInBounds_toArray, List.set_cons_zero, List.set_cons_succ]
          refine U_one (i := 9) (listed' := #[true, true, true, true, true, true, true, true, true, true, false, false, false]) (by kernel_rfl) rfl (by kernel_rfl) rfl (fun K hK => ?_)
          go_simp
          have hba : Below wp.heap.size wp (wp.alloc (.cells #[.int .i64 0, .slice none 0 0, .slice none 0 0] 25)) := (Below.refl _ _).alloc (Nat.le_refl _) _
          have HAL : Hid (Cls (wp.alloc (.cells #[.int .i64 0, .slice none 0 0, .slice none 0 0] 25)) wp.heap.size [.int .i64 0, .slice none 0 0, .slice none 0 0] ∧ W8.heap.size ≤ wp.heap.size ∧ wp.heap.size < (wp.alloc (.cells #[.int .i64 0, .slice none 0 0, .slice none 0 0] 25)).heap.size) := ⟨Cls.new wp [.int .i64 0, .slice none 0 0, .slice none 0 0] 25, HB.out.size, by simp⟩
          have HBn : Hid (Below W8.heap.size W8 (wp.alloc (.cells #[.int .i64 0, .slice none 0 0, .slice none 0 0] 25))) := HB.out.trans (hba.mono HB.out.size)
          have hSn := HSV.out _ HBn.out
          have HPLn : Hid (PlQ (fun b => W8.heap.size ≤ b ∧ b ≠ wp.heap.size) s2 ((js.drop k).map some) p3 cb cm cd db dm dd tb 0 td (wp.alloc (.cells #[.int .i64 0, .slice none 0 0, .slice none 0 0] 25))) := (HPL9.out.move (Kept.of_below (Below.refl _ _)) (fun b hb ho => ⟨ho, by omega⟩)).later hba
          refine hK _ _ (fun _ => hSn) ?_
          clear hK K hba HB hS HPL9
          try simp only [Act.put, List.setIfInBounds_toArray, List.set_cons_zero, List.set_cons_succ]
          have HB := HBn
          have hS := hSn
          clear HBn hSn
          have HPL9 := HPLn
          clear HPLn
          generalize (wp.alloc (.cells #[.int .i64 0, .slice none 0 0, .slice none 0 0] 25)) = wa at HB HAL hS HPL9 ⊢
          generalize wp.heap.size = AX at HAL HPL9 ⊢
          obtain ⟨o0, q0⟩ := HAL.out.1 0 _ rfl
          obtain ⟨o1, q1⟩ := HAL.out.1 1 _ rfl
          obtain ⟨o2, q2⟩ := HAL.out.1 2 _ rfl
          refine U_one (i := 10) (listed' := #[true, true, true, true, true, true, true, true, true, true, true, false, false]) (by kernel_rfl) rfl (by kernel_rfl) rfl (fun K hK => ?_)
          go_simp
          have HF := put_by (three_set (N := W8.heap.size) HAL.out.1 HAL.out.2.1 (.int .i64 p3) (.slice cb cm cd) (.slice db dm dd))
          have hSf := HSV.out _ (HB.out.trans HF.out.2.1)
          refine hK _ _ (fun _ => hSf) ?_
          clear hK K o0 q0 o1 q1 o2 q2 hS
          try simp only [Act.put, List.setIfInBounds_toArray, List.set_cons_zero, List.set_cons_succ]
          have HE : Hid (0 = ((js.drop k).map encI).length ∧ Cls (((wa.setCell ⟨AX, 0, none⟩ (.int .i64 p3)).setCell ⟨AX, 1, none⟩ (.slice cb cm cd)).setCell ⟨AX, 2, none⟩ (.slice db dm dd)) AX [.int .i64 p3, .slice cb cm cd, .slice db dm dd] ∧ PlQ (fun _ => True) s2 ((js.drop k).map some) p3 cb cm cd db dm dd tb 0 td (((wa.setCell ⟨AX, 0, none⟩ (.int .i64 p3)).setCell ⟨AX, 1, none⟩ (.slice cb cm cd)).setCell ⟨AX, 2, none⟩ (.slice db dm dd)) ∧ Below W8.heap.size W8 (((wa.setCell ⟨AX, 0, none⟩ (.int .i64 p3)).setCell ⟨AX, 1, none⟩ (.slice cb cm cd)).setCell ⟨AX, 2, none⟩ (.slice db dm dd))) := ⟨HMD.out, HF.out.1, HPL9.out.move ⟨HF.out.2.1.size, fun g _ hg => HF.out.2.2 g hg.2⟩ (fun _ _ _ => trivial), HB.out.trans HF.out.2.1⟩
          generalize World.setCell (World.setCell (World.setCell wa _ _) _ _) _ _ = WE at HE hSf ⊢
          refine U_one (i := 11) (listed' := #[true, true, true, true, true, true, true, true, true, true, true, true, false]) (by kernel_rfl) rfl (by kernel_rfl) rfl (fun K hK => ?_)
          go_simp
          refine hK _ _ (fun _ => hSf) ?_
          clear hK K
          try simp only [Act.put, List.setIfInBounds_toArray, List.set_cons_zero, List.set_cons_succ]
          refine U_one (i := 12) (listed' := #[true, true, true, true, true, true, true, true, true, true, true, true, true]) (by kernel_rfl) rfl (by kernel_rfl) rfl (fun K hK => ?_)
          go_simp
          refine hK _ _ (fun hh => by cases (show true = false from hh)) ?_
          clear hK K
          try simp only [Act.put, List.setIfInBounds_toArray, List.set_cons_zero, List.set_cons_succ]
          refine U_done (by kernel_rfl) ?_ _
          go_wp2
          go_meet
          exact ⟨AX, p3, cb, cm, cd, db, dm, dd, tb, 0, td, rfl, rfl, rfl, HE.out⟩
        · go_simp
          have hba : Below W8.heap.size W8 (W8.alloc (.cells #[.int .i64 0, .slice none 0 0, .slice none 0 0] 25)).drew := ((Below.refl _ _).alloc (Nat.le_refl _) _).drew
          have HAL : Hid (Cls (W8.alloc (.cells #[.int .i64 0, .slice none 0 0, .slice none 0 0] 25)).drew W8.heap.size [.int .i64 0, .slice none 0 0, .slice none 0 0] ∧ W8.heap.size ≤ W8.heap.size ∧ W8.heap.size < (W8.alloc (.cells #[.int .i64 0, .slice none 0 0, .slice none 0 0] 25)).drew.heap.size) := ⟨(Cls.new W8 [.int .i64 0, .slice none 0 0, .slice none 0 0] 25).later (Below.refl _ _).drew, Nat.le_refl _, by simp⟩
          have HBn : Hid (Below W8.heap.size W8 (W8.alloc (.cells #[.int .i64 0, .slice none 0 0, .slice none 0 0] 25)).drew) := hba
          have hSn := HSV.out _ HBn.out
          refine hK _ _ (fun _ => hSn) ?_
          clear hK K hba HB hS
          try simp only [List.setIfInBounds_toArray, List.set_cons_zero, List.set_cons_succ]
          have HB := HBn
          have hS := hSn
          clear HBn hSn
          generalize (W8.alloc (.cells #[.int .i64 0, .slice none 0 0, .slice none 0 0] 25)).drew = wa at HB HAL hS ⊢
          refine U_one (i := 4) (listed' := #[true, true, true, true, true, false, false, false, false, true, false, false, false]) (by kernel_rfl) rfl (by kernel_rfl) rfl (fun K hK => ?_)
          go_simp
          refine (cP3.out _ _ _ _ HB.out HLT.out HMD.out).mono ?_
          rintro e wp ⟨p3, cb, cm, cd, db, dm, dd, tb, td, rfl, H9⟩
          have HBn : Hid (Below W8.heap.size W8 wp) := HB.out.trans (H9.out.2.mono HB.out.size)
          have hSn := HSV.out _ HBn.out
          have HALn := put_by (And.intro (HAL.out.1.later H9.out.2) (And.intro HAL.out.2.1 (Nat.lt_of_lt_of_le HAL.out.2.2 H9.out.2.size)))
          have HPL9 : Hid (PlQ (fun b => W8.heap.size ≤ b ∧ b ≠ W8.heap.size) s2 ((js.drop k).map some) p3 cb cm cd db dm dd tb 0 td wp) := H9.out.1.move (Kept.of_below (Below.refl _ _)) (fun b _ hb => by have h1 := HAL.out.2; have h2 := HB.out.size; exact ⟨by omega, by omega⟩)
          refine hK _ _ (fun _ => hSn) ?_
          clear hK K HB hS H9 HAL
          try simp only [Act.put, List.setIfInBounds_toArray, List.set_cons_zero, List.set_cons_succ]
          have HB := HBn
          have hS := hSn
          clear HBn hSn
          have HAL := HALn
          clear HALn
          refine V_takeS [12] 61 (k := 5) (v := .tuple #[.agg #[.int .i64 p3, .slice cb cm cd, .slice db dm dd], .slice tb 0 td, .int .i64 0]) rfl rfl (by kernel_rfl) (by kernel_rfl) (by kernel_rfl) (by kernel_rfl) (by kernel_rfl) (by kernel_rfl) (fun _ _ _ h => h) (Or.inl ⟨by rfl, fun V hV => ?_⟩) hS ?_
          · obtain ⟨z0, z1, z2⟩ := hV; go_simp
          try simp only [Act.put, List.setIfInBounds_toArray, List.set_cons_zero, List.set_cons_succ]
          refine V_takeS [12] 67 (k := 6) (v := .agg #[.int .i64 p3, .slice cb cm cd, .slice db dm dd]) rfl rfl (by kernel_rfl) (by kernel_rfl) (by kernel_rfl) (by kernel_rfl) (by kernel_rfl) (by kernel_rfl) (fun _ _ _ h => h) (Or.inl ⟨by rfl, fun V hV => ?_⟩) hS ?_
          · obtain ⟨z0, z1, z2⟩ := hV; go_simp
          try simp only [Act.put, List.setIfInBounds_toArray, List.set_cons_zero, List.set_cons_succ]
          refine V_takeS [12] 68 (k := 7) (v := .slice tb 0 td) rfl rfl (by kernel_rfl) (by kernel_rfl) (by kernel_rfl) (by kernel_rfl) (by kernel_rfl) (by kernel_rfl) (fun _ _ _ h => h) (Or.inl ⟨by rfl, fun V hV => ?_⟩) hS ?_
          · obtain ⟨z0, z1, z2⟩ := hV; go_simp
          try simp only [Act.put, List.setIfInBounds_toArray, List.set_cons_zero, List.set_cons_succ]
          refine V_takeS [12] 69 (k := 8) (v := .int .i64 0) rfl rfl (by kernel_rfl) (by kernel_rfl) (by kernel_rfl) (by kernel_rfl) (by kernel_rfl) (by kernel_rfl) (fun _ _ _ h => h) (Or.inl ⟨by rfl, fun V hV => ?_⟩) hS ?_
          · obtain ⟨z0, z1, z2⟩ := hV; go_simp
          try simp only [Act.put, List.setIfInBounds_toArray, List.set_cons_zero, List.set_cons_succ]
          obtain ⟨o0, q0⟩ := HAL.out.1 0 _ rfl
          obtain ⟨o1, q1⟩ := HAL.out.1 1 _ rfl
          obtain ⟨o2, q2⟩ := HAL.out.1 2 _ rfl
          refine U_one (i := 10) (listed' := #[true, true, true, true, true, true, true, true, true, true, true, false, false]) (by kernel_rfl) rfl (by kernel_rfl) rfl (fun K hK => ?_)
          go_simp
          have HF := put_by (three_set (N := W8.heap.size) HAL.out.1 HAL.out.2.1 (.int .i64 p3) (.slice cb cm cd) (.slice db dm dd))
          have hSf := HSV.out _ (HB.out.trans HF.out.2.1)
          refine hK _ _ (fun _ => hSf) ?_
          clear hK K o0 q0 o1 q1 o2 q2 hS
          try simp only [Act.put, List.setIfInBounds_toArray, List.set_cons_zero, List.set_cons_succ]
          have HE : Hid (0 = ((js.drop k).map encI).length ∧ Cls (((wp.setCell ⟨W8.heap.size, 0, none⟩ (.int .i64 p3)).setCell ⟨W8.heap.size, 1, none⟩ (.slice cb cm cd)).setCell ⟨W8.heap.size, 2, none⟩ (.slice db dm dd)) W8.heap.size [.int .i64 p3, .slice cb cm cd, .slice db dm dd] ∧ PlQ (fun _ => True) s2 ((js.drop k).map some) p3 cb cm cd db dm dd tb 0 td (((wp.setCell ⟨W8.heap.size, 0, none⟩ (.int .i64 p3)).setCell ⟨W8.heap.size, 1, none⟩ (.slice cb cm cd)).setCell ⟨W8.heap.size, 2, none⟩ (.slice db dm dd)) ∧ Below W8.heap.size W8 (((wp.setCell ⟨W8.heap.size, 0, none⟩ (.int .i64 p3)).setCell ⟨W8.heap.size, 1, none⟩ (.slice cb cm cd)).setCell ⟨W8.heap.size, 2, none⟩ (.slice db dm dd))) := ⟨HMD.out, HF.out.1, HPL9.out.move ⟨HF.out.2.1.size, fun g _ hg => HF.out.2.2 g hg.2⟩ (fun _ _ _ => trivial), HB.out.trans HF.out.2.1⟩
          generalize World.setCell (World.setCell (World.setCell wp _ _) _ _) _ _ = WE at HE hSf ⊢
          refine U_one (i := 11) (listed' := #[true, true, true, true, true, true, true, true, true, true, true, true, false]) (by kernel_rfl) rfl (by kernel_rfl) rfl (fun K hK => ?_)
          go_simp
          refine hK _ _ (fun _ => hSf) ?_
          clear hK K
          try simp only [Act.put, List.setIfInBounds_toArray, List.set_cons_zero, List.set_cons_succ]
          refine U_one (i := 12) (listed' := #[true, true, true, true, true, true, true, true, true, true, true, true, true]) (by kernel_rfl) rfl (by kernel_rfl) rfl (fun K hK => ?_)
          go_simp
          refine hK _ _ (fun hh => by cases (show true = false from hh)) ?_
          clear hK K
          try simp only [Act.put, List.setIfInBounds_toArray, List.set_cons_zero, List.set_cons_succ]
          refine U_done (by kernel_rfl) ?_ _
          go_wp2
          go_meet
          exact ⟨W8.heap.size, p3, cb, cm, cd, db, dm, dd, tb, 0, td, rfl, rfl, rfl, HE.out⟩
      case rest =>
        obtain ⟨AX, p3, cb, cm, cd, db, dm, dd, tb, tm, td, rfl, rfl, rfl, H9⟩ := hcut
        have hbc := H9.out.2.2.2
        obtain ⟨x0, -⟩ := V58.out.later hbc 0 _ rfl
        obtain ⟨x1, -⟩ := V58.out.later hbc 1 _ rfl
        obtain ⟨x2, -⟩ := V58.out.later hbc 2 _ rfl
        obtain ⟨y0, -⟩ := V68.out.later hbc 0 _ rfl
        obtain ⟨y1, -⟩ := V68.out.later hbc 1 _ rfl
        obtain ⟨y2, -⟩ := V68.out.later hbc 2 _ rfl
        obtain ⟨z0, -⟩ := V8.out.later hbc 0 _ rfl
        obtain ⟨z1, -⟩ := V8.out.later hbc 1 _ rfl
        obtain ⟨z2, -⟩ := V8.out.later hbc 2 _ rfl
        obtain ⟨u0, -⟩ := H9.out.2.1 0 _ rfl
        obtain ⟨u1, -⟩ := H9.out.2.1 1 _ rfl
        obtain ⟨u2, -⟩ := H9.out.2.1 2 _ rfl
        obtain ⟨l2, hl2⟩ : ∃ l2, l2 = (playM noSta ((js.take k).map some)).2 := ⟨_, rfl⟩
        obtain ⟨l3, hl3⟩ : ∃ l3, l3 = (playM s2 ((js.drop k).map some)).2 := ⟨_, rfl⟩
        have htp := two_parts js k
        rw [← HS2.out.1, ← hl2, ← hl3] at htp
        obtain ⟨s4, hs4⟩ : ∃ s4, s4 = (playM s2 ((js.drop k).map some)).1 := ⟨_, rfl⟩
        rw [← hs4] at htp
        have HM4 : Hid (MayS s4) := by
          have h := may_js HJ.out.1.2.1 (by rw [← HJ.out.2]; omega)
          rw [htp] at h
          exact h
        have P9 := P58.out.later hbc
        have QA : Hid (QSt s4 (k : Int) ca cn cc da dn dc wc) := by
          have h : QSt (playM noSta (js.map some)).1 (k : Int) ca cn cc da dn dc wc := ⟨P9.pos, P9.cn, P9.dn, P9.st⟩
          rw [htp] at h
          exact h
        have QX : Hid (QSt s4 p3 cb cm cd db dm dd wc) := by
          have h := H9.out.2.2.1
          rw [hs4]
          exact ⟨h.pos, h.cn, h.dn, h.st⟩
        have QB := put_by (Q68.out.1.later hbc)
        have QC := put_by (L8.out.later hbc)
        have HC : Hid (Lies kNum (fun _ => True) wc t1 q1 (l2 ++ l3) ∧ Lies kNum (fun _ => True) wc t2 q2 l2 ∧ Lies kNum (fun _ => True) wc tb td l3 ∧ k = l2.length ∧ tm = l3.length ∧ k = (l2 ++ l3).length ∧ (l2 ++ l3).length ≤ 24) := by
          have h1 := P9.told
          have h2 : k = (playM noSta (js.map some)).2.length := P9.codes
          rw [htp] at h1 h2
          have h2' : k = (l2 ++ l3).length := h2
          refine ⟨h1, by rw [hl2]; exact Q68.out.2.later hbc, by rw [hl3]; exact H9.out.2.2.1.told, ?_, ?_, h2', by rw [← h2']; exact hon24⟩
          · rw [hl2, playM_length, List.length_map, List.length_take, ← HJ.out.2]; omega
          · rw [hl3, playM_length, H9.out.1]; simp only [List.length_map]
        have HB9 : Hid (Below w.heap.size w wc) := HB1.out.trans ((B18.out.trans (hbc.mono B18.out.size)).mono HB1.out.size)
        have cM : Hid (Calls Try.prog 9 #[.agg #[.int .i64 (k : Int), .slice ca cn cc, .slice da dn dc]] wc fun e w' => e = .returned (.bool true) ∧ Below wc.heap.size wc w') := May_q HM4.out QA.out
        have cE1 : Hid (∀ V, Below wc.heap.size wc V → Calls Try.prog 26 #[.agg #[.int .i64 p2, .slice ea en ec, .slice fa fn fc], .agg #[.int .i64 (k : Int), .slice ga gn gc, .slice ha hn hc]] V fun e w' => e = .returned (.bool true) ∧ Below V.heap.size V w') := fun V hV => same_q (QB.out.later hV) (QC.out.later hV)
        have cE2 : Hid (∀ V, Below wc.heap.size wc V → Calls Try.prog 26 #[.agg #[.int .i64 (k : Int), .slice ca cn cc, .slice da dn dc], .agg #[.int .i64 p3, .slice cb cm cd, .slice db dm dd]] V fun e w' => e = .returned (.bool true) ∧ Below V.heap.size V w') := fun V hV => same_q (QA.out.later hV) (QX.out.later hV)
        have cX : Hid (∀ V b m c, Below wc.heap.size wc V → m = (l2 ++ l3).length → Lies kNum (fun _ => True) V b c (l2 ++ l3) → Calls Try.prog 27 #[.slice t1 k q1, .slice b m c] V fun e w' => e = .returned (.bool true) ∧ Below V.heap.size V w') := fun V b m c hV hm hl => codes_q (by have := HC.out.2.2.2.2.2.2; omega) HC.out.2.2.2.2.2.1 hm (HC.out.1.later hV) hl
        have hk24 : k ≤ 24 := by omega
        have hm24 : tm ≤ 24 := by have h1 := HC.out.2.2.2.2; have h2 := h1.1; have h3 := h1.2.2; rw [List.length_append] at h3; omega
        have hk2 : Hid (k = l2.length) := HC.out.2.2.2.1
        have hm3 : Hid (tm = l3.length) := HC.out.2.2.2.2.1
        clear htp hl2 hl3 hs4 P9 hbc
        go_upto_region 12 with (fail)
        go_wp2_with (first
          | (go_at_call 9; (with_reducible refine cM.out.mono ?_); clear cM; rintro e w10 ⟨rfl, hb10⟩; have H10 : Hid (Below wc.heap.size wc w10) := hb10; clear hb10; have x0 := (H10.out.cell (p := ⟨A1, 0, none⟩) (World.block_lt_of_cell? _ _ x0)).trans x0; have x1 := (H10.out.cell (p := ⟨A1, 1, none⟩) (World.block_lt_of_cell? _ _ x1)).trans x1; have x2 := (H10.out.cell (p := ⟨A1, 2, none⟩) (World.block_lt_of_cell? _ _ x2)).trans x2; have y0 := (H10.out.cell (p := ⟨A2, 0, none⟩) (World.block_lt_of_cell? _ _ y0)).trans y0; have y1 := (H10.out.cell (p := ⟨A2, 1, none⟩) (World.block_lt_of_cell? _ _ y1)).trans y1; have y2 := (H10.out.cell (p := ⟨A2, 2, none⟩) (World.block_lt_of_cell? _ _ y2)).trans y2; have z0 := (H10.out.cell (p := ⟨A3, 0, none⟩) (World.block_lt_of_cell? _ _ z0)).trans z0; have z1 := (H10.out.cell (p := ⟨A3, 1, none⟩) (World.block_lt_of_cell? _ _ z1)).trans z1; have z2 := (H10.out.cell (p := ⟨A3, 2, none⟩) (World.block_lt_of_cell? _ _ z2)).trans z2; have u0 := (H10.out.cell (p := ⟨AX, 0, none⟩) (World.block_lt_of_cell? _ _ u0)).trans u0; have u1 := (H10.out.cell (p := ⟨AX, 1, none⟩) (World.block_lt_of_cell? _ _ u1)).trans u1; have u2 := (H10.out.cell (p := ⟨AX, 2, none⟩) (World.block_lt_of_cell? _ _ u2)).trans u2)
          | (go_at_call 26; (with_reducible refine (cE1.out _ H10.out).mono ?_); clear cE1; rintro e w11 ⟨rfl, hb11⟩; have H11 : Hid (Below wc.heap.size wc w11) := H10.out.trans (hb11.mono H10.out.size); have x0 := (hb11.cell (p := ⟨A1, 0, none⟩) (World.block_lt_of_cell? _ _ x0)).trans x0; have x1 := (hb11.cell (p := ⟨A1, 1, none⟩) (World.block_lt_of_cell? _ _ x1)).trans x1; have x2 := (hb11.cell (p := ⟨A1, 2, none⟩) (World.block_lt_of_cell? _ _ x2)).trans x2; have u0 := (hb11.cell (p := ⟨AX, 0, none⟩) (World.block_lt_of_cell? _ _ u0)).trans u0; have u1 := (hb11.cell (p := ⟨AX, 1, none⟩) (World.block_lt_of_cell? _ _ u1)).trans u1; have u2 := (hb11.cell (p := ⟨AX, 2, none⟩) (World.block_lt_of_cell? _ _ u2)).trans u2; clear hb11)
          | (go_at_call 26; (with_reducible refine (cE2.out _ H11.out).mono ?_); clear cE2; rintro e w12 ⟨rfl, hb12⟩; have H12 : Hid (Below wc.heap.size wc w12) := H11.out.trans (hb12.mono H11.out.size); clear hb12)
          | (at_builtin; refine wpList_unguard rfl rfl ?_; refine wpList_append_rowsB (K := kNum) (ok := fun _ => True) (ok2 := fun _ => True) eltN rfl (.const (.slice none 0 0)) (.tmp 116) rfl w12.heap.size (.slice none 0 0) [] rfl (Rows.nil _ _ _ _ _) t2 q2 k l2 rfl hk2.out (HC.out.2.1.later H12.out) (fun _ _ _ _ => trivial) (fun _ _ _ e => by cases e) (by simp only [List.length_nil]; omega) (by decide) (Nat.le_refl _) ?_; intro v13 w13 r1 r2 r3; have H13 : Hid (Rows kNum (fun _ => True) w13 w12.heap.size 29 v13 l2 ∧ Below w12.heap.size w12 w13) := ⟨by simpa using r1, below_grown (Below.refl _ _) (Nat.le_refl _) r2 (fun r e => by cases e)⟩; clear r1 r2 r3)
          | (at_builtin; refine wpList_unguard rfl rfl ?_; refine wpList_append_rowsB (K := kNum) (ok := fun _ => True) (ok2 := fun b => b < w12.heap.size) eltN rfl (.tmp 117) (.tmp 118) rfl w12.heap.size v13 l2 rfl H13.out.1 tb td tm l3 rfl hm3.out (((HC.out.2.2.1.later H12.out).move (ok' := fun b => b < w12.heap.size) (Kept.of_below (Below.refl _ _)) (fun b hb _ => hb)).later H13.out.2) (fun _ _ _ _ => trivial) (fun b _ hb e => by have h1 := (rows_lt H13.out.1 b e).1; omega) (by rw [← hk2.out]; omega) (by decide) H13.out.2.size ?_; intro v14 w14 r1 r2 r3; have H14 : Hid (Rows kNum (fun _ => True) w14 w12.heap.size 29 v14 (l2 ++ l3) ∧ Below w12.heap.size w12 w14) := ⟨r1, below_grown H13.out.2 H13.out.2.size r2 (fun r e => (rows_lt H13.out.1 r e).1)⟩; clear r1 r2 r3; obtain ⟨a14, c14, e14⟩ := rows_form H14.out.1; obtain ⟨m14, hm14⟩ : ∃ m14, m14 = (l2 ++ l3).length := ⟨_, rfl⟩; rw [← hm14] at e14; subst e14; have HM14 := put_by hm14; clear hm14)
          | (go_at_call 27; (with_reducible refine (cX.out _ _ _ _ (H12.out.trans (H14.out.2.mono H12.out.size)) HM14.out (rows_lies H14.out.1 (fun _ _ => trivial)).2.1).mono ?_); clear cX; rintro e w15 ⟨rfl, hb15⟩; have H15 := put_by hb15; clear hb15))
        exact HP.out _ (HB9.out.trans (((H12.out.trans (H14.out.2.mono H12.out.size)).trans (H15.out.mono (Nat.le_trans H12.out.size H14.out.2.size))).mono HB9.out.size))

    · have hlt : k < oc := by omega
      have HMD : Hid (on - k = ((js.drop k).map encI).length) := by show _ = _; rw [List.length_map, List.length_drop, ← HJ.out.2]
      have HLT0 : Hid (Lies kLog (fun _ => True) w1 (some ⟨b, off + k, none⟩) (oc - k) ((js.drop k).map encI)) := by
        have h3 := HLG.out.drop k
        rw [← List.map_drop, Nat.mul_one] at h3
        exact h3
      go_upto_region 7 with (first
        | (go_at_call 11; (with_reducible refine (cP2.out _ B5.out).mono ?_); clear cP2; rintro e w3 ⟨p2, ea, en, ec, fa, fn, fc, t2, q2, rfl, H6⟩))
      have h6 : Below w3.heap.size w3 (w3.alloc (.cells #[.int .i64 p2, .slice ea en ec, .slice fa fn fc] 25)) := (Below.refl _ _).alloc (Nat.le_refl _) _
      have V6 := put_by (Cls.new w3 [.int .i64 p2, .slice ea en ec, .slice fa fn fc] 25)
      have B6 : Hid (Below W5.heap.size W5 (w3.alloc (.cells #[.int .i64 p2, .slice ea en ec, .slice fa fn fc] 25))) := H6.out.2.trans (h6.mono H6.out.2.size)
      have Q6 : Hid (QSt s2 p2 ea en ec fa fn fc (w3.alloc (.cells #[.int .i64 p2, .slice ea en ec, .slice fa fn fc] 25)) ∧ Lies kNum (fun _ => True) (w3.alloc (.cells #[.int .i64 p2, .slice ea en ec, .slice fa fn fc] 25)) t2 q2 (playM noSta ((js.take k).map some)).2) := by
        rw [HS2.out.1]
        have h := H6.out.1.later h6
        exact ⟨⟨h.pos, h.cn, h.dn, h.st⟩, h.told⟩
      clear h6 H6
      generalize w3.alloc (.cells #[.int .i64 p2, .slice ea en ec, .slice fa fn fc] 25) = W6 at V6 B6 Q6 ⊢
      generalize w3.heap.size = A2 at V6 ⊢
      obtain ⟨y0, -⟩ := V6.out 0 _ rfl
      obtain ⟨y1, -⟩ := V6.out 1 _ rfl
      obtain ⟨y2, -⟩ := V6.out 2 _ rfl
      go_upto_region 8 with (first
        | (go_at_call 18; (with_reducible refine (cS.out _ _ _ _ _ _ _ _ Q6.out.1).mono ?_); clear cS; rintro e w4 ⟨sa, sm, sk, rfl, H7⟩))
      clear y0 y1 y2
      go_upto_region 9 with (first
        | (go_at_call 21; (with_reducible refine (cL.out _ _ _ _ H7.out.1 H7.out.2.1).mono ?_); clear cL; rintro e w5 ⟨ga, gn, gc, ha, hn, hc, rfl, H8⟩))
      have h8 : Below w5.heap.size w5 (w5.alloc (.cells #[.int .i64 (k : Int), .slice ga gn gc, .slice ha hn hc] 25)) := (Below.refl _ _).alloc (Nat.le_refl _) _
      have V8 := put_by (Cls.new w5 [.int .i64 (k : Int), .slice ga gn gc, .slice ha hn hc] 25)
      have B8 : Hid (Below W6.heap.size W6 (w5.alloc (.cells #[.int .i64 (k : Int), .slice ga gn gc, .slice ha hn hc] 25))) := H7.out.2.2.trans ((H8.out.2.2.2.trans (h8.mono H8.out.2.2.2.size)).mono H7.out.2.2.size)
      have L8 : Hid (QSt s2 (k : Int) ga gn gc ha hn hc (w5.alloc (.cells #[.int .i64 (k : Int), .slice ga gn gc, .slice ha hn hc] 25))) := ⟨HS2.out.2.2.1.symm, H8.out.1, H8.out.2.1, H8.out.2.2.1.later h8⟩
      clear h8 H7 H8
      generalize w5.alloc (.cells #[.int .i64 (k : Int), .slice ga gn gc, .slice ha hn hc] 25) = W8 at V8 B8 L8 ⊢
      generalize w5.heap.size = A3 at V8 ⊢
      have B58 : Hid (Below W5.heap.size W5 W8) := B6.out.trans (B8.out.mono B6.out.size)
      have B18 : Hid (Below w1.heap.size w1 W8) := B5.out.trans (B58.out.mono B5.out.size)
      have HLT := put_by (HLT0.out.later B18.out)
      have V58 := put_by (V5.out.later B58.out)
      have P58 := put_by (P5.out.later B58.out)
      have V68 := put_by (V6.out.later B8.out)
      have Q68 := put_by (And.intro (Q6.out.1.later B8.out) (Q6.out.2.later B8.out))
      clear V5 P5 V6 Q6 HLT0
      have HSV : Hid (∀ V : World, Below W8.heap.size W8 V → V.cell? ⟨A3, 0, none⟩ = some (.int .i64 (k : Int)) ∧ V.cell? ⟨A3, 1, none⟩ = some (.slice ga gn gc) ∧ V.cell? ⟨A3, 2, none⟩ = some (.slice ha hn hc)) := fun V hV => by
        have h := V8.out.later hV
        exact ⟨(h 0 _ rfl).1, (h 1 _ rfl).1, (h 2 _ rfl).1⟩
      have cP3 : Hid (∀ V m ta tc, Below W8.heap.size W8 V → Lies kLog (fun _ => True) W8 ta tc ((js.drop k).map encI) → m = ((js.drop k).map encI).length → Calls Try.prog 11 #[.agg #[.int .i64 (k : Int), .slice ga gn gc, .slice ha hn hc], .slice ta m tc] V fun e w' => ∃ (p : Int) (a : Option Addr) (n c : Nat) (a2 : Option Addr) (n2 c2 : Nat) (a3 : Option Addr) (c3 : Nat), e = .returned (.tuple #[.agg #[.int .i64 p, .slice a n c, .slice a2 n2 c2], .slice a3 m c3, .int .i64 0]) ∧ Hid (PlQ (fun b => V.heap.size ≤ b) s2 ((js.drop k).map some) p a n c a2 n2 c2 a3 m c3 w' ∧ Below V.heap.size V w')) := fun V m ta tc hV hl hm => by
        have hll : ((js.drop k).map encI).length ≤ 24 := by rw [List.length_map, List.length_drop, ← HJ.out.2]; omega
        have h2 := HS2.out.2.2
        exact Play_fresh L8.out.pos L8.out.cn L8.out.dn (L8.out.st.later hV) HS2.out.2.1 (hl.later hV) (tells_js (fun x hx => HJ.out.1.2.1 x (List.mem_of_mem_drop hx))) (by omega) hm (by omega) (by omega) (by omega)
      go_cut [19, 20, 21] from 61 to 69 (fun pb cx ee wx => ∃ (AX : Nat) (p3 : Int) (cb : Option Addr) (cm cd : Nat) (db : Option Addr) (dm dd : Nat) (tb : Option Addr) (tm td : Nat), pb = .pointer (some ⟨AX, 0, none⟩) ∧ cx = .slice tb tm td ∧ ee = .int .i64 0 ∧ Hid (tm = ((js.drop k).map encI).length ∧ Cls wx AX [.int .i64 p3, .slice cb cm cd, .slice db dm dd] ∧ PlQ (fun _ => True) s2 ((js.drop k).map some) p3 cb cm cd db dm dd tb tm td wx ∧ Below W8.heap.size W8 wx))
      case first =>
        have hS := HSV.out W8.drew (Below.refl _ _).drew
        have HB : Hid (Below W8.heap.size W8 W8.drew) := (Below.refl _ _).drew
        refine region_plain (fun V : World => V.cell? ⟨A3, 0, none⟩ = some (.int .i64 (k : Int)) ∧ V.cell? ⟨A3, 1, none⟩ = some (.slice ga gn gc) ∧ V.cell? ⟨A3, 2, none⟩ = some (.slice ha hn hc)) 12 (by kernel_rfl) ?_
        change wpAnyU _ _ _ _ _ 13 #[false, false, false, false, false, false, false, false, false, false, false, false, false] _ W8.drew
        refine V_takeS [12] 62 (k := 0) (v := .agg #[.int .i64 (k : Int), .slice ga gn gc, .slice ha hn hc]) rfl rfl (by kernel_rfl) (by kernel_rfl) (by kernel_rfl) (by kernel_rfl) (by kernel_rfl) (by kernel_rfl) (fun _ _ _ h => h) (Or.inl ⟨by rfl, fun V hV => ?_⟩) hS ?_
        · obtain ⟨z0, z1, z2⟩ := hV; go_simp
        try simp only [Act.put, List.setIfInBounds_toArray, List.set_cons_zero, List.set_cons_succ]
        refine V_takeS [12] 63 (k := 1) (v := .slice (some ⟨b, off, none⟩) on oc) rfl rfl (by kernel_rfl) (by kernel_rfl) (by kernel_rfl) (by kernel_rfl) (by kernel_rfl) (by kernel_rfl) (fun _ _ _ h => h) (Or.inl ⟨by rfl, fun V hV => ?_⟩) hS ?_
        · obtain ⟨z0, z1, z2⟩ := hV; go_simp
        try simp only [Act.put, List.setIfInBounds_toArray, List.set_cons_zero, List.set_cons_succ]
        refine V_takeS [12] 64 (k := 2) (v := .int .i64 (k : Int)) rfl rfl (by kernel_rfl) (by kernel_rfl) (by kernel_rfl) (by kernel_rfl) (by kernel_rfl) (by kernel_rfl) (fun _ _ _ h => h) (Or.inl ⟨by rfl, fun V hV => ?_⟩) hS ?_
        · obtain ⟨z0, z1, z2⟩ := hV; go_simp
        try simp only [Act.put, List.setIfInBounds_toArray, List.set_cons_zero, List.set_cons_succ]
        refine V_takeS [12] 65 (k := 3) (v := .slice (some ⟨b, off + k, none⟩) (on - k) (oc - k)) rfl rfl (by kernel_rfl) (by kernel_rfl) (by kernel_rfl) (by kernel_rfl) (by kernel_rfl) (by kernel_rfl) (fun _ _ _ h => h) (Or.inl ⟨by rfl, fun V hV => ?_⟩) hS ?_
        · obtain ⟨z0, z1, z2⟩ := hV; go_simp
        try simp only [Act.put, List.setIfInBounds_toArray, List.set_cons_zero, List.set_cons_succ]
        refine U_two (i := 4) (j := 9) (by kernel_rfl) rfl rfl rfl rfl (fun K hK => ?_) (fun K hK => ?_)
        · go_simp
          refine (cP3.out _ _ _ _ HB.out HLT.out HMD.out).mono ?_
          rintro e wp ⟨p3, cb, cm, cd, db, dm, dd, tb, td, rfl, H9⟩
          have HBn : Hid (Below W8.heap.size W8 wp) := HB.out.trans (H9.out.2.mono HB.out.size)
          have hSn := HSV.out _ HBn.out
          have HPL9 : Hid (PlQ (fun b => W8.heap.size ≤ b) s2 ((js.drop k).map some) p3 cb cm cd db dm dd tb (on - k) td wp) := H9.out.1
          refine hK _ _ (fun _ => hSn) ?_
          clear hK K HB hS H9
          try simp only [List.setIfInBounds_toArray, List.set_cons_zero, List.set_cons_succ]
          have HB := HBn
          have hS := hSn
          clear HBn hSn
          refine V_takeS [12] 61 (k := 5) (v := .tuple #[.agg #[.int .i64 p3, .slice cb cm cd, .slice db dm dd], .slice tb (on - k) td, .int .i64 0]) rfl rfl (by kernel_rfl) (by kernel_rfl) (by kernel_rfl) (by kernel_rfl) (by kernel_rfl) (by kernel_rfl) (fun _ _ _ h => h) (Or.inl ⟨by rfl, fun V hV => ?_⟩) hS ?_
          · obtain ⟨z0, z1, z2⟩ := hV; go_simp
          try simp only [Act.put, List.setIfInBounds_toArray, List.set_cons_zero, List.set_cons_succ]
          refine V_takeS [12] 67 (k := 6) (v := .agg #[.int .i64 p3, .slice cb cm cd, .slice db dm dd]) rfl rfl (by kernel_rfl) (by kernel_rfl) (by kernel_rfl) (by kernel_rfl) (by kernel_rfl) (by kernel_rfl) (fun _ _ _ h => h) (Or.inl ⟨by rfl, fun V hV => ?_⟩) hS ?_
          · obtain ⟨z0, z1, z2⟩ := hV; go_simp
          try simp only [Act.put, List.setIfInBounds_toArray, List.set_cons_zero, List.set_cons_succ]
          refine V_takeS [12] 68 (k := 7) (v := .slice tb (on - k) td) rfl rfl (by kernel_rfl) (by kernel_rfl) (by kernel_rfl) (by kernel_rfl) (by kernel_rfl) (by kernel_rfl) (fun _ _ _ h => h) (Or.inl ⟨by rfl, fun V hV => ?_⟩) hS ?_
          · obtain ⟨z0, z1, z2⟩ := hV; go_simp
          try simp only [Act.put, List.setIfInBounds_toArray, List.set_cons_zero, List.set_cons_succ]
          refine V_takeS [12] 69 (k := 8) (v := .int .i64 0) rfl rfl (by kernel_rfl) (by kernel_rfl) (by kernel_rfl) (by kernel_rfl) (by kernel_rfl) (by kernel_rfl) (fun _ _ _ h => h) (Or.inl ⟨by rfl, fun V hV => ?_⟩) hS ?_
          · obtain ⟨z0, z1, z2⟩ := hV; go_simp
          try simp only [Act.put, List.setIfInBounds_toArray, List.set_cons_zero, List.set_cons_succ]
          refine U_one (i := 9) (listed' := #[true, true, true, true, true, true, true, true, true, true, false, false, false]) (by kernel_rfl) rfl (by kernel_rfl) rfl (fun K hK => ?_)
          go_simp
          have hba : Below wp.heap.size wp (wp.alloc (.cells #[.int .i64 0, .slice none 0 0, .slice none 0 0] 25)) := (Below.refl _ _).alloc (Nat.le_refl _) _
          have HAL : Hid (Cls (wp.alloc (.cells #[.int .i64 0, .slice none 0 0, .slice none 0 0] 25)) wp.heap.size [.int .i64 0, .slice none 0 0, .slice none 0 0] ∧ W8.heap.size ≤ wp.heap.size ∧ wp.heap.size < (wp.alloc (.cells #[.int .i64 0, .slice none 0 0, .slice none 0 0] 25)).heap.size) := ⟨Cls.new wp [.int .i64 0, .slice none 0 0, .slice none 0 0] 25, HB.out.size, by simp⟩
          have HBn : Hid (Below W8.heap.size W8 (wp.alloc (.cells #[.int .i64 0, .slice none 0 0, .slice none 0 0] 25))) := HB.out.trans (hba.mono HB.out.size)
          have hSn := HSV.out _ HBn.out
          have HPLn : Hid (PlQ (fun b => W8.heap.size ≤ b ∧ b ≠ wp.heap.size) s2 ((js.drop k).map some) p3 cb cm cd db dm dd tb (on - k) td (wp.alloc (.cells #[.int .i64 0, .slice none 0 0, .slice none 0 0] 25))) := (HPL9.out.move (Kept.of_below (Below.refl _ _)) (fun b hb ho => ⟨ho, by omega⟩)).later hba
          refine hK _ _ (fun _ => hSn) ?_
          clear hK K hba HB hS HPL9
          try simp only [Act.put, List.setIfInBounds_toArray, List.set_cons_zero, List.set_cons_succ]
          have HB := HBn
          have hS := hSn
          clear HBn hSn
          have HPL9 := HPLn
          clear HPLn
          generalize (wp.alloc (.cells #[.int .i64 0, .slice none 0 0, .slice none 0 0] 25)) = wa at HB HAL hS HPL9 ⊢
          generalize wp.heap.size = AX at HAL HPL9 ⊢
          obtain ⟨o0, q0⟩ := HAL.out.1 0 _ rfl
          obtain ⟨o1, q1⟩ := HAL.out.1 1 _ rfl
          obtain ⟨o2, q2⟩ := HAL.out.1 2 _ rfl
          refine U_one (i := 10) (listed' := #[true, true, true, true, true, true, true, true, true, true, true, false, false]) (by kernel_rfl) rfl (by kernel_rfl) rfl (fun K hK => ?_)
          go_simp
          have HF := put_by (three_set (N := W8.heap.size) HAL.out.1 HAL.out.2.1 (.int .i64 p3) (.slice cb cm cd) (.slice db dm dd))
          have hSf := HSV.out _ (HB.out.trans HF.out.2.1)
          refine hK _ _ (fun _ => hSf) ?_
          clear hK K o0 q0 o1 q1 o2 q2 hS
          try simp only [Act.put, List.setIfInBounds_toArray, List.set_cons_zero, List.set_cons_succ]
          have HE : Hid ((on - k) = ((js.drop k).map encI).length ∧ Cls (((wa.setCell ⟨AX, 0, none⟩ (.int .i64 p3)).setCell ⟨AX, 1, none⟩ (.slice cb cm cd)).setCell ⟨AX, 2, none⟩ (.slice db dm dd)) AX [.int .i64 p3, .slice cb cm cd, .slice db dm dd] ∧ PlQ (fun _ => True) s2 ((js.drop k).map some) p3 cb cm cd db dm dd tb (on - k) td (((wa.setCell ⟨AX, 0, none⟩ (.int .i64 p3)).setCell ⟨AX, 1, none⟩ (.slice cb cm cd)).setCell ⟨AX, 2, none⟩ (.slice db dm dd)) ∧ Below W8.heap.size W8 (((wa.setCell ⟨AX, 0, none⟩ (.int .i64 p3)).setCell ⟨AX, 1, none⟩ (.slice cb cm cd)).setCell ⟨AX, 2, none⟩ (.slice db dm dd))) := ⟨HMD.out, HF.out.1, HPL9.out.move ⟨HF.out.2.1.size, fun g _ hg => HF.out.2.2 g hg.2⟩ (fun _ _ _ => trivial), HB.out.trans HF.out.2.1⟩
          generalize World.setCell (World.setCell (World.setCell wa _ _) _ _) _ _ = WE at HE hSf ⊢
          refine U_one (i := 11) (listed' := #[true, true, true, true, true, true, true, true, true, true, true, true, false]) (by kernel_rfl) rfl (by kernel_rfl) rfl (fun K hK => ?_)
          go_simp
          refine hK _ _ (fun _ => hSf) ?_
          clear hK K
          try simp only [Act.put, List.setIfInBounds_toArray, List.set_cons_zero, List.set_cons_succ]
          refine U_one (i := 12) (listed' := #[true, true, true, true, true, true, true, true, true, true, true, true, true]) (by kernel_rfl) rfl (by kernel_rfl) rfl (fun K hK => ?_)
          go_simp
          refine hK _ _ (fun hh => by cases (show true = false from hh)) ?_
          clear hK K
          try simp only [Act.put, List.setIfInBounds_toArray, List.set_cons_zero, List.set_cons_succ]
          refine U_done (by kernel_rfl) ?_ _
          go_wp2
          go_meet
          exact ⟨AX, p3, cb, cm, cd, db, dm, dd, tb, (on - k), td, rfl, rfl, rfl, HE.out⟩
        · go_simp
          have hba : Below W8.heap.size W8 (W8.alloc (.cells #[.int .i64 0, .slice none 0 0, .slice none 0 0] 25)).drew := ((Below.refl _ _).alloc (Nat.le_refl _) _).drew
          have HAL : Hid (Cls (W8.alloc (.cells #[.int .i64 0, .slice none 0 0, .slice none 0 0] 25)).drew W8.heap.size [.int .i64 0, .slice none 0 0, .slice none 0 0] ∧ W8.heap.size ≤ W8.heap.size ∧ W8.heap.size < (W8.alloc (.cells #[.int .i64 0, .slice none 0 0, .slice none 0 0] 25)).drew.heap.size) := ⟨(Cls.new W8 [.int .i64 0, .slice none 0 0, .slice none 0 0] 25).later (Below.refl _ _).drew, Nat.le_refl _, by simp⟩
          have HBn : Hid (Below W8.heap.size W8 (W8.alloc (.cells #[.int .i64 0, .slice none 0 0, .slice none 0 0] 25)).drew) := hba
          have hSn := HSV.out _ HBn.out
          refine hK _ _ (fun _ => hSn) ?_
          clear hK K hba HB hS
          try simp only [List.setIfInBounds_toArray, List.set_cons_zero, List.set_cons_succ]
          have HB := HBn
          have hS := hSn
          clear HBn hSn
          generalize (W8.alloc (.cells #[.int .i64 0, .slice none 0 0, .slice none 0 0] 25)).drew = wa at HB HAL hS ⊢
          refine U_one (i := 4) (listed' := #[true, true, true, true, true, false, false, false, false, true, false, false, false]) (by kernel_rfl) rfl (by kernel_rfl) rfl (fun K hK => ?_)
          go_simp
          refine (cP3.out _ _ _ _ HB.out HLT.out HMD.out).mono ?_
          rintro e wp ⟨p3, cb, cm, cd, db, dm, dd, tb, td, rfl, H9⟩
          have HBn : Hid (Below W8.heap.size W8 wp) := HB.out.trans (H9.out.2.mono HB.out.size)
          have hSn := HSV.out _ HBn.out
          have HALn := put_by (And.intro (HAL.out.1.later H9.out.2) (And.intro HAL.out.2.1 (Nat.lt_of_lt_of_le HAL.out.2.2 H9.out.2.size)))
          have HPL9 : Hid (PlQ (fun b => W8.heap.size ≤ b ∧ b ≠ W8.heap.size) s2 ((js.drop k).map some) p3 cb cm cd db dm dd tb (on - k) td wp) := H9.out.1.move (Kept.of_below (Below.refl _ _)) (fun b _ hb => by have h1 := HAL.out.2; have h2 := HB.out.size; exact ⟨by omega, by omega⟩)
          refine hK _ _ (fun _ => hSn) ?_
          clear hK K HB hS H9 HAL
          try simp only [Act.put, List.setIfInBounds_toArray, List.set_cons_zero, List.set_cons_succ]
          have HB := HBn
          have hS := hSn
          clear HBn hSn
          have HAL := HALn
          clear HALn
          refine V_takeS [12] 61 (k := 5) (v := .tuple #[.agg #[.int .i64 p3, .slice cb cm cd, .slice db dm dd], .slice tb (on - k) td, .int .i64 0]) rfl rfl (by kernel_rfl) (by kernel_rfl) (by kernel_rfl) (by kernel_rfl) (by kernel_rfl) (by kernel_rfl) (fun _ _ _ h => h) (Or.inl ⟨by rfl, fun V hV => ?_⟩) hS ?_
          · obtain ⟨z0, z1, z2⟩ := hV; go_simp
          try simp only [Act.put, List.setIfInBounds_toArray, List.set_cons_zero, List.set_cons_succ]
          refine V_takeS [12] 67 (k := 6) (v := .agg #[.int .i64 p3, .slice cb cm cd, .slice db dm dd]) rfl rfl (by kernel_rfl) (by kernel_rfl) (by kernel_rfl) (by kernel_rfl) (by kernel_rfl) (by kernel_rfl) (fun _ _ _ h => h) (Or.inl ⟨by rfl, fun V hV => ?_⟩) hS ?_
          · obtain ⟨z0, z1, z2⟩ := hV; go_simp
          try simp only [Act.put, List.setIfInBounds_toArray, List.set_cons_zero, List.set_cons_succ]
          refine V_takeS [12] 68 (k := 7) (v := .slice tb (on - k) td) rfl rfl (by kernel_rfl) (by kernel_rfl) (by kernel_rfl) (by kernel_rfl) (by kernel_rfl) (by kernel_rfl) (fun _ _ _ h => h) (Or.inl ⟨by rfl, fun V hV => ?_⟩) hS ?_
          · obtain ⟨z0, z1, z2⟩ := hV; go_simp
          try simp only [Act.put, List.setIfInBounds_toArray, List.set_cons_zero, List.set_cons_succ]
          refine V_takeS [12] 69 (k := 8) (v := .int .i64 0) rfl rfl (by kernel_rfl) (by kernel_rfl) (by kernel_rfl) (by kernel_rfl) (by kernel_rfl) (by kernel_rfl) (fun _ _ _ h => h) (Or.inl ⟨by rfl, fun V hV => ?_⟩) hS ?_
          · obtain ⟨z0, z1, z2⟩ := hV; go_simp
          try simp only [Act.put, List.setIfInBounds_toArray, List.set_cons_zero, List.set_cons_succ]
          obtain ⟨o0, q0⟩ := HAL.out.1 0 _ rfl
          obtain ⟨o1, q1⟩ := HAL.out.1 1 _ rfl
          obtain ⟨o2, q2⟩ := HAL.out.1 2 _ rfl
          refine U_one (i := 10) (listed' := #[true, true, true, true, true, true, true, true, true, true, true, false, false]) (by kernel_rfl) rfl (by kernel_rfl) rfl (fun K hK => ?_)
          go_simp
          have HF := put_by (three_set (N := W8.heap.size) HAL.out.1 HAL.out.2.1 (.int .i64 p3) (.slice cb cm cd) (.slice db dm dd))
          have hSf := HSV.out _ (HB.out.trans HF.out.2.1)
          refine hK _ _ (fun _ => hSf) ?_
          clear hK K o0 q0 o1 q1 o2 q2 hS
          try simp only [Act.put, List.setIfInBounds_toArray, List.set_cons_zero, List.set_cons_succ]
          have HE : Hid ((on - k) = ((js.drop k).map encI).length ∧ Cls (((wp.setCell ⟨W8.heap.size, 0, none⟩ (.int .i64 p3)).setCell ⟨W8.heap.size, 1, none⟩ (.slice cb cm cd)).setCell ⟨W8.heap.size, 2, none⟩ (.slice db dm dd)) W8.heap.size [.int .i64 p3, .slice cb cm cd, .slice db dm dd] ∧ PlQ (fun _ => True) s2 ((js.drop k).map some) p3 cb cm cd db dm dd tb (on - k) td (((wp.setCell ⟨W8.heap.size, 0, none⟩ (.int .i64 p3)).setCell ⟨W8.heap.size, 1, none⟩ (.slice cb cm cd)).setCell ⟨W8.heap.size, 2, none⟩ (.slice db dm dd)) ∧ Below W8.heap.size W8 (((wp.setCell ⟨W8.heap.size, 0, none⟩ (.int .i64 p3)).setCell ⟨W8.heap.size, 1, none⟩ (.slice cb cm cd)).setCell ⟨W8.heap.size, 2, none⟩ (.slice db dm dd))) := ⟨HMD.out, HF.out.1, HPL9.out.move ⟨HF.out.2.1.size, fun g _ hg => HF.out.2.2 g hg.2⟩ (fun _ _ _ => trivial), HB.out.trans HF.out.2.1⟩
          generalize World.setCell (World.setCell (World.setCell wp _ _) _ _) _ _ = WE at HE hSf ⊢
          refine U_one (i := 11) (listed' := #[true, true, true, true, true, true, true, true, true, true, true, true, false]) (by kernel_rfl) rfl (by kernel_rfl) rfl (fun K hK => ?_)
          go_simp
          refine hK _ _ (fun _ => hSf) ?_
          clear hK K
          try simp only [Act.put, List.setIfInBounds_toArray, List.set_cons_zero, List.set_cons_succ]
          refine U_one (i := 12) (listed' := #[true, true, true, true, true, true, true, true, true, true, true, true, true]) (by kernel_rfl) rfl (by kernel_rfl) rfl (fun K hK => ?_)
          go_simp
          refine hK _ _ (fun hh => by cases (show true = false from hh)) ?_
          clear hK K
          try simp only [Act.put, List.setIfInBounds_toArray, List.set_cons_zero, List.set_cons_succ]
          refine U_done (by kernel_rfl) ?_ _
          go_wp2
          go_meet
          exact ⟨W8.heap.size, p3, cb, cm, cd, db, dm, dd, tb, (on - k), td, rfl, rfl, rfl, HE.out⟩
      case rest =>
        obtain ⟨AX, p3, cb, cm, cd, db, dm, dd, tb, tm, td, rfl, rfl, rfl, H9⟩ := hcut
        have hbc := H9.out.2.2.2
        obtain ⟨x0, -⟩ := V58.out.later hbc 0 _ rfl
        obtain ⟨x1, -⟩ := V58.out.later hbc 1 _ rfl
        obtain ⟨x2, -⟩ := V58.out.later hbc 2 _ rfl
        obtain ⟨y0, -⟩ := V68.out.later hbc 0 _ rfl
        obtain ⟨y1, -⟩ := V68.out.later hbc 1 _ rfl
        obtain ⟨y2, -⟩ := V68.out.later hbc 2 _ rfl
        obtain ⟨z0, -⟩ := V8.out.later hbc 0 _ rfl
        obtain ⟨z1, -⟩ := V8.out.later hbc 1 _ rfl
        obtain ⟨z2, -⟩ := V8.out.later hbc 2 _ rfl
        obtain ⟨u0, -⟩ := H9.out.2.1 0 _ rfl
        obtain ⟨u1, -⟩ := H9.out.2.1 1 _ rfl
        obtain ⟨u2, -⟩ := H9.out.2.1 2 _ rfl
        obtain ⟨l2, hl2⟩ : ∃ l2, l2 = (playM noSta ((js.take k).map some)).2 := ⟨_, rfl⟩
        obtain ⟨l3, hl3⟩ : ∃ l3, l3 = (playM s2 ((js.drop k).map some)).2 := ⟨_, rfl⟩
        have htp := two_parts js k
        rw [← HS2.out.1, ← hl2, ← hl3] at htp
        obtain ⟨s4, hs4⟩ : ∃ s4, s4 = (playM s2 ((js.drop k).map some)).1 := ⟨_, rfl⟩
        rw [← hs4] at htp
        have HM4 : Hid (MayS s4) := by
          have h := may_js HJ.out.1.2.1 (by rw [← HJ.out.2]; omega)
          rw [htp] at h
          exact h
        have P9 := P58.out.later hbc
        have QA : Hid (QSt s4 (on : Int) ca cn cc da dn dc wc) := by
          have h : QSt (playM noSta (js.map some)).1 (on : Int) ca cn cc da dn dc wc := ⟨P9.pos, P9.cn, P9.dn, P9.st⟩
          rw [htp] at h
          exact h
        have QX : Hid (QSt s4 p3 cb cm cd db dm dd wc) := by
          have h := H9.out.2.2.1
          rw [hs4]
          exact ⟨h.pos, h.cn, h.dn, h.st⟩
        have QB := put_by (Q68.out.1.later hbc)
        have QC := put_by (L8.out.later hbc)
        have HC : Hid (Lies kNum (fun _ => True) wc t1 q1 (l2 ++ l3) ∧ Lies kNum (fun _ => True) wc t2 q2 l2 ∧ Lies kNum (fun _ => True) wc tb td l3 ∧ k = l2.length ∧ tm = l3.length ∧ on = (l2 ++ l3).length ∧ (l2 ++ l3).length ≤ 24) := by
          have h1 := P9.told
          have h2 : on = (playM noSta (js.map some)).2.length := P9.codes
          rw [htp] at h1 h2
          have h2' : on = (l2 ++ l3).length := h2
          refine ⟨h1, by rw [hl2]; exact Q68.out.2.later hbc, by rw [hl3]; exact H9.out.2.2.1.told, ?_, ?_, h2', by rw [← h2']; exact hon24⟩
          · rw [hl2, playM_length, List.length_map, List.length_take, ← HJ.out.2]; omega
          · rw [hl3, playM_length, H9.out.1]; simp only [List.length_map]
        have HB9 : Hid (Below w.heap.size w wc) := HB1.out.trans ((B18.out.trans (hbc.mono B18.out.size)).mono HB1.out.size)
        have cM : Hid (Calls Try.prog 9 #[.agg #[.int .i64 (on : Int), .slice ca cn cc, .slice da dn dc]] wc fun e w' => e = .returned (.bool true) ∧ Below wc.heap.size wc w') := May_q HM4.out QA.out
        have cE1 : Hid (∀ V, Below wc.heap.size wc V → Calls Try.prog 26 #[.agg #[.int .i64 p2, .slice ea en ec, .slice fa fn fc], .agg #[.int .i64 (k : Int), .slice ga gn gc, .slice ha hn hc]] V fun e w' => e = .returned (.bool true) ∧ Below V.heap.size V w') := fun V hV => same_q (QB.out.later hV) (QC.out.later hV)
        have cE2 : Hid (∀ V, Below wc.heap.size wc V → Calls Try.prog 26 #[.agg #[.int .i64 (on : Int), .slice ca cn cc, .slice da dn dc], .agg #[.int .i64 p3, .slice cb cm cd, .slice db dm dd]] V fun e w' => e = .returned (.bool true) ∧ Below V.heap.size V w') := fun V hV => same_q (QA.out.later hV) (QX.out.later hV)
        have cX : Hid (∀ V b m c, Below wc.heap.size wc V → m = (l2 ++ l3).length → Lies kNum (fun _ => True) V b c (l2 ++ l3) → Calls Try.prog 27 #[.slice t1 on q1, .slice b m c] V fun e w' => e = .returned (.bool true) ∧ Below V.heap.size V w') := fun V b m c hV hm hl => codes_q (by have := HC.out.2.2.2.2.2.2; omega) HC.out.2.2.2.2.2.1 hm (HC.out.1.later hV) hl
        have hk24 : k ≤ 24 := by omega
        have hm24 : tm ≤ 24 := by have h1 := HC.out.2.2.2.2; have h2 := h1.1; have h3 := h1.2.2; rw [List.length_append] at h3; omega
        have hk2 : Hid (k = l2.length) := HC.out.2.2.2.1
        have hm3 : Hid (tm = l3.length) := HC.out.2.2.2.2.1
        clear htp hl2 hl3 hs4 P9 hbc
        go_upto_region 12 with (fail)
        go_wp2_with (first
          | (go_at_call 9; (with_reducible refine cM.out.mono ?_); clear cM; rintro e w10 ⟨rfl, hb10⟩; have H10 : Hid (Below wc.heap.size wc w10) := hb10; clear hb10; have x0 := (H10.out.cell (p := ⟨A1, 0, none⟩) (World.block_lt_of_cell? _ _ x0)).trans x0; have x1 := (H10.out.cell (p := ⟨A1, 1, none⟩) (World.block_lt_of_cell? _ _ x1)).trans x1; have x2 := (H10.out.cell (p := ⟨A1, 2, none⟩) (World.block_lt_of_cell? _ _ x2)).trans x2; have y0 := (H10.out.cell (p := ⟨A2, 0, none⟩) (World.block_lt_of_cell? _ _ y0)).trans y0; have y1 := (H10.out.cell (p := ⟨A2, 1, none⟩) (World.block_lt_of_cell? _ _ y1)).trans y1; have y2 := (H10.out.cell (p := ⟨A2, 2, none⟩) (World.block_lt_of_cell? _ _ y2)).trans y2; have z0 := (H10.out.cell (p := ⟨A3, 0, none⟩) (World.block_lt_of_cell? _ _ z0)).trans z0; have z1 := (H10.out.cell (p := ⟨A3, 1, none⟩) (World.block_lt_of_cell? _ _ z1)).trans z1; have z2 := (H10.out.cell (p := ⟨A3, 2, none⟩) (World.block_lt_of_cell? _ _ z2)).trans z2; have u0 := (H10.out.cell (p := ⟨AX, 0, none⟩) (World.block_lt_of_cell? _ _ u0)).trans u0; have u1 := (H10.out.cell (p := ⟨AX, 1, none⟩) (World.block_lt_of_cell? _ _ u1)).trans u1; have u2 := (H10.out.cell (p := ⟨AX, 2, none⟩) (World.block_lt_of_cell? _ _ u2)).trans u2)
          | (go_at_call 26; (with_reducible refine (cE1.out _ H10.out).mono ?_); clear cE1; rintro e w11 ⟨rfl, hb11⟩; have H11 : Hid (Below wc.heap.size wc w11) := H10.out.trans (hb11.mono H10.out.size); have x0 := (hb11.cell (p := ⟨A1, 0, none⟩) (World.block_lt_of_cell? _ _ x0)).trans x0; have x1 := (hb11.cell (p := ⟨A1, 1, none⟩) (World.block_lt_of_cell? _ _ x1)).trans x1; have x2 := (hb11.cell (p := ⟨A1, 2, none⟩) (World.block_lt_of_cell? _ _ x2)).trans x2; have u0 := (hb11.cell (p := ⟨AX, 0, none⟩) (World.block_lt_of_cell? _ _ u0)).trans u0; have u1 := (hb11.cell (p := ⟨AX, 1, none⟩) (World.block_lt_of_cell? _ _ u1)).trans u1; have u2 := (hb11.cell (p := ⟨AX, 2, none⟩) (World.block_lt_of_cell? _ _ u2)).trans u2; clear hb11)
          | (go_at_call 26; (with_reducible refine (cE2.out _ H11.out).mono ?_); clear cE2; rintro e w12 ⟨rfl, hb12⟩; have H12 : Hid (Below wc.heap.size wc w12) := H11.out.trans (hb12.mono H11.out.size); clear hb12)
          | (at_builtin; refine wpList_unguard rfl rfl ?_; refine wpList_append_rowsB (K := kNum) (ok := fun _ => True) (ok2 := fun _ => True) eltN rfl (.const (.slice none 0 0)) (.tmp 116) rfl w12.heap.size (.slice none 0 0) [] rfl (Rows.nil _ _ _ _ _) t2 q2 k l2 rfl hk2.out (HC.out.2.1.later H12.out) (fun _ _ _ _ => trivial) (fun _ _ _ e => by cases e) (by simp only [List.length_nil]; omega) (by decide) (Nat.le_refl _) ?_; intro v13 w13 r1 r2 r3; have H13 : Hid (Rows kNum (fun _ => True) w13 w12.heap.size 29 v13 l2 ∧ Below w12.heap.size w12 w13) := ⟨by simpa using r1, below_grown (Below.refl _ _) (Nat.le_refl _) r2 (fun r e => by cases e)⟩; clear r1 r2 r3)
          | (at_builtin; refine wpList_unguard rfl rfl ?_; refine wpList_append_rowsB (K := kNum) (ok := fun _ => True) (ok2 := fun b => b < w12.heap.size) eltN rfl (.tmp 117) (.tmp 118) rfl w12.heap.size v13 l2 rfl H13.out.1 tb td tm l3 rfl hm3.out (((HC.out.2.2.1.later H12.out).move (ok' := fun b => b < w12.heap.size) (Kept.of_below (Below.refl _ _)) (fun b hb _ => hb)).later H13.out.2) (fun _ _ _ _ => trivial) (fun b _ hb e => by have h1 := (rows_lt H13.out.1 b e).1; omega) (by rw [← hk2.out]; omega) (by decide) H13.out.2.size ?_; intro v14 w14 r1 r2 r3; have H14 : Hid (Rows kNum (fun _ => True) w14 w12.heap.size 29 v14 (l2 ++ l3) ∧ Below w12.heap.size w12 w14) := ⟨r1, below_grown H13.out.2 H13.out.2.size r2 (fun r e => (rows_lt H13.out.1 r e).1)⟩; clear r1 r2 r3; obtain ⟨a14, c14, e14⟩ := rows_form H14.out.1; obtain ⟨m14, hm14⟩ : ∃ m14, m14 = (l2 ++ l3).length := ⟨_, rfl⟩; rw [← hm14] at e14; subst e14; have HM14 := put_by hm14; clear hm14)
          | (go_at_call 27; (with_reducible refine (cX.out _ _ _ _ (H12.out.trans (H14.out.2.mono H12.out.size)) HM14.out (rows_lies H14.out.1 (fun _ _ => trivial)).2.1).mono ?_); clear cX; rintro e w15 ⟨rfl, hb15⟩; have H15 := put_by hb15; clear hb15))
        exact HP.out _ (HB9.out.trans (((H12.out.trans (H14.out.2.mono H12.out.size)).trans (H15.out.mono (Nat.le_trans H12.out.size H14.out.2.size))).mono HB9.out.size))


end Go.Proofs.Ytjjdednlddnllaa
