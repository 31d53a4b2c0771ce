/- What is no intent does nothing but take its place: the walk. -/
import Derived.Test.YtjjdednlddnllabMlLaw
namespace Go.Proofs.Ytjjdednlddnllab
open Go.ChangeShapes Go.WideShapes Go.ChangeAt Go.RowKit

/-- what was played, in memory of so many blocks -/
structure PlQ (ok : Nat → Prop) (s : Sta) (es : List (Option Itt)) (p : Int) (a : Option Addr) (n c : Nat) (a2 : Option Addr) (n2 c2 : Nat) (a3 : Option Addr) (n3 c3 : Nat) (w : World) : Prop where
  pos : p = (playM s es).1.pos
  cn : n = (playM s es).1.cells.length
  dn : n2 = (playM s es).1.dones.length
  st : StIs ok w (playM s es).1.cells (playM s es).1.dones a c a2 c2
  told : Lies kNum ok w a3 c3 (playM s es).2

theorem PlQ.move {ok ok' : Nat → Prop} {s : Sta} {es : List (Option Itt)} {p : Int} {a : Option Addr} {n c : Nat} {a2 : Option Addr} {n2 c2 : Nat} {a3 : Option Addr} {n3 c3 : Nat} {w w' : World} (h : PlQ ok s es p a n c a2 n2 c2 a3 n3 c3 w) (hk : Kept ok w w') (ho : ∀ b, b < w.heap.size → ok b → ok' b) : PlQ ok' s es p a n c a2 n2 c2 a3 n3 c3 w' :=
  ⟨h.pos, h.cn, h.dn, ⟨h.st.cells.move hk ho, h.st.dones.move hk ho, h.st.few⟩, h.told.move hk ho⟩

theorem PlQ.later {ok : Nat → Prop} {s : Sta} {es : List (Option Itt)} {p : Int} {a : Option Addr} {n c : Nat} {a2 : Option Addr} {n2 c2 : Nat} {a3 : Option Addr} {n3 c3 : Nat} {w w' : World} (h : PlQ ok s es p a n c a2 n2 c2 a3 n3 c3 w) (hb : Below w.heap.size w w') : PlQ ok s es p a n c a2 n2 c2 a3 n3 c3 w' := h.move (Kept.of_below hb) (fun _ _ h => h)

/-- from a state, in new memory -/
theorem Play_fresh {V : World} {ok ok2 : Nat → Prop} {s : Sta} {p : Int} {ca : Option Addr} {cn cc : Nat} {da : Option Addr} {dn dc : Nat} {xss : List (List Int)} {es : List (Option Itt)} {oa : Option Addr} {oc m : Nat} (hp : p = s.pos) (hcn : cn = s.cells.length) (hdn : dn = s.dones.length) (hI : StIs ok2 V s.cells s.dones ca cc da dc) (hM : MayS s) (hL : Lies kLog ok V oa oc xss) (ht : All2 TellsI xss es) (hl : xss.length ≤ 300) (hm : m = xss.length) (hpos : s.pos + xss.length ≤ 1048576) (hfew : s.cells.length ≤ 1000000) (hfd : s.dones.length ≤ 1000000) :
    Calls Try.prog 9 #[.agg #[.int .i64 p, .slice ca cn cc, .slice da dn dc], .slice oa m oc] V fun e w' => ∃ (p : Int) (a : Option Addr) (n c : Nat) (a2 : Option Addr) (n2 c2 : Nat) (a3 : Option Addr) (c3 : Nat), e = .returned (.tuple #[.agg #[.int .i64 p, .slice a n c, .slice a2 n2 c2], .slice a3 m c3, .int .i64 0]) ∧ Hid (PlQ (fun b => V.heap.size ≤ b) s es p a n c a2 n2 c2 a3 m c3 w' ∧ Below V.heap.size V w') := by
  subst hm hp hcn hdn
  obtain ⟨p, cs, ds⟩ := s
  have h0 := Play_good ok2 ok p cs ds ca cc da dc xss oa oc es V hI hM hL ht hl hpos (by have : cs.length ≤ 1000000 := hfew; omega) (by have : ds.length ≤ 1000000 := hfd; omega)
  refine h0.mono ?_
  rintro e w' ⟨a, n, c, a2, n2, c2, a3, n3, c3, rfl, h1, h2, h3, h4, h5, h6⟩
  have h9 : n3 = xss.length := by rw [h3, playM_length]; exact ht.length.symm
  subst h9
  exact ⟨_, a, n, c, a2, n2, c2, a3, c3, rfl, ⟨rfl, h1, h2, h4, h5⟩, h6⟩

/-- what is read of bytes: an intent, or that they are none's -/
theorem Decode_lg {V : World} {ok : Nat → Prop} {ys : List Int} {a : Option Addr} {m c : Nat} (h : kLog.rel ok V ys [.slice a m c]) :
    Calls Try.prog 18 #[.slice a m c] V fun e w' => ∃ (C N B : Int) (ra : Option Addr) (rn rc : Nat) (wa : Option Addr) (wn wc : Nat) (code : Int), e = .returned (.tuple #[.agg #[.int .i64 C, .int .i64 N, .int .i64 B, .slice ra rn rc, .slice wa wn wc], .int .i64 code]) ∧ Hid ((code = 0 ∨ code = 4 ∧ ∀ y, ¬ DecIs ys y) ∧ Below V.heap.size V w') := by
  obtain ⟨a', c', e, h1, h2, h3⟩ := h
  simp only [List.cons.injEq, Value.slice.injEq, and_true] at e
  obtain ⟨rfl, rfl, rfl⟩ := e
  refine (Decode_any a c ys V h1 h2 (fun ad e => (h3 ad e).2)).mono ?_
  rintro e w' ⟨C, N, B, ra, rn, rc, wa, wn, wc, code, rfl, hb, rs, ws, -, -, -, h5⟩
  refine ⟨C, N, B, ra, rn, rc, wa, wn, wc, code, rfl, ?_, hb⟩
  rcases h5 with ⟨-, h5⟩ | ⟨h5, h6, -⟩
  · exact .inl h5
  · exact .inr ⟨h6, h5⟩

set_option maxRecDepth 100000 in
set_option maxHeartbeats 2000000 in
theorem MeldJunk_any (l : List Wsh) (la : Option Addr) (lc : Nat) (xs : List Int) (a1 : Option Addr) (c1 : Nat) (at' : Int) (w : World) (hL : Lies kWi (fun _ => True) w la lc l) (hX : Octs w a1 c1 xs) :
    Calls Try.prog 5 #[.slice la l.length lc, .slice a1 xs.length c1, .int .i64 at'] w fun e w' => e = .returned (.bool true) ∧ Below w.heap.size w w' := by
  generalize hpost : (fun (e : Ending) (w' : World) => e = .returned (.bool true) ∧ Below w.heap.size w w') = Q
  have HO : Hid (∀ w', ¬ Q .outgrown w') := fun w' hh => by
    rw [← hpost] at hh
    cases hh.1
  have HP : Hid (∀ w', Below w.heap.size w w' → Q (.returned (.bool true)) w') := fun w' h => by rw [← hpost]; exact ⟨rfl, h⟩
  clear hpost
  have c0 : Hid (Calls Try.prog 8 #[.slice la l.length lc, .int .i64 16] w fun e w' => ∃ (oa : Option Addr) (on oc : Nat) (xa : Option Addr) (xn xc : Nat), e = .returned (.tuple #[.slice oa on oc, .slice xa xn xc, .bool true]) ∧ Hid (∃ js : List Itt, LogJ 16 js ∧ on = js.length ∧ xn = js.length ∧ Lies kLog (fun b => w.heap.size ≤ b) w' oa oc (js.map encI) ∧ Ples oa oc ∧ Lies kItt (fun b => w.heap.size ≤ b) w' xa xc js ∧ Below w.heap.size w w')) := LogOf_law l la lc 16 (by omega) w w (Below.refl _ _) hL
  obtain ⟨ys, hys⟩ : ∃ ys, ys = xs.take 4000 := ⟨_, rfl⟩
  have cT : Hid (∀ V, Below w.heap.size w V → Calls Try.prog 19 #[.slice a1 xs.length c1, .int .i64 4000] V fun e w' => ∃ (a' : Option Addr) (m' c' : Nat), e = .returned (.slice a' m' c') ∧ Hid (kLog.rel (fun _ => True) w' ys [.slice a' m' c'] ∧ Below V.heap.size V w')) := fun V hV => by
    rw [hys]
    refine (Octets_lg a1 c1 xs 4000 (by omega) V (hX.later hV)).mono ?_
    rintro e w' ⟨a', m', c', h1, h2, h3⟩
    exact ⟨a', m', c', h1, kLog.move (Kept.of_below (Below.refl _ _)) (fun _ _ _ => trivial) h2, h3⟩
  clear hL hX hys
  generalize l.length = nl at c0 ⊢
  generalize xs.length = nj at cT ⊢
  go_enter Try.func5, Try.ntmps5
  go_upto_region 2 with (first
    | (go_at_call 8; (with_reducible refine c0.out.mono ?_); clear c0; rintro e w1 ⟨oa, on, oc, xa, xn, xc, rfl, H1⟩))
  obtain ⟨js, hJ, hon, -, hlog, hples, -, hbw⟩ := H1.out
  have HJ := put_by (And.intro hJ hon)
  have HLG := put_by hlog
  have HB1 := put_by hbw
  have hoc : on ≤ oc := by have := hlog.1; rw [List.length_map] at this; omega
  have hon16 : on ≤ 16 := by rw [hon]; exact hJ.1
  clear H1 hJ hon hlog hples hbw
  go_upto_region 3 with (first
    | (go_at_call 19; (with_reducible refine (cT.out _ HB1.out).mono ?_); rintro e w2 ⟨a5, m5, c5, rfl, H2⟩)
    | (go_at_call 18; (with_reducible refine (Decode_lg H2.out.1).mono ?_); rintro e w3 ⟨C, N, B, ra, rn, rc, wa, wn, wc, code, rfl, H3⟩))
  have HB3 : Hid (Below w1.heap.size w1 (w3.alloc (.cells #[.int .i64 C, .int .i64 N, .int .i64 B, .slice ra rn rc, .slice wa wn wc] 38))) := by
    have h1 := H2.out.2.trans (H3.out.2.mono H2.out.2.size)
    exact h1.alloc h1.size _
  have HC := put_by H3.out.1
  clear H2 H3
  generalize w3.alloc (.cells #[.int .i64 C, .int .i64 N, .int .i64 B, .slice ra rn rc, .slice wa wn wc] _) = W3 at HB3 ⊢
  rcases HC.out with rfl | ⟨rfl, hnone⟩
  · clear cT HLG HJ
    go_wp2
    exact HP.out _ (HB1.out.trans (HB3.out.mono HB1.out.size))
  · obtain ⟨k, hk⟩ : ∃ k : Nat, (k : Int) = at' % ((on : Int) + 1) := ⟨(at' % ((on : Int) + 1)).toNat, Int.toNat_of_nonneg (Int.emod_nonneg _ (by omega))⟩
    have hkn : k ≤ on := by have := Int.emod_lt_of_pos at' (show (0 : Int) < (on : Int) + 1 by omega); omega
    have cK : Hid (∀ V, Calls Try.prog 15 #[.int .i64 at', .int .i64 ((on : Int) + 1)] V fun e w' => e = .returned (.int .i64 (k : Int)) ∧ V = w') := fun V => by rw [hk]; exact Picked_any at' _ (by omega) (by omega) V
    have iw1 : IntKind.i64.wrap ((on : Int) + 1) = (on : Int) + 1 := by rw [IntKind.wrap_i64]; omega
    have hkoc : k ≤ oc := by omega
    have HNO := put_by hnone
    have HMK : Hid (k = ((js.take k).map encI).length) := by show k = _; rw [List.length_map, List.length_take, ← HJ.out.2]; omega
    have HM := put_by (fun y (hy : y ∈ js.take k) => HJ.out.1.2.1 y (List.mem_of_mem_take hy))
    have c8 := put_by (Play_law ((log_take HLG.out k).later HB3.out) (tells_js HM.out) (by rw [← HMK.out]; omega) HMK.out)
    clear hk hnone HC
    go_upto_region 9 with (first
      | (go_at_call 15; (with_reducible refine (cK.out _).mono ?_); clear cK; rintro e w4 ⟨rfl, rfl⟩)
      | (go_at_call 9; (with_reducible refine c8.out.mono ?_); clear c8; rintro e w8 ⟨p1, ca, cn, cc, da, dn, dc, ta, tc, rfl, H8⟩))
    obtain ⟨s, hs⟩ : ∃ s, s = (playM noSta ((js.take k).map some)).1 := ⟨_, rfl⟩
    have hb8 := (Below.refl w8.heap.size w8).alloc (Nat.le_refl _) (.cells #[.int .i64 p1, .slice ca cn cc, .slice da dn dc] 30)
    have HV := put_by (Cls.new w8 [.int .i64 p1, .slice ca cn cc, .slice da dn dc] 30)
    have HS : Hid (p1 = s.pos ∧ cn = s.cells.length ∧ dn = s.dones.length ∧ MayS s ∧ s.pos ≤ 16 ∧ s.cells.length ≤ 6400 ∧ s.dones.length ≤ 16) := by
      have h1 := few_js HM.out
      have h2 : (js.take k).length ≤ 16 := by rw [List.length_take]; omega
      rw [hs]
      refine ⟨H8.out.1.pos, H8.out.1.cn, H8.out.1.dn, may_js HM.out (by omega), ?_, by omega, by omega⟩
      rw [playM_pos, List.length_map]
      show (0 : Int) + _ ≤ 16
      omega
    have HST : Hid (∀ V, Below w8.heap.size w8 V → StIs (fun _ => True) V s.cells s.dones ca cc da dc) := fun V hV => by rw [hs]; exact H8.out.1.st.later hV
    have HB8 : Hid (Below w.heap.size w (w8.alloc (.cells #[.int .i64 p1, .slice ca cn cc, .slice da dn dc] 30))) := HB1.out.trans ((HB3.out.trans ((H8.out.2.trans (hb8.mono H8.out.2.size)).mono HB3.out.size)).mono HB1.out.size)
    have HAZ : Hid (w8.heap.size < (w8.alloc (.cells #[.int .i64 p1, .slice ca cn cc, .slice da dn dc] 30)).heap.size ∧ Below w8.heap.size w8 (w8.alloc (.cells #[.int .i64 p1, .slice ca cn cc, .slice da dn dc] 30))) := ⟨by simp, hb8⟩
    have HAW : Hid (w.heap.size ≤ w8.heap.size) := Nat.le_trans HB1.out.size (Nat.le_trans HB3.out.size H8.out.2.size)
    clear H8 hb8 hs HLG HM HMK HJ HB3
    obtain ⟨A1, hA1⟩ : ∃ A, A = w8.heap.size := ⟨_, rfl⟩
    rw [← hA1] at HV HAZ HST HAW ⊢
    clear hA1
    generalize w8.alloc (.cells #[.int .i64 p1, .slice ca cn cc, .slice da dn dc] _) = W8 at HV HB8 HAZ ⊢
    have HSV : Hid (∀ V, Below W8.heap.size W8 V → V.cell? ⟨A1, 0, none⟩ = some (.int .i64 p1) ∧ V.cell? ⟨A1, 1, none⟩ = some (.slice ca cn cc) ∧ V.cell? ⟨A1, 2, none⟩ = some (.slice da dn dc)) := fun V hV => ⟨((HV.out.later hV) 0 _ rfl).1, ((HV.out.later hV) 1 _ rfl).1, ((HV.out.later hV) 2 _ rfl).1⟩
    have cO : Hid (∀ V, Below W8.heap.size W8 V → Calls Try.prog 19 #[.slice a1 nj c1, .int .i64 4000] V fun e w' => ∃ (a' : Option Addr) (m' c' : Nat), e = .returned (.slice a' m' c') ∧ Hid (kLog.rel (fun _ => True) w' ys [.slice a' m' c'] ∧ Below V.heap.size V w')) := fun V hV => cT.out V (HB8.out.trans (hV.mono HB8.out.size))
    have cP : Hid (∀ (V : World) (bsb : Nat), Lies kLog (fun _ => True) V (some ⟨bsb, 0, none⟩) 1 [ys] → Below W8.heap.size W8 V → Calls Try.prog 9 #[.agg #[.int .i64 p1, .slice ca cn cc, .slice da dn dc], .slice (some ⟨bsb, 0, none⟩) 1 1] V fun e w' => ∃ (p : Int) (a : Option Addr) (n c : Nat) (a2 : Option Addr) (n2 c2 : Nat) (a3 : Option Addr) (c3 : Nat), e = .returned (.tuple #[.agg #[.int .i64 p, .slice a n c, .slice a2 n2 c2], .slice a3 1 c3, .int .i64 0]) ∧ Hid (PlQ (fun b => V.heap.size ≤ b) s [none] p a n c a2 n2 c2 a3 1 c3 w' ∧ Below V.heap.size V w')) := fun V bsb hLV hV => by
      have h1 := HS.out
      exact Play_fresh (es := [none]) h1.1 h1.2.1 h1.2.2.1 (HST.out V (HAZ.out.2.trans (hV.mono (Nat.le_of_lt HAZ.out.1)))) h1.2.2.2.1 hLV ⟨HNO.out, trivial⟩ (by simp) rfl (by simp; omega) (by omega) (by omega)
    clear cT
    go_cut [16, 17, 18] from 49 to 57 (fun pb cd ee wx => ∃ (AX : Nat) (p2 : Int) (cb : Option Addr) (cm cd' : Nat) (db : Option Addr) (dm dd : Nat) (tb : Option Addr) (td : Nat), pb = .pointer (some ⟨AX, 0, none⟩) ∧ cd = .slice tb 1 td ∧ ee = .int .i64 0 ∧ Hid (Cls wx AX [.int .i64 p2, .slice cb cm cd', .slice db dm dd] ∧ (A1 < AX ∧ PlQ (fun b => A1 < b ∧ b ≠ AX) s [none] p2 cb cm cd' db dm dd tb 1 td wx) ∧ Below W8.heap.size W8 wx))
    case first =>
      have hS := HSV.out W8.drew (Below.refl _ _).drew
      have HB : Hid (Below W8.heap.size W8 W8.drew) := (Below.refl _ _).drew
      refine region_plain (fun V : World => V.cell? ⟨A1, 0, none⟩ = some (.int .i64 p1) ∧ V.cell? ⟨A1, 1, none⟩ = some (.slice ca cn cc) ∧ V.cell? ⟨A1, 2, none⟩ = some (.slice da dn dc)) 12 (by kernel_rfl) ?_
      change wpAnyU _ _ _ _ _ 13 #[false, false, false, false, false, false, false, false, false, false, false, false, false] _ W8.drew
      refine V_takeS [12] 50 (k := 0) (v := .agg #[.int .i64 p1, .slice ca cn cc, .slice da dn dc]) rfl rfl (by kernel_rfl) (by kernel_rfl) (by kernel_rfl) (by kernel_rfl) (by kernel_rfl) (by kernel_rfl) (fun _ _ _ h => h) (Or.inl ⟨by rfl, fun V hV => ?_⟩) hS ?_
      · obtain ⟨z0, z1, z2⟩ := hV; go_simp
      try simp only [Act.put, List.setIfInBounds_toArray, List.set_cons_zero, List.set_cons_succ]
      refine V_takeS [12] 51 (k := 1) (v := .slice a1 nj c1) rfl rfl (by kernel_rfl) (by kernel_rfl) (by kernel_rfl) (by kernel_rfl) (by kernel_rfl) (by kernel_rfl) (fun _ _ _ h => h) (Or.inl ⟨by rfl, fun V hV => ?_⟩) hS ?_
      · obtain ⟨z0, z1, z2⟩ := hV; go_simp
      try simp only [Act.put, List.setIfInBounds_toArray, List.set_cons_zero, List.set_cons_succ]
      refine U_two (i := 2) (j := 9) (by kernel_rfl) rfl rfl rfl rfl (fun K hK => ?_) (fun K hK => ?_)
      · go_simp
        refine (cO.out _ HB.out).mono ?_
        rintro e wo ⟨a5, m5, c5, rfl, H5⟩
        have HBn := put_by (HB.out.trans (H5.out.2.mono HB.out.size))
        have hSn := HSV.out _ HBn.out
        refine hK _ _ (fun _ => hSn) ?_
        clear hK K
        try simp only [List.setIfInBounds_toArray, List.set_cons_zero, List.set_cons_succ]
        clear HB hS    
        have HB := HBn
        clear HBn
        have hS := hSn
        clear hSn
        have HO9 := put_by H5.out.1
        clear H5
        refine U_two (i := 3) (j := 9) (by kernel_rfl) rfl rfl rfl rfl (fun K hK => ?_) (fun K hK => ?_)
        · go_simp
          have hba : Below wo.heap.size wo (wo.alloc (.cells #[.slice a5 m5 c5] 39)) := (Below.refl _ _).alloc (Nat.le_refl _) _
          have HBS0 : Hid (Lies kLog (fun _ => True) (wo.alloc (.cells #[.slice a5 m5 c5] 39)) (some ⟨wo.heap.size, 0, none⟩) 1 [ys]) := lies_one (cs := [.slice a5 m5 c5]) _ rfl _ HO9.out trivial
          have HBn := put_by (HB.out.trans (hba.mono HB.out.size))
          have HOn := put_by (kLog.move (Kept.of_below hba) (fun _ _ h => h) HO9.out)
          have hSn := HSV.out _ HBn.out
          refine hK _ _ (fun _ => hSn) ?_
          clear hK K hba
          try simp only [List.setIfInBounds_toArray, List.set_cons_zero, List.set_cons_succ]
          clear HB hS HO9   
          have HB := HBn
          clear HBn
          have HO9 := HOn
          clear HOn
          have hS := hSn
          clear hSn
          have HBS := HBS0
          clear HBS0
          generalize (wo.alloc (.cells #[.slice a5 m5 c5] 39)) = wb at HB HBS HO9 hS ⊢
          generalize wo.heap.size = bsb at HBS ⊢
          refine U_two (i := 4) (j := 9) (by kernel_rfl) rfl rfl rfl rfl (fun K hK => ?_) (fun K hK => ?_)
          · go_simp
            refine (cP.out _ _ HBS.out HB.out).mono ?_
            rintro e wp ⟨p2, cb, cm, cd, db, dm, dd, tb, td, rfl, H5⟩
            have HSZ := put_by (And.intro HB.out.size HB.out.size)
            have HBn := put_by (HB.out.trans (H5.out.2.mono HB.out.size))
            have HOn := put_by (kLog.move (Kept.of_below H5.out.2) (fun _ _ h => h) HO9.out)
            have HBSn := put_by (HBS.out.later H5.out.2)
            have hSn := HSV.out _ HBn.out
            refine hK _ _ (fun _ => hSn) ?_
            clear hK K
            try simp only [List.setIfInBounds_toArray, List.set_cons_zero, List.set_cons_succ]
            clear HB hS HO9 HBS  
            have HB := HBn
            clear HBn
            have HO9 := HOn
            clear HOn
            have HBS := HBSn
            clear HBSn
            have hS := hSn
            clear hSn
            have HPL9 : Hid (PlQ (fun b => A1 < b) s [none] p2 cb cm cd db dm dd tb 1 td wp) := H5.out.1.move (Kept.of_below (Below.refl _ _)) (fun b _ hb => by have h2 := HAZ.out.1; have h3 := HSZ.out; omega)
            clear H5 HSZ
            refine V_takeS [12] 49 (k := 5) (v := .tuple #[.agg #[.int .i64 p2, .slice cb cm cd, .slice db dm dd], .slice tb 1 td, .int .i64 0]) rfl rfl (by kernel_rfl) (by kernel_rfl) (by kernel_rfl) (by kernel_rfl) (by kernel_rfl) (by kernel_rfl) (fun _ _ _ h => h) (Or.inl ⟨by rfl, fun V hV => ?_⟩) hS ?_
            · obtain ⟨z0, z1, z2⟩ := hV; go_simp
            try simp only [Act.put, List.setIfInBounds_toArray, List.set_cons_zero, List.set_cons_succ]
            refine V_takeS [12] 55 (k := 6) (v := .agg #[.int .i64 p2, .slice cb cm cd, .slice db dm dd]) rfl rfl (by kernel_rfl) (by kernel_rfl) (by kernel_rfl) (by kernel_rfl) (by kernel_rfl) (by kernel_rfl) (fun _ _ _ h => h) (Or.inl ⟨by rfl, fun V hV => ?_⟩) hS ?_
            · obtain ⟨z0, z1, z2⟩ := hV; go_simp
            try simp only [Act.put, List.setIfInBounds_toArray, List.set_cons_zero, List.set_cons_succ]
            refine V_takeS [12] 56 (k := 7) (v := .slice tb 1 td) rfl rfl (by kernel_rfl) (by kernel_rfl) (by kernel_rfl) (by kernel_rfl) (by kernel_rfl) (by kernel_rfl) (fun _ _ _ h => h) (Or.inl ⟨by rfl, fun V hV => ?_⟩) hS ?_
            · obtain ⟨z0, z1, z2⟩ := hV; go_simp
            try simp only [Act.put, List.setIfInBounds_toArray, List.set_cons_zero, List.set_cons_succ]
            refine V_takeS [12] 57 (k := 8) (v := .int .i64 0) rfl rfl (by kernel_rfl) (by kernel_rfl) (by kernel_rfl) (by kernel_rfl) (by kernel_rfl) (by kernel_rfl) (fun _ _ _ h => h) (Or.inl ⟨by rfl, fun V hV => ?_⟩) hS ?_
            · obtain ⟨z0, z1, z2⟩ := hV; go_simp
            try simp only [Act.put, List.setIfInBounds_toArray, List.set_cons_zero, List.set_cons_succ]
            refine U_one (i := 9) (listed' := #[true, true, true, true, true, true, true, true, true, true, false, false, false]) (by kernel_rfl) rfl (by kernel_rfl) rfl (fun K hK => ?_)
            go_simp
            have hba : Below wp.heap.size wp (wp.alloc (.cells #[.int .i64 0, .slice none 0 0, .slice none 0 0] 30)) := (Below.refl _ _).alloc (Nat.le_refl _) _
            have HPL8 := HPL9
            have HBA8 := put_by hba
            have HAL0 : Hid (Cls (wp.alloc (.cells #[.int .i64 0, .slice none 0 0, .slice none 0 0] 30)) wp.heap.size [.int .i64 0, .slice none 0 0, .slice none 0 0] ∧ W8.heap.size ≤ wp.heap.size ∧ wp.heap.size < (wp.alloc (.cells #[.int .i64 0, .slice none 0 0, .slice none 0 0] 30)).heap.size) := ⟨Cls.new wp [.int .i64 0, .slice none 0 0, .slice none 0 0] 30, HB.out.size, by simp⟩
            have HBn := put_by (HB.out.trans (hba.mono HB.out.size))
            have HOn := put_by (kLog.move (Kept.of_below hba) (fun _ _ h => h) HO9.out)
            have HBSn := put_by (HBS.out.later hba)
            have HPLn := put_by (HPL9.out.later hba)
            have hSn := HSV.out _ HBn.out
            refine hK _ _ (fun _ => hSn) ?_
            clear hK K hba
            try simp only [Act.put, List.setIfInBounds_toArray, List.set_cons_zero, List.set_cons_succ]
            clear HB hS HO9 HBS HPL9 
            have HB := HBn
            clear HBn
            have HO9 := HOn
            clear HOn
            have HBS := HBSn
            clear HBSn
            have HPL9 := HPLn
            clear HPLn
            have hS := hSn
            clear hSn
            have HAL := HAL0
            clear HAL0
            replace HPL9 : Hid (PlQ (fun b => A1 < b ∧ b ≠ wp.heap.size) s [none] p2 cb cm cd db dm dd tb 1 td (wp.alloc (.cells #[.int .i64 0, .slice none 0 0, .slice none 0 0] 30))) := (HPL8.out.move (Kept.of_below (Below.refl _ _)) (fun b hb ho => ⟨ho, by omega⟩)).later HBA8.out
            clear HPL8 HBA8
            generalize (wp.alloc (.cells #[.int .i64 0, .slice none 0 0, .slice none 0 0] 30)) = wa at HB HAL hS HO9 HBS HPL9 ⊢
            generalize wp.heap.size = AX at HAL HPL9 ⊢
            obtain ⟨o0, q0⟩ := HAL.out.1 0 _ rfl
            obtain ⟨o1, q1⟩ := HAL.out.1 1 _ rfl
            obtain ⟨o2, q2⟩ := HAL.out.1 2 _ rfl
            refine U_one (i := 10) (listed' := #[true, true, true, true, true, true, true, true, true, true, true, false, false]) (by kernel_rfl) rfl (by kernel_rfl) rfl (fun K hK => ?_)
            go_simp
            have HF := put_by (three_set (N := W8.heap.size) HAL.out.1 HAL.out.2.1 (.int .i64 p2) (.slice cb cm cd) (.slice db dm dd))
            have hSf := HSV.out _ (HB.out.trans HF.out.2.1)
            refine hK _ _ (fun _ => hSf) ?_
            clear hK K o0 q0 o1 q1 o2 q2 hS
            try simp only [Act.put, List.setIfInBounds_toArray, List.set_cons_zero, List.set_cons_succ]
            have HE : Hid (Cls (((wa.setCell ⟨AX, 0, none⟩ (.int .i64 p2)).setCell ⟨AX, 1, none⟩ (.slice cb cm cd)).setCell ⟨AX, 2, none⟩ (.slice db dm dd)) AX [.int .i64 p2, .slice cb cm cd, .slice db dm dd] ∧ (A1 < AX ∧ PlQ (fun b => A1 < b ∧ b ≠ AX) s [none] p2 cb cm cd db dm dd tb 1 td (((wa.setCell ⟨AX, 0, none⟩ (.int .i64 p2)).setCell ⟨AX, 1, none⟩ (.slice cb cm cd)).setCell ⟨AX, 2, none⟩ (.slice db dm dd))) ∧ Below W8.heap.size W8 (((wa.setCell ⟨AX, 0, none⟩ (.int .i64 p2)).setCell ⟨AX, 1, none⟩ (.slice cb cm cd)).setCell ⟨AX, 2, none⟩ (.slice db dm dd))) := ⟨HF.out.1, ⟨by have h1 := HAL.out.2.1; have h2 := HAZ.out.1; omega, HPL9.out.move ⟨HF.out.2.1.size, fun g _ hg => HF.out.2.2 g hg.2⟩ (fun _ _ h => h)⟩, HB.out.trans HF.out.2.1⟩
            generalize World.setCell (World.setCell (World.setCell wa _ _) _ _) _ _ = WE at HE hSf ⊢
            refine U_one (i := 11) (listed' := #[true, true, true, true, true, true, true, true, true, true, true, true, false]) (by kernel_rfl) rfl (by kernel_rfl) rfl (fun K hK => ?_)
            go_simp
            refine hK _ _ (fun _ => hSf) ?_
            clear hK K
            try simp only [Act.put, List.setIfInBounds_toArray, List.set_cons_zero, List.set_cons_succ]
            refine U_one (i := 12) (listed' := #[true, true, true, true, true, true, true, true, true, true, true, true, true]) (by kernel_rfl) rfl (by kernel_rfl) rfl (fun K hK => ?_)
            go_simp
            refine hK _ _ (fun hh => by cases (show true = false from hh)) ?_
            clear hK K
            try simp only [Act.put, List.setIfInBounds_toArray, List.set_cons_zero, List.set_cons_succ]
            refine U_done (by kernel_rfl) ?_ _
            go_wp2
            go_meet
            exact ⟨AX, p2, cb, cm, cd, db, dm, dd, tb, td, rfl, rfl, rfl, HE.out⟩
          · go_simp
            have hba : Below wb.heap.size wb (wb.alloc (.cells #[.int .i64 0, .slice none 0 0, .slice none 0 0] 30)) := (Below.refl _ _).alloc (Nat.le_refl _) _
            have HAL0 : Hid (Cls (wb.alloc (.cells #[.int .i64 0, .slice none 0 0, .slice none 0 0] 30)) wb.heap.size [.int .i64 0, .slice none 0 0, .slice none 0 0] ∧ W8.heap.size ≤ wb.heap.size ∧ wb.heap.size < (wb.alloc (.cells #[.int .i64 0, .slice none 0 0, .slice none 0 0] 30)).heap.size) := ⟨Cls.new wb [.int .i64 0, .slice none 0 0, .slice none 0 0] 30, HB.out.size, by simp⟩
            have HBn := put_by (HB.out.trans (hba.mono HB.out.size))
            have HOn := put_by (kLog.move (Kept.of_below hba) (fun _ _ h => h) HO9.out)
            have HBSn := put_by (HBS.out.later hba)
            have hSn := HSV.out _ HBn.out
            refine hK _ _ (fun _ => hSn) ?_
            clear hK K hba
            try simp only [List.setIfInBounds_toArray, List.set_cons_zero, List.set_cons_succ]
            clear HB hS HO9 HBS  
            have HB := HBn
            clear HBn
            have HO9 := HOn
            clear HOn
            have HBS := HBSn
            clear HBSn
            have hS := hSn
            clear hSn
            have HAL := HAL0
            clear HAL0
            generalize (wb.alloc (.cells #[.int .i64 0, .slice none 0 0, .slice none 0 0] 30)) = wa at HB HAL hS HO9 HBS ⊢
            generalize wb.heap.size = AX at HAL ⊢
            refine U_one (i := 4) (listed' := #[true, true, true, true, true, false, false, false, false, true, false, false, false]) (by kernel_rfl) rfl (by kernel_rfl) rfl (fun K hK => ?_)
            go_simp
            refine (cP.out _ _ HBS.out HB.out).mono ?_
            rintro e wp ⟨p2, cb, cm, cd, db, dm, dd, tb, td, rfl, H5⟩
            have HSZ := put_by (And.intro HB.out.size HAL.out.2.2)
            have HBn := put_by (HB.out.trans (H5.out.2.mono HB.out.size))
            have HOn := put_by (kLog.move (Kept.of_below H5.out.2) (fun _ _ h => h) HO9.out)
            have HBSn := put_by (HBS.out.later H5.out.2)
            have HALn := put_by (And.intro (HAL.out.1.later H5.out.2) (And.intro HAL.out.2.1 (Nat.lt_of_lt_of_le HAL.out.2.2 H5.out.2.size)))
            have hSn := HSV.out _ HBn.out
            refine hK _ _ (fun _ => hSn) ?_
            clear hK K
            try simp only [Act.put, List.setIfInBounds_toArray, List.set_cons_zero, List.set_cons_succ]
            clear HB hS HO9 HBS  HAL
            have HB := HBn
            clear HBn
            have HO9 := HOn
            clear HOn
            have HBS := HBSn
            clear HBSn
            have HAL := HALn
            clear HALn
            have hS := hSn
            clear hSn
            have HPL9 : Hid (PlQ (fun b => A1 < b ∧ b ≠ AX) s [none] p2 cb cm cd db dm dd tb 1 td wp) := H5.out.1.move (Kept.of_below (Below.refl _ _)) (fun b _ hb => by have h1 := HAL.out.2; have h2 := HAZ.out.1; have h3 := HSZ.out; exact ⟨by omega, by omega⟩)
            clear H5 HSZ
            refine V_takeS [12] 49 (k := 5) (v := .tuple #[.agg #[.int .i64 p2, .slice cb cm cd, .slice db dm dd], .slice tb 1 td, .int .i64 0]) rfl rfl (by kernel_rfl) (by kernel_rfl) (by kernel_rfl) (by kernel_rfl) (by kernel_rfl) (by kernel_rfl) (fun _ _ _ h => h) (Or.inl ⟨by rfl, fun V hV => ?_⟩) hS ?_
            · obtain ⟨z0, z1, z2⟩ := hV; go_simp
            try simp only [Act.put, List.setIfInBounds_toArray, List.set_cons_zero, List.set_cons_succ]
            refine V_takeS [12] 55 (k := 6) (v := .agg #[.int .i64 p2, .slice cb cm cd, .slice db dm dd]) rfl rfl (by kernel_rfl) (by kernel_rfl) (by kernel_rfl) (by kernel_rfl) (by kernel_rfl) (by kernel_rfl) (fun _ _ _ h => h) (Or.inl ⟨by rfl, fun V hV => ?_⟩) hS ?_
            · obtain ⟨z0, z1, z2⟩ := hV; go_simp
            try simp only [Act.put, List.setIfInBounds_toArray, List.set_cons_zero, List.set_cons_succ]
            refine V_takeS [12] 56 (k := 7) (v := .slice tb 1 td) rfl rfl (by kernel_rfl) (by kernel_rfl) (by kernel_rfl) (by kernel_rfl) (by kernel_rfl) (by kernel_rfl) (fun _ _ _ h => h) (Or.inl ⟨by rfl, fun V hV => ?_⟩) hS ?_
            · obtain ⟨z0, z1, z2⟩ := hV; go_simp
            try simp only [Act.put, List.setIfInBounds_toArray, List.set_cons_zero, List.set_cons_succ]
            refine V_takeS [12] 57 (k := 8) (v := .int .i64 0) rfl rfl (by kernel_rfl) (by kernel_rfl) (by kernel_rfl) (by kernel_rfl) (by kernel_rfl) (by kernel_rfl) (fun _ _ _ h => h) (Or.inl ⟨by rfl, fun V hV => ?_⟩) hS ?_
            · obtain ⟨z0, z1, z2⟩ := hV; go_simp
            try simp only [Act.put, List.setIfInBounds_toArray, List.set_cons_zero, List.set_cons_succ]
            obtain ⟨o0, q0⟩ := HAL.out.1 0 _ rfl
            obtain ⟨o1, q1⟩ := HAL.out.1 1 _ rfl
            obtain ⟨o2, q2⟩ := HAL.out.1 2 _ rfl
            refine U_one (i := 10) (listed' := #[true, true, true, true, true, true, true, true, true, true, true, false, false]) (by kernel_rfl) rfl (by kernel_rfl) rfl (fun K hK => ?_)
            go_simp
            have HF := put_by (three_set (N := W8.heap.size) HAL.out.1 HAL.out.2.1 (.int .i64 p2) (.slice cb cm cd) (.slice db dm dd))
            have hSf := HSV.out _ (HB.out.trans HF.out.2.1)
            refine hK _ _ (fun _ => hSf) ?_
            clear hK K o0 q0 o1 q1 o2 q2 hS
            try simp only [Act.put, List.setIfInBounds_toArray, List.set_cons_zero, List.set_cons_succ]
            have HE : Hid (Cls (((wp.setCell ⟨AX, 0, none⟩ (.int .i64 p2)).setCell ⟨AX, 1, none⟩ (.slice cb cm cd)).setCell ⟨AX, 2, none⟩ (.slice db dm dd)) AX [.int .i64 p2, .slice cb cm cd, .slice db dm dd] ∧ (A1 < AX ∧ PlQ (fun b => A1 < b ∧ b ≠ AX) s [none] p2 cb cm cd db dm dd tb 1 td (((wp.setCell ⟨AX, 0, none⟩ (.int .i64 p2)).setCell ⟨AX, 1, none⟩ (.slice cb cm cd)).setCell ⟨AX, 2, none⟩ (.slice db dm dd))) ∧ Below W8.heap.size W8 (((wp.setCell ⟨AX, 0, none⟩ (.int .i64 p2)).setCell ⟨AX, 1, none⟩ (.slice cb cm cd)).setCell ⟨AX, 2, none⟩ (.slice db dm dd))) := ⟨HF.out.1, ⟨by have h1 := HAL.out.2.1; have h2 := HAZ.out.1; omega, HPL9.out.move ⟨HF.out.2.1.size, fun g _ hg => HF.out.2.2 g hg.2⟩ (fun _ _ h => h)⟩, HB.out.trans HF.out.2.1⟩
            generalize World.setCell (World.setCell (World.setCell wp _ _) _ _) _ _ = WE at HE hSf ⊢
            refine U_one (i := 11) (listed' := #[true, true, true, true, true, true, true, true, true, true, true, true, false]) (by kernel_rfl) rfl (by kernel_rfl) rfl (fun K hK => ?_)
            go_simp
            refine hK _ _ (fun _ => hSf) ?_
            clear hK K
            try simp only [Act.put, List.setIfInBounds_toArray, List.set_cons_zero, List.set_cons_succ]
            refine U_one (i := 12) (listed' := #[true, true, true, true, true, true, true, true, true, true, true, true, true]) (by kernel_rfl) rfl (by kernel_rfl) rfl (fun K hK => ?_)
            go_simp
            refine hK _ _ (fun hh => by cases (show true = false from hh)) ?_
            clear hK K
            try simp only [Act.put, List.setIfInBounds_toArray, List.set_cons_zero, List.set_cons_succ]
            refine U_done (by kernel_rfl) ?_ _
            go_wp2
            go_meet
            exact ⟨AX, p2, cb, cm, cd, db, dm, dd, tb, td, rfl, rfl, rfl, HE.out⟩
        · go_simp
          have hba : Below wo.heap.size wo (wo.alloc (.cells #[.int .i64 0, .slice none 0 0, .slice none 0 0] 30)) := (Below.refl _ _).alloc (Nat.le_refl _) _
          have HAL0 : Hid (Cls (wo.alloc (.cells #[.int .i64 0, .slice none 0 0, .slice none 0 0] 30)) wo.heap.size [.int .i64 0, .slice none 0 0, .slice none 0 0] ∧ W8.heap.size ≤ wo.heap.size ∧ wo.heap.size < (wo.alloc (.cells #[.int .i64 0, .slice none 0 0, .slice none 0 0] 30)).heap.size) := ⟨Cls.new wo [.int .i64 0, .slice none 0 0, .slice none 0 0] 30, HB.out.size, by simp⟩
          have HBn := put_by (HB.out.trans (hba.mono HB.out.size))
          have HOn := put_by (kLog.move (Kept.of_below hba) (fun _ _ h => h) HO9.out)
          have hSn := HSV.out _ HBn.out
          refine hK _ _ (fun _ => hSn) ?_
          clear hK K hba
          try simp only [List.setIfInBounds_toArray, List.set_cons_zero, List.set_cons_succ]
          clear HB hS HO9   
          have HB := HBn
          clear HBn
          have HO9 := HOn
          clear HOn
          have hS := hSn
          clear hSn
          have HAL := HAL0
          clear HAL0
          generalize (wo.alloc (.cells #[.int .i64 0, .slice none 0 0, .slice none 0 0] 30)) = wa at HB HAL hS HO9 ⊢
          generalize wo.heap.size = AX at HAL ⊢
          refine U_one (i := 3) (listed' := #[true, true, true, true, false, false, false, false, false, true, false, false, false]) (by kernel_rfl) rfl (by kernel_rfl) rfl (fun K hK => ?_)
          go_simp
          have hba : Below wa.heap.size wa (wa.alloc (.cells #[.slice a5 m5 c5] 39)) := (Below.refl _ _).alloc (Nat.le_refl _) _
          have HBS0 : Hid (Lies kLog (fun _ => True) (wa.alloc (.cells #[.slice a5 m5 c5] 39)) (some ⟨wa.heap.size, 0, none⟩) 1 [ys]) := lies_one (cs := [.slice a5 m5 c5]) _ rfl _ HO9.out trivial
          have HBn := put_by (HB.out.trans (hba.mono HB.out.size))
          have HOn := put_by (kLog.move (Kept.of_below hba) (fun _ _ h => h) HO9.out)
          have HALn := put_by (And.intro (HAL.out.1.later hba) (And.intro HAL.out.2.1 (Nat.lt_of_lt_of_le HAL.out.2.2 hba.size)))
          have hSn := HSV.out _ HBn.out
          refine hK _ _ (fun _ => hSn) ?_
          clear hK K hba
          try simp only [Act.put, List.setIfInBounds_toArray, List.set_cons_zero, List.set_cons_succ]
          clear HB hS HO9   HAL
          have HB := HBn
          clear HBn
          have HO9 := HOn
          clear HOn
          have HAL := HALn
          clear HALn
          have hS := hSn
          clear hSn
          have HBS := HBS0
          clear HBS0
          generalize (wa.alloc (.cells #[.slice a5 m5 c5] 39)) = wb at HB HBS HO9 hS HAL ⊢
          generalize wa.heap.size = bsb at HBS ⊢
          refine U_one (i := 4) (listed' := #[true, true, true, true, true, false, false, false, false, true, false, false, false]) (by kernel_rfl) rfl (by kernel_rfl) rfl (fun K hK => ?_)
          go_simp
          refine (cP.out _ _ HBS.out HB.out).mono ?_
          rintro e wp ⟨p2, cb, cm, cd, db, dm, dd, tb, td, rfl, H5⟩
          have HSZ := put_by (And.intro HB.out.size HAL.out.2.2)
          have HBn := put_by (HB.out.trans (H5.out.2.mono HB.out.size))
          have HOn := put_by (kLog.move (Kept.of_below H5.out.2) (fun _ _ h => h) HO9.out)
          have HBSn := put_by (HBS.out.later H5.out.2)
          have HALn := put_by (And.intro (HAL.out.1.later H5.out.2) (And.intro HAL.out.2.1 (Nat.lt_of_lt_of_le HAL.out.2.2 H5.out.2.size)))
          have hSn := HSV.out _ HBn.out
          refine hK _ _ (fun _ => hSn) ?_
          clear hK K
          try simp only [Act.put, List.setIfInBounds_toArray, List.set_cons_zero, List.set_cons_succ]
          clear HB hS HO9 HBS  HAL
          have HB := HBn
          clear HBn
          have HO9 := HOn
          clear HOn
          have HBS := HBSn
          clear HBSn
          have HAL := HALn
          clear HALn
          have hS := hSn
          clear hSn
          have HPL9 : Hid (PlQ (fun b => A1 < b ∧ b ≠ AX) s [none] p2 cb cm cd db dm dd tb 1 td wp) := H5.out.1.move (Kept.of_below (Below.refl _ _)) (fun b _ hb => by have h1 := HAL.out.2; have h2 := HAZ.out.1; have h3 := HSZ.out; exact ⟨by omega, by omega⟩)
          clear H5 HSZ
          refine V_takeS [12] 49 (k := 5) (v := .tuple #[.agg #[.int .i64 p2, .slice cb cm cd, .slice db dm dd], .slice tb 1 td, .int .i64 0]) rfl rfl (by kernel_rfl) (by kernel_rfl) (by kernel_rfl) (by kernel_rfl) (by kernel_rfl) (by kernel_rfl) (fun _ _ _ h => h) (Or.inl ⟨by rfl, fun V hV => ?_⟩) hS ?_
          · obtain ⟨z0, z1, z2⟩ := hV; go_simp
          try simp only [Act.put, List.setIfInBounds_toArray, List.set_cons_zero, List.set_cons_succ]
          refine V_takeS [12] 55 (k := 6) (v := .agg #[.int .i64 p2, .slice cb cm cd, .slice db dm dd]) rfl rfl (by kernel_rfl) (by kernel_rfl) (by kernel_rfl) (by kernel_rfl) (by kernel_rfl) (by kernel_rfl) (fun _ _ _ h => h) (Or.inl ⟨by rfl, fun V hV => ?_⟩) hS ?_
          · obtain ⟨z0, z1, z2⟩ := hV; go_simp
          try simp only [Act.put, List.setIfInBounds_toArray, List.set_cons_zero, List.set_cons_succ]
          refine V_takeS [12] 56 (k := 7) (v := .slice tb 1 td) rfl rfl (by kernel_rfl) (by kernel_rfl) (by kernel_rfl) (by kernel_rfl) (by kernel_rfl) (by kernel_rfl) (fun _ _ _ h => h) (Or.inl ⟨by rfl, fun V hV => ?_⟩) hS ?_
          · obtain ⟨z0, z1, z2⟩ := hV; go_simp
          try simp only [Act.put, List.setIfInBounds_toArray, List.set_cons_zero, List.set_cons_succ]
          refine V_takeS [12] 57 (k := 8) (v := .int .i64 0) rfl rfl (by kernel_rfl) (by kernel_rfl) (by kernel_rfl) (by kernel_rfl) (by kernel_rfl) (by kernel_rfl) (fun _ _ _ h => h) (Or.inl ⟨by rfl, fun V hV => ?_⟩) hS ?_
          · obtain ⟨z0, z1, z2⟩ := hV; go_simp
          try simp only [Act.put, List.setIfInBounds_toArray, List.set_cons_zero, List.set_cons_succ]
          obtain ⟨o0, q0⟩ := HAL.out.1 0 _ rfl
          obtain ⟨o1, q1⟩ := HAL.out.1 1 _ rfl
          obtain ⟨o2, q2⟩ := HAL.out.1 2 _ rfl
          refine U_one (i := 10) (listed' := #[true, true, true, true, true, true, true, true, true, true, true, false, false]) (by kernel_rfl) rfl (by kernel_rfl) rfl (fun K hK => ?_)
          go_simp
          have HF := put_by (three_set (N := W8.heap.size) HAL.out.1 HAL.out.2.1 (.int .i64 p2) (.slice cb cm cd) (.slice db dm dd))
          have hSf := HSV.out _ (HB.out.trans HF.out.2.1)
          refine hK _ _ (fun _ => hSf) ?_
          clear hK K o0 q0 o1 q1 o2 q2 hS
          try simp only [Act.put, List.setIfInBounds_toArray, List.set_cons_zero, List.set_cons_succ]
          have HE : Hid (Cls (((wp.setCell ⟨AX, 0, none⟩ (.int .i64 p2)).setCell ⟨AX, 1, none⟩ (.slice cb cm cd)).setCell ⟨AX, 2, none⟩ (.slice db dm dd)) AX [.int .i64 p2, .slice cb cm cd, .slice db dm dd] ∧ (A1 < AX ∧ PlQ (fun b => A1 < b ∧ b ≠ AX) s [none] p2 cb cm cd db dm dd tb 1 td (((wp.setCell ⟨AX, 0, none⟩ (.int .i64 p2)).setCell ⟨AX, 1, none⟩ (.slice cb cm cd)).setCell ⟨AX, 2, none⟩ (.slice db dm dd))) ∧ Below W8.heap.size W8 (((wp.setCell ⟨AX, 0, none⟩ (.int .i64 p2)).setCell ⟨AX, 1, none⟩ (.slice cb cm cd)).setCell ⟨AX, 2, none⟩ (.slice db dm dd))) := ⟨HF.out.1, ⟨by have h1 := HAL.out.2.1; have h2 := HAZ.out.1; omega, HPL9.out.move ⟨HF.out.2.1.size, fun g _ hg => HF.out.2.2 g hg.2⟩ (fun _ _ h => h)⟩, HB.out.trans HF.out.2.1⟩
          generalize World.setCell (World.setCell (World.setCell wp _ _) _ _) _ _ = WE at HE hSf ⊢
          refine U_one (i := 11) (listed' := #[true, true, true, true, true, true, true, true, true, true, true, true, false]) (by kernel_rfl) rfl (by kernel_rfl) rfl (fun K hK => ?_)
          go_simp
          refine hK _ _ (fun _ => hSf) ?_
          clear hK K
          try simp only [Act.put, List.setIfInBounds_toArray, List.set_cons_zero, List.set_cons_succ]
          refine U_one (i := 12) (listed' := #[true, true, true, true, true, true, true, true, true, true, true, true, true]) (by kernel_rfl) rfl (by kernel_rfl) rfl (fun K hK => ?_)
          go_simp
          refine hK _ _ (fun hh => by cases (show true = false from hh)) ?_
          clear hK K
          try simp only [Act.put, List.setIfInBounds_toArray, List.set_cons_zero, List.set_cons_succ]
          refine U_done (by kernel_rfl) ?_ _
          go_wp2
          go_meet
          exact ⟨AX, p2, cb, cm, cd, db, dm, dd, tb, td, rfl, rfl, rfl, HE.out⟩
      · go_simp
        have hba : Below W8.heap.size W8 (W8.alloc (.cells #[.int .i64 0, .slice none 0 0, .slice none 0 0] 30)).drew := ((Below.refl _ _).alloc (Nat.le_refl _) _).drew
        have HAL0 : Hid (Cls (W8.alloc (.cells #[.int .i64 0, .slice none 0 0, .slice none 0 0] 30)).drew W8.heap.size [.int .i64 0, .slice none 0 0, .slice none 0 0] ∧ W8.heap.size ≤ W8.heap.size ∧ W8.heap.size < (W8.alloc (.cells #[.int .i64 0, .slice none 0 0, .slice none 0 0] 30)).drew.heap.size) := ⟨(Cls.new W8 [.int .i64 0, .slice none 0 0, .slice none 0 0] 30).later (Below.refl _ _).drew, Nat.le_refl _, by simp⟩
        have HBn := put_by hba
        have hSn := HSV.out _ HBn.out
        refine hK _ _ (fun _ => hSn) ?_
        clear hK K hba
        try simp only [List.setIfInBounds_toArray, List.set_cons_zero, List.set_cons_succ]
        clear HB hS    
        have HB := HBn
        clear HBn
        have hS := hSn
        clear hSn
        have HAL := HAL0
        clear HAL0
        generalize (W8.alloc (.cells #[.int .i64 0, .slice none 0 0, .slice none 0 0] 30)).drew = wa at HB HAL hS ⊢
        refine U_one (i := 2) (listed' := #[true, true, true, false, false, false, false, false, false, true, false, false, false]) (by kernel_rfl) rfl (by kernel_rfl) rfl (fun K hK => ?_)
        go_simp
        refine (cO.out _ HB.out).mono ?_
        rintro e wo ⟨a5, m5, c5, rfl, H5⟩
        have HBn := put_by (HB.out.trans (H5.out.2.mono HB.out.size))
        have HALn := put_by (And.intro (HAL.out.1.later H5.out.2) (And.intro HAL.out.2.1 (Nat.lt_of_lt_of_le HAL.out.2.2 H5.out.2.size)))
        have hSn := HSV.out _ HBn.out
        refine hK _ _ (fun _ => hSn) ?_
        clear hK K
        try simp only [Act.put, List.setIfInBounds_toArray, List.set_cons_zero, List.set_cons_succ]
        clear HB hS    HAL
        have HB := HBn
        clear HBn
        have HAL := HALn
        clear HALn
        have hS := hSn
        clear hSn
        have HO9 := put_by H5.out.1
        clear H5
        refine U_one (i := 3) (listed' := #[true, true, true, true, false, false, false, false, false, true, false, false, false]) (by kernel_rfl) rfl (by kernel_rfl) rfl (fun K hK => ?_)
        go_simp
        have hba : Below wo.heap.size wo (wo.alloc (.cells #[.slice a5 m5 c5] 39)) := (Below.refl _ _).alloc (Nat.le_refl _) _
        have HBS0 : Hid (Lies kLog (fun _ => True) (wo.alloc (.cells #[.slice a5 m5 c5] 39)) (some ⟨wo.heap.size, 0, none⟩) 1 [ys]) := lies_one (cs := [.slice a5 m5 c5]) _ rfl _ HO9.out trivial
        have HBn := put_by (HB.out.trans (hba.mono HB.out.size))
        have HOn := put_by (kLog.move (Kept.of_below hba) (fun _ _ h => h) HO9.out)
        have HALn := put_by (And.intro (HAL.out.1.later hba) (And.intro HAL.out.2.1 (Nat.lt_of_lt_of_le HAL.out.2.2 hba.size)))
        have hSn := HSV.out _ HBn.out
        refine hK _ _ (fun _ => hSn) ?_
        clear hK K hba
        try simp only [Act.put, List.setIfInBounds_toArray, List.set_cons_zero, List.set_cons_succ]
        clear HB hS HO9   HAL
        have HB := HBn
        clear HBn
        have HO9 := HOn
        clear HOn
        have HAL := HALn
        clear HALn
        have hS := hSn
        clear hSn
        have HBS := HBS0
        clear HBS0
        generalize (wo.alloc (.cells #[.slice a5 m5 c5] 39)) = wb at HB HBS HO9 hS HAL ⊢
        generalize wo.heap.size = bsb at HBS ⊢
        refine U_one (i := 4) (listed' := #[true, true, true, true, true, false, false, false, false, true, false, false, false]) (by kernel_rfl) rfl (by kernel_rfl) rfl (fun K hK => ?_)
        go_simp
        refine (cP.out _ _ HBS.out HB.out).mono ?_
        rintro e wp ⟨p2, cb, cm, cd, db, dm, dd, tb, td, rfl, H5⟩
        have HSZ := put_by (And.intro HB.out.size HAL.out.2.2)
        have HBn := put_by (HB.out.trans (H5.out.2.mono HB.out.size))
        have HOn := put_by (kLog.move (Kept.of_below H5.out.2) (fun _ _ h => h) HO9.out)
        have HBSn := put_by (HBS.out.later H5.out.2)
        have HALn := put_by (And.intro (HAL.out.1.later H5.out.2) (And.intro HAL.out.2.1 (Nat.lt_of_lt_of_le HAL.out.2.2 H5.out.2.size)))
        have hSn := HSV.out _ HBn.out
        refine hK _ _ (fun _ => hSn) ?_
        clear hK K
        try simp only [Act.put, List.setIfInBounds_toArray, List.set_cons_zero, List.set_cons_succ]
        clear HB hS HO9 HBS  HAL
        have HB := HBn
        clear HBn
        have HO9 := HOn
        clear HOn
        have HBS := HBSn
        clear HBSn
        have HAL := HALn
        clear HALn
        have hS := hSn
        clear hSn
        have HPL9 : Hid (PlQ (fun b => A1 < b ∧ b ≠ W8.heap.size) s [none] p2 cb cm cd db dm dd tb 1 td wp) := H5.out.1.move (Kept.of_below (Below.refl _ _)) (fun b _ hb => by have h1 := HAL.out.2; have h2 := HAZ.out.1; have h3 := HSZ.out; exact ⟨by omega, by omega⟩)
        clear H5 HSZ
        refine V_takeS [12] 49 (k := 5) (v := .tuple #[.agg #[.int .i64 p2, .slice cb cm cd, .slice db dm dd], .slice tb 1 td, .int .i64 0]) rfl rfl (by kernel_rfl) (by kernel_rfl) (by kernel_rfl) (by kernel_rfl) (by kernel_rfl) (by kernel_rfl) (fun _ _ _ h => h) (Or.inl ⟨by rfl, fun V hV => ?_⟩) hS ?_
        · obtain ⟨z0, z1, z2⟩ := hV; go_simp
        try simp only [Act.put, List.setIfInBounds_toArray, List.set_cons_zero, List.set_cons_succ]
        refine V_takeS [12] 55 (k := 6) (v := .agg #[.int .i64 p2, .slice cb cm cd, .slice db dm dd]) rfl rfl (by kernel_rfl) (by kernel_rfl) (by kernel_rfl) (by kernel_rfl) (by kernel_rfl) (by kernel_rfl) (fun _ _ _ h => h) (Or.inl ⟨by rfl, fun V hV => ?_⟩) hS ?_
        · obtain ⟨z0, z1, z2⟩ := hV; go_simp
        try simp only [Act.put, List.setIfInBounds_toArray, List.set_cons_zero, List.set_cons_succ]
        refine V_takeS [12] 56 (k := 7) (v := .slice tb 1 td) rfl rfl (by kernel_rfl) (by kernel_rfl) (by kernel_rfl) (by kernel_rfl) (by kernel_rfl) (by kernel_rfl) (fun _ _ _ h => h) (Or.inl ⟨by rfl, fun V hV => ?_⟩) hS ?_
        · obtain ⟨z0, z1, z2⟩ := hV; go_simp
        try simp only [Act.put, List.setIfInBounds_toArray, List.set_cons_zero, List.set_cons_succ]
        refine V_takeS [12] 57 (k := 8) (v := .int .i64 0) rfl rfl (by kernel_rfl) (by kernel_rfl) (by kernel_rfl) (by kernel_rfl) (by kernel_rfl) (by kernel_rfl) (fun _ _ _ h => h) (Or.inl ⟨by rfl, fun V hV => ?_⟩) hS ?_
        · obtain ⟨z0, z1, z2⟩ := hV; go_simp
        try simp only [Act.put, List.setIfInBounds_toArray, List.set_cons_zero, List.set_cons_succ]
        obtain ⟨o0, q0⟩ := HAL.out.1 0 _ rfl
        obtain ⟨o1, q1⟩ := HAL.out.1 1 _ rfl
        obtain ⟨o2, q2⟩ := HAL.out.1 2 _ rfl
        refine U_one (i := 10) (listed' := #[true, true, true, true, true, true, true, true, true, true, true, false, false]) (by kernel_rfl) rfl (by kernel_rfl) rfl (fun K hK => ?_)
        go_simp
        have HF := put_by (three_set (N := W8.heap.size) HAL.out.1 HAL.out.2.1 (.int .i64 p2) (.slice cb cm cd) (.slice db dm dd))
        have hSf := HSV.out _ (HB.out.trans HF.out.2.1)
        refine hK _ _ (fun _ => hSf) ?_
        clear hK K o0 q0 o1 q1 o2 q2 hS
        try simp only [Act.put, List.setIfInBounds_toArray, List.set_cons_zero, List.set_cons_succ]
        have HE : Hid (Cls (((wp.setCell ⟨W8.heap.size, 0, none⟩ (.int .i64 p2)).setCell ⟨W8.heap.size, 1, none⟩ (.slice cb cm cd)).setCell ⟨W8.heap.size, 2, none⟩ (.slice db dm dd)) W8.heap.size [.int .i64 p2, .slice cb cm cd, .slice db dm dd] ∧ (A1 < W8.heap.size ∧ PlQ (fun b => A1 < b ∧ b ≠ W8.heap.size) s [none] p2 cb cm cd db dm dd tb 1 td (((wp.setCell ⟨W8.heap.size, 0, none⟩ (.int .i64 p2)).setCell ⟨W8.heap.size, 1, none⟩ (.slice cb cm cd)).setCell ⟨W8.heap.size, 2, none⟩ (.slice db dm dd))) ∧ Below W8.heap.size W8 (((wp.setCell ⟨W8.heap.size, 0, none⟩ (.int .i64 p2)).setCell ⟨W8.heap.size, 1, none⟩ (.slice cb cm cd)).setCell ⟨W8.heap.size, 2, none⟩ (.slice db dm dd))) := ⟨HF.out.1, ⟨by have h1 := HAL.out.2.1; have h2 := HAZ.out.1; omega, HPL9.out.move ⟨HF.out.2.1.size, fun g _ hg => HF.out.2.2 g hg.2⟩ (fun _ _ h => h)⟩, HB.out.trans HF.out.2.1⟩
        generalize World.setCell (World.setCell (World.setCell wp _ _) _ _) _ _ = WE at HE hSf ⊢
        refine U_one (i := 11) (listed' := #[true, true, true, true, true, true, true, true, true, true, true, true, false]) (by kernel_rfl) rfl (by kernel_rfl) rfl (fun K hK => ?_)
        go_simp
        refine hK _ _ (fun _ => hSf) ?_
        clear hK K
        try simp only [Act.put, List.setIfInBounds_toArray, List.set_cons_zero, List.set_cons_succ]
        refine U_one (i := 12) (listed' := #[true, true, true, true, true, true, true, true, true, true, true, true, true]) (by kernel_rfl) rfl (by kernel_rfl) rfl (fun K hK => ?_)
        go_simp
        refine hK _ _ (fun hh => by cases (show true = false from hh)) ?_
        clear hK K
        try simp only [Act.put, List.setIfInBounds_toArray, List.set_cons_zero, List.set_cons_succ]
        refine U_done (by kernel_rfl) ?_ _
        go_wp2
        go_meet
        exact ⟨W8.heap.size, p2, cb, cm, cd, db, dm, dd, tb, td, rfl, rfl, rfl, HE.out⟩
    case rest =>
      obtain ⟨AX, p2, cb, cm, cd, db, dm, dd, tb, td, rfl, rfl, rfl, H9⟩ := hcut
      obtain ⟨hax, hAX, hb⟩ := H9.out
      obtain ⟨hlt, hq⟩ := hAX
      have hne : AX ≠ A1 := by omega
      have hne2 : A1 ≠ AX := by omega
      have hva : Cls wc A1 [.int .i64 p1, .slice ca cn cc, .slice da dn dc] := HV.out.later hb
      have hgs : wc.grownBy (wc.setCell ⟨A1, 0, none⟩ (.int .i64 (p1 + 1))) (some A1) := grown_set _
      have HV10 : Hid (Cls (wc.setCell ⟨A1, 0, none⟩ (.int .i64 (p1 + 1))) A1 [.int .i64 (p1 + 1), .slice ca cn cc, .slice da dn dc]) := hva.set (k := 0) _
      have HAX : Hid (Cls (wc.setCell ⟨A1, 0, none⟩ (.int .i64 (p1 + 1))) AX [.int .i64 (p1 + 1), .slice cb cn cd, .slice db dn dd]) := by
        have h := hax.grown hgs hne
        have e1 : p2 = p1 + 1 := by rw [hq.pos, HS.out.1]; rfl
        have e2 : cm = cn := by rw [hq.cn, HS.out.2.1]; rfl
        have e3 : dm = dn := by rw [hq.dn, HS.out.2.2.1]; rfl
        rwa [e1, e2, e3] at h
      have HQ : Hid (PlQ (fun b => A1 < b ∧ b ≠ AX) s [none] p2 cb cm cd db dm dd tb 1 td (wc.setCell ⟨A1, 0, none⟩ (.int .i64 (p1 + 1)))) := hq.move (kept_old hgs (fun h => Nat.lt_irrefl _ h.1)) (fun _ _ h => h)
      have HSA : Hid (StIs (fun _ => True) (wc.setCell ⟨A1, 0, none⟩ (.int .i64 (p1 + 1))) s.cells s.dones ca cc da dc) := HST.out _ ((HAZ.out.2.trans (hb.mono (Nat.le_of_lt HAZ.out.1))).setCell (Nat.le_refl _) _)
      have HBE : Hid (Below w.heap.size w (wc.setCell ⟨A1, 0, none⟩ (.int .i64 (p1 + 1)))) := (HB8.out.trans (hb.mono HB8.out.size)).setCell HAW.out _
      have iwp : IntKind.i64.wrap (p1 + 1) = p1 + 1 := by have := HS.out; have := this.2.2.2.1.pos; rw [IntKind.wrap_i64]; omega
      obtain ⟨x0, f0⟩ := hva 0 _ rfl
      clear hax hlt hq hva hgs hb H9
      go_upto_region 11 with (fail)
      clear x0 f0
      generalize wc.setCell ⟨A1, 0, none⟩ (.int .i64 (p1 + 1)) = W10 at HV10 HAX HQ HSA HBE ⊢
      obtain ⟨tbb, to', rfl, -, hz⟩ := num_at HQ.out.told (k := 0) (by simp [playM])
      have z0 : W10.cell? ⟨tbb, to', none⟩ = some (.int .i64 4) := by have h := hz W10 (Below.refl _ _); simpa [playM, codeM] using h
      obtain ⟨x0, -⟩ := HV10.out 0 _ rfl
      obtain ⟨x1, -⟩ := HV10.out 1 _ rfl
      obtain ⟨x2, -⟩ := HV10.out 2 _ rfl
      obtain ⟨y0, -⟩ := HAX.out 0 _ rfl
      obtain ⟨y1, -⟩ := HAX.out 1 _ rfl
      obtain ⟨y2, -⟩ := HAX.out 2 _ rfl
      have cE : Hid (Calls Try.prog 20 #[.agg #[.int .i64 (p1 + 1), .slice ca cn cc, .slice da dn dc], .agg #[.int .i64 (p1 + 1), .slice cb cn cd, .slice db dn dd]] W10 fun e w' => e = .returned (.bool true) ∧ Hid (Below W10.heap.size W10 w')) := by
        have h0 := sameStateK_yes _ _ (p1 + 1) s.cells s.dones ca cb da db cc cd dc dd W10 HSA.out HQ.out.st
        rw [← HS.out.2.1, ← HS.out.2.2.1] at h0
        exact h0
      clear hz
      go_wp2_with (first
        | (go_at_call 20; (with_reducible refine cE.out.mono ?_); clear cE; rintro e w11 ⟨rfl, H11⟩))
      exact HP.out _ (HBE.out.trans (H11.out.mono HBE.out.size))

end Go.Proofs.Ytjjdednlddnllab
