/- listed: all nodes of a tree. -/
import Derived.Test.YtcegkgobkpakiaaFmListed
import Derived.Deep.Cut
namespace Go.Proofs.Ytcegkgobkpakiaa
open Go.ChangeShapes Go.WideShapes Go.ChangeAt Go.RowKit

set_option maxRecDepth 100000 in
set_option maxHeartbeats 16000000 in
theorem listed_any (x : Nd) (hwk : Wk x.h x.t) (hdg : deg x.h x.t ≤ 4) (hfew : cntN x ≤ 1000) (a0 b0 : Option Addr) (n0 c0 m0 d0 : Nat) (w : World) (hr : (kNd x.h).rel (fun b => b < w.heap.size) w x.t [.slice a0 n0 c0, .slice b0 m0 d0]) :
    Calls Try.prog 15 #[.agg #[.slice a0 n0 c0, .slice b0 m0 d0]] w fun e w' => ∃ (a : Option Addr) (n c : Nat), e = .returned (.slice a n c) ∧ n = cntN x ∧ Lies kTn (fun b => w.heap.size ≤ b) w' a c (toldK x (cntN x)) ∧ Below w.heap.size w w' := by
  have H0 := put_by (listI_new w x (.slice a0 n0 c0) (.slice b0 m0 d0) 53 hr)
  have HF := put_by (And.intro hfew (And.intro hwk hdg))
  clear hr hfew hwk hdg
  generalize hpost : (fun e w' => ∃ (a : Option Addr) (n c : Nat), e = Ending.returned (.slice a n c) ∧ n = cntN x ∧ Lies kTn (fun b => w.heap.size ≤ b) w' a c (toldK x (cntN x)) ∧ Below w.heap.size w w') = R
  have HO : Hid (∀ w', ¬ R .outgrown w') := fun w' hh => by
    rw [← hpost] at hh
    obtain ⟨_, _, _, e, _⟩ := hh
    cases e
  have HR := put_by hpost
  clear hpost
  go_enter Try.func15, Try.ntmps15
  go_wp2
  generalize (w.alloc (.cells #[.slice a0 n0 c0, .slice b0 m0 d0] 53)).alloc (.cells #[.slice a0 n0 c0, .slice b0 m0 d0] 53) = W0 at H0 ⊢
  go_loopw [3, 4, 5] (fun s l i wr => ∃ (k qn : Nat) (a : Option Addr) (c : Nat) (la : Option Addr) (lc : Nat), k ≤ qn ∧ i = .int .i64 k ∧ s = .slice a qn c ∧ l = .slice la k lc ∧ Hid (qn = (qK x k).length ∧ ListI w x k (.slice a qn c) (.slice la k lc) wr)) (fun _ _ i _ => 1000 - (intOf i).toNat)
  case atStart => exact ⟨0, 1, some ⟨w.heap.size + 1, 0, none⟩, 1, none, 0, Nat.zero_le _, rfl, rfl, rfl, rfl, H0.out⟩
  case round =>
    clear H0
    rename World => V
    obtain ⟨k, qn, a, c, la, lc, hk, rfl, rfl, rfl, HI⟩ := hrel
    by_cases hlt : k < qn
    · have hx : k < (qK x k).length := by rw [← HI.out.1]; exact hlt
      have hk1 : k < 1000 := by
        have h1 := qK_few x (k := k) (by omega)
        have h2 := HF.out.1
        omega
      obtain ⟨g, cap, p, q, ev, hcap, hrel, hp, hq, hg⟩ := rows_at HI.out.2.nodes hx
      simp only [Value.slice.injEq] at ev
      obtain ⟨rfl, hqn, rfl⟩ := ev
      have HY : Hid (∃ y, y = (qK x k)[k] ∧ Wk y.h y.t ∧ deg y.h y.t ≤ 4) := ⟨_, rfl, qK_wk HF.out.2.1 k _ (List.getElem_mem hx), qK_deg HF.out.2.1 HF.out.2.2 k _ (List.getElem_mem hx)⟩
      obtain ⟨y, hy, hyk, hyd⟩ := HY.out
      have hyd2 := any_deg y
      rw [← hy] at hrel
      obtain ⟨ea, ec, ba, bd, epq, hE, hKd⟩ := any_cells hrel
      simp only [List.cons.injEq, and_true] at epq
      obtain ⟨rfl, rfl⟩ := epq
      have HYE : Hid (qK x (k + 1) = qK x k ++ kidsOf y ∧ toldK x (k + 1) = toldK x k ++ [toldN y qn] ∧ Wk y.h y.t ∧ (qK x (k + 1)).length ≤ 1000) := by
        have h1 := qK_step x hx
        have h2 := toldK_step x hx
        rw [← hy] at h1 h2
        rw [← HI.out.1] at h2
        refine ⟨h1, h2, hyk, ?_⟩
        have h3 := qK_few x (k := k + 1) (by rw [h1, List.length_append]; omega)
        have := HF.out.1
        omega
      have HL := put_by (And.intro hE hKd)
      clear hE hKd hrel HY hy hyk hx
      have hQN := put_by HI.out.1
      obtain ⟨n1, hn1⟩ : ∃ n1, n1 = (entsOf y).length := ⟨_, rfl⟩
      obtain ⟨n2, hn2⟩ : ∃ n2, n2 = (kidsOf y).length := ⟨_, rfl⟩
      rw [← hn1] at hp
      rw [← hn2] at hq
      have HN := put_by (And.intro hn1 hn2)
      have hn4 : n1 ≤ 4 ∧ n2 ≤ 4 := by omega
      obtain ⟨hn4, hn5⟩ := hn4
      clear hn1 hn2 hqn hyd hyd2
      have ik : (k : Int) < (qn : Int) := by omega
      have hgw : g < V.heap.size := hg
      have E0 := put_by (entI_new V 60)
      go_wp2
      generalize hW1 : V.alloc (.cells #[.slice none 0 0, .slice none 0 0, .slice none 0 0] 60) = W1 at E0 ⊢
      have hp1 : Hid (W1.cell? ⟨g, k * 2, none⟩ = some (.slice ea n1 ec) ∧ W1.cell? ⟨g, k * 2 + 1, none⟩ = some (.slice ba n2 bd)) := ⟨(E0.out.base.cell (p := ⟨g, k * 2, none⟩) hgw).trans hp, (E0.out.base.cell (p := ⟨g, k * 2 + 1, none⟩) hgw).trans hq⟩
      clear hW1
      go_loopw [25] (fun i W => ∃ (j : Nat) (ua : Option Addr) (um uc : Nat), j ≤ n1 ∧ i = .int .i64 j ∧ Hid (EntI V (.slice ua um uc) ((entsOf y).take j) W)) (fun i _ => n1 - (intOf i).toNat)
      case atStart => exact ⟨0, none, 0, 0, Nat.zero_le _, rfl, E0.out⟩
      case round =>
        clear E0
        obtain ⟨j, ua, um, uc, hj, rfl, HE⟩ := hrel
        by_cases hjl : j < n1
        · have hx : j < (entsOf y).length := by rw [← HN.out.1]; exact hjl
          obtain ⟨b4, off, rfl, hb4, _, cs, ⟨u, v, rfl, hu, hv⟩, hc⟩ := HL.out.1.at hx
          obtain ⟨xa, xc, rfl, hxo, -⟩ := id hu
          obtain ⟨ya, yc, rfl, hyo, -⟩ := id hv
          have hB := HE.out.base
          have d0 : wr.cell? ⟨b4, off + j * 2, none⟩ = some (.slice xa ((entsOf y)[j]).1.length xc) := (hB.cell (p := ⟨b4, off + j * 2, none⟩) hb4).trans (by simpa using hc 0 _ rfl)
          have d1 : wr.cell? ⟨b4, off + j * 2 + 1, none⟩ = some (.slice ya ((entsOf y)[j]).2.length yc) := (hB.cell (p := ⟨b4, off + j * 2 + 1, none⟩) hb4).trans (hc 1 _ rfl)
          obtain ⟨z, hz⟩ : ∃ z, z = (entsOf y)[j] := ⟨_, rfl⟩
          rw [← hz] at d0 d1 hu hv hxo hyo
          have HT : Hid ((entsOf y).take (j + 1) = (entsOf y).take j ++ [z]) := by rw [hz]; exact List.take_succ_eq_append_getElem hx
          obtain ⟨es, hes⟩ : ∃ es, es = (entsOf y).take j := ⟨_, rfl⟩
          have hel : es.length ≤ 4 := by rw [hes, List.length_take]; omega
          rw [← hes] at HT HE
          obtain ⟨Wa, hWa⟩ : ∃ Wa, Wa = wr.alloc (.cells #[.slice xa z.1.length xc, .slice ya z.2.length yc] 62) := ⟨_, rfl⟩
          have hba : Below wr.heap.size wr Wa := by rw [hWa]; exact (Below.refl _ wr).alloc (Nat.le_refl _) _
          have hTe : Two Wa wr.heap.size (.slice xa z.1.length xc) (.slice ya z.2.length yc) := by rw [hWa]; exact Two.new _ _ _ _
          have HIa : Hid (EntE V (.slice ua um uc) es wr.heap.size (.slice xa z.1.length xc) (.slice ya z.2.length yc) Wa) := ⟨HE.out.later hba, hTe⟩
          have hNe : V.heap.size ≠ wr.heap.size := by have := HE.out.var.lt; omega
          have c3 : Hid (∀ W, EntE V (.slice ua um uc) es wr.heap.size (.slice xa z.1.length xc) (.slice ya z.2.length yc) W → Calls Try.prog 23 #[.agg #[.slice xa z.1.length xc, .slice ya z.2.length yc]] W fun e w4 => ∃ (a1 : Option Addr) (n1 q1 : Nat) (a2 : Option Addr) (n2 q2 : Nat), e = .returned (.agg #[.slice a1 n1 q1, .slice a2 n2 q2]) ∧ Hid (EntE V (.slice ua um uc) es wr.heap.size (.slice xa z.1.length xc) (.slice ya z.2.length yc) w4 ∧ kEnt.rel (fun b => V.heap.size + 1 ≤ b ∧ (Value.slice ua um uc).ownBlock ≠ some b) w4 z [.slice a1 n1 q1, .slice a2 n2 q2])) := fun W hW => by
            have hk1 := (Kept.of_below (ok := fun b => (Value.slice la k lc).ownBlock ≠ some b ∧ (Value.slice (some ⟨g, 0, none⟩) qn c).ownBlock ≠ some b) hW.1.base)
            refine (copiedEntry_any z _ _ _ W (hu.move hk1 (fun _ _ h => h)) (hv.move hk1 (fun _ _ h => h))).mono ?_
            rintro e w4 ⟨a1, n1, q1, a2, n2, q2, rfl, h1, h2⟩
            have hlt := hW.1.var.lt
            exact ⟨a1, n1, q1, a2, n2, q2, rfl, hW.later h2, kEnt.move (Kept.of_below (Below.refl _ _)) (fun b _ hb => ⟨by have := hb.1; omega, fun e => by have := (rows_lt hW.1.rows b e).2; have := hb.1; omega⟩) h1⟩
          subst hWa
          clear hz hes hc hu hv hxo hyo hba hB hTe
          generalize hi1 : z.1.length = x1 at d0 d1 c3 HIa
          generalize hi2 : z.2.length = x2 at d0 d1 c3 HIa
          clear hi1 hi2
          have ik2 : (j : Int) < (n1 : Int) := by omega
          have HD := put_by (HIa.out.later (Below.refl _ _).drew)
          obtain ⟨⟨-, ⟨g3, -, -, -, -, -⟩, -⟩, ⟨s0, s1, -, -⟩⟩ := id HD.out
          go_wp2
          generalize hV2 : (wr.alloc (.cells #[.slice xa x1 xc, .slice ya x2 yc] 62)).drew = V2 at HD g3 s0 s1
          refine region_plain (fun V' => V'.cell? ⟨wr.heap.size, 0, none⟩ = some (.slice xa x1 xc) ∧ V'.cell? ⟨wr.heap.size, 1, none⟩ = some (.slice ya x2 yc) ∧ V'.cell? ⟨V.heap.size, 0, none⟩ = some (.slice ua um uc)) 7 (by kernel_rfl) ?_
          rw [hV2]
          have hS := And.intro s0 (And.intro s1 g3)
          refine V_takeX [7, 5, 1] (k := 0) (v := .pointer (some ⟨V.heap.size, 0, none⟩)) rfl (by kernel_rfl) (by kernel_rfl) (by kernel_rfl) (by kernel_rfl) (by kernel_rfl) (by kernel_rfl) (fun _ _ _ h => h) (Or.inl ⟨by rfl, fun V' hV => ?_⟩) hS ?_
          · obtain ⟨z0, z1, z2⟩ := hV; go_simp
          simp only [Act.put, List.setIfInBounds_toArray]
          refine V_takeX [7, 5] (k := 1) (v := .slice ua um uc) rfl (by kernel_rfl) (by kernel_rfl) (by kernel_rfl) (by kernel_rfl) (by kernel_rfl) (by kernel_rfl) (fun _ _ _ h => h) (Or.inl ⟨by rfl, fun V' hV => ?_⟩) hS ?_
          · obtain ⟨z0, z1, z2⟩ := hV; go_simp
          simp only [Act.put]
          refine V_takeX [7, 5, 4, 3] (k := 2) (v := .agg #[.slice xa x1 xc, .slice ya x2 yc]) rfl (by kernel_rfl) (by kernel_rfl) (by kernel_rfl) (by kernel_rfl) (by kernel_rfl) (by kernel_rfl) (fun _ _ _ h => h) (Or.inl ⟨by rfl, fun V' hV => ?_⟩) hS ?_
          · obtain ⟨z0, z1, z2⟩ := hV; go_simp
          simp only [Act.put]
          refine U_one (i := 3) (by kernel_rfl) rfl rfl rfl (fun K hK => ?_)
          go_simp
          refine (c3.out _ HD.out).mono ?_
          rintro e w3 ⟨a1, n3, q1, a2, n4, q2, rfl, H3⟩
          obtain ⟨⟨-, ⟨g4, -, -, -, -, -⟩, -⟩, ⟨s2, s3, -, -⟩⟩ := id H3.out.1
          refine hK _ _ (fun _ => ⟨s2, s3, g4⟩) ?_
          clear hK K
          refine U_one (i := 4) (by kernel_rfl) rfl rfl rfl (fun K hK => ?_)
          go_simp
          refine hK _ _ (fun _ => by simp [World.cell?_alloc_some, s2, s3, g4]) ?_
          clear hK K
          refine U_one (i := 5) (by kernel_rfl) rfl rfl rfl (fun K hK => ?_)
          refine wp_of_list rfl (by rintro ⟨_, _, hh⟩; exact HO.out _ hh) (wpList_append_one eltE rfl (.tmp 30) (.tmp 33) rfl (V.heap.size + 1) (.slice ua um uc) es rfl H3.out.1.1.rows z [.slice a1 n3 q1, .slice a2 n4 q2] _ _ rfl rfl H3.out.2 (fun b hb => by have := H3.out.1.1.var.lt; show V.heap.size + 1 ≤ b; omega) (by omega) (by decide) (by have := H3.out.1.1.var.lt; omega) (fun v' w5 r1 r2 r3 => ?_))
          obtain ⟨⟨f3, _, _, ff, _, _⟩, hJ⟩ := H3.out.1.1.more r1 r2
          obtain ⟨va, vc, hv'⟩ := rows_form r1
          have t01 : Two w5 wr.heap.size (.slice xa x1 xc) (.slice ya x2 yc) := by
            have hB := World.block_lt_of_cell? _ _ s2
            have e : w5.heap[wr.heap.size]? = w3.heap[wr.heap.size]? := r2.block _ hB (fun e => by have h7 := (rows_lt HE.out.rows _ e.symm).2; omega)
            have h9 := H3.out.1.2
            exact ⟨(World.cell?_of_block (w := w3) e).trans h9.c0, (World.cell?_of_block (w := w3) e).trans h9.c1, (World.frozen?_of_block (w := w3) e).trans h9.f0, (World.frozen?_of_block (w := w3) e).trans h9.f1⟩
          generalize (es ++ [z]).length = vn at hv'
          subst hv'
          rw [← HT.out] at hJ
          have HJ := put_by hJ
          clear hJ r1 r2 r3
          refine hK _ _ (fun _ => ⟨t01.c0, t01.c1, f3⟩) ?_
          clear hK K
          refine U_one (i := 6) (by kernel_rfl) rfl rfl rfl (fun K hK => ?_)
          go_simp
          refine hK _ _ (fun _ => ⟨t01.c0, t01.c1, f3⟩) ?_
          clear hK K
          refine U_one (i := 7) (by kernel_rfl) rfl rfl rfl (fun K hK => ?_)
          go_simp
          refine hK _ _ (fun hh => by cases (show true = false from hh)) ?_
          clear hK K
          refine U_done (by kernel_rfl) ?_ _
          generalize w5.setCell _ _ = W6 at HJ ⊢
          go_wp2
          go_roundw
          case rel => exact ⟨j + 1, va, vn, vc, by omega, by go_num, HJ.out⟩
          case measure => simp [intOf]; omega
        · obtain rfl : j = n1 := by omega
          have HE1 : Hid (EntI V (.slice ua um uc) (entsOf y) wr) := by
            have h := HE.out
            rw [List.take_of_length_le (by rw [← HN.out.1]; exact Nat.le_refl _)] at h
            exact h
          have K0 := put_by (kidI_new HI.out.2 HE1.out)
          have hq1 : wr.cell? ⟨g, k * 2 + 1, none⟩ = some (.slice ba n2 bd) := (HE.out.base.cell (p := ⟨g, k * 2 + 1, none⟩) hgw).trans hq
          clear HE hp1 hp hq
          rename World => W1
          go_wp2
          go_loopw [3, 43] (fun s i W => ∃ (j mq : Nat) (na : Option Addr) (nc : Nat) (ka : Option Addr) (kn kc : Nat) (ia : Option Addr) (im ic : Nat), j ≤ n2 ∧ i = .int .i64 j ∧ s = .slice na mq nc ∧ Hid (mq = qn + j ∧ KidI w W1 V.heap.size (.slice la k lc) (.slice (some ⟨g, 0, none⟩) qn c) (.slice ua um uc) (qK x k ++ (kidsOf y).take j) ((((kidsOf y).take j).drop 1).map (fun y => leastK y.h y.t)) ((List.range j).map (fun i => ((qn + i : Nat) : Int))) (.slice na mq nc) (.slice ka kn kc) (.slice ia im ic) W)) (fun _ i _ => n2 - (intOf i).toNat)
          case atStart =>
            refine ⟨0, qn, some ⟨g, 0, none⟩, c, none, 0, 0, none, 0, 0, Nat.zero_le _, rfl, rfl, rfl, ?_⟩
            have e1 : qK x k ++ (kidsOf y).take 0 = qK x k := by simp
            have e2 : (((kidsOf y).take 0).drop 1).map (fun y => leastK y.h y.t) = [] := by simp
            have e3 : (List.range 0).map (fun i => ((qn + i : Nat) : Int)) = [] := rfl
            rw [e1, e2, e3]
            exact K0.out
          case round =>
            clear K0
            obtain ⟨j, mq, na, nc, ka, kn, kc, ia, im, ic, hj, rfl, rfl, HK⟩ := hrel
            by_cases hjl : j < n2
            · have hx : j < (kidsOf y).length := by rw [← HN.out.2]; exact hjl
              obtain ⟨b4, off, rfl, hb4, hok4, cs, hz4, hc⟩ := HL.out.2.at hx
              obtain ⟨z, hz⟩ : ∃ z, z = (kidsOf y)[j] := ⟨_, rfl⟩
              rw [← hz] at hz4
              obtain ⟨pa, pn, pc, qa, qm, qc, rfl⟩ := nd_form hz4
              have HZ : Hid (WnN z ∧ (kidsOf y).take (j + 1) = (kidsOf y).take j ++ [z]) := by
                rw [hz]
                exact ⟨Wk_kids HYE.out.2.2.1 _ (List.getElem_mem hx), List.take_succ_eq_append_getElem hx⟩
              have hkp : ∀ W, Kept (fun b => b ≠ V.heap.size ∧ (Value.slice (some ⟨g, 0, none⟩) qn c).ownBlock ≠ some b) W1 W → Kept (fun b => (Value.slice la k lc).ownBlock ≠ some b ∧ (Value.slice (some ⟨g, 0, none⟩) qn c).ownBlock ≠ some b) V W := fun W hW => ⟨Nat.le_trans HE1.out.base.size hW.1, fun b hb ho => (hW.2 b (Nat.lt_of_lt_of_le hb HE1.out.base.size) ⟨by omega, ho.2⟩).trans (HE1.out.base.block b hb)⟩
              have hcl : ∀ i u, ([(.slice pa pn pc), (.slice qa qm qc)] : List Value)[i]? = some u → wr.cell? ⟨b4, off + j * 2 + i, none⟩ = some u := fun i u hi => (World.cell?_of_block (w := V) (a := ⟨b4, off + j * 2 + i, none⟩) ((hkp wr HK.out.2.kept).2 b4 hb4 hok4)).trans (hc i u hi)
              have d0 := hcl 0 _ rfl
              have d1 := hcl 1 _ rfl
              simp only [Nat.add_zero] at d0
              have HQ : Hid (mq = qn + j) := HK.out.1
              have hmq : (qK x k ++ (kidsOf y).take j).length = mq := by
                rw [List.length_append, List.length_take, ← hQN.out, HQ.out]
                omega
              have hmq2 : mq ≤ 1000 := by
                have h1 := HYE.out.2.2.2
                rw [HYE.out.1, List.length_append] at h1
                rw [← hmq, List.length_append, List.length_take]
                omega
              obtain ⟨q0, hq0⟩ : ∃ q0, q0 = qK x k ++ (kidsOf y).take j := ⟨_, rfl⟩
              obtain ⟨ks, hks⟩ : ∃ ks, ks = (((kidsOf y).take j).drop 1).map (fun y => leastK y.h y.t) := ⟨_, rfl⟩
              obtain ⟨js, hjs⟩ : ∃ js, js = (List.range j).map (fun i => ((qn + i : Nat) : Int)) := ⟨_, rfl⟩
              have hkl : ks.length ≤ 4 := by rw [hks, List.length_map, List.length_drop, List.length_take]; omega
              have hjl2 : js.length ≤ 4 := by rw [hjs, List.length_map, List.length_range]; omega
              have HNEW : Hid (qK x k ++ (kidsOf y).take (j + 1) = q0 ++ [z] ∧ (j = 0 → (((kidsOf y).take (j + 1)).drop 1).map (fun y => leastK y.h y.t) = ks) ∧ (0 < j → (((kidsOf y).take (j + 1)).drop 1).map (fun y => leastK y.h y.t) = ks ++ [leastK z.h z.t]) ∧ (List.range (j + 1)).map (fun i => ((qn + i : Nat) : Int)) = js ++ [(mq : Int)]) := by
                rw [hq0, hks, hjs, HZ.out.2, HQ.out]
                refine ⟨(List.append_assoc _ _ _).symm, fun h0 => ?_, fun h0 => ?_, ?_⟩
                · subst h0
                  simp
                · rw [List.drop_append_of_le_length (by rw [List.length_take]; omega), List.map_append]
                  rfl
                · rw [List.range_succ, List.map_append]
                  rfl
              have HK1 : Hid (KidI w W1 V.heap.size (.slice la k lc) (.slice (some ⟨g, 0, none⟩) qn c) (.slice ua um uc) q0 ks js (.slice na mq nc) (.slice ka kn kc) (.slice ia im ic) wr) := by
                have h := HK.out.2
                rw [← hq0, ← hks, ← hjs] at h
                exact h
              rw [← hq0] at hmq
              clear hq0 hks hjs HK hc hcl hz
              have hz5 : Hid (∀ W nv2 kv2 iv2 q2 k2 j2, KidI w W1 V.heap.size (.slice la k lc) (.slice (some ⟨g, 0, none⟩) qn c) (.slice ua um uc) q2 k2 j2 nv2 kv2 iv2 W → kAny.rel (fun b => NOk V.heap.size (.slice la k lc) kv2 iv2 b ∧ nv2.ownBlock ≠ some b) W z [(.slice pa pn pc), (.slice qa qm qc)]) := fun W nv2 kv2 iv2 q2 k2 j2 hW => by
                refine kAny.move (hkp W hW.kept) (fun b hb ho => ⟨⟨by omega, fun e => ?_, fun e => ?_, ho.1⟩, fun e => ?_⟩) hz4
                · have := (rows_lt hW.keys b e).1; have := hW.hM1; omega
                · have := (rows_lt hW.nums b e).1; have := hW.hM1; omega
                · rcases hW.nvo b e with e' | e'
                  · exact ho.2 e'
                  · have := hW.hM1; omega
              clear hz4 hok4 hkp
              obtain ⟨Wa, hWa⟩ : ∃ Wa, Wa = wr.alloc (.cells #[(.slice pa pn pc), (.slice qa qm qc)] 53) := ⟨_, rfl⟩
              have hba : Below wr.heap.size wr Wa := by rw [hWa]; exact (Below.refl _ wr).alloc (Nat.le_refl _) _
              have hTe : Two Wa wr.heap.size (.slice pa pn pc) (.slice qa qm qc) := by rw [hWa]; exact Two.new _ _ _ _
              have HKa : Hid (KidI w W1 V.heap.size (.slice la k lc) (.slice (some ⟨g, 0, none⟩) qn c) (.slice ua um uc) q0 ks js (.slice na mq nc) (.slice ka kn kc) (.slice ia im ic) Wa ∧ Two Wa wr.heap.size (.slice pa pn pc) (.slice qa qm qc)) := ⟨HK1.out.later hba, hTe⟩
              have hNe : V.heap.size ≠ wr.heap.size := by have := HK1.out.var.lt; omega
              have HOW : Hid (∀ nv2 kv2 iv2 : Value, (nv2 = .slice na mq nc ∨ kv2 = (.slice ka kn kc) ∨ iv2 = (.slice ia im ic)) → True) := fun _ _ _ _ => trivial
              have hown : Hid (((Value.slice na mq nc).ownBlock ≠ some wr.heap.size) ∧ ((Value.slice ka kn kc).ownBlock ≠ some wr.heap.size) ∧ ((Value.slice ia im ic).ownBlock ≠ some wr.heap.size)) := ⟨(fun e => by have := (rows_lt HK1.out.nodes _ e).2; omega), (fun e => by have := (rows_lt HK1.out.keys _ e).2; omega), (fun e => by have := (rows_lt HK1.out.nums _ e).2; omega)⟩
              clear hba hTe HOW
              have ik2 : (j : Int) < (n2 : Int) := by omega
              subst hWa
              by_cases hj0 : j = 0
              · have hj1 : ¬ (0 : Int) < (j : Int) := by omega
                have HB := HKa
                have HJ0 := put_by hj0
                clear HKa hj0
                go_upto_region 17 with (fail)
                generalize wr.alloc (.cells #[(.slice pa pn pc), (.slice qa qm qc)] 53) = Wb at HB ⊢
                obtain ⟨⟨-, -, ⟨y0, y1, y2, y3, y4, y5⟩, -, -, -, -, -, -, -, -, -, -⟩, ⟨s0, s1, s2, s3⟩⟩ := id HB.out
                go_wp2_with (first
                  | (at_builtin; refine wpList_append_one (K := kInt) (ok := fun b => W1.heap.size ≤ b) eltI rfl (.tmp 59) (.tmp 62) rfl W1.heap.size (.slice ia im ic) js rfl HB.out.1.nums (mq : Int) [.int .i64 mq] _ _ rfl rfl rfl (fun b hb => by have := HB.out.1.kept.1; show W1.heap.size ≤ b; omega) (by omega) (by decide) HB.out.1.kept.1 ?_; intro v' w5 r1 r2 r3; refine hidGoal ?_))
                obtain ⟨⟨y6, y7, y8, y9, y10, y11⟩, hJ⟩ := HB.out.1.num r1 r2 r3
                have e5 : w5.heap[wr.heap.size]? = (Wb).heap[wr.heap.size]? := r2.block _ (World.block_lt_of_cell? _ _ s0) (fun e => hown.out.2.2 e.symm)
                have e6 : (w5.setCell ⟨V.heap.size, 2, none⟩ v').heap[wr.heap.size]? = (Wb).heap[wr.heap.size]? := (heap_setCell_other _ _ _ _ (Ne.symm hNe)).trans e5
                have t4 : Two (w5.setCell ⟨V.heap.size, 2, none⟩ v') wr.heap.size (.slice pa pn pc) (.slice qa qm qc) := ⟨(World.cell?_of_block (w := Wb) e6).trans s0, (World.cell?_of_block (w := Wb) e6).trans s1, (World.frozen?_of_block (w := Wb) e6).trans s2, (World.frozen?_of_block (w := Wb) e6).trans s3⟩
                obtain ⟨va, vc, hv'⟩ := rows_form r1
                generalize (js ++ [(mq : Int)]).length = vn at hv'
                subst hv'
                have HC := put_by hJ
                have t40 := t4.c0
                have t41 := t4.c1
                clear hJ e5 e6 t4 r1 r2 r3 HB s0 s1 s2 s3 y0 y1 y2 y3 y4 y5
                unfold Hid
                go_upto_region 18 with (fail)
                generalize w5.setCell _ _ = Wc at HC t40 t41 ⊢
                clear y6 y7 y8 y9 y10 y11
                go_wp2_with (first
                  | (at_builtin; refine wpList_append_one (K := kAny) (ok := NOk V.heap.size (.slice la k lc) (.slice ka kn kc) (.slice va vn vc)) eltN rfl (.tmp 65) (.tmp 67) rfl w.heap.size (.slice na mq nc) q0 rfl HC.out.nodes z [(.slice pa pn pc), (.slice qa qm qc)] _ _ rfl rfl (hz5.out _ _ _ _ _ _ _ HC.out) HC.out.fresh (by rw [hmq]; omega) (by decide) HC.out.below.size ?_; intro v2 w6 r1 r2 r3; refine hidGoal ?_))
                have hJ := HC.out.node r1 r2 r3
                obtain ⟨na2, nc2, hv2⟩ := rows_form r1
                have hlen : (q0 ++ [z]).length = mq + 1 := by rw [List.length_append, hmq]; rfl
                rw [hlen] at hv2
                subst hv2
                have HJ : Hid (mq + 1 = qn + (j + 1) ∧ KidI w W1 V.heap.size (.slice la k lc) (.slice (some ⟨g, 0, none⟩) qn c) (.slice ua um uc) (qK x k ++ (kidsOf y).take (j + 1)) ((((kidsOf y).take (j + 1)).drop 1).map (fun y => leastK y.h y.t)) ((List.range (j + 1)).map (fun i => ((qn + i : Nat) : Int))) (.slice na2 (mq + 1) nc2) (.slice ka kn kc) (.slice va vn vc) w6) := by
                  rw [HNEW.out.1, HNEW.out.2.1 HJ0.out, HNEW.out.2.2.2]
                  exact ⟨by have := HQ.out; omega, hJ⟩
                clear hJ hlen r1 r2 r3 HC
                unfold Hid
                go_wp2
                go_roundw
                case rel => exact ⟨j + 1, mq + 1, na2, nc2, ka, kn, kc, va, vn, vc, by omega, by go_num, rfl, HJ.out⟩
                case measure => simp [intOf]; omega
              · have hj1 : (0 : Int) < (j : Int) := by omega
                have cL : Hid (∀ W, KidI w W1 V.heap.size (.slice la k lc) (.slice (some ⟨g, 0, none⟩) qn c) (.slice ua um uc) q0 ks js (.slice na mq nc) (.slice ka kn kc) (.slice ia im ic) W ∧ Two W wr.heap.size (.slice pa pn pc) (.slice qa qm qc) → Calls Try.prog 25 #[.agg #[(.slice pa pn pc), (.slice qa qm qc)]] W fun e w4 => ∃ (a1 : Option Addr) (m1 q1 : Nat), e = .returned (.slice a1 m1 q1) ∧ Hid ((KidI w W1 V.heap.size (.slice la k lc) (.slice (some ⟨g, 0, none⟩) qn c) (.slice ua um uc) q0 ks js (.slice na mq nc) (.slice ka kn kc) (.slice ia im ic) w4 ∧ Two w4 wr.heap.size (.slice pa pn pc) (.slice qa qm qc)) ∧ m1 = (leastK z.h z.t).length ∧ Octs w4 a1 q1 (leastK z.h z.t))) := fun W hW => by
                  refine (least_any _ z.h z.t (by have := HZ.out.1.1; omega) HZ.out.1.2.2 _ _ W (hz5.out _ _ _ _ _ _ _ hW.1)).mono ?_
                  rintro e w4 ⟨a1, q1, rfl, h1, h2⟩
                  exact ⟨a1, _, q1, rfl, ⟨hW.1.later h2, hW.2.later h2⟩, rfl, h1⟩
                have cC : Hid (∀ (W : World) (a1 : Option Addr) (m1 q1 : Nat), (KidI w W1 V.heap.size (.slice la k lc) (.slice (some ⟨g, 0, none⟩) qn c) (.slice ua um uc) q0 ks js (.slice na mq nc) (.slice ka kn kc) (.slice ia im ic) W ∧ Two W wr.heap.size (.slice pa pn pc) (.slice qa qm qc)) ∧ m1 = (leastK z.h z.t).length ∧ Octs W a1 q1 (leastK z.h z.t) → Calls Try.prog 24 #[.slice a1 m1 q1] W fun e w4 => ∃ (a2 : Option Addr) (m2 q2 : Nat), e = .returned (.slice a2 m2 q2) ∧ Hid ((KidI w W1 V.heap.size (.slice la k lc) (.slice (some ⟨g, 0, none⟩) qn c) (.slice ua um uc) q0 ks js (.slice na mq nc) (.slice ka kn kc) (.slice ia im ic) w4 ∧ Two w4 wr.heap.size (.slice pa pn pc) (.slice qa qm qc)) ∧ kOct.rel (fun b => (W1.heap.size ≤ b ∧ (Value.slice ia im ic).ownBlock ≠ some b ∧ (Value.slice na mq nc).ownBlock ≠ some b) ∧ (Value.slice ka kn kc).ownBlock ≠ some b) w4 (leastK z.h z.t) [.slice a2 m2 q2])) := fun W a1 m1 q1 ⟨hW, hm, ho⟩ => by
                  subst hm
                  refine (copied_any a1 q1 (leastK z.h z.t) W ho).mono ?_
                  rintro e w4 ⟨a2, q2, rfl, h1, h2, h3⟩
                  have hks := hW.1.kept.1
                  exact ⟨a2, _, q2, rfl, ⟨hW.1.later h3, hW.2.later h3⟩, _, rfl, a2, q2, rfl, h1, fun _ ad hd => ⟨⟨by have := h2 ad hd; omega, (fun e => by have := (rows_lt hW.1.nums _ e).2; have := h2 ad hd; omega), (fun e => by have := (rows_lt hW.1.nodes _ e).2; have := h2 ad hd; omega)⟩, (fun e => by have := (rows_lt hW.1.keys _ e).2; have := h2 ad hd; omega)⟩⟩
                have HD : Hid (KidI w W1 V.heap.size (.slice la k lc) (.slice (some ⟨g, 0, none⟩) qn c) (.slice ua um uc) q0 ks js (.slice na mq nc) (.slice ka kn kc) (.slice ia im ic) (wr.alloc (.cells #[(.slice pa pn pc), (.slice qa qm qc)] 53)).drew ∧ Two (wr.alloc (.cells #[(.slice pa pn pc), (.slice qa qm qc)] 53)).drew wr.heap.size (.slice pa pn pc) (.slice qa qm qc)) := ⟨HKa.out.1.later (Below.refl _ _).drew, HKa.out.2.later (Below.refl _ _).drew⟩
                obtain ⟨⟨-, -, ⟨-, g3, -, -, -, -⟩, -, -, -, -, -, -, -, -, -, -⟩, ⟨s0, s1, -, -⟩⟩ := id HD.out
                go_wp2
                generalize hV2 : (wr.alloc (.cells #[(.slice pa pn pc), (.slice qa qm qc)] 53)).drew = V2 at HD g3 s0 s1
                refine region_plain (fun V' => V'.cell? ⟨wr.heap.size, 0, none⟩ = some (.slice pa pn pc) ∧ V'.cell? ⟨wr.heap.size, 1, none⟩ = some (.slice qa qm qc) ∧ V'.cell? ⟨V.heap.size, 1, none⟩ = some (.slice ka kn kc)) 8 (by kernel_rfl) ?_
                rw [hV2]
                have hS := And.intro s0 (And.intro s1 g3)
                refine V_takeX [8, 6, 1] (k := 0) (v := .pointer (some ⟨V.heap.size, 1, none⟩)) rfl (by kernel_rfl) (by kernel_rfl) (by kernel_rfl) (by kernel_rfl) (by kernel_rfl) (by kernel_rfl) (fun _ _ _ h => h) (Or.inl ⟨by rfl, fun V' hV => ?_⟩) hS ?_
                · obtain ⟨z0, z1, z2⟩ := hV; go_simp
                simp only [Act.put, List.setIfInBounds_toArray]
                refine V_takeX [8, 6] (k := 1) (v := .slice ka kn kc) rfl (by kernel_rfl) (by kernel_rfl) (by kernel_rfl) (by kernel_rfl) (by kernel_rfl) (by kernel_rfl) (fun _ _ _ h => h) (Or.inl ⟨by rfl, fun V' hV => ?_⟩) hS ?_
                · obtain ⟨z0, z1, z2⟩ := hV; go_simp
                simp only [Act.put]
                refine V_takeX [8, 6, 5, 4, 3] (k := 2) (v := .agg #[(.slice pa pn pc), (.slice qa qm qc)]) rfl (by kernel_rfl) (by kernel_rfl) (by kernel_rfl) (by kernel_rfl) (by kernel_rfl) (by kernel_rfl) (fun _ _ _ h => h) (Or.inl ⟨by rfl, fun V' hV => ?_⟩) hS ?_
                · obtain ⟨z0, z1, z2⟩ := hV; go_simp
                simp only [Act.put]
                refine U_one (i := 3) (by kernel_rfl) rfl rfl rfl (fun K hK => ?_)
                go_simp
                refine (cL.out _ HD.out).mono ?_
                rintro e w3 ⟨a1, m1, q1, rfl, H3⟩
                obtain ⟨⟨-, -, ⟨-, g4, -, -, -, -⟩, -, -, -, -, -, -, -, -, -, -⟩, ⟨s2, s3, -, -⟩⟩ := id H3.out.1
                refine hK _ _ (fun _ => ⟨s2, s3, g4⟩) ?_
                clear hK K
                refine U_one (i := 4) (by kernel_rfl) rfl rfl rfl (fun K hK => ?_)
                go_simp
                refine (cC.out _ _ _ _ H3.out).mono ?_
                rintro e w4 ⟨a2, m2, q2, rfl, H4⟩
                obtain ⟨⟨-, -, ⟨-, g5, -, -, -, -⟩, -, -, -, -, -, -, -, -, -, -⟩, ⟨s4, s5, s6, s7⟩⟩ := id H4.out.1
                refine hK _ _ (fun _ => ⟨s4, s5, g5⟩) ?_
                clear hK K
                refine U_one (i := 5) (by kernel_rfl) rfl rfl rfl (fun K hK => ?_)
                go_simp
                refine hK _ _ (fun _ => by simp [World.cell?_alloc_some, s4, s5, g5]) ?_
                clear hK K
                refine U_one (i := 6) (by kernel_rfl) rfl rfl rfl (fun K hK => ?_)
                refine wp_of_list rfl (by rintro ⟨_, _, hh⟩; exact HO.out _ hh) (wpList_append_one eltK rfl (.tmp 51) (.tmp 55) rfl W1.heap.size (.slice ka kn kc) ks rfl H4.out.1.1.keys (leastK z.h z.t) [.slice a2 m2 q2] _ _ rfl rfl H4.out.2 (fun b hb => ⟨by have := H4.out.1.1.kept.1; omega, (fun e => by have := (rows_lt H4.out.1.1.nums _ e).2; omega), (fun e => by have := (rows_lt H4.out.1.1.nodes _ e).2; omega)⟩) (by omega) (by decide) H4.out.1.1.kept.1 (fun v' w5 r1 r2 r3 => ?_))
                obtain ⟨⟨f0, f3, _, _, ff, _⟩, hJ⟩ := H4.out.1.1.key r1 r2 r3
                obtain ⟨va1, vc1, hv'⟩ := rows_form r1
                have e5 : w5.heap[wr.heap.size]? = w4.heap[wr.heap.size]? := r2.block _ (World.block_lt_of_cell? _ _ s4) (fun e => hown.out.2.1 e.symm)
                have e6 : (w5.setCell ⟨V.heap.size, 1, none⟩ v').heap[wr.heap.size]? = w4.heap[wr.heap.size]? := (heap_setCell_other _ _ _ _ (Ne.symm hNe)).trans e5
                have t01 : Two w5 wr.heap.size (.slice pa pn pc) (.slice qa qm qc) := ⟨(World.cell?_of_block (w := w4) e5).trans s4, (World.cell?_of_block (w := w4) e5).trans s5, (World.frozen?_of_block (w := w4) e5).trans s6, (World.frozen?_of_block (w := w4) e5).trans s7⟩
                have t02 : Two (w5.setCell ⟨V.heap.size, 1, none⟩ v') wr.heap.size (.slice pa pn pc) (.slice qa qm qc) := ⟨(World.cell?_of_block (w := w4) e6).trans s4, (World.cell?_of_block (w := w4) e6).trans s5, (World.frozen?_of_block (w := w4) e6).trans s6, (World.frozen?_of_block (w := w4) e6).trans s7⟩
                generalize (ks ++ [leastK z.h z.t]).length = vn1 at hv'
                subst hv'
                have HB := put_by (And.intro hJ t02)
                clear hJ r1 r2 r3 t02 e5 e6
                refine hK _ _ (fun _ => ⟨t01.c0, t01.c1, f3⟩) ?_
                clear hK K
                refine U_one (i := 7) (by kernel_rfl) rfl rfl rfl (fun K hK => ?_)
                go_simp
                refine hK _ _ (fun _ => ⟨t01.c0, t01.c1, f3⟩) ?_
                clear hK K
                refine U_one (i := 8) (by kernel_rfl) rfl rfl rfl (fun K hK => ?_)
                go_simp
                refine hK _ _ (fun hh => by cases (show true = false from hh)) ?_
                clear hK K
                refine U_done (by kernel_rfl) ?_ _
                clear s0 s1 g3 s2 s3 g4 s4 s5 s6 s7 g5 f0 f3 ff t01 H3 H4 HD hS cL cC HKa
                generalize w5.setCell _ _ = Wb at HB ⊢
                obtain ⟨⟨-, -, ⟨y0, y1, y2, y3, y4, y5⟩, -, -, -, -, -, -, -, -, -, -⟩, ⟨s0, s1, s2, s3⟩⟩ := id HB.out
                go_wp2_with (first
                  | (at_builtin; refine wpList_append_one (K := kInt) (ok := fun b => W1.heap.size ≤ b) eltI rfl (.tmp 59) (.tmp 62) rfl W1.heap.size (.slice ia im ic) js rfl HB.out.1.nums (mq : Int) [.int .i64 mq] _ _ rfl rfl rfl (fun b hb => by have := HB.out.1.kept.1; show W1.heap.size ≤ b; omega) (by omega) (by decide) HB.out.1.kept.1 ?_; intro v' w5 r1 r2 r3; refine hidGoal ?_))
                obtain ⟨⟨y6, y7, y8, y9, y10, y11⟩, hJ⟩ := HB.out.1.num r1 r2 r3
                have e5 : w5.heap[wr.heap.size]? = (Wb).heap[wr.heap.size]? := r2.block _ (World.block_lt_of_cell? _ _ s0) (fun e => hown.out.2.2 e.symm)
                have e6 : (w5.setCell ⟨V.heap.size, 2, none⟩ v').heap[wr.heap.size]? = (Wb).heap[wr.heap.size]? := (heap_setCell_other _ _ _ _ (Ne.symm hNe)).trans e5
                have t4 : Two (w5.setCell ⟨V.heap.size, 2, none⟩ v') wr.heap.size (.slice pa pn pc) (.slice qa qm qc) := ⟨(World.cell?_of_block (w := Wb) e6).trans s0, (World.cell?_of_block (w := Wb) e6).trans s1, (World.frozen?_of_block (w := Wb) e6).trans s2, (World.frozen?_of_block (w := Wb) e6).trans s3⟩
                obtain ⟨va, vc, hv'⟩ := rows_form r1
                generalize (js ++ [(mq : Int)]).length = vn at hv'
                subst hv'
                have HC := put_by hJ
                have t40 := t4.c0
                have t41 := t4.c1
                clear hJ e5 e6 t4 r1 r2 r3 HB s0 s1 s2 s3 y0 y1 y2 y3 y4 y5
                unfold Hid
                go_upto_region 18 with (fail)
                generalize w5.setCell _ _ = Wc at HC t40 t41 ⊢
                clear y6 y7 y8 y9 y10 y11
                go_wp2_with (first
                  | (at_builtin; refine wpList_append_one (K := kAny) (ok := NOk V.heap.size (.slice la k lc) (.slice va1 vn1 vc1) (.slice va vn vc)) eltN rfl (.tmp 65) (.tmp 67) rfl w.heap.size (.slice na mq nc) q0 rfl HC.out.nodes z [(.slice pa pn pc), (.slice qa qm qc)] _ _ rfl rfl (hz5.out _ _ _ _ _ _ _ HC.out) HC.out.fresh (by rw [hmq]; omega) (by decide) HC.out.below.size ?_; intro v2 w6 r1 r2 r3; refine hidGoal ?_))
                have hJ := HC.out.node r1 r2 r3
                obtain ⟨na2, nc2, hv2⟩ := rows_form r1
                have hlen : (q0 ++ [z]).length = mq + 1 := by rw [List.length_append, hmq]; rfl
                rw [hlen] at hv2
                subst hv2
                have HJ : Hid (mq + 1 = qn + (j + 1) ∧ KidI w W1 V.heap.size (.slice la k lc) (.slice (some ⟨g, 0, none⟩) qn c) (.slice ua um uc) (qK x k ++ (kidsOf y).take (j + 1)) ((((kidsOf y).take (j + 1)).drop 1).map (fun y => leastK y.h y.t)) ((List.range (j + 1)).map (fun i => ((qn + i : Nat) : Int))) (.slice na2 (mq + 1) nc2) (.slice va1 vn1 vc1) (.slice va vn vc) w6) := by
                  rw [HNEW.out.1, HNEW.out.2.2.1 (by omega), HNEW.out.2.2.2]
                  exact ⟨by have := HQ.out; omega, hJ⟩
                clear hJ hlen r1 r2 r3 HC
                unfold Hid
                go_wp2
                go_roundw
                case rel => exact ⟨j + 1, mq + 1, na2, nc2, va1, vn1, vc1, va, vn, vc, by omega, by go_num, rfl, HJ.out⟩
                case measure => simp [intOf]; omega
            · obtain rfl : j = n2 := by omega
              have HK2 : Hid (mq = (qK x (k + 1)).length ∧ k + 1 ≤ mq ∧ KidI w W1 V.heap.size (.slice la k lc) (.slice (some ⟨g, 0, none⟩) qn c) (.slice ua um uc) (qK x (k + 1)) (toldN y qn).keys (toldN y qn).kids (.slice na mq nc) (.slice ka kn kc) (.slice ia im ic) wr) := by
                have h := HK.out
                rw [List.take_of_length_le (by rw [← HN.out.2]; exact Nat.le_refl _), ← HYE.out.1] at h
                refine ⟨?_, by omega, ?_⟩
                · rw [h.1, HYE.out.1, List.length_append, ← hQN.out, ← HN.out.2]
                · have h2 := h.2
                  rw [HN.out.2] at h2
                  exact h2
              have HA := put_by (list_ahead (tn := toldN y qn) HI.out.2 HE1.out HK2.out.2.2)
              obtain ⟨-, -, -, ⟨y0, y1, y2, y3, y4, y5⟩, -⟩ := id HA.out
              clear HK
              go_wp2_with (first
                | (at_builtin; refine wpList_append_one (K := kTn) (ok := fun b => w.heap.size ≤ b ∧ (Value.slice na mq nc).ownBlock ≠ some b) eltT rfl (.tmp 70) (.tmp 72) rfl w.heap.size (.slice la k lc) (toldK x k) rfl HA.out.1 (toldN y qn) [.slice ua um uc, .slice ka kn kc, .slice ia im ic] _ _ rfl rfl HA.out.2.1 HA.out.2.2.1 (by rw [toldK_length]; omega) (by decide) HA.out.2.2.2.2 ?_; intro v2 w6 r1 r2 r3; refine hidGoal ?_))
              rw [← HYE.out.2.1] at r1
              have hJ := list_behind (tn := toldN y qn) HI.out.2 HK2.out.2.2 r1 r2 r3
              obtain ⟨la2, lc2, hv2⟩ := rows_form r1
              rw [toldK_length] at hv2
              subst hv2
              have HJ := put_by hJ
              have hkm : k + 1 ≤ mq := HK2.out.2.1
              have HMQ := put_by HK2.out.1
              clear hJ r1 r2 r3 HA HK2 y0 y1 y2 y3 y4 y5
              unfold Hid
              go_wp2
              go_roundw
              case rel => exact ⟨k + 1, mq, na, nc, la2, lc2, hkm, by go_num, rfl, rfl, HMQ.out, HJ.out⟩
              case measure => simp [intOf]; omega
    · have hkn : k = qn := by omega
      subst hkn
      have H9 : Hid (k = cntN x ∧ Lies kTn (fun b => w.heap.size ≤ b) V la lc (toldK x (cntN x)) ∧ Below w.heap.size w V) := by
        obtain ⟨q1, q2⟩ := HI.out
        have hc := qK_count x k (by omega)
        rw [List.drop_of_length_le (by omega)] at hc
        simp only [List.map_nil, List.sum_nil, Nat.add_zero] at hc
        have hkc : k = cntN x := by omega
        obtain ⟨a', c', e', h', -⟩ := q2.told.lies (fun b e => ⟨(rows_lt q2.told b e).1, fun e2 => q2.apart b e2 e⟩)
        rw [toldK_length] at e'
        simp only [Value.slice.injEq] at e'
        obtain ⟨rfl, -, rfl⟩ := e'
        refine ⟨hkc, ?_, q2.below⟩
        rw [← hkc]
        exact h'.move (Kept.of_below (Below.refl _ _)) (fun _ _ h => h.1)
      clear HI
      have h9 : ¬ (k : Int) < (k : Int) := by omega
      go_wp2
      rw [← HR.out]
      exact ⟨la, k, lc, rfl, H9.out⟩

end Go.Proofs.Ytcegkgobkpakiaa
