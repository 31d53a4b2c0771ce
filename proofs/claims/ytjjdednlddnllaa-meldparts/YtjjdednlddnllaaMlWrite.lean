/- The writes of an intent become cells: write. -/
import Derived.Test.YtjjdednlddnllaaMlJudge
import Derived.Test.YtjjdednlddnllaaAnyU
namespace Go.Proofs.Ytjjdednlddnllaa
open Go.ChangeShapes Go.WideShapes Go.ChangeAt Go.RowKit

/-- a write of a row -/
theorem wtm_at {ok : Nat → Prop} {w : World} {ao : Option Addr} {cap : Nat} {l : List Wt} (hL : Lies kWt ok w ao cap l) {k : Nat} (hk : k < l.length) :
    ∃ bb off a1 c1 a2 c2, ao = some ⟨bb, off, none⟩ ∧ IsBody w ok (.slice a1 (l[k]).key.length c1) (l[k]).key ∧ IsBody w ok (.slice a2 (l[k]).val.length c2) (l[k]).val ∧ ∀ W : World, Below w.heap.size w W → W.cell? ⟨bb, off + k * 3, none⟩ = some (.slice a1 (l[k]).key.length c1) ∧ W.cell? ⟨bb, off + k * 3 + 1, none⟩ = some (.slice a2 (l[k]).val.length c2) ∧ W.cell? ⟨bb, off + k * 3 + 2, none⟩ = some (.bool (l[k]).gone) := by
  obtain ⟨bb, off, e, hb, _, cs, ⟨u, v, rfl, h1, h2⟩, hc⟩ := hL.at hk
  obtain ⟨a1, c1, rfl, _⟩ := id h1
  obtain ⟨a2, c2, rfl, _⟩ := id h2
  exact ⟨bb, off, a1, c1, a2, c2, e, h1, h2, fun W hW => ⟨(hW.cell (p := ⟨bb, off + k * 3, none⟩) hb).trans (by simpa using hc 0 _ rfl), (hW.cell (p := ⟨bb, off + k * 3 + 1, none⟩) hb).trans (hc 1 _ rfl), (hW.cell (p := ⟨bb, off + k * 3 + 2, none⟩) hb).trans (hc 2 _ rfl)⟩⟩

/-- a round's own variable, the row so far, and all that was there -/
structure WrI (w wr : World) (ok : Nat → Prop) (v : Value) (m : List Cel) (vs : List Value) (W : World) : Prop where
  var : Cls W wr.heap.size vs
  rows : Rows kCel ok W w.heap.size 55 v m
  below : Below w.heap.size w W
  size : wr.heap.size < W.heap.size
  old : w.heap.size ≤ wr.heap.size
  own : v.ownBlock ≠ some wr.heap.size

theorem WrI.later {w wr W W' : World} {ok : Nat → Prop} {v : Value} {m : List Cel} {vs : List Value} (h : WrI w wr ok v m vs W) (hb : Below W.heap.size W W') : WrI w wr ok v m vs W' :=
  ⟨h.var.later hb, h.rows.later hb, h.below.trans (hb.mono h.below.size), Nat.lt_of_lt_of_le h.size hb.size, h.old, h.own⟩

theorem WrI.more {w wr W W' : World} {ok : Nat → Prop} {v v' : Value} {m m' : List Cel} {vs : List Value} (h : WrI w wr ok v m vs W) (r1 : Rows kCel ok W' w.heap.size 55 v' m') (r2 : W.grownBy W' v.ownBlock) (r3 : v'.ownBlock = v.ownBlock ∨ ∃ g, W.heap.size ≤ g ∧ v'.ownBlock = some g) : WrI w wr ok v' m' vs W' := by
  refine ⟨h.var.block (fun hb => r2.block _ hb (fun e => h.own e.symm)), r1, below_grown h.below h.below.size r2 (fun r hr => (rows_lt h.rows r hr).1), Nat.lt_of_lt_of_le h.size r2.size, h.old, fun e => ?_⟩
  rcases r3 with q | ⟨g, hg, q⟩
  · exact h.own (q ▸ e)
  · rw [q] at e
    have := Option.some.inj e
    have := h.size
    omega

/-- what the writing comes to -/
def WrPost (P : Nat) (p : Int) (ok : Nat → Prop) (v2 : Value) (cs : List Cel) (w : World) (e : Ending) (w' : World) : Prop := e = .returned (.tuple #[]) ∧ ∃ (ca : Option Addr) (cn cc : Nat), cn = cs.length ∧ Cls w' P [.int .i64 p, .slice ca cn cc, v2] ∧ Lies kCel ok w' ca cc cs ∧ Ples ca cc ∧ w.grownBy w' (some P)

set_option maxRecDepth 100000 in
set_option maxHeartbeats 2000000 in
theorem write_any (ok okw : Nat → Prop) (P : Nat) (p : Int) (v2 : Value) (cs : List Cel) (ca : Option Addr) (cc : Nat) (ws : List Wt) (wa : Option Addr) (wc : Nat) (w : World) (hPl : P < w.heap.size) (hV : Cls w P [.int .i64 p, .slice ca cs.length cc, v2]) (hL : Lies kCel ok w ca cc cs) (hp : Ples ca cc) (ha : AscC cs) (hW : Lies kWt okw w wa wc ws) (hws : AscW ws) (hokw : ∀ b, b < w.heap.size → okw b → ok b) (hfr : ∀ b, w.heap.size ≤ b → ok b) (hnP : ¬ ok P) (few : (cs.length + ws.length) * 64 ≤ 140737488351232) :
    Calls Try.prog 54 #[.pointer (some ⟨P, 0, none⟩), .slice wa ws.length wc] w fun e w' => WrPost P p ok v2 (putsK p cs ws) w e w' := by
  generalize hpost : (fun e w' => WrPost P p ok v2 (putsK p cs ws) w e w') = Q
  have HO : Hid (∀ w', ¬ Q .outgrown w') := fun w' hh => by
    rw [← hpost] at hh
    cases hh.1
  have HP : Hid (∀ e w', WrPost P p ok v2 (putsK p cs ws) w e w' → Q e w') := fun e w' h => by rw [← hpost]; exact h
  clear hpost
  obtain ⟨n, hn⟩ : ∃ n, n = cs.length := ⟨_, rfl⟩
  obtain ⟨nw, hnw⟩ : ∃ n, n = ws.length := ⟨_, rfl⟩
  rw [← hn] at hV few
  rw [← hnw] at few ⊢
  have HN := put_by (And.intro hn hnw)
  have HV := put_by hV
  have HFEW := put_by few
  have hn9 : n + nw ≤ 2199023255488 := by omega
  have HFR := put_by hfr
  have HNP := put_by hnP
  have HOKW := put_by hokw
  have HWL := put_by hW
  have HWS := put_by hws
  obtain ⟨x1, -⟩ := hV 1 _ rfl
  have hL2 : Lies kCel (fun b => ok b ∧ b < w.heap.size) w ca cc cs := hL.move (Kept.of_below (Below.refl _ _)) (fun b hb ho => ⟨ho, hb⟩)
  have HM0 : Hid (Merge p cs ws 0 [] cs ∧ n = cs.length ∧ Lies kCel (fun b => ok b ∧ b < w.heap.size) w ca cc cs ∧ Ples ca cc) := ⟨Merge.zero ha, hn, hL2, hp⟩
  clear hV hL hL2 hp ha hW hws hokw hfr hnP few hn hnw
  obtain ⟨i0, z, hi, hz0, hz1, hz2, hz3⟩ := eltC.info
  go_enter Try.func54, Try.ntmps54
  go_upto_region 3 with (first
    | (at_make; refine wpList_make_own _ rfl _ _ 22 rfl w.heap.size 55 i0 z 4 eltC.und hi hz0 hz1 .i64 .i64 _ (n + nw) rfl rfl (by omega) (by rw [hz2]; omega) (by unfold maxLen; omega) (Nat.le_refl _) ?_; intro wm hown hgm))
  have HB0 : Hid (Rows kCel ok wm w.heap.size 55 (.slice (some ⟨w.heap.size, 0, none⟩) 0 (n + nw)) [] ∧ Below w.heap.size w wm) := ⟨⟨[], hown, trivial⟩, ⟨hgm.os, hgm.tape, hgm.output, hgm.size, fun b hb => hgm.block b hb (fun e => by cases e)⟩⟩
  clear hown hgm hi hz0 hz1 hz2 hz3 x1
  go_loopw [4, 5, 23] (fun s t i wr => ∃ (k : Nat) (m r : List Cel) (ra : Option Addr) (rn rc : Nat) (a : Option Addr) (mm c : Nat), k ≤ nw ∧ i = .int .i64 k ∧ s = .slice ra rn rc ∧ t = .slice a mm c ∧ Hid (Merge p cs ws k m r ∧ rn = r.length ∧ Lies kCel (fun b => ok b ∧ b < w.heap.size) w ra rc r ∧ Ples ra rc ∧ Rows kCel ok wr w.heap.size 55 (.slice a mm c) m ∧ Below w.heap.size w wr)) (fun _ _ i _ => nw - (intOf i).toNat)
  case atStart => exact ⟨0, [], cs, ca, n, cc, some ⟨w.heap.size, 0, none⟩, 0, n + nw, Nat.zero_le _, rfl, rfl, rfl, HM0.out.1, HM0.out.2.1, HM0.out.2.2.1, HM0.out.2.2.2, HB0.out.1, HB0.out.2⟩
  case round =>
    clear HB0 HM0
    obtain ⟨k, m, r, ra, rn, rc, a, mm, c, hk, rfl, rfl, rfl, HI⟩ := hrel
    rename World => wr
    by_cases hlt : k < nw
    · have hx : k < ws.length := by rw [← HN.out.2]; exact hlt
      obtain ⟨bb, off, a1, c1, a2, c2, rfl, hk1, hk2, hc⟩ := wtm_at HWL.out hx
      obtain ⟨d0, d1, d2⟩ := hc wr HI.out.2.2.2.2.2
      have ik : (k : Int) < (nw : Int) := by omega
      have HST : Hid (∀ l r', r = l ++ r' → (∀ y ∈ l, ahead y.key (ws[k]).key = true) → (∀ y ∈ r', ahead y.key (ws[k]).key = false) → Merge p cs ws (k + 1) (m ++ l ++ [cellOf p ws[k]]) (pastC r' (ws[k]).key)) := fun l r' e h1 h2 => Merge.step (by rw [← e]; exact HI.out.1) HWS.out hx h1 h2
      have HBY : Hid (IsBody w okw (.slice a1 (ws[k]).key.length c1) (ws[k]).key ∧ IsBody w okw (.slice a2 (ws[k]).val.length c2) (ws[k]).val) := ⟨hk1, hk2⟩
      obtain ⟨x, hxx⟩ : ∃ x, x = ws[k] := ⟨_, rfl⟩
      rw [← hxx] at d0 d1 d2 HST HBY
      obtain ⟨kk, vv, g⟩ := x
      simp only at d0 d1 d2 HST HBY
      clear hc hk1 hk2 hxx
      obtain ⟨i1, hi1⟩ : ∃ i, i = kk.length := ⟨_, rfl⟩
      obtain ⟨i2, hi2⟩ : ∃ i, i = vv.length := ⟨_, rfl⟩
      rw [← hi1] at d0 HBY
      rw [← hi2] at d1 HBY
      have HI1 := put_by hi1
      clear hi1 hi2
      have HFW : Hid (m.length + r.length ≤ n + k) := by have h1 := HI.out.1.few; rw [← HN.out.1] at h1; exact h1
      have H0 : Hid (WrI w wr ok (.slice a mm c) m [.slice a1 i1 c1, .slice a2 i2 c2, .bool g] (wr.alloc (.cells #[.slice a1 i1 c1, .slice a2 i2 c2, .bool g] 100))) := ⟨Cls.new wr [.slice a1 i1 c1, .slice a2 i2 c2, .bool g] 100, HI.out.2.2.2.2.1.later ((Below.refl _ wr).alloc (Nat.le_refl _) _), HI.out.2.2.2.2.2.trans (((Below.refl _ wr).alloc (Nat.le_refl _) _).mono HI.out.2.2.2.2.2.size), by simp, HI.out.2.2.2.2.2.size, fun e => by have := (rows_lt HI.out.2.2.2.2.1 _ e).2; omega⟩
      have cF : Hid (∀ W, WrI w wr ok (.slice a mm c) m [.slice a1 i1 c1, .slice a2 i2 c2, .bool g] W → Calls Try.prog 78 #[.slice ra rn rc, .slice a1 i1 c1] W fun e w' => ∃ (q : Nat) (t : Bool), e = .returned (.tuple #[.int .i64 q, .bool t]) ∧ Hid ((∃ l r', r = l ++ r' ∧ l.length = q ∧ headC r' kk = t ∧ (∀ y ∈ l, ahead y.key kk = true) ∧ (∀ y ∈ r', ahead y.key kk = false)) ∧ WrI w wr ok (.slice a mm c) m [.slice a1 i1 c1, .slice a2 i2 c2, .bool g] w')) := fun W hW => by
        obtain ⟨xa, xc, e1, hxo, -⟩ := HBY.out.1
        have h9 := HI.out
        have h0 := findCell_any _ r (by have := HFW.out; omega) h9.1.asc ra rc a1 c1 kk W (h9.2.2.1.later hW.below) (by cases e1; exact hxo.later hW.below)
        rw [← h9.2.1, ← HI1.out] at h0
        refine h0.mono ?_
        rintro e w' ⟨q, t, rfl, H⟩
        exact ⟨q, t, rfl, H.out.1, hW.later H.out.2⟩
      have HRL : Hid (rn = r.length ∧ Lies kCel (fun b => ok b ∧ b < w.heap.size) w ra rc r ∧ Ples ra rc) := ⟨HI.out.2.1, HI.out.2.2.1, HI.out.2.2.2.1⟩
      have hrc : rn ≤ rc := by have := HRL.out.2.1.1; have := HRL.out.1; omega
      have hrn9 : rn ≤ 2199023255488 := by have := HRL.out.1; have := HFW.out; omega
      clear HI
      go_upto_region 5 with (fail)
      generalize wr.alloc (.cells #[.slice a1 i1 c1, .slice a2 i2 c2, .bool g] 100) = W0 at H0 ⊢
      obtain ⟨v0, -⟩ := H0.out.var 0 _ rfl
      go_upto_region 6 with (first
        | (go_at_call 78; (with_reducible refine (cF.out _ H0.out).mono ?_); clear cF; rintro e w5 ⟨q, t, rfl, H5⟩))
      clear H0 v0
      obtain ⟨l, r', hr, hlq, hht, hl1, hr1⟩ := H5.out.1
      have H5W := put_by H5.out.2
      have HQ : Hid (l.length = q ∧ rn = q + r'.length) := ⟨hlq, by rw [HRL.out.1, hr, List.length_append, hlq]⟩
      have hq1 : q ≤ rn := by have := HQ.out.2; omega
      have HML : Hid (Lies kCel (fun b => ok b ∧ b < w.heap.size) w ra rc l) := by
        have h := HRL.out.2.1.take q
        rw [hr, ← hlq, List.take_append_of_le_length (Nat.le_refl _), List.take_length] at h
        exact h
      have HST2 := put_by (HST.out l r' hr hl1 hr1)
      have HHT := put_by hht
      have HDR : Hid (∀ d, d ≤ rn → ∀ b' off', ra = some ⟨b', off', none⟩ → Lies kCel (fun b => ok b ∧ b < w.heap.size) w (some ⟨b', off' + d * 4, none⟩) (rc - d) (r.drop d)) := fun d _ b' off' e => by
        have h := HRL.out.2.1
        rw [e] at h
        exact h.drop d
      have HLM : Hid (m.length + q + r'.length ≤ n + k) := by have h1 := HFW.out; have h2 := HQ.out.2; have h3 := HRL.out.1; show _ ≤ _; omega
      have HKL : Hid ((m.length + q + 1) * 64 ≤ 140737488355328) := by have h1 := HLM.out; have h4 := HFEW.out; show _ ≤ _; omega
      have HDW : Hid (∃ r9, r = l ++ r9 ∧ r9 = r') := ⟨r', hr, rfl⟩
      clear hr hlq hht hl1 hr1 HST H5 HFW
      go_upto_region 7 with (first
        | (at_builtin; refine wpList_append_rowsB (K := kCel) (ok := ok) (ok2 := fun b => ok b ∧ b < w.heap.size) eltC rfl (.tmp 34) (.tmp 37) rfl w.heap.size (.slice a mm c) m rfl H5W.out.rows ra rc q l rfl HQ.out.1.symm (HML.out.later H5W.out.below) (fun _ _ h _ => h.1) (fun b _ h e => by have := (rows_lt H5W.out.rows b e).1; have := h.2; omega) (by have := HKL.out; omega) (by decide) H5W.out.below.size ?_; intro v6 w6 r1 r2 r3))
      obtain ⟨a6, c6, e6⟩ := rows_form r1
      subst e6
      have H6 : Hid (WrI w wr ok (.slice a6 (m ++ l).length c6) (m ++ l) [.slice a1 i1 c1, .slice a2 i2 c2, .bool g] w6) := H5W.out.more r1 r2 (r3.imp id (fun h => ⟨_, Nat.le_refl _, h⟩))
      have HM6 : Hid ((m ++ l).length = m.length + q) := by rw [List.length_append, HQ.out.1]; exact rfl
      clear r1 r2 r3 H5W
      generalize (m ++ l).length = m6 at H6 HM6
      have HD := put_by (H6.out.later (Below.refl _ _).drew)
      have HV0 : Hid (∀ W, Below w.heap.size w W → W.cell? ⟨P, 0, none⟩ = some (.int .i64 p)) := fun W hW => (hW.cell (p := ⟨P, 0, none⟩) hPl).trans (HV.out 0 _ rfl).1
      have hS : (fun V => V.cell? ⟨wr.heap.size, 0, none⟩ = some (.slice a1 i1 c1) ∧ V.cell? ⟨wr.heap.size, 1, none⟩ = some (.slice a2 i2 c2) ∧ V.cell? ⟨wr.heap.size, 2, none⟩ = some (.bool g) ∧ V.cell? ⟨P, 0, none⟩ = some (.int .i64 p)) w6.drew := ⟨(HD.out.var 0 _ rfl).1, (HD.out.var 1 _ rfl).1, (HD.out.var 2 _ rfl).1, HV0.out _ HD.out.below⟩
      have HREL : Hid (kCel.rel (fun b => ok b ∧ (Value.slice a6 m6 c6).ownBlock ≠ some b) w6.drew (cellOf p ⟨kk, vv, g⟩) [.slice a1 i1 c1, .slice a2 i2 c2, .bool g, .int .i64 p]) := by
        have hne : ∀ b, b < w.heap.size → (Value.slice a6 m6 c6).ownBlock ≠ some b := fun b hb e => by have := (rows_lt HD.out.rows b e).1; omega
        exact ⟨_, _, rfl, IsBody.move (Kept.of_below HD.out.below) (fun b hb ho => ⟨HOKW.out b hb ho, hne b hb⟩) HBY.out.1, IsBody.move (Kept.of_below HD.out.below) (fun b hb ho => ⟨HOKW.out b hb ho, hne b hb⟩) HBY.out.2⟩
      refine region_plain (fun V => V.cell? ⟨wr.heap.size, 0, none⟩ = some (.slice a1 i1 c1) ∧ V.cell? ⟨wr.heap.size, 1, none⟩ = some (.slice a2 i2 c2) ∧ V.cell? ⟨wr.heap.size, 2, none⟩ = some (.bool g) ∧ V.cell? ⟨P, 0, none⟩ = some (.int .i64 p)) 15 (by kernel_rfl) ?_
      change wpAnyU _ _ _ _ _ 16 #[false, false, false, false, false, false, false, false, false, false, false, false, false, false, false, false] _ w6.drew
      refine V_takeS [15] 39 (k := 0) (v := .slice a6 m6 c6) rfl rfl (by kernel_rfl) (by kernel_rfl) (by kernel_rfl) (by kernel_rfl) (by kernel_rfl) (by kernel_rfl) (fun _ _ _ h => h) (Or.inl ⟨by rfl, fun V hV => ?_⟩) hS ?_
      · obtain ⟨z0, z1, z2, z3⟩ := hV; go_simp
      try simp only [Act.put, List.setIfInBounds_toArray, List.set_cons_zero, List.set_cons_succ]
      refine V_takeS [15] 40 (k := 1) (v := .pointer (some ⟨wr.heap.size, 0, none⟩)) rfl rfl (by kernel_rfl) (by kernel_rfl) (by kernel_rfl) (by kernel_rfl) (by kernel_rfl) (by kernel_rfl) (fun _ _ _ h => h) (Or.inl ⟨by rfl, fun V hV => ?_⟩) hS ?_
      · obtain ⟨z0, z1, z2, z3⟩ := hV; go_simp
      try simp only [Act.put, List.setIfInBounds_toArray, List.set_cons_zero, List.set_cons_succ]
      refine V_takeS [15] 41 (k := 2) (v := .slice a1 i1 c1) rfl rfl (by kernel_rfl) (by kernel_rfl) (by kernel_rfl) (by kernel_rfl) (by kernel_rfl) (by kernel_rfl) (fun _ _ _ h => h) (Or.inl ⟨by rfl, fun V hV => ?_⟩) hS ?_
      · obtain ⟨z0, z1, z2, z3⟩ := hV; go_simp
      try simp only [Act.put, List.setIfInBounds_toArray, List.set_cons_zero, List.set_cons_succ]
      refine V_takeS [15] 42 (k := 3) (v := .pointer (some ⟨wr.heap.size, 1, none⟩)) rfl rfl (by kernel_rfl) (by kernel_rfl) (by kernel_rfl) (by kernel_rfl) (by kernel_rfl) (by kernel_rfl) (fun _ _ _ h => h) (Or.inl ⟨by rfl, fun V hV => ?_⟩) hS ?_
      · obtain ⟨z0, z1, z2, z3⟩ := hV; go_simp
      try simp only [Act.put, List.setIfInBounds_toArray, List.set_cons_zero, List.set_cons_succ]
      refine V_takeS [15] 43 (k := 4) (v := .slice a2 i2 c2) rfl rfl (by kernel_rfl) (by kernel_rfl) (by kernel_rfl) (by kernel_rfl) (by kernel_rfl) (by kernel_rfl) (fun _ _ _ h => h) (Or.inl ⟨by rfl, fun V hV => ?_⟩) hS ?_
      · obtain ⟨z0, z1, z2, z3⟩ := hV; go_simp
      try simp only [Act.put, List.setIfInBounds_toArray, List.set_cons_zero, List.set_cons_succ]
      refine V_takeS [15] 44 (k := 5) (v := .pointer (some ⟨wr.heap.size, 2, none⟩)) rfl rfl (by kernel_rfl) (by kernel_rfl) (by kernel_rfl) (by kernel_rfl) (by kernel_rfl) (by kernel_rfl) (fun _ _ _ h => h) (Or.inl ⟨by rfl, fun V hV => ?_⟩) hS ?_
      · obtain ⟨z0, z1, z2, z3⟩ := hV; go_simp
      try simp only [Act.put, List.setIfInBounds_toArray, List.set_cons_zero, List.set_cons_succ]
      refine V_takeS [15] 45 (k := 6) (v := .bool g) rfl rfl (by kernel_rfl) (by kernel_rfl) (by kernel_rfl) (by kernel_rfl) (by kernel_rfl) (by kernel_rfl) (fun _ _ _ h => h) (Or.inl ⟨by rfl, fun V hV => ?_⟩) hS ?_
      · obtain ⟨z0, z1, z2, z3⟩ := hV; go_simp
      try simp only [Act.put, List.setIfInBounds_toArray, List.set_cons_zero, List.set_cons_succ]
      refine V_takeS [15] 46 (k := 7) (v := .pointer (some ⟨P, 0, none⟩)) rfl rfl (by kernel_rfl) (by kernel_rfl) (by kernel_rfl) (by kernel_rfl) (by kernel_rfl) (by kernel_rfl) (fun _ _ _ h => h) (Or.inl ⟨by rfl, fun V hV => ?_⟩) hS ?_
      · obtain ⟨z0, z1, z2, z3⟩ := hV; go_simp
      try simp only [Act.put, List.setIfInBounds_toArray, List.set_cons_zero, List.set_cons_succ]
      refine V_takeS [15] 47 (k := 8) (v := .pointer (some ⟨P, 0, none⟩)) rfl rfl (by kernel_rfl) (by kernel_rfl) (by kernel_rfl) (by kernel_rfl) (by kernel_rfl) (by kernel_rfl) (fun _ _ _ h => h) (Or.inl ⟨by rfl, fun V hV => ?_⟩) hS ?_
      · obtain ⟨z0, z1, z2, z3⟩ := hV; go_simp
      try simp only [Act.put, List.setIfInBounds_toArray, List.set_cons_zero, List.set_cons_succ]
      refine V_takeS [15] 48 (k := 9) (v := .pointer (some ⟨P, 0, none⟩)) rfl rfl (by kernel_rfl) (by kernel_rfl) (by kernel_rfl) (by kernel_rfl) (by kernel_rfl) (by kernel_rfl) (fun _ _ _ h => h) (Or.inl ⟨by rfl, fun V hV => ?_⟩) hS ?_
      · obtain ⟨z0, z1, z2, z3⟩ := hV; go_simp
      try simp only [Act.put, List.setIfInBounds_toArray, List.set_cons_zero, List.set_cons_succ]
      refine V_takeS [15] 49 (k := 10) (v := .pointer (some ⟨P, 0, none⟩)) rfl rfl (by kernel_rfl) (by kernel_rfl) (by kernel_rfl) (by kernel_rfl) (by kernel_rfl) (by kernel_rfl) (fun _ _ _ h => h) (Or.inl ⟨by rfl, fun V hV => ?_⟩) hS ?_
      · obtain ⟨z0, z1, z2, z3⟩ := hV; go_simp
      try simp only [Act.put, List.setIfInBounds_toArray, List.set_cons_zero, List.set_cons_succ]
      refine V_takeS [15] 50 (k := 11) (v := .int .i64 p) rfl rfl (by kernel_rfl) (by kernel_rfl) (by kernel_rfl) (by kernel_rfl) (by kernel_rfl) (by kernel_rfl) (fun _ _ _ h => h) (Or.inl ⟨by rfl, fun V hV => ?_⟩) hS ?_
      · obtain ⟨z0, z1, z2, z3⟩ := hV; go_simp
      try simp only [Act.put, List.setIfInBounds_toArray, List.set_cons_zero, List.set_cons_succ]
      refine V_takeS [15] 51 (k := 12) (v := .agg #[.slice a1 i1 c1, .slice a2 i2 c2, .bool g, .int .i64 p]) rfl rfl (by kernel_rfl) (by kernel_rfl) (by kernel_rfl) (by kernel_rfl) (by kernel_rfl) (by kernel_rfl) (fun _ _ _ h => h) (Or.inl ⟨by rfl, fun V hV => ?_⟩) hS ?_
      · obtain ⟨z0, z1, z2, z3⟩ := hV; go_simp
      try simp only [Act.put, List.setIfInBounds_toArray, List.set_cons_zero, List.set_cons_succ]
      refine U_one (i := 13) (listed' := #[true, true, true, true, true, true, true, true, true, true, true, true, true, true, false, false]) (by kernel_rfl) rfl (by kernel_rfl) rfl (fun K hK => ?_)
      go_simp
      have HDa := put_by (HD.out.later ((Below.refl _ w6.drew).alloc (Nat.le_refl _) (.cells #[.slice a1 i1 c1, .slice a2 i2 c2, .bool g, .int .i64 p] 55)))
      have hSa : (fun V => V.cell? ⟨wr.heap.size, 0, none⟩ = some (.slice a1 i1 c1) ∧ V.cell? ⟨wr.heap.size, 1, none⟩ = some (.slice a2 i2 c2) ∧ V.cell? ⟨wr.heap.size, 2, none⟩ = some (.bool g) ∧ V.cell? ⟨P, 0, none⟩ = some (.int .i64 p)) (w6.drew.alloc (.cells #[.slice a1 i1 c1, .slice a2 i2 c2, .bool g, .int .i64 p] 55)) := ⟨(HDa.out.var 0 _ rfl).1, (HDa.out.var 1 _ rfl).1, (HDa.out.var 2 _ rfl).1, HV0.out _ HDa.out.below⟩
      refine hK _ _ (fun _ => hSa) ?_
      clear hK K
      try simp only [Act.put, List.setIfInBounds_toArray, List.set_cons_zero, List.set_cons_succ]
      refine U_one (i := 14) (listed' := #[true, true, true, true, true, true, true, true, true, true, true, true, true, true, true, false]) (by kernel_rfl) rfl (by kernel_rfl) rfl (fun K hK => ?_)
      refine wp_of_list rfl (by rintro ⟨_, _, hh⟩; exact HO.out _ hh) (wpList_append_oneB eltC rfl (.tmp 39) (.tmp 52) rfl w.heap.size (.slice a6 m6 c6) (m ++ l) rfl HD.out.rows (cellOf p ⟨kk, vv, g⟩) [.slice a1 i1 c1, .slice a2 i2 c2, .bool g, .int .i64 p] _ _ rfl rfl HREL.out (fun b hb => HFR.out b (Nat.le_trans HD.out.below.size hb)) (by rw [List.length_append, HQ.out.1]; exact HKL.out) (by decide) HD.out.below.size (fun v8 w8 r1 r2 r3 => list_end ?_))
      obtain ⟨a8, c8, e8⟩ := rows_form r1
      obtain ⟨m8, hm8⟩ : ∃ m8, m8 = (m ++ l ++ [cellOf p ⟨kk, vv, g⟩]).length := ⟨_, rfl⟩
      rw [← hm8] at e8
      subst e8
      clear hm8
      have H8 := put_by (HD.out.more r1 r2 (r3.imp id (fun h => ⟨_, Nat.le_succ _, h⟩)))
      have hS8 : (fun V => V.cell? ⟨wr.heap.size, 0, none⟩ = some (.slice a1 i1 c1) ∧ V.cell? ⟨wr.heap.size, 1, none⟩ = some (.slice a2 i2 c2) ∧ V.cell? ⟨wr.heap.size, 2, none⟩ = some (.bool g) ∧ V.cell? ⟨P, 0, none⟩ = some (.int .i64 p)) w8 := ⟨(H8.out.var 0 _ rfl).1, (H8.out.var 1 _ rfl).1, (H8.out.var 2 _ rfl).1, HV0.out _ H8.out.below⟩
      have H9 := put_by (And.intro r1 H8.out)
      refine hK _ _ (fun _ => hS8) ?_
      clear hK K
      try simp only [Act.put, List.setIfInBounds_toArray]
      clear r1 r2 r3 hSa hS HDa H8
      refine U_one (i := 15) (listed' := #[true, true, true, true, true, true, true, true, true, true, true, true, true, true, true, true]) (by kernel_rfl) rfl (by kernel_rfl) rfl (fun K hK => ?_)
      go_simp
      refine hK _ _ (fun hh => by cases (show true = false from hh)) ?_
      clear hK K
      try simp only [Act.put, List.setIfInBounds_toArray, List.set_cons_zero, List.set_cons_succ]
      refine U_done (by kernel_rfl) ?_ _
      clear hS8 HD H6 HREL HBY
      have HE : Hid (∀ (q' : Nat) (ra' : Option Addr) (rn' rc' : Nat), rn' = rn - q' → (∃ r9, r9 = pastC r' kk ∧ r9 = r.drop q') → Lies kCel (fun b => ok b ∧ b < w.heap.size) w ra' rc' (r.drop q') → Ples ra' rc' → ∃ (m r : List Cel), Merge p cs ws (k + 1) m r ∧ rn' = r.length ∧ Lies kCel (fun b => ok b ∧ b < w.heap.size) w ra' rc' r ∧ Ples ra' rc' ∧ Rows kCel ok w8 w.heap.size 55 (.slice a8 m8 c8) m ∧ Below w.heap.size w w8) := fun q' ra' rn' rc' h1 h2 h3 h4 => by
        obtain ⟨r9, e1, e2⟩ := h2
        refine ⟨_, _, HST2.out, ?_, ?_, h4, H9.out.1, H9.out.2.below⟩
        · rw [← e1, e2, List.length_drop, h1, HRL.out.1]
        · rw [← e1, e2]; exact h3
      have HDQ : Hid (r.drop q = r') := by
        obtain ⟨r9, e1, e2⟩ := HDW.out
        rw [e1, e2, ← HQ.out.1]
        simp [Hid]
      cases t with
      | true =>
        have hq2 : q + 1 ≤ rn := by
          have h1 := HHT.out
          have h2 := HQ.out.2
          cases r' with
          | nil => cases h1
          | cons y r9 => simp only [List.length_cons] at h2; omega
        have HP9 : Hid (∃ r9, r9 = pastC r' kk ∧ r9 = r.drop (q + 1)) := ⟨_, rfl, by rw [pastC, HHT.out, if_pos rfl, ← HDQ.out, List.drop_drop]⟩
        clear HDQ HHT HQ
        have HPQ := put_by HRL.out.2.2
        by_cases hcq : rc = q + 1
        · have hrq : rn = q + 1 := by omega
          have H10 : Hid (∃ (m r : List Cel), Merge p cs ws (k + 1) m r ∧ 0 = r.length ∧ Lies kCel (fun b => ok b ∧ b < w.heap.size) w ra 0 r ∧ Ples ra 0 ∧ Rows kCel ok w8 w.heap.size 55 (.slice a8 m8 c8) m ∧ Below w.heap.size w w8) := by
            have hd : r.drop (q + 1) = [] := List.drop_of_length_le (by rw [← HRL.out.1]; omega)
            refine HE.out (q + 1) ra 0 0 (by omega) HP9.out (by rw [hd]; exact Lies.nil _ _ _ (fun _ => rfl)) ?_
            rcases HPQ.out with ⟨h1, h2⟩ | ⟨b', off', h1⟩
            · exact .inl ⟨h1, rfl⟩
            · exact .inr ⟨b', off', h1⟩
          clear HE HPQ HP9 HRL HST2 H9 HDR HLM HKL HDW HML
          subst hcq hrq
          go_wp2
          go_roundw
          case rel =>
            obtain ⟨m', r'', h⟩ := H10.out
            exact ⟨k + 1, m', r'', ra, 0, 0, a8, m8, c8, by omega, by go_num, rfl, rfl, h⟩
          case measure => simp [intOf]; omega
        · obtain ⟨b', off', rfl⟩ : ∃ b' off', ra = some ⟨b', off', none⟩ := by
            rcases HPQ.out with ⟨h1, h2⟩ | h
            · omega
            · exact h
          have H10 : Hid (∃ (m r : List Cel), Merge p cs ws (k + 1) m r ∧ rn - (q + 1) = r.length ∧ Lies kCel (fun b => ok b ∧ b < w.heap.size) w (some ⟨b', off' + (q + 1) * 4, none⟩) (rc - (q + 1)) r ∧ Ples (some ⟨b', off' + (q + 1) * 4, none⟩) (rc - (q + 1)) ∧ Rows kCel ok w8 w.heap.size 55 (.slice a8 m8 c8) m ∧ Below w.heap.size w w8) := HE.out (q + 1) _ _ _ rfl HP9.out (HDR.out _ (by omega) _ _ rfl) (Ples.some _ _ _)
          have hq3 : q + 1 ≤ rc := by omega
          clear HE HPQ HP9 HRL HST2 H9 HDR HLM HKL HDW HML
          go_wp2
          go_roundw
          case rel =>
            obtain ⟨m', r'', h⟩ := H10.out
            exact ⟨k + 1, m', r'', some ⟨b', off' + (q + 1) * 4, none⟩, rn - (q + 1), rc - (q + 1), a8, m8, c8, by omega, by go_num, rfl, rfl, h⟩
          case measure => simp [intOf]; omega
      | false =>
        have HP9 : Hid (∃ r9, r9 = pastC r' kk ∧ r9 = r.drop q) := ⟨_, rfl, by rw [pastC, HHT.out, HDQ.out]; simp⟩
        clear HDQ HHT HQ
        have HPQ := put_by HRL.out.2.2
        by_cases hcq : rc = q
        · have hrq : rn = q := by omega
          have H10 : Hid (∃ (m r : List Cel), Merge p cs ws (k + 1) m r ∧ 0 = r.length ∧ Lies kCel (fun b => ok b ∧ b < w.heap.size) w ra 0 r ∧ Ples ra 0 ∧ Rows kCel ok w8 w.heap.size 55 (.slice a8 m8 c8) m ∧ Below w.heap.size w w8) := by
            have hd : r.drop (q) = [] := List.drop_of_length_le (by rw [← HRL.out.1]; omega)
            refine HE.out (q) ra 0 0 (by omega) HP9.out (by rw [hd]; exact Lies.nil _ _ _ (fun _ => rfl)) ?_
            rcases HPQ.out with ⟨h1, h2⟩ | ⟨b', off', h1⟩
            · exact .inl ⟨h1, rfl⟩
            · exact .inr ⟨b', off', h1⟩
          clear HE HPQ HP9 HRL HST2 H9 HDR HLM HKL HDW HML
          subst hcq hrq
          go_wp2
          go_roundw
          case rel =>
            obtain ⟨m', r'', h⟩ := H10.out
            exact ⟨k + 1, m', r'', ra, 0, 0, a8, m8, c8, by omega, by go_num, rfl, rfl, h⟩
          case measure => simp [intOf]; omega
        · obtain ⟨b', off', rfl⟩ : ∃ b' off', ra = some ⟨b', off', none⟩ := by
            rcases HPQ.out with ⟨h1, h2⟩ | h
            · omega
            · exact h
          have H10 : Hid (∃ (m r : List Cel), Merge p cs ws (k + 1) m r ∧ rn - (q) = r.length ∧ Lies kCel (fun b => ok b ∧ b < w.heap.size) w (some ⟨b', off' + (q) * 4, none⟩) (rc - (q)) r ∧ Ples (some ⟨b', off' + (q) * 4, none⟩) (rc - (q)) ∧ Rows kCel ok w8 w.heap.size 55 (.slice a8 m8 c8) m ∧ Below w.heap.size w w8) := HE.out (q) _ _ _ rfl HP9.out (HDR.out _ (by omega) _ _ rfl) (Ples.some _ _ _)
          have hq3 : q ≤ rc := by omega
          clear HE HPQ HP9 HRL HST2 H9 HDR HLM HKL HDW HML
          go_wp2
          go_roundw
          case rel =>
            obtain ⟨m', r'', h⟩ := H10.out
            exact ⟨k + 1, m', r'', some ⟨b', off' + (q) * 4, none⟩, rn - (q), rc - (q), a8, m8, c8, by omega, by go_num, rfl, rfl, h⟩
          case measure => simp [intOf]; omega
    · have hkn : k = nw := by omega
      subst hkn
      have HALL := put_by (HI.out.1.all (by rw [← HN.out.2]; exact Nat.le_refl _))
      have HI2 := put_by HI.out.2
      have HFW : Hid ((m.length + rn) * 64 ≤ 140737488355328) := by
        have h1 := HI.out.1.few
        have h2 := HI.out.2.1
        have h3 := HFEW.out
        rw [← HN.out.1] at h1
        show _ ≤ _
        omega
      clear HI
      obtain ⟨p0, f0⟩ := HV.out 0 _ rfl
      obtain ⟨p1, f1⟩ := HV.out 1 _ rfl
      go_upto_region 12 with (fail)
      go_wp2_with (first
        | (at_builtin; refine wpList_append_rowsB (K := kCel) (ok := ok) (ok2 := fun b => ok b ∧ b < w.heap.size) eltC rfl (.tmp 62) (.tmp 63) rfl w.heap.size (.slice a mm c) m rfl HI2.out.2.2.2.1 ra rc rn r rfl HI2.out.1 (HI2.out.2.1.later HI2.out.2.2.2.2) (fun _ _ h _ => h.1) (fun b _ h e => by have := (rows_lt HI2.out.2.2.2.1 b e).1; have := h.2; omega) HFW.out (by decide) HI2.out.2.2.2.2.size ?_; intro v6 w6 r1 r2 r3; rw [HALL.out] at r1; obtain ⟨a6, c6, e6⟩ := rows_form r1; subst e6; have H6 := put_by (And.intro r1 (below_grown HI2.out.2.2.2.2 HI2.out.2.2.2.2.size r2 (fun r hr => (rows_lt HI2.out.2.2.2.1 r hr).1))); clear r1 r2 r3; have HV6 := put_by (HV.out.later H6.out.2); obtain ⟨o0, q0⟩ := HV6.out 0 _ rfl; obtain ⟨o1, q1⟩ := HV6.out 1 _ rfl))
      have HEND : WrPost P p ok v2 (putsK p cs ws) w (.returned (.tuple #[])) (w6.setCell ⟨P, 1, none⟩ (.slice a6 (putsK p cs ws).length c6)) := by
        obtain ⟨h1, h2, h3, h4⟩ := rows_lies H6.out.1 HFR.out
        have hg : w6.grownBy (w6.setCell ⟨P, 1, none⟩ (.slice a6 (putsK p cs ws).length c6)) (some P) := grown_set _
        exact ⟨rfl, a6, _, c6, rfl, HV6.out.set (k := 1) _, h2.move (kept_old hg HNP.out) (fun _ _ h => h), h3, grown_trans (grown_below H6.out.2 _) hg⟩
      exact bodyPost_end (v := .tuple #[]) (by simp [results, Try.results54, go_sem]) rfl (HP.out _ _ HEND)

end Go.Proofs.Ytjjdednlddnllaa
