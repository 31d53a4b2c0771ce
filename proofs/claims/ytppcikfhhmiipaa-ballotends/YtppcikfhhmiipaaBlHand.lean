/- A letter is handed: to a voter. -/
import Derived.Test.YtppcikfhhmiipaaBlAsk
namespace Go.Proofs.Ytppcikfhhmiipaa
open Go.ChangeShapes Go.WideShapes Go.ChangeAt Go.RowKit Go.Maps

theorem BlI.own {B V M : Nat} {tg : Nat → Int} {ad : Int → Nat} {f : Value} {b : Bl} {W : World} (h : BlI B V M tg ad f b W) {L i : Nat} {v : Value} (hL : tg L = 0) : BlI B V M tg ad f b (W.setCell ⟨L, i, none⟩ v) :=
  h.move (by simp) (fun x _ hx => heap_setCell_other _ _ _ _ (fun e => hx (by have e' : x = L := e; rw [e', hL])))

theorem BlI.drewN {B V M : Nat} {tg : Nat → Int} {ad : Int → Nat} {f : Value} {b : Bl} {W : World} (h : BlI B V M tg ad f b W) (n : Nat) : BlI B V M tg ad f b (W.drewN n) := h.later (belowR (Below.refl _ _) n)
theorem BlI.drew {B V M : Nat} {tg : Nat → Int} {ad : Int → Nat} {f : Value} {b : Bl} {W : World} (h : BlI B V M tg ad f b W) : BlI B V M tg ad f b W.drew := h.later (Below.refl _ _).drew
theorem Trn.drew {t1 t2 : Nat → Int} {w W : World} (h : Trn t1 t2 w W) : Trn t1 t2 w W.drew := h.trans (Trn.of_below (Below.refl _ _).drew)
theorem Trn.drewN {t1 t2 : Nat → Int} {w W : World} (h : Trn t1 t2 w W) (n : Nat) : Trn t1 t2 w (W.drewN n) := h.trans (Trn.of_below (belowR (Below.refl _ _) n))

theorem setV_setV (b : Bl) (k : Nat) (x y : Vr) : (b.setV k x).setV k y = b.setV k y := by simp [Bl.setV, List.set_set]

/-- a voter's three cells are written -/
theorem BlI.chose {B V M : Nat} {tg : Nat → Int} {ad : Int → Nat} {f : Value} {b : Bl} {W : World} (h : BlI B V M tg ad f b W) {k : Nat} {x : Vr} (hk : b.vs[k]? = some x) (p q r : Int) :
    BlI B V M tg ad f (b.setV k ⟨p, q, r⟩) (((W.setCell ⟨V, k * 3 + 2, none⟩ (.int .i64 r)).setCell ⟨V, k * 3, none⟩ (.int .i64 p)).setCell ⟨V, k * 3 + 1, none⟩ (.int .i64 q)) := by
  have hl := (List.getElem?_eq_some_iff.1 hk).1
  have h1 := h.setV hk 2 (by omega) (.int .i64 r) ⟨x.rd, x.va, r⟩ rfl
  have h2 := h1.setV (k := k) (x := ⟨x.rd, x.va, r⟩) (by simp [Bl.setV, hl]) 0 (by omega) (.int .i64 p) ⟨p, x.va, r⟩ rfl
  have h3 := h2.setV (k := k) (x := ⟨p, x.va, r⟩) (by simp [Bl.setV, hl]) 1 (by omega) (.int .i64 q) ⟨p, q, r⟩ rfl
  rw [setV_setV, setV_setV] at h3
  exact h3

set_option maxRecDepth 20000 in
set_option maxHeartbeats 1000000 in
theorem handAsked_any (B V M : Nat) (tg : Nat → Int) (ad : Int → Nat) (f : Value) (b : Bl) (n : Nat) (hb : b.Ok n) (l : Lt) (hl : 0 ≤ l.vo ∧ l.vo < n) (w : World) (h : BlI B V M tg ad f b w) :
    Calls Try.prog 23 #[.pointer (some ⟨B, 0, none⟩), ltV l] w fun e w' => e = .returned (.tuple #[]) ∧ BlPost B V M tg w (b.handAsked l) w' := by
  obtain ⟨k, hk⟩ : ∃ k : Nat, l.vo = (k : Int) := ⟨l.vo.toNat, by omega⟩
  have hkn : k < b.vs.length := by rw [hb.len]; omega
  obtain ⟨x, hx⟩ : ∃ x, b.vs[k]? = some x := ⟨_, List.getElem?_eq_getElem hkn⟩
  have ha : b.handAsked l = if l.ro ≤ x.word then b else (b.setV k ⟨x.rd, x.va, l.ro⟩).send ⟨x.rd, x.va, 1, l.vo, l.ro, l.lost⟩ := by simp [Bl.handAsked, hk, hx]
  rw [ha]
  unfold ltV
  rw [hk]
  have ik : (k : Int) < (b.vs.length : Int) := by omega
  obtain ⟨c0, -⟩ := h.top 0 _ rfl
  simp only [Nat.zero_add] at c0
  have hv := h.vs k x hx
  obtain ⟨d0, -⟩ := hv 0 _ rfl
  obtain ⟨d1, -⟩ := hv 1 _ rfl
  obtain ⟨d2, g2⟩ := hv 2 _ rfl
  simp only [Nat.add_zero] at d0
  have hVl := hv.lt
  have hBl := h.ltB
  have H := put_by h
  have HT0 := put_by (h.out w.heap.size (Nat.le_refl _))
  have hm := hb.mail
  have hBV : V ≠ w.heap.size := by omega
  by_cases hlt : l.ro ≤ x.word
  · rw [if_pos hlt]
    clear h hb hv ha hk hx hl hm hkn
    generalize b.vs.length = m at *
    generalize x.rd = x1 at *
    generalize x.va = x2 at *
    generalize x.word = x3 at *
    go_enter Try.func23, Try.ntmps23
    go_upto_region 1 with (fail)
    go_quiet (fail)
    go_upto_region 2 with (fail)
    go_quiet (fail)
    go_wp2
    exact bodyPost_ret (v := .tuple #[]) (by simp [results, Try.results23, go_sem]) rfl ⟨rfl, (((H.out.later ((Below.refl _ _).alloc (Nat.le_refl _) _)).drewN _).drewN _).post (((Trn.of_below ((Below.refl _ _).alloc (Nat.le_refl _) _)).drewN _).drewN _)⟩
  · rw [if_neg hlt]
    have cS : Hid (∀ W, BlI B V M tg ad f (b.setV k ⟨x.rd, x.va, l.ro⟩) W → Trn tg tg w W → Calls Try.prog 27 #[.pointer (some ⟨B, 0, none⟩), .agg #[.int .i64 x.rd, .int .i64 x.va, .int .i64 1, .int .i64 (k : Int), .int .i64 l.ro, .bool l.lost]] W fun e w' => e = .returned (.tuple #[]) ∧ Hid (BlPost B V M tg w ((b.setV k ⟨x.rd, x.va, l.ro⟩).send ⟨x.rd, x.va, 1, (k : Int), l.ro, l.lost⟩) w')) := put_by fun W h1 h2 => by
      refine (send_any B V M tg ad f (b.setV k ⟨x.rd, x.va, l.ro⟩) ⟨x.rd, x.va, 1, (k : Int), l.ro, l.lost⟩ W h1 hm).mono ?_
      rintro e w' ⟨rfl, tg2, ad2, f2, h8, h9⟩
      exact ⟨rfl, put_by ⟨tg2, ad2, f2, h8, h2.trans h9⟩⟩
    have HX := put_by hx
    have HVT := put_by h.tV
    clear h hb hv ha hk hx hl hm hkn
    generalize b.vs.length = m at *
    obtain ⟨x1, x2, x3⟩ := x
    generalize l.ro = l5 at *
    simp only at hlt
    have hlt2 : x3 < l5 := by omega
    go_enter Try.func23, Try.ntmps23
    go_upto_region 1 with (fail)
    go_quiet (fail)
    go_upto_region 2 with (fail)
    go_quiet (fail)
    go_upto_region 4 with (fail)
    go_region
    go_wp2_with (go_at_call 27; refine (cS.out _ (((((((H.out.later ((Below.refl _ _).alloc (Nat.le_refl _) _)).drewN _).setV HX.out 2 (by omega) (.int .i64 l5) ⟨x1, x2, l5⟩ rfl).own HT0.out).own HT0.out).own HT0.out).drew) (((((((Trn.of_below ((Below.refl _ _).alloc (Nat.le_refl _) _)).drewN _).trans (Trn.set (by rw [HVT.out]; decide))).own (Nat.le_refl _)).own (Nat.le_refl _)).own (Nat.le_refl _)).drew)).mono ?_; rintro e w3 ⟨rfl, H3⟩)
    exact bodyPost_end (v := .tuple #[]) (by simp [results, Try.results23, go_sem]) rfl ⟨rfl, H3.out⟩

set_option maxRecDepth 20000 in
set_option maxHeartbeats 1000000 in
theorem handChoose_any (B V M : Nat) (tg : Nat → Int) (ad : Int → Nat) (f : Value) (b : Bl) (n : Nat) (hb : b.Ok n) (l : Lt) (hl : 0 ≤ l.vo ∧ l.vo < n) (w : World) (h : BlI B V M tg ad f b w) :
    Calls Try.prog 25 #[.pointer (some ⟨B, 0, none⟩), ltV l] w fun e w' => e = .returned (.tuple #[]) ∧ BlPost B V M tg w (b.handChoose l) w' := by
  obtain ⟨k, hk⟩ : ∃ k : Nat, l.vo = (k : Int) := ⟨l.vo.toNat, by omega⟩
  have hkn : k < b.vs.length := by rw [hb.len]; omega
  obtain ⟨x, hx⟩ : ∃ x, b.vs[k]? = some x := ⟨_, List.getElem?_eq_getElem hkn⟩
  have ha : b.handChoose l = if l.ro < x.word then b else (b.setV k ⟨l.rd, l.va, l.ro⟩).send ⟨l.rd, l.va, 3, l.vo, l.ro, l.lost⟩ := by simp [Bl.handChoose, hk, hx]
  rw [ha]
  unfold ltV
  rw [hk]
  have ik : (k : Int) < (b.vs.length : Int) := by omega
  obtain ⟨c0, -⟩ := h.top 0 _ rfl
  simp only [Nat.zero_add] at c0
  have hv := h.vs k x hx
  obtain ⟨d0, g0⟩ := hv 0 _ rfl
  obtain ⟨d1, g1⟩ := hv 1 _ rfl
  obtain ⟨d2, g2⟩ := hv 2 _ rfl
  simp only [Nat.add_zero] at d0 g0
  have hVl := hv.lt
  have hBl := h.ltB
  have H := put_by h
  have HT0 := put_by (h.out w.heap.size (Nat.le_refl _))
  have hm := hb.mail
  have hBV : V ≠ w.heap.size := by omega
  by_cases hlt : l.ro < x.word
  · rw [if_pos hlt]
    clear h hb hv ha hk hx hl hm hkn
    generalize b.vs.length = m at *
    generalize x.rd = x1 at *
    generalize x.va = x2 at *
    generalize x.word = x3 at *
    go_enter Try.func25, Try.ntmps25
    go_upto_region 1 with (fail)
    go_quiet (fail)
    go_upto_region 2 with (fail)
    go_quiet (fail)
    go_wp2
    exact bodyPost_ret (v := .tuple #[]) (by simp [results, Try.results25, go_sem]) rfl ⟨rfl, (((H.out.later ((Below.refl _ _).alloc (Nat.le_refl _) _)).drewN _).drewN _).post (((Trn.of_below ((Below.refl _ _).alloc (Nat.le_refl _) _)).drewN _).drewN _)⟩
  · rw [if_neg hlt]
    have cS : Hid (∀ W, BlI B V M tg ad f (b.setV k ⟨l.rd, l.va, l.ro⟩) W → Trn tg tg w W → Calls Try.prog 27 #[.pointer (some ⟨B, 0, none⟩), .agg #[.int .i64 l.rd, .int .i64 l.va, .int .i64 3, .int .i64 (k : Int), .int .i64 l.ro, .bool l.lost]] W fun e w' => e = .returned (.tuple #[]) ∧ Hid (BlPost B V M tg w ((b.setV k ⟨l.rd, l.va, l.ro⟩).send ⟨l.rd, l.va, 3, (k : Int), l.ro, l.lost⟩) w')) := put_by fun W h1 h2 => by
      refine (send_any B V M tg ad f (b.setV k ⟨l.rd, l.va, l.ro⟩) ⟨l.rd, l.va, 3, (k : Int), l.ro, l.lost⟩ W h1 hm).mono ?_
      rintro e w' ⟨rfl, tg2, ad2, f2, h8, h9⟩
      exact ⟨rfl, put_by ⟨tg2, ad2, f2, h8, h2.trans h9⟩⟩
    have HX := put_by hx
    have HVT := put_by h.tV
    clear h hb hv ha hk hx hl hm hkn
    generalize b.vs.length = m at *
    obtain ⟨x1, x2, x3⟩ := x
    generalize l.ro = l5 at *
    simp only at hlt
    have hlt2 : x3 ≤ l5 := by omega
    go_enter Try.func25, Try.ntmps25
    go_upto_region 1 with (fail)
    go_quiet (fail)
    go_upto_region 2 with (fail)
    go_quiet (fail)
    go_upto_region 3 with (fail)
    go_region
    go_wp2_with (go_at_call 27; refine (cS.out _ (((((H.out.later ((Below.refl _ _).alloc (Nat.le_refl _) _)).drewN _).chose HX.out _ _ _)).own HT0.out) ((((((Trn.of_below ((Below.refl _ _).alloc (Nat.le_refl _) _)).drewN _).trans (Trn.set (by rw [HVT.out]; decide))).trans (Trn.set (by rw [HVT.out]; decide))).trans (Trn.set (by rw [HVT.out]; decide))).own (Nat.le_refl _))).mono ?_; rintro e w3 ⟨rfl, H3⟩)
    exact bodyPost_end (v := .tuple #[]) (by simp [results, Try.results25, go_sem]) rfl ⟨rfl, H3.out⟩

end Go.Proofs.Ytppcikfhhmiipaa
