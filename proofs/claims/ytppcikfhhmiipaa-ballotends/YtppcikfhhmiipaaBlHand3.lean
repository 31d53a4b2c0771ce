/- A promise is handed to its round. -/
import Derived.Test.YtppcikfhhmiipaaBlHand2
namespace Go.Proofs.Ytppcikfhhmiipaa
open Go.ChangeShapes Go.WideShapes Go.ChangeAt Go.RowKit Go.Maps

/-- a variable of the caller's stays -/
theorem Cs.kept {W W' : World} {L o : Nat} {c : Value} {cs : List Value} {tg tg' : Nat → Int} (h : Cs W L o (c :: cs)) (hL : tg L = 0) (ht : Trn tg tg' W W') : Cs W' L o (c :: cs) := h.move (ht.block L h.lt hL)

set_option maxRecDepth 20000 in
set_option maxHeartbeats 2000000 in
theorem handPromised_any (B V M : Nat) (tg : Nat → Int) (ad : Int → Nat) (f : Value) (b : Bl) (n : Nat) (hb : b.Ok n) (l : Lt) (hl : 0 ≤ l.vo ∧ l.vo < n) (hr : b.rs l.ro ≠ none) (w : World) (h : BlI B V M tg ad f b w) :
    Calls Try.prog 24 #[.pointer (some ⟨B, 0, none⟩), ltV l] w fun e w' => e = .returned (.tuple #[]) ∧ BlPost B V M tg w (b.handPromised l) w' := by
  obtain ⟨k, hk⟩ : ∃ k : Nat, l.vo = (k : Int) := ⟨l.vo.toNat, by omega⟩
  have hk5 : k < 5 := by have := hb.few.2; omega
  obtain ⟨x, hx⟩ : ∃ x, b.rs l.ro = some x := by
    cases e : b.rs l.ro with
    | none => exact absurd e hr
    | some x => exact ⟨x, rfl⟩
  have hrb := hb.rnd _ _ hx
  unfold ltV
  rw [hk]
  obtain ⟨c1, -⟩ := h.top 1 _ rfl
  simp only [Nat.zero_add] at c1
  have hBl := h.ltB
  have hM := h.ltM
  have hBM : M ≠ w.heap.size := by omega
  have hbe := (Below.refl w.heap.size w).alloc (Nat.le_refl _) (.cells #[.int .i64 l.rd, .int .i64 l.va, .int .i64 l.kd, .int .i64 (k : Int), .int .i64 l.ro, .bool l.lost] 78)
  have hlk : ∀ i, (Instr.lookup 41 (.map (some M)) (.int .i64 l.ro) false).run Try.prog ((w.alloc (.cells #[.int .i64 l.rd, .int .i64 l.va, .int .i64 l.kd, .int .i64 (k : Int), .int .i64 l.ro, .bool l.lost] 78)).drewN i) = .ok (.pointer (some ⟨ad l.ro, 0, none⟩)) ((w.alloc (.cells #[.int .i64 l.rd, .int .i64 l.va, .int .i64 l.kd, .int .i64 (k : Int), .int .i64 l.ro, .bool l.lost] 78)).drewN i) := fun i => by
    have := h.look l.ro (by omega) ((w.alloc (.cells #[.int .i64 l.rd, .int .i64 l.va, .int .i64 l.kd, .int .i64 (k : Int), .int .i64 l.ro, .bool l.lost] 78)).drewN i) (hbe.block M hM)
    rw [hx] at this
    exact this
  have H := put_by h
  have HT0 := put_by (h.out w.heap.size (Nat.le_refl _))
  have HX := put_by hx
  have hRl := h.ltR hx
  have hRL : ad l.ro ≠ w.heap.size := by omega
  have hcr := h.rs _ _ hx
  by_cases hst : x.stopped = true ∨ x.told = true
  · have ha : b.handPromised l = b := by simp [Bl.handPromised, hx, hst]
    rw [ha]
    obtain ⟨d14, -⟩ := hcr 14 _ rfl
    obtain ⟨d15, -⟩ := hcr 15 _ rfl
    simp only [Nat.zero_add] at d14 d15
    have HST : x.stopped = true ∨ (x.stopped = false ∧ x.told = true) := by
      cases e : x.stopped
      · exact .inr ⟨rfl, by rcases hst with q | q
                            · rw [e] at q; cases q
                            · exact q⟩
      · exact .inl rfl
    clear h hb hx hr ha hk hrb hl hbe hcr hst HX
    rcases HST with q | ⟨q, q2⟩
    · rw [q] at d14
      clear d15 q
      go_enter Try.func24, Try.ntmps24
      go_upto_region 1 with (fail)
      go_quiet (fail)
      go_wp2
      exact bodyPost_ret (v := .tuple #[]) (by simp [results, Try.results24, go_sem]) rfl ⟨rfl, ((H.out.later ((Below.refl _ _).alloc (Nat.le_refl _) _)).drewN _).post ((Trn.of_below ((Below.refl _ _).alloc (Nat.le_refl _) _)).drewN _)⟩
    · rw [q] at d14
      rw [q2] at d15
      clear q q2
      go_enter Try.func24, Try.ntmps24
      go_upto_region 1 with (fail)
      go_quiet (fail)
      go_wp2
      exact bodyPost_ret (v := .tuple #[]) (by simp [results, Try.results24, go_sem]) rfl ⟨rfl, ((H.out.later ((Below.refl _ _).alloc (Nat.le_refl _) _)).drewN _).post ((Trn.of_below ((Below.refl _ _).alloc (Nat.le_refl _) _)).drewN _)⟩
  · have hs1 : x.stopped = false := by
      cases e : x.stopped
      · rfl
      · exact absurd (.inl e) hst
    have hs2 : x.told = false := by
      cases e : x.told
      · rfl
      · exact absurd (.inr e) hst
    have ha : b.handPromised l = if b.most (put1 x.pr k) then (b.setR l.ro { x.promise l with told := true }).sendAll ⟨l.ro, (x.promise l).va, 2, 0, l.ro, false⟩ else b.setR l.ro (x.promise l) := by
      simp [Bl.handPromised, hx, hs1, hs2, Rn.promise, hk]
    rw [ha]
    obtain ⟨d14, -⟩ := hcr 14 _ rfl
    obtain ⟨d15, -⟩ := hcr 15 _ rfl
    simp only [Nat.zero_add, hs1, hs2] at d14 d15
    obtain ⟨y, hy⟩ : ∃ y, y = x.promise l := ⟨_, rfl⟩
    have hy2 : y = ⟨if x.rd < l.rd then l.rd else x.rd, if x.rd < l.rd then l.va else x.va, put1 x.pr k, x.ch, false, false⟩ := by rw [hy]; simp [Rn.promise, hk, hs1, hs2]
    rw [← hy]
    have cA : Hid (∀ W, BlI B V M tg ad f b W → Calls Try.prog 28 #[.pointer (some ⟨ad l.ro, 2, none⟩), .int .i64 (k : Int)] W fun e w' => e = .returned (.tuple #[]) ∧ Hid (BlI B V M tg ad f (b.setR l.ro ⟨x.rd, x.va, put1 x.pr k, x.ch, false, false⟩) w' ∧ Trn tg tg W w')) := put_by fun W hW => by
      have := add_pr hW hx k hk5
      rw [hs1, hs2] at this
      exact this
    have hb2 := hb.setR (r := l.ro) y hrb
    have cM : Hid (∀ W, BlI B V M tg ad f (b.setR l.ro y) W → Calls Try.prog 29 #[.pointer (some ⟨B, 0, none⟩), .agg #[.bool (put1 x.pr k 0), .bool (put1 x.pr k 1), .bool (put1 x.pr k 2), .bool (put1 x.pr k 3), .bool (put1 x.pr k 4), .int .i64 (cnt (put1 x.pr k) : Nat)]] W fun e w' => e = .returned (.bool (b.most (put1 x.pr k))) ∧ Hid (BlI B V M tg ad f (b.setR l.ro y) w' ∧ Trn tg tg W w')) := put_by fun W hW => most_at hW n hb2 (put1 x.pr k)
    have hb3 := hb.setR (r := l.ro) { y with told := true } hrb
    have cS : Hid (∀ W, BlI B V M tg ad f (b.setR l.ro { y with told := true }) W → Trn tg tg w W → Calls Try.prog 21 #[.pointer (some ⟨B, 0, none⟩), .agg #[.int .i64 l.ro, .int .i64 y.va, .int .i64 2, .int .i64 0, .int .i64 l.ro, .bool false]] W fun e w' => e = .returned (.tuple #[]) ∧ Hid (BlPost B V M tg w ((b.setR l.ro { y with told := true }).sendAll ⟨l.ro, y.va, 2, 0, l.ro, false⟩) w')) := put_by fun W hW hT => by
      refine (sendAll_any B V M tg ad f _ n hb3 ⟨l.ro, y.va, 2, 0, l.ro, false⟩ ⟨.inr (.inr (.inl rfl)), by simp [Bl.setR]⟩ W hW).mono ?_
      rintro e w' ⟨rfl, tg2, ad2, f2, h8, h9⟩
      exact ⟨rfl, put_by ⟨tg2, ad2, f2, h8, hT.trans h9⟩⟩
    have HRS : Hid (∀ W y, BlI B V M tg ad f (b.setR l.ro y) W → Cs W (ad l.ro) 0 (rnC y)) := put_by fun W y hW => hW.rs _ _ (setR_at _ _ _)
    have HTR := put_by (h.tagR hx)
    have HCL : Hid (Cs (w.alloc (.cells #[.int .i64 l.rd, .int .i64 l.va, .int .i64 l.kd, .int .i64 (k : Int), .int .i64 l.ro, .bool l.lost] 78)) w.heap.size 0 [.int .i64 l.rd, .int .i64 l.va, .int .i64 l.kd, .int .i64 (k : Int), .int .i64 l.ro, .bool l.lost]) := put_by (Cs.new w _ _ rfl _)
    have HW1 : Hid (Trn tg tg w (w.alloc (.cells #[.int .i64 l.rd, .int .i64 l.va, .int .i64 l.kd, .int .i64 (k : Int), .int .i64 l.ro, .bool l.lost] 78))) := put_by (Trn.of_below hbe)
    have H1 := put_by (h.later hbe)
    have HS1 : Hid (w.heap.size ≤ (w.alloc (.cells #[.int .i64 l.rd, .int .i64 l.va, .int .i64 l.kd, .int .i64 (k : Int), .int .i64 l.ro, .bool l.lost] 78)).heap.size) := put_by hbe.size
    clear h hb hb2 hb3 hx hr ha hk hrb hl hbe hcr hst hs1 hs2 hy HX
    go_enter Try.func24, Try.ntmps24
    go_upto_region 1 with (fail)
    go_quiet (fail)
    go_upto_region 3 with (fail)
    go_region_with (go_at_call 28; refine (cA.out _ (by first | exact H1.out.drewN _ | exact (H1.out.drewN _).drew)).mono ?_; rintro e w2 ⟨rfl, H2⟩)
    have HT2 : Hid (Trn tg tg w w2) := put_by (HW1.out.trans ((Trn.of_below (belowR (Below.refl _ _) _)).trans H2.out.2))
    have HL2 : Hid (Cs w2 w.heap.size 0 [.int .i64 l.rd, .int .i64 l.va, .int .i64 l.kd, .int .i64 (k : Int), .int .i64 l.ro, .bool l.lost]) := put_by (HCL.out.kept HT0.out ((Trn.of_below (belowR (Below.refl _ _) _)).trans H2.out.2))
    clear c1 d14 d15 hlk H HCL
    obtain ⟨p0, r0⟩ := HRS.out _ _ H2.out.1 0 _ rfl
    obtain ⟨p1, r1⟩ := HRS.out _ _ H2.out.1 1 _ rfl
    obtain ⟨q0, -⟩ := HL2.out 0 _ rfl
    obtain ⟨q1, -⟩ := HL2.out 1 _ rfl
    simp only [Nat.zero_add] at p0 p1 r0 r1 q0 q1
    by_cases hgt : x.rd < l.rd
    · obtain rfl : y = ⟨l.rd, l.va, put1 x.pr k, x.ch, false, false⟩ := by rw [hy2, if_pos hgt, if_pos hgt]
      clear hy2
      go_upto_region 4 with (fail)
      go_quiet (fail)
      go_upto_region 6 with (fail)
      have H6 : Hid (BlI B V M tg ad f (b.setR l.ro ⟨l.rd, l.va, put1 x.pr k, x.ch, false, false⟩) (((w2.drewN nq).setCell ⟨ad l.ro, 0, none⟩ (.int .i64 l.rd)).setCell ⟨ad l.ro, 1, none⟩ (.int .i64 l.va))) := put_by (by
        have h1 := (H2.out.1.drewN nq).setR (setR_at _ _ _) 0 (.int .i64 l.rd) ⟨l.rd, x.va, put1 x.pr k, x.ch, false, false⟩ rfl
        have h2 := h1.setR (setR_at _ _ _) 1 (.int .i64 l.va) ⟨l.rd, l.va, put1 x.pr k, x.ch, false, false⟩ rfl
        rw [setR_setR, setR_setR] at h2
        exact h2)
      have HT6 : Hid (Trn tg tg w (((w2.drewN nq).setCell ⟨ad l.ro, 0, none⟩ (.int .i64 l.rd)).setCell ⟨ad l.ro, 1, none⟩ (.int .i64 l.va))) := put_by (((HT2.out.drewN nq).trans (Trn.set HTR.out)).trans (Trn.set HTR.out))
      have HL6 : Hid (Cs (((w2.drewN nq).setCell ⟨ad l.ro, 0, none⟩ (.int .i64 l.rd)).setCell ⟨ad l.ro, 1, none⟩ (.int .i64 l.va)) w.heap.size 0 [.int .i64 l.rd, .int .i64 l.va, .int .i64 l.kd, .int .i64 (k : Int), .int .i64 l.ro, .bool l.lost]) := put_by (HL2.out.kept HT0.out (((Trn.of_below (belowR (Below.refl _ _) nq)).trans (Trn.set HTR.out)).trans (Trn.set HTR.out)))
      clear p0 p1 r0 r1 q0 q1
      clear cA H2 HL2 HT2
      generalize (((w2.drewN nq).setCell ⟨ad l.ro, 0, none⟩ (.int .i64 l.rd)).setCell ⟨ad l.ro, 1, none⟩ (.int .i64 l.va)) = W6 at *
      obtain ⟨e1, -⟩ := HRS.out _ _ H6.out 1 _ rfl
      obtain ⟨e2, -⟩ := HRS.out _ _ H6.out 2 _ rfl
      obtain ⟨e3, -⟩ := HRS.out _ _ H6.out 3 _ rfl
      obtain ⟨e4, -⟩ := HRS.out _ _ H6.out 4 _ rfl
      obtain ⟨e5, -⟩ := HRS.out _ _ H6.out 5 _ rfl
      obtain ⟨e6, -⟩ := HRS.out _ _ H6.out 6 _ rfl
      obtain ⟨e7, -⟩ := HRS.out _ _ H6.out 7 _ rfl
      simp only [Nat.zero_add] at e1 e2 e3 e4 e5 e6 e7
      cases hm : b.most (put1 x.pr k) with
      | false =>
        rw [hm] at cM
        go_wp2_with (go_at_call 29; refine (cM.out _ H6.out).mono ?_; rintro e w3 ⟨rfl, H3⟩)
        all_goals exact bodyPost_ret (v := .tuple #[]) (by simp [results, Try.results24, go_sem]) rfl ⟨rfl, H3.out.1.post (HT6.out.trans H3.out.2)⟩
      | true =>
        rw [hm] at cM
        go_upto_region 7 with (go_at_call 29; refine (cM.out _ H6.out).mono ?_; rintro e w3 ⟨rfl, H3⟩)
        have HT3 := put_by (HT6.out.trans H3.out.2)
        have hL := HL6.out.kept HT0.out H3.out.2
        obtain ⟨q4, -⟩ := hL 4 _ rfl
        obtain ⟨g15, z15⟩ := HRS.out _ _ H3.out.1 15 _ rfl
        obtain ⟨g1, -⟩ := HRS.out _ _ H3.out.1 1 _ rfl
        simp only [Nat.zero_add] at g15 z15 g1 q4
        have H4 : Hid (BlI B V M tg ad f (b.setR l.ro ⟨l.rd, l.va, put1 x.pr k, x.ch, false, true⟩) (w3.setCell ⟨ad l.ro, 15, none⟩ (.bool true))) := put_by (by
          have := H3.out.1.setR (setR_at _ _ _) 15 (.bool true) ⟨l.rd, l.va, put1 x.pr k, x.ch, false, true⟩ rfl
          rwa [setR_setR] at this)
        have HT4 := put_by (HT3.out.trans (Trn.set (i := 15) (v := .bool true) HTR.out))
        clear hL e1 e2 e3 e4 e5 e6 e7 H6 HT6 HL6 HT3 cM HRS
        go_upto_region 8 with (fail)
        go_region_with (go_at_call 21; refine (cS.out _ (by first | exact H4.out | exact H4.out.drewN _ | exact H4.out.drew) (by first | exact HT4.out | exact HT4.out.drewN _ | exact HT4.out.drew)).mono ?_; rintro e w5 ⟨rfl, H5⟩)
        all_goals
          go_wp2
          exact bodyPost_end (v := .tuple #[]) (by simp [results, Try.results24, go_sem]) rfl ⟨rfl, H5.out⟩
    · obtain rfl : y = ⟨x.rd, x.va, put1 x.pr k, x.ch, false, false⟩ := by rw [hy2, if_neg hgt, if_neg hgt]
      clear hy2
      have hgt2 : l.rd ≤ x.rd := by omega
      go_upto_region 4 with (fail)
      go_quiet (fail)
      go_upto_region 6 with (fail)
      have H6 : Hid (BlI B V M tg ad f (b.setR l.ro ⟨x.rd, x.va, put1 x.pr k, x.ch, false, false⟩) (w2.drewN nq)) := put_by (H2.out.1.drewN nq)
      have HT6 : Hid (Trn tg tg w (w2.drewN nq)) := put_by (HT2.out.drewN nq)
      have HL6 : Hid (Cs (w2.drewN nq) w.heap.size 0 [.int .i64 l.rd, .int .i64 l.va, .int .i64 l.kd, .int .i64 (k : Int), .int .i64 l.ro, .bool l.lost]) := put_by (HL2.out.kept HT0.out (Trn.of_below (belowR (Below.refl _ _) nq)))
      clear p0 p1 r0 r1 q0 q1
      clear cA H2 HL2 HT2
      generalize (w2.drewN nq) = W6 at *
      obtain ⟨e1, -⟩ := HRS.out _ _ H6.out 1 _ rfl
      obtain ⟨e2, -⟩ := HRS.out _ _ H6.out 2 _ rfl
      obtain ⟨e3, -⟩ := HRS.out _ _ H6.out 3 _ rfl
      obtain ⟨e4, -⟩ := HRS.out _ _ H6.out 4 _ rfl
      obtain ⟨e5, -⟩ := HRS.out _ _ H6.out 5 _ rfl
      obtain ⟨e6, -⟩ := HRS.out _ _ H6.out 6 _ rfl
      obtain ⟨e7, -⟩ := HRS.out _ _ H6.out 7 _ rfl
      simp only [Nat.zero_add] at e1 e2 e3 e4 e5 e6 e7
      cases hm : b.most (put1 x.pr k) with
      | false =>
        rw [hm] at cM
        go_wp2_with (go_at_call 29; refine (cM.out _ H6.out).mono ?_; rintro e w3 ⟨rfl, H3⟩)
        all_goals exact bodyPost_ret (v := .tuple #[]) (by simp [results, Try.results24, go_sem]) rfl ⟨rfl, H3.out.1.post (HT6.out.trans H3.out.2)⟩
      | true =>
        rw [hm] at cM
        go_upto_region 7 with (go_at_call 29; refine (cM.out _ H6.out).mono ?_; rintro e w3 ⟨rfl, H3⟩)
        have HT3 := put_by (HT6.out.trans H3.out.2)
        have hL := HL6.out.kept HT0.out H3.out.2
        obtain ⟨q4, -⟩ := hL 4 _ rfl
        obtain ⟨g15, z15⟩ := HRS.out _ _ H3.out.1 15 _ rfl
        obtain ⟨g1, -⟩ := HRS.out _ _ H3.out.1 1 _ rfl
        simp only [Nat.zero_add] at g15 z15 g1 q4
        have H4 : Hid (BlI B V M tg ad f (b.setR l.ro ⟨x.rd, x.va, put1 x.pr k, x.ch, false, true⟩) (w3.setCell ⟨ad l.ro, 15, none⟩ (.bool true))) := put_by (by
          have := H3.out.1.setR (setR_at _ _ _) 15 (.bool true) ⟨x.rd, x.va, put1 x.pr k, x.ch, false, true⟩ rfl
          rwa [setR_setR] at this)
        have HT4 := put_by (HT3.out.trans (Trn.set (i := 15) (v := .bool true) HTR.out))
        clear hL e1 e2 e3 e4 e5 e6 e7 H6 HT6 HL6 HT3 cM HRS
        go_upto_region 8 with (fail)
        go_region_with (go_at_call 21; refine (cS.out _ (by first | exact H4.out | exact H4.out.drewN _ | exact H4.out.drew) (by first | exact HT4.out | exact HT4.out.drewN _ | exact HT4.out.drew)).mono ?_; rintro e w5 ⟨rfl, H5⟩)
        all_goals
          go_wp2
          exact bodyPost_end (v := .tuple #[]) (by simp [results, Try.results24, go_sem]) rfl ⟨rfl, H5.out⟩

end Go.Proofs.Ytppcikfhhmiipaa
