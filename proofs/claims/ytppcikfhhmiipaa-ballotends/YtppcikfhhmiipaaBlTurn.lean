/- A turn. -/
import Derived.Test.YtppcikfhhmiipaaBlHand3
namespace Go.Proofs.Ytppcikfhhmiipaa
open Go.ChangeShapes Go.WideShapes Go.ChangeAt Go.RowKit Go.Maps

set_option maxRecDepth 20000 in
set_option maxHeartbeats 2000000 in
theorem hand_any (B V M : Nat) (tg : Nat → Int) (ad : Int → Nat) (f : Value) (b : Bl) (n : Nat) (hb : b.Ok n) (who : Int) (w : World) (h : BlI B V M tg ad f b w) :
    Calls Try.prog 16 #[.pointer (some ⟨B, 0, none⟩), .int .i64 who] w fun e w' => e = .returned (.tuple #[.int .i64 (b.hand who).1.1, .int .i64 (b.hand who).1.2]) ∧ BlPost B V M tg w (b.hand who).2 w' := by
  have cH := put_by (has_any B V M tg ad f b n hb who w h)
  obtain ⟨c2, -⟩ := h.top 2 _ rfl
  simp only [Nat.zero_add] at c2
  have hBl := h.ltB
  cases h1 : b.has who with
  | false =>
    have e : b.hand who = ((0, 6), b) := by
      unfold Bl.has at h1
      unfold Bl.hand
      cases h2 : b.get who with
      | none => rfl
      | some l =>
        rw [h2] at h1
        simp only [Bool.not_eq_false'] at h1
        simp [h1]
    rw [e]
    rw [h1] at cH
    have H := put_by h
    clear h e hb c2
    go_enter Try.func16, Try.ntmps16
    go_wp2_with (go_at_call 22; refine cH.out.mono ?_; rintro e w' ⟨rfl, rfl⟩)
    exact bodyPost_ret (v := .tuple #[.int .i64 0, .int .i64 6]) (by simp [results, Try.results16, go_sem]) rfl ⟨rfl, H.out.post (Trn.refl _ _)⟩
  | true =>
    rw [h1] at cH
    unfold Bl.has at h1
    cases h2 : b.get who with
    | none =>
      rw [h2] at h1
      cases h1
    | some l =>
      rw [h2] at h1
      simp only [Bool.not_eq_true'] at h1
      have e : b.hand who = (((b.hand1 l).1, 0), (b.hand1 l).2) := by simp [Bl.hand, h2, h1]
      rw [e]
      obtain ⟨g0, g1, g2, gm⟩ := Bl.get_mem h2
      obtain ⟨k, rfl⟩ : ∃ k : Nat, who = (k : Int) := ⟨who.toNat, by omega⟩
      simp only [Int.toNat_natCast] at g1 g2 e ⊢
      obtain ⟨g, c, rfl, t4, hg, hc⟩ := h.letter g2
      obtain ⟨d0, -⟩ := hc 0 _ rfl
      obtain ⟨d1, -⟩ := hc 1 _ rfl
      obtain ⟨d2, -⟩ := hc 2 _ rfl
      obtain ⟨d3, -⟩ := hc 3 _ rfl
      obtain ⟨d4, -⟩ := hc 4 _ rfl
      obtain ⟨d5, -⟩ := hc 5 _ rfl
      simp only [Nat.add_zero] at d0
      obtain ⟨l1, l2, l3, l4⟩ := hb.lts l gm
      have hlt : (k : Int) < (b.ls.length : Int) := by omega
      have cA : Hid (∀ W, BlI B V M tg ad (.slice (some ⟨g, 0, none⟩) b.ls.length c) b W → Calls Try.prog 23 #[.pointer (some ⟨B, 0, none⟩), .agg #[.int .i64 l.rd, .int .i64 l.va, .int .i64 l.kd, .int .i64 l.vo, .int .i64 l.ro, .bool l.lost]] W fun e w' => e = .returned (.tuple #[]) ∧ BlPost B V M tg W (b.handAsked l) w') := put_by fun W hW => handAsked_any B V M tg ad _ b n hb l ⟨l1, l2⟩ W hW
      have cP : Hid (∀ W, BlI B V M tg ad (.slice (some ⟨g, 0, none⟩) b.ls.length c) b W → Calls Try.prog 24 #[.pointer (some ⟨B, 0, none⟩), .agg #[.int .i64 l.rd, .int .i64 l.va, .int .i64 l.kd, .int .i64 l.vo, .int .i64 l.ro, .bool l.lost]] W fun e w' => e = .returned (.tuple #[]) ∧ BlPost B V M tg W (b.handPromised l) w') := put_by fun W hW => handPromised_any B V M tg ad _ b n hb l ⟨l1, l2⟩ l4 W hW
      have cO : Hid (∀ W, BlI B V M tg ad (.slice (some ⟨g, 0, none⟩) b.ls.length c) b W → Calls Try.prog 25 #[.pointer (some ⟨B, 0, none⟩), .agg #[.int .i64 l.rd, .int .i64 l.va, .int .i64 l.kd, .int .i64 l.vo, .int .i64 l.ro, .bool l.lost]] W fun e w' => e = .returned (.tuple #[]) ∧ BlPost B V M tg W (b.handChoose l) w') := put_by fun W hW => handChoose_any B V M tg ad _ b n hb l ⟨l1, l2⟩ W hW
      have cC : Hid (∀ W, BlI B V M tg ad (.slice (some ⟨g, 0, none⟩) b.ls.length c) b W → Calls Try.prog 26 #[.pointer (some ⟨B, 0, none⟩), .agg #[.int .i64 l.rd, .int .i64 l.va, .int .i64 l.kd, .int .i64 l.vo, .int .i64 l.ro, .bool l.lost]] W fun e w' => e = .returned (.int .i64 (b.handChosen l).1) ∧ BlPost B V M tg W (b.handChosen l).2 w') := put_by fun W hW => handChosen_any B V M tg ad _ b n hb l ⟨l1, l2⟩ l4 W hW
      have H := put_by h
      have HP : Hid (∀ b' W, ∀ ty cs, BlPost B V M tg (w.alloc (.cells cs ty)) b' W → BlPost B V M tg w b' W) := put_by (fun b' W ty cs ⟨t, a, q, r1, r2⟩ => ⟨t, a, q, r1, (Trn.of_below ((Below.refl _ _).alloc (Nat.le_refl _) _)).trans r2⟩)
      generalize b.ls.length = m at *
      have hkd : (l.kd = 0 ∧ b.hand1 l = (0, b.handAsked l)) ∨ (l.kd = 1 ∧ b.hand1 l = (0, b.handPromised l)) ∨ (l.kd = 2 ∧ b.hand1 l = (0, b.handChoose l)) ∨ (l.kd = 3 ∧ b.hand1 l = b.handChosen l) := by
        rcases l3 with q | q | q | q <;> simp [Bl.hand1, q]
      clear h e hb h1 h2 g2 hc gm l1 l2 l3 l4 t4 g0 g1
      rcases hkd with ⟨q, q2⟩ | ⟨q, q2⟩ | ⟨q, q2⟩ | ⟨q, q2⟩
      all_goals
        rw [q2]
        rw [q] at d2 cA cP cO cC
        clear q q2
        generalize l.rd = p1 at *
        generalize l.va = p2 at *
        generalize l.vo = p4 at *
        generalize l.ro = p5 at *
        generalize l.lost = p6 at *
        go_enter Try.func16, Try.ntmps16
        go_wp2_with (first
          | (go_at_call 22; refine cH.out.mono ?_; rintro e w' ⟨rfl, rfl⟩)
          | (go_at_call 23; refine (cA.out _ (H.out.later ((Below.refl _ _).alloc (Nat.le_refl _) _))).mono ?_; rintro e w3 ⟨rfl, H3⟩)
          | (go_at_call 24; refine (cP.out _ (H.out.later ((Below.refl _ _).alloc (Nat.le_refl _) _))).mono ?_; rintro e w3 ⟨rfl, H3⟩)
          | (go_at_call 25; refine (cO.out _ (H.out.later ((Below.refl _ _).alloc (Nat.le_refl _) _))).mono ?_; rintro e w3 ⟨rfl, H3⟩)
          | (go_at_call 26; refine (cC.out _ (H.out.later ((Below.refl _ _).alloc (Nat.le_refl _) _))).mono ?_; rintro e w3 ⟨rfl, H3⟩))
      · exact bodyPost_ret (v := .tuple #[.int .i64 0, .int .i64 0]) (by simp [results, Try.results16, go_sem]) rfl ⟨rfl, HP.out _ _ _ _ H3⟩
      · exact bodyPost_ret (v := .tuple #[.int .i64 0, .int .i64 0]) (by simp [results, Try.results16, go_sem]) rfl ⟨rfl, HP.out _ _ _ _ H3⟩
      · exact bodyPost_ret (v := .tuple #[.int .i64 0, .int .i64 0]) (by simp [results, Try.results16, go_sem]) rfl ⟨rfl, HP.out _ _ _ _ H3⟩
      · exact bodyPost_ret (v := .tuple #[.int .i64 (b.handChosen l).1, .int .i64 0]) (by simp [results, Try.results16, go_sem]) rfl ⟨rfl, HP.out _ _ _ _ H3⟩

/-- a turn in memory -/
def tnV (t : Tn) : Value := .agg #[.int .i64 t.kind, .int .i64 t.who, .int .i64 t.round, .int .i64 t.value]

set_option maxRecDepth 20000 in
set_option maxHeartbeats 2000000 in
theorem play_any (B V M : Nat) (tg : Nat → Int) (ad : Int → Nat) (f : Value) (b : Bl) (n : Nat) (hb : b.Ok n) (hn : b.n < 1000000) (t : Tn) (ht : -9223372036854775808 ≤ t.round ∧ t.round ≤ 9223372036854775807) (w : World) (h : BlI B V M tg ad f b w) :
    Calls Try.prog 12 #[.pointer (some ⟨B, 0, none⟩), tnV t] w fun e w' => e = .returned (.tuple #[.int .i64 (b.play t).1.1, .int .i64 (b.play t).1.2]) ∧ BlPost B V M tg w (b.play t).2 w' := by
  have cA : Hid (∀ W, BlI B V M tg ad f b W → Calls Try.prog 15 #[.pointer (some ⟨B, 0, none⟩), .int .i64 t.round, .int .i64 t.value] W fun e w' => e = .returned (.int .i64 (b.ask t.round t.value).1) ∧ BlPost B V M tg W (b.ask t.round t.value).2 w') := put_by fun W hW => ask_any B V M tg ad f b n hb hn t.round t.value W hW
  have cH : Hid (∀ W, BlI B V M tg ad f b W → Calls Try.prog 16 #[.pointer (some ⟨B, 0, none⟩), .int .i64 t.who] W fun e w' => e = .returned (.tuple #[.int .i64 (b.hand t.who).1.1, .int .i64 (b.hand t.who).1.2]) ∧ BlPost B V M tg W (b.hand t.who).2 w') := put_by fun W hW => hand_any B V M tg ad f b n hb t.who W hW
  have cL : Hid (∀ W, BlI B V M tg ad f b W → Calls Try.prog 17 #[.pointer (some ⟨B, 0, none⟩), .int .i64 t.who] W fun e w' => e = .returned (.int .i64 (b.lose t.who).1) ∧ BlPost B V M tg W (b.lose t.who).2 w') := put_by fun W hW => lose_any B V M tg ad f b n hb t.who W hW
  have cT : Hid (∀ W, BlI B V M tg ad f b W → Calls Try.prog 18 #[.pointer (some ⟨B, 0, none⟩), .int .i64 t.round] W fun e w' => e = .returned (.int .i64 (b.halt t.round).1) ∧ BlPost B V M tg W (b.halt t.round).2 w') := put_by fun W hW => halt_any B V M tg ad f b t.round ht W hW
  have HP : Hid (∀ b' W, ∀ ty cs, BlPost B V M tg (w.alloc (.cells cs ty)) b' W → BlPost B V M tg w b' W) := put_by (fun b' W ty cs ⟨t, a, q, r1, r2⟩ => ⟨t, a, q, r1, (Trn.of_below ((Below.refl _ _).alloc (Nat.le_refl _) _)).trans r2⟩)
  have H := put_by h
  unfold tnV
  clear h hb ht
  obtain ⟨kd, who, rd, vl⟩ := t
  unfold Bl.play
  simp only at cA cH cL cT ⊢
  by_cases k1 : kd = 1
  · subst k1
    go_enter Try.func12, Try.ntmps12
    go_wp2_with (go_at_call 15; refine (cA.out _ (H.out.later ((Below.refl _ _).alloc (Nat.le_refl _) _))).mono ?_; rintro e w3 ⟨rfl, H3⟩)
    exact bodyPost_ret (v := .tuple #[.int .i64 0, .int .i64 (b.ask rd vl).1]) (by simp [results, Try.results12, go_sem]) rfl ⟨by simp, HP.out _ _ _ _ H3⟩
  · by_cases k2 : kd = 2
    · subst k2
      go_enter Try.func12, Try.ntmps12
      go_wp2_with (go_at_call 16; refine (cH.out _ (H.out.later ((Below.refl _ _).alloc (Nat.le_refl _) _))).mono ?_; rintro e w3 ⟨rfl, H3⟩)
      exact bodyPost_ret (v := .tuple #[.int .i64 (b.hand who).1.1, .int .i64 (b.hand who).1.2]) (by simp [results, Try.results12, go_sem]) rfl ⟨by simp, HP.out _ _ _ _ H3⟩
    · by_cases k3 : kd = 3
      · subst k3
        go_enter Try.func12, Try.ntmps12
        go_wp2_with (go_at_call 17; refine (cL.out _ (H.out.later ((Below.refl _ _).alloc (Nat.le_refl _) _))).mono ?_; rintro e w3 ⟨rfl, H3⟩)
        exact bodyPost_ret (v := .tuple #[.int .i64 0, .int .i64 (b.lose who).1]) (by simp [results, Try.results12, go_sem]) rfl ⟨by simp, HP.out _ _ _ _ H3⟩
      · by_cases k4 : kd = 4
        · subst k4
          go_enter Try.func12, Try.ntmps12
          go_wp2_with (go_at_call 18; refine (cT.out _ (H.out.later ((Below.refl _ _).alloc (Nat.le_refl _) _))).mono ?_; rintro e w3 ⟨rfl, H3⟩)
          exact bodyPost_ret (v := .tuple #[.int .i64 0, .int .i64 (b.halt rd).1]) (by simp [results, Try.results12, go_sem]) rfl ⟨by simp, HP.out _ _ _ _ H3⟩
        · have e1 : (kd == 1) = false := by simp [k1]
          have e2 : (kd == 2) = false := by simp [k2]
          have e3 : (kd == 3) = false := by simp [k3]
          have e4 : (kd == 4) = false := by simp [k4]
          simp only [k1, k2, k3, k4, if_false]
          clear k1 k2 k3 k4
          go_enter Try.func12, Try.ntmps12
          go_wp2
          exact bodyPost_ret (v := .tuple #[.int .i64 0, .int .i64 3]) (by simp [results, Try.results12, go_sem]) rfl ⟨rfl, HP.out _ _ _ _ ((H.out.later ((Below.refl _ _).alloc (Nat.le_refl _) _)).post (Trn.refl _ _))⟩

end Go.Proofs.Ytppcikfhhmiipaa
