/- A round begins; a letter is lost; a round is stopped. -/
import Derived.Test.YtppcikfhhmiipaaBlSendAll
namespace Go.Proofs.Ytppcikfhhmiipaa
open Go.ChangeShapes Go.WideShapes Go.ChangeAt Go.RowKit Go.Maps

set_option maxRecDepth 20000 in
set_option maxHeartbeats 1000000 in
theorem ask_any (B V M : Nat) (tg : Nat → Int) (ad : Int → Nat) (f : Value) (b : Bl) (n : Nat) (hb : b.Ok n) (hn : b.n < 1000000) (r v : Int) (w : World) (h : BlI B V M tg ad f b w) :
    Calls Try.prog 15 #[.pointer (some ⟨B, 0, none⟩), .int .i64 r, .int .i64 v] w fun e w' => e = .returned (.int .i64 (b.ask r v).1) ∧ BlPost B V M tg w (b.ask r v).2 w' := by
  have cC : Hid (∀ k W, Calls Try.prog 20 #[.int .i64 k] W fun e w' => e = .returned (.bool (counts k)) ∧ w' = W) := put_by counts_any
  obtain ⟨c1, -⟩ := h.top 1 _ rfl
  simp only [Nat.zero_add] at c1
  have hBl := h.ltB
  cases h1 : counts r
  · have e : b.ask r v = (2, b) := if_pos (.inl h1)
    rw [e]
    have H := put_by h
    clear h hb hn e c1
    go_enter Try.func15, Try.ntmps15
    go_wp2_with (go_at_call 20; (with_reducible refine (cC.out _ _).mono ?_); rintro e w' ⟨rfl, rfl⟩)
    exact bodyPost_ret (v := .int .i64 2) (by simp [results, Try.results15, go_sem]) rfl ⟨rfl, H.out.post (Trn.refl _ _)⟩
  · cases h2 : counts v
    · have e : b.ask r v = (2, b) := if_pos (.inr h2)
      rw [e]
      have H := put_by h
      clear h hb hn e c1
      go_enter Try.func15, Try.ntmps15
      go_wp2_with (go_at_call 20; (with_reducible refine (cC.out _ _).mono ?_); rintro e w' ⟨rfl, rfl⟩)
      exact bodyPost_ret (v := .int .i64 2) (by simp [results, Try.results15, go_sem]) rfl ⟨rfl, H.out.post (Trn.refl _ _)⟩
    · have hr := counts_iff.1 h1
      have hlk := h.look r (by omega) w rfl
      cases h3 : b.rs r with
      | some x =>
        have e : b.ask r v = (7, b) := by simp [Bl.ask, h1, h2, h3]
        rw [e]
        rw [h3] at hlk
        simp only [ptr] at hlk
        have H := put_by h
        clear h hb hn e hr
        go_enter Try.func15, Try.ntmps15
        go_wp2_with (go_at_call 20; (with_reducible refine (cC.out _ _).mono ?_); rintro e w' ⟨rfl, rfl⟩)
        exact bodyPost_ret (v := .int .i64 7) (by simp [results, Try.results15, go_sem]) rfl ⟨rfl, H.out.post (Trn.refl _ _)⟩
      | none =>
        have e : b.ask r v = (0, ({ b.setR r (newRn v) with n := b.n + 1 }).sendAll ⟨0, 0, 0, 0, r, false⟩) := by simp [Bl.ask, h1, h2, h3]
        rw [e]
        rw [h3] at hlk
        simp only [ptr] at hlk
        obtain ⟨w2, hrun, HB⟩ := h.begun hn r hr v #[.int .i64 0, .int .i64 v, .bool false, .bool false, .bool false, .bool false, .bool false, .int .i64 0, .bool false, .bool false, .bool false, .bool false, .bool false, .int .i64 0, .bool false, .bool false] rfl 75
        have h4 := hb.setR (r := r) (newRn v) hr
        have h5 : ({ b.setR r (newRn v) with n := b.n + 1 } : Bl).Ok n := ⟨h4.len, h4.few, h4.lts, h4.rnd, h4.mail⟩
        have cS : Hid (Calls Try.prog 21 #[.pointer (some ⟨B, 0, none⟩), .agg #[.int .i64 0, .int .i64 0, .int .i64 0, .int .i64 0, .int .i64 r, .bool false]] w2 fun e w' => e = .returned (.tuple #[]) ∧ Hid (BlPost B V M tg w (({ b.setR r (newRn v) with n := b.n + 1 }).sendAll ⟨0, 0, 0, 0, r, false⟩) w')) := put_by (by
          obtain ⟨tg', ad', h6, h7⟩ := HB.out
          refine (sendAll_any B V M tg' ad' f _ n h5 ⟨0, 0, 0, 0, r, false⟩ ⟨.inl rfl, by simp [Bl.setR]⟩ w2 h6).mono ?_
          rintro e w' ⟨rfl, tg2, ad2, f2, h8, h9⟩
          exact ⟨rfl, put_by ⟨tg2, ad2, f2, h8, h7.trans h9⟩⟩)
        clear h hb hn e hr HB h4 h5
        go_enter Try.func15, Try.ntmps15
        go_wp2_with (first
          | (go_at_call 20; (with_reducible refine (cC.out _ _).mono ?_); rintro e w' ⟨rfl, rfl⟩)
          | (go_at_call 21; refine cS.out.mono ?_; rintro e w3 ⟨rfl, H3⟩))
        exact bodyPost_ret (v := .int .i64 0) (by simp [results, Try.results15, go_sem]) rfl ⟨rfl, H3.out⟩

set_option maxHeartbeats 1000000 in
theorem halt_any (B V M : Nat) (tg : Nat → Int) (ad : Int → Nat) (f : Value) (b : Bl) (r : Int) (hr : -9223372036854775808 ≤ r ∧ r ≤ 9223372036854775807) (w : World) (h : BlI B V M tg ad f b w) :
    Calls Try.prog 18 #[.pointer (some ⟨B, 0, none⟩), .int .i64 r] w fun e w' => e = .returned (.int .i64 (b.halt r).1) ∧ BlPost B V M tg w (b.halt r).2 w' := by
  obtain ⟨c1, -⟩ := h.top 1 _ rfl
  simp only [Nat.zero_add] at c1
  have hBl := h.ltB
  have hlk := h.look r hr w rfl
  cases h3 : b.rs r with
  | none =>
    have e : b.halt r = (6, b) := by simp [Bl.halt, h3]
    rw [e]
    rw [h3] at hlk
    simp only [ptr] at hlk
    have H := put_by h
    clear h e hr
    go_enter Try.func18, Try.ntmps18
    go_wp2
    exact bodyPost_ret (v := .int .i64 6) (by simp [results, Try.results18, go_sem]) rfl ⟨rfl, H.out.post (Trn.refl _ _)⟩
  | some x =>
    have e : b.halt r = (0, b.setR r { x with stopped := true }) := by simp [Bl.halt, h3]
    rw [e]
    rw [h3] at hlk
    simp only [ptr] at hlk
    obtain ⟨d, g⟩ := h.rs r x h3 14 _ rfl
    simp only [Nat.zero_add] at d g
    have H := put_by (h.setR h3 14 (.bool true) { x with stopped := true } rfl)
    have HT := put_by (Trn.set (w := w) (i := 14) (v := .bool true) (show tg (ad r) ≠ 0 by have := h.tr r x h3; omega))
    clear h e hr h3
    generalize ad r = R at *
    go_enter Try.func18, Try.ntmps18
    go_wp2
    exact bodyPost_ret (v := .int .i64 0) (by simp [results, Try.results18, go_sem]) rfl ⟨rfl, H.out.post HT.out⟩

set_option maxHeartbeats 1000000 in
theorem lose_any (B V M : Nat) (tg : Nat → Int) (ad : Int → Nat) (f : Value) (b : Bl) (n : Nat) (hb : b.Ok n) (who : Int) (w : World) (h : BlI B V M tg ad f b w) :
    Calls Try.prog 17 #[.pointer (some ⟨B, 0, none⟩), .int .i64 who] w fun e w' => e = .returned (.int .i64 (b.lose who).1) ∧ BlPost B V M tg w (b.lose who).2 w' := by
  have cH := put_by (has_any B V M tg ad f b n hb who w h)
  obtain ⟨c2, -⟩ := h.top 2 _ rfl
  simp only [Nat.zero_add] at c2
  have hBl := h.ltB
  cases h1 : b.has who with
  | false =>
    have e : b.lose who = (6, b) := by
      unfold Bl.has at h1
      unfold Bl.lose
      cases h2 : b.get who with
      | none => rfl
      | some l =>
        rw [h2] at h1
        simp only [Bool.not_eq_false'] at h1
        simp [h1]
    rw [e]
    rw [h1] at cH
    have H := put_by h
    clear h e hb c2
    go_enter Try.func17, Try.ntmps17
    go_wp2_with (go_at_call 22; refine cH.out.mono ?_; rintro e w' ⟨rfl, rfl⟩)
    exact bodyPost_ret (v := .int .i64 6) (by simp [results, Try.results17, go_sem]) rfl ⟨rfl, H.out.post (Trn.refl _ _)⟩
  | true =>
    rw [h1] at cH
    unfold Bl.has at h1
    cases h2 : b.get who with
    | none =>
      rw [h2] at h1
      cases h1
    | some l =>
      rw [h2] at h1
      simp only [Bool.not_eq_true'] at h1
      have e : b.lose who = (0, { b with ls := b.ls.set who.toNat { l with lost := true } }) := by simp [Bl.lose, h2, h1]
      rw [e]
      obtain ⟨g0, g1, g2, -⟩ := Bl.get_mem h2
      obtain ⟨k, rfl⟩ : ∃ k : Nat, who = (k : Int) := ⟨who.toNat, by omega⟩
      simp only [Int.toNat_natCast] at g1 g2 e ⊢
      obtain ⟨g, c, rfl, t4, hg, hc⟩ := h.letter g2
      obtain ⟨d, fz⟩ := hc 5 _ rfl
      have H := put_by (h.mark g2 rfl)
      have HT := put_by (Trn.set (w := w) (B := g) (i := k * 6 + 5) (v := .bool true) (show tg g ≠ 0 by rw [t4]; decide))
      have hlt : (k : Int) < (b.ls.length : Int) := by omega
      generalize hbl : ({ b with ls := b.ls.set k { l with lost := true } } : Bl) = b2 at *
      generalize b.ls.length = m at *
      clear h e hb h1 h2 g2 hc hbl
      go_enter Try.func17, Try.ntmps17
      go_wp2_with (go_at_call 22; refine cH.out.mono ?_; rintro e w' ⟨rfl, rfl⟩)
      exact bodyPost_ret (v := .int .i64 0) (by simp [results, Try.results17, go_sem]) rfl ⟨rfl, H.out.post HT.out⟩

end Go.Proofs.Ytppcikfhhmiipaa
