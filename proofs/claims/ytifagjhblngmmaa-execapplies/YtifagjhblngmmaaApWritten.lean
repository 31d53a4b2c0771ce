/- One write, in memory. -/
import Derived.Test.YtifagjhblngmmaaApWrite
import Derived.Deep.CutRange
namespace Go.Proofs.Ytifagjhblngmmaa
open Go.ChangeShapes Go.WideShapes Go.ChangeAt Go.RowKit

/-- the write's own variable, and all that was there -/
structure WrB (w : World) (ku vu : Value) (gn : Bool) (W : World) : Prop where
  below : Below w.heap.size w W
  size : w.heap.size < W.heap.size
  c0 : W.cell? ⟨w.heap.size, 0, none⟩ = some ku
  c1 : W.cell? ⟨w.heap.size, 1, none⟩ = some vu
  c2 : W.cell? ⟨w.heap.size, 2, none⟩ = some (.bool gn)

theorem WrB.later {w W W' : World} {ku vu : Value} {gn : Bool} (h : WrB w ku vu gn W) (hb : Below W.heap.size W W') : WrB w ku vu gn W' :=
  ⟨h.below.trans (hb.mono h.below.size), Nat.lt_of_lt_of_le h.size hb.size, (hb.cell (p := ⟨w.heap.size, 0, none⟩) h.size).trans h.c0, (hb.cell (p := ⟨w.heap.size, 1, none⟩) h.size).trans h.c1, (hb.cell (p := ⟨w.heap.size, 2, none⟩) h.size).trans h.c2⟩

theorem WrB.new (w : World) (ku vu : Value) (gn : Bool) (ty : TypeId) : WrB w ku vu gn (w.alloc (.cells #[ku, vu, .bool gn] ty)) := ⟨(Below.refl _ w).alloc (Nat.le_refl _) _, by simp, by simp, by simp, by simp⟩

theorem InsPost.from {B : Nat} {l : List Ent} {w W : World} {e : Ending} {w' : World} (hb : Below B w W) (h : InsPost B l W e w') : InsPost B l w e w' := by
  obtain ⟨a, n, c, h1, h2, h3⟩ := h
  exact ⟨a, n, c, h1, h2, hb.trans h3⟩

set_option maxRecDepth 100000 in
set_option maxHeartbeats 8000000 in
theorem written_any (B : Nat) (l : List Ent) (hl : l.length ≤ 80000) (ha : Asc l) (a : Option Addr) (cap : Nat) (key val : List Int) (gn : Bool) (ka va : Option Addr) (kc vc : Nat) (w : World) (hBw : B ≤ w.heap.size) (hR : Own B w (.slice a l.length cap) l)
    (hk : IsBody w (fun b => b < B) (.slice ka key.length kc) key) (hv : IsBody w (fun b => b < B) (.slice va val.length vc) val) :
    Calls Try.prog 8 #[.slice a l.length cap, .agg #[.slice ka key.length kc, .slice va val.length vc, .bool gn]] w fun e w' => InsPost B (wrK l ⟨key, val, gn⟩) w e w' := by
  obtain ⟨ka', kc', ek, hko, -⟩ := id hk
  simp only [Value.slice.injEq] at ek
  obtain ⟨rfl, -, rfl⟩ := ek
  have cF : Hid (∀ W : World, WrB w (.slice ka key.length kc) (.slice va val.length vc) gn W → Calls Try.prog 16 #[.slice a l.length cap, .slice ka key.length kc] W fun e w' => ∃ (p : Nat) (q : Bool), e = .returned (.tuple #[.int .i64 p, .bool q]) ∧ Hid (WrB w (.slice ka key.length kc) (.slice va val.length vc) gn w' ∧ ∃ l1 r, l = l1 ++ r ∧ (∀ y ∈ l1, ahead y.1 key = true) ∧ (∀ y ∈ r, ahead y.1 key = false) ∧ p = l1.length ∧ q = headIs r key)) := fun W hW => by
    refine (found_any (fun _ => True) l (by omega) ha a cap ka kc key W ((hR.later hW.below).lies) (hko.later hW.below)).mono ?_
    rintro e w' ⟨l1, r, h1, h2, h3, rfl, h4⟩
    exact ⟨_, _, rfl, hW.later h4, l1, r, h1, h2, h3, rfl, rfl⟩
  have HE : Hid (∀ W : World, Below w.heap.size w W → Own B W (.slice a l.length cap) l ∧ kEnt.rel (fun b => b < B) W (key, val) [.slice ka key.length kc, .slice va val.length vc] ∧ Below B w W) := fun W hW => ⟨hR.later hW, ⟨_, _, rfl, hk.later hW, hv.later hW⟩, hW.mono hBw⟩
  have H0 := put_by (WrB.new w (.slice ka key.length kc) (.slice va val.length vc) gn 32)
  have HA := put_by (And.intro ha (And.intro hl hBw))
  -- the four ways
  have cD : Hid (∀ (W : World) (p : Nat), (WrB w (.slice ka key.length kc) (.slice va val.length vc) gn W ∧ p < l.length ∧ wrK l ⟨key, val, gn⟩ = l.take p ++ l.drop (p + 1)) → ∃ g, a = some ⟨g, 0, none⟩ ∧ Calls Try.prog 17 #[.slice a l.length cap, .int .i64 p, .int .i64 ((p : Int) + 1)] W fun e w' => ∃ (a' : Option Addr) (n' c' : Nat), e = .returned (.slice a' n' c') ∧ Hid (InsPost B (wrK l ⟨key, val, gn⟩) w (.returned (.slice a' n' c')) w')) := fun W p ⟨hW, hp, e⟩ => by
    obtain ⟨h1, h2, h3⟩ := HE.out W hW.below
    obtain ⟨g, rfl, -, -⟩ := h1.at0 (by rintro rfl; simp at hp)
    refine ⟨g, rfl, ?_⟩
    have := delete_any B l p hp g cap W h1
    rw [show ((p + 1 : Nat) : Int) = (p : Int) + 1 by omega] at this
    refine this.mono ?_
    rintro e' w' ⟨n', c', rfl, q1, q2⟩
    exact ⟨_, _, _, rfl, _, _, _, rfl, by rw [e]; exact q1, h3.trans q2⟩
  have cI : Hid (∀ (W : World) (p : Nat) (ty : TypeId), ty = 40 → (WrB w (.slice ka key.length kc) (.slice va val.length vc) gn W ∧ p ≤ l.length ∧ wrK l ⟨key, val, gn⟩ = l.take p ++ (key, val) :: l.drop p) → Calls Try.prog 18 #[.slice a l.length cap, .int .i64 p, .slice (some ⟨W.heap.size, 0, none⟩) 1 1] (W.alloc (.cells #[.slice ka key.length kc, .slice va val.length vc] ty)) fun e w' => ∃ (a' : Option Addr) (n' c' : Nat), e = .returned (.slice a' n' c') ∧ Hid (InsPost B (wrK l ⟨key, val, gn⟩) w (.returned (.slice a' n' c')) w')) := fun W p ty hty ⟨hW, hp, e⟩ => by
    subst hty
    have hb : Below W.heap.size W (W.alloc (.cells #[.slice ka key.length kc, .slice va val.length vc] 40)) := (Below.refl _ W).alloc (Nat.le_refl _) _
    obtain ⟨h1, h2, h3⟩ := HE.out _ (hW.below.trans (hb.mono hW.below.size))
    refine (insert_any B l (by have := HA.out.2.1; omega) p hp a cap W.heap.size _ _ (key, val) _ (by have := hW.below.size; have := HA.out.2.2; simp; omega) (by simp) h1 ⟨heap_alloc_new W _, h2⟩ (fun g hg => ?_)).mono ?_
    · have := (rows_lt (HE.out W hW.below).1 g hg).2
      omega
    · rintro e' w' ⟨a', n', c', rfl, q1, q2⟩
      exact ⟨_, _, _, rfl, _, _, _, rfl, by rw [e]; exact q1, h3.trans q2⟩
  have cS : Hid (∀ (W : World) (p : Nat), (WrB w (.slice ka key.length kc) (.slice va val.length vc) gn W ∧ p < l.length ∧ wrK l ⟨key, val, gn⟩ = l.take p ++ (key, val) :: l.drop (p + 1)) → ∃ g, a = some ⟨g, 0, none⟩ ∧ (∃ y0, W.cell? ⟨g, p * 2, none⟩ = some y0) ∧ (∃ y1, W.cell? ⟨g, p * 2 + 1, none⟩ = some y1) ∧ W.frozen? ⟨g, p * 2, none⟩ = false ∧ W.frozen? ⟨g, p * 2 + 1, none⟩ = false ∧
      Hid (InsPost B (wrK l ⟨key, val, gn⟩) w (.returned (.slice (some ⟨g, 0, none⟩) l.length cap)) ((W.setCell ⟨g, p * 2, none⟩ (.slice ka key.length kc)).setCell ⟨g, p * 2 + 1, none⟩ (.slice va val.length vc)))) := fun W p ⟨hW, hp, e⟩ => by
    obtain ⟨h1, h2, h3⟩ := HE.out W hW.below
    obtain ⟨g, rfl, -, -⟩ := h1.at0 (by rintro rfl; simp at hp)
    obtain ⟨q1, q2, q3, q4, q5, q6⟩ := set_any hp h1 h2
    exact ⟨g, rfl, q1, q2, q3, q4, _, _, _, rfl, by rw [e]; exact q5, h3.trans q6⟩
  have cN : Hid (∀ (W : World), (WrB w (.slice ka key.length kc) (.slice va val.length vc) gn W ∧ wrK l ⟨key, val, gn⟩ = l) → InsPost B (wrK l ⟨key, val, gn⟩) w (.returned (.slice a l.length cap)) W) := fun W ⟨hW, e⟩ => by
    obtain ⟨h1, h2, h3⟩ := HE.out W hW.below
    exact ⟨_, _, _, rfl, by rw [e]; exact h1, h3⟩
  have HW : Hid (∀ (p : Nat) (q : Bool), (∃ l1 r, l = l1 ++ r ∧ (∀ y ∈ l1, ahead y.1 key = true) ∧ (∀ y ∈ r, ahead y.1 key = false) ∧ p = l1.length ∧ q = headIs r key) →
      (q = true → p < l.length ∧ (gn = true → wrK l ⟨key, val, gn⟩ = l.take p ++ l.drop (p + 1)) ∧ (gn = false → wrK l ⟨key, val, gn⟩ = l.take p ++ (key, val) :: l.drop (p + 1))) ∧
      (q = false → p ≤ l.length ∧ (gn = true → wrK l ⟨key, val, gn⟩ = l) ∧ (gn = false → wrK l ⟨key, val, gn⟩ = l.take p ++ (key, val) :: l.drop p))) := fun p q ⟨l1, r, h1, h2, h3, h4, h5⟩ => by
    subst h4
    refine ⟨fun hq => ?_, fun hq => ?_⟩
    · obtain ⟨g1, g2, g3⟩ := wr_yes val HA.out.1 h1 h2 (h5.symm.trans hq)
      exact ⟨g1, fun e => by rw [e]; exact g2, fun e => by rw [e]; exact g3⟩
    · obtain ⟨g1, g2, g3⟩ := wr_no val HA.out.1 h1 h2 h3 (h5.symm.trans hq)
      exact ⟨g1, fun e => by rw [e]; exact g2, fun e => by rw [e]; exact g3⟩
  clear hk hv hko hR ha
  generalize hpost : (fun e w' => InsPost B (wrK l ⟨key, val, gn⟩) w e w') = R
  have HP : Hid (∀ e w', InsPost B (wrK l ⟨key, val, gn⟩) w e w' → R e w') := fun e w' h => by rw [← hpost]; exact h
  clear hpost
  clear HA
  generalize l.length = n at *
  generalize key.length = km at *
  generalize val.length = vm at *
  clear hBw
  cases gn with
  | true =>
    go_enter Try.func8, Try.ntmps8
    go_wp2_with (first
      | (go_at_call 16; (with_reducible refine (cF.out _ H0.out).mono ?_); clear cF; rintro e w1 ⟨p, q, rfl, H1⟩; obtain ⟨-, -, k0, k1, k2⟩ := id H1.out.1; refine hidGoal ?_))
    have hW := HW.out p q H1.out.2
    have hT := Two.new w1 (.slice ka km kc) (.slice va vm vc) 40
    have hB2 := H1.out.1.later ((Below.refl _ w1).alloc (Nat.le_refl _) (.cells #[.slice ka km kc, .slice va vm vc] 40))
    unfold Hid
    go_upto_region 3 with (fail)
    generalize w1.alloc (.cells #[.slice ka km kc, .slice va vm vc] 40) = W2 at hT hB2 ⊢
    generalize w1.heap.size = nb at hT ⊢
    obtain ⟨t0, t1, -, -⟩ := hT
    have HB2 := put_by hB2
    obtain ⟨-, -, b0, b1, b2⟩ := hB2
    clear k0 k1 k2 HW H1 H0
    cases q with
    | true =>
      have hp : p < n := (hW.1 rfl).1
      obtain ⟨g, rfl, cc⟩ := cD.out W2 p ⟨HB2.out, hp, (hW.1 rfl).2.1 (by simp)⟩
      have CC := put_by cc
      clear cc hW
      go_wp2_with (first
        | (go_at_call 17; (with_reducible refine CC.out.mono ?_); rintro e w3 ⟨a', n', c', rfl, H3⟩))
      exact HP.out _ _ H3.out
    | false =>
      have hp : p ≤ n := (hW.2 rfl).1
      have H2 := put_by (cN.out W2 ⟨HB2.out, (hW.2 rfl).2.1 (by simp)⟩)
      clear hW
      go_wp2
      exact HP.out _ _ H2.out
  | false =>
    go_enter Try.func8, Try.ntmps8
    go_wp2_with (first
      | (go_at_call 16; (with_reducible refine (cF.out _ H0.out).mono ?_); clear cF; rintro e w1 ⟨p, q, rfl, H1⟩; obtain ⟨-, -, k0, k1, k2⟩ := id H1.out.1; refine hidGoal ?_))
    have hW := HW.out p q H1.out.2
    have hT := Two.new w1 (.slice ka km kc) (.slice va vm vc) 40
    have hB2 := H1.out.1.later ((Below.refl _ w1).alloc (Nat.le_refl _) (.cells #[.slice ka km kc, .slice va vm vc] 40))
    unfold Hid
    go_upto_region 3 with (fail)
    generalize w1.alloc (.cells #[.slice ka km kc, .slice va vm vc] 40) = W2 at hT hB2 ⊢
    generalize w1.heap.size = nb at hT ⊢
    obtain ⟨t0, t1, -, -⟩ := hT
    have HB2 := put_by hB2
    obtain ⟨-, -, b0, b1, b2⟩ := hB2
    clear k0 k1 k2 HW H1 H0
    cases q with
    | true =>
      have hp : p < n := (hW.1 rfl).1
      obtain ⟨g, rfl, ⟨y0, hy0⟩, ⟨y1, hy1⟩, f0, f1, H3⟩ := cS.out W2 p ⟨HB2.out, hp, (hW.1 rfl).2.2 (by simp)⟩
      clear hW
      go_wp2
      exact HP.out _ _ H3.out
    | false =>
      have hp : p ≤ n := (hW.2 rfl).1
      have H2 := put_by (cI.out W2 p 40 rfl ⟨HB2.out, hp, (hW.2 rfl).2.2 (by simp)⟩)
      clear hW
      go_wp2_with (first
        | (go_at_call 18; (with_reducible refine H2.out.mono ?_); rintro e w3 ⟨a', n', c', rfl, H3⟩))
      exact HP.out _ _ H3.out

end Go.Proofs.Ytifagjhblngmmaa
