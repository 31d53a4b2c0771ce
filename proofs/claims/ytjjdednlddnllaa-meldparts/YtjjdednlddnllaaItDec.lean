/- Decode: the intent that bytes are of. -/
import Derived.Test.YtjjdednlddnllaaRdAll
import Derived.Test.YtjjdednlddnllaaItMayI
namespace Go.Proofs.Ytjjdednlddnllaa
open Go.ChangeShapes Go.WideShapes Go.ChangeAt Go.RowKit

/-- what bytes are decoded to -/
def DecCode (xs : List Int) (x : Itt) (code : Int) : Prop := (DecIs xs x ∧ code = 0) ∨ ((∀ y, ¬ DecIs xs y) ∧ code = 4 ∧ x = ⟨0, 0, 0, [], []⟩)

theorem DecCode.one {xs : List Int} {x y : Itt} {c d : Int} (h : DecCode xs x c) (k : DecCode xs y d) : x = y ∧ c = d := by
  rcases h with ⟨h1, h2⟩ | ⟨h1, h2, h3⟩
  · rcases k with ⟨k1, k2⟩ | ⟨k1, _⟩
    · exact ⟨h1.one k1, by rw [h2, k2]⟩
    · exact absurd h1 (k1 x)
  · rcases k with ⟨k1, _⟩ | ⟨_, k2, k3⟩
    · exact absurd k1 (h1 y)
    · exact ⟨by rw [h3, k3], by rw [h2, k2]⟩

/-- what Decode comes to -/
def DPost (xs : List Int) (w : World) (e : Ending) (w' : World) : Prop := ∃ (c n s : Int) (ra : Option Addr) (rn rc : Nat) (wa : Option Addr) (wn wc : Nat) (code : Int), e = .returned (.tuple #[.agg #[.int .i64 c, .int .i64 n, .int .i64 s, .slice ra rn rc, .slice wa wn wc], .int .i64 code]) ∧ Below w.heap.size w w' ∧ ∃ (rs : List Ent) (ws : List Wt), rn = rs.length ∧ wn = ws.length ∧ ItIs (fun b => w.heap.size ≤ b) w' rs ws ra rc wa wc ∧ DecCode xs ⟨c, n, s, rs, ws⟩ code

theorem DPost.zero {xs : List Int} {w w' : World} (hb : Below w.heap.size w w') (h : ∀ y, ¬ DecIs xs y) : DPost xs w (.returned (.tuple #[.agg #[.int .i64 0, .int .i64 0, .int .i64 0, .slice none 0 0, .slice none 0 0], .int .i64 4])) w' :=
  ⟨0, 0, 0, none, 0, 0, none, 0, 0, 4, rfl, hb, [], [], rfl, rfl, ⟨Lies.nil _ _ _ (fun _ => rfl), Lies.nil _ _ _ (fun _ => rfl), by simp, by simp⟩, .inr ⟨h, rfl, rfl⟩⟩

/-- the result's cells set anew, all that else is there as it was -/
theorem five_set {W : World} {A N : Nat} {ws : List Value} (hA : Cls W A ws) (hl : ws.length = 5) (hN : N ≤ A) (v0 v1 v2 v3 v4 : Value) :
    Cls (((((W.setCell ⟨A, 0, none⟩ v0).setCell ⟨A, 1, none⟩ v1).setCell ⟨A, 2, none⟩ v2).setCell ⟨A, 3, none⟩ v3).setCell ⟨A, 4, none⟩ v4) A [v0, v1, v2, v3, v4] ∧ Below N W (((((W.setCell ⟨A, 0, none⟩ v0).setCell ⟨A, 1, none⟩ v1).setCell ⟨A, 2, none⟩ v2).setCell ⟨A, 3, none⟩ v3).setCell ⟨A, 4, none⟩ v4) ∧ ∀ ok : Nat → Prop, ¬ ok A → Kept ok W (((((W.setCell ⟨A, 0, none⟩ v0).setCell ⟨A, 1, none⟩ v1).setCell ⟨A, 2, none⟩ v2).setCell ⟨A, 3, none⟩ v3).setCell ⟨A, 4, none⟩ v4) := by
  match ws, hl with
  | [u0, u1, u2, u3, u4], _ =>
    refine ⟨((((hA.set (k := 0) v0).set (k := 1) v1).set (k := 2) v2).set (k := 3) v3).set (k := 4) v4, (((((Below.refl N W).setCell hN _).setCell hN _).setCell hN _).setCell hN _).setCell hN _, fun ok hok => ?_⟩
    have hk : ∀ (V : World) (j : Nat) (u : Value), Kept ok V (V.setCell ⟨A, j, none⟩ u) := fun V j u => kept_old (grown_set u) hok
    exact ((((hk _ _ _).trans (hk _ _ _)).trans (hk _ _ _)).trans (hk _ _ _)).trans (hk _ _ _)

set_option maxRecDepth 100000 in
set_option maxHeartbeats 8000000 in
theorem Decode_any (a : Option Addr) (cap : Nat) (xs : List Int) (w : World) (ho : Octs w a cap xs) (hp : Ples a cap) (hl : ∀ ad, a = some ad → ad.block < w.heap.size) :
    Calls Try.prog 51 #[.slice a xs.length cap] w fun e w' => DPost xs w e w' := by
  generalize hpost : (fun e w' => DPost xs w e w') = Q
  have HP : Hid (∀ e w', DPost xs w e w' → Q e w') := fun e w' h => by rw [← hpost]; exact h
  clear hpost
  have HA := put_by ((Below.refl w.heap.size w).alloc (Nat.le_refl _) (.cells #[.int .i64 0, .int .i64 0, .int .i64 0, .slice none 0 0, .slice none 0 0] 77))
  have HC := put_by (Cls.new w [.int .i64 0, .int .i64 0, .int .i64 0, .slice none 0 0, .slice none 0 0] 77)
  have HS : Hid ((w.alloc (.cells #[.int .i64 0, .int .i64 0, .int .i64 0, .slice none 0 0, .slice none 0 0] 77)).heap.size = w.heap.size + 1) := by simp [Hid]
  by_cases hf : xs.length ≤ 4000
  · have c1 := put_by (readIntent_any a cap xs _ (ho.later HA.out) hp (fun ad e => by have := hl ad e; have := HS.out; omega) hf)
    have H4 := put_by hf
    clear ho hp hl
    obtain ⟨m, hm⟩ : ∃ m, m = xs.length := ⟨_, rfl⟩
    rw [← hm] at c1 hf ⊢
    clear hm
    have hf1 : ¬ (4000 : Int) < (m : Int) := by omega
    go_enter Try.func51, Try.ntmps51
    go_upto_region 1 with (fail)
    generalize w.alloc (.cells #[.int .i64 0, .int .i64 0, .int .i64 0, .slice none 0 0, .slice none 0 0] _) = W0 at HA HC HS c1 ⊢
    go_upto_region 4 with (first
      | (go_at_call 76; (with_reducible refine c1.out.mono ?_); clear c1; rintro e w1 ⟨c, n, s, ra, rn, rc, wa, wn, wc, good, rfl, hb, hx⟩; have H1 := put_by hb; have H2 := put_by hx; clear hb hx))
    have HX := put_by (Cls.new w1 [.int .i64 c, .int .i64 n, .int .i64 s, .slice ra rn rc, .slice wa wn wc] 77)
    have HX2 := put_by ((Below.refl w1.heap.size w1).alloc (Nat.le_refl _) (.cells #[.int .i64 c, .int .i64 n, .int .i64 s, .slice ra rn rc, .slice wa wn wc] 77))
    have HX3 : Hid ((w1.alloc (.cells #[.int .i64 c, .int .i64 n, .int .i64 s, .slice ra rn rc, .slice wa wn wc] 77)).heap.size = w1.heap.size + 1) := by simp [Hid]
    generalize hX : w1.heap.size = X
    rw [hX] at HX
    generalize w1.alloc (.cells #[.int .i64 c, .int .i64 n, .int .i64 s, .slice ra rn rc, .slice wa wn wc] _) = W2 at HX HX2 HX3 ⊢
    have HC2 : Hid (Cls W2 w.heap.size [.int .i64 0, .int .i64 0, .int .i64 0, .slice none 0 0, .slice none 0 0]) := (HC.out.later H1.out).later HX2.out
    have HB2 : Hid (Below w.heap.size w W2 ∧ w.heap.size < X ∧ X < W2.heap.size) := ⟨HA.out.trans ((H1.out.mono HA.out.size).trans (HX2.out.mono (Nat.le_trans HA.out.size H1.out.size))), by have := H1.out.size; have := HS.out; omega, by have := HX3.out; omega⟩
    have HI2 : Hid (∃ rs ws, rn = rs.length ∧ wn = ws.length ∧ ItIs (fun b => w.heap.size < b) W2 rs ws ra rc wa wc ∧ (good = true → encI ⟨c, n, s, rs, ws⟩ = xs) ∧ (∀ x, MayI x → encI x = xs → good = true ∧ x = ⟨c, n, s, rs, ws⟩)) := by
      obtain ⟨rs, ws, g1, g2, g3, g4, g5⟩ := H2.out
      have g6 := g3.later HX2.out
      have hs := HS.out
      exact ⟨rs, ws, g1, g2, ⟨g6.reads.move (Kept.of_below (Below.refl _ _)) (fun b _ hb => by omega), g6.writes.move (Kept.of_below (Below.refl _ _)) (fun b _ hb => by omega), g6.few⟩, g4, g5⟩
    clear HX2 HX3 HC HA H1 H2 HS hX
    cases good with
    | false =>
      have HN : Hid (∀ y, ¬ DecIs xs y) := fun y hy => by
        obtain ⟨rs, ws, g1, g2, g3, g4, g5⟩ := HI2.out
        cases (g5 y hy.1 hy.2.1).1
      clear HI2
      obtain ⟨u0, o0⟩ := HC2.out 0 _ rfl
      obtain ⟨u1, o1⟩ := HC2.out 1 _ rfl
      obtain ⟨u2, o2⟩ := HC2.out 2 _ rfl
      obtain ⟨u3, o3⟩ := HC2.out 3 _ rfl
      obtain ⟨u4, o4⟩ := HC2.out 4 _ rfl
      have HF := put_by (five_set (N := w.heap.size) HC2.out rfl (Nat.le_refl _) (.int .i64 0) (.int .i64 0) (.int .i64 0) (.slice none 0 0) (.slice none 0 0))
      clear HC2
      go_wp2
      generalize ((((W2.setCell _ _).setCell _ _).setCell _ _).setCell _ _).setCell _ _ = W9 at HF ⊢
      obtain ⟨v0, -⟩ := HF.out.1 0 _ rfl
      obtain ⟨v1, -⟩ := HF.out.1 1 _ rfl
      obtain ⟨v2, -⟩ := HF.out.1 2 _ rfl
      obtain ⟨v3, -⟩ := HF.out.1 3 _ rfl
      obtain ⟨v4, -⟩ := HF.out.1 4 _ rfl
      go_wp2
      exact bodyPost_ret (v := .tuple #[.agg #[.int .i64 0, .int .i64 0, .int .i64 0, .slice none 0 0, .slice none 0 0], .int .i64 4]) (by simp [results, Try.results51, go_sem, asAddr, v0, v1, v2, v3, v4]) rfl (HP.out _ _ (DPost.zero (HB2.out.1.trans HF.out.2.1) HN.out))
    | true =>
      obtain ⟨rs, ws, hrn, hwn, hI, he, hu⟩ := HI2.out
      obtain ⟨r, hr⟩ := bool_of (MayI ⟨c, n, s, rs, ws⟩)
      have hM := May_any _ c n s rs ws ra rc wa wc W2 hI r hr
      rw [← hrn, ← hwn] at hM
      obtain ⟨x0, -⟩ := HX.out 0 _ rfl
      obtain ⟨x1, -⟩ := HX.out 1 _ rfl
      obtain ⟨x2, -⟩ := HX.out 2 _ rfl
      obtain ⟨x3, -⟩ := HX.out 3 _ rfl
      obtain ⟨x4, -⟩ := HX.out 4 _ rfl
      have c2 : Hid (Calls Try.prog 70 #[.agg #[.int .i64 c, .int .i64 n, .int .i64 s, .slice ra rn rc, .slice wa wn wc]] W2 fun e w' => e = .returned (.bool r) ∧ Cls w' X [.int .i64 c, .int .i64 n, .int .i64 s, .slice ra rn rc, .slice wa wn wc] ∧ Hid (Cls w' w.heap.size [.int .i64 0, .int .i64 0, .int .i64 0, .slice none 0 0, .slice none 0 0] ∧ Below w.heap.size w w' ∧ ItIs (fun b => w.heap.size < b) w' rs ws ra rc wa wc)) := by
        refine hM.mono ?_
        rintro e w' ⟨rfl, hb⟩
        exact ⟨rfl, HX.out.later hb, HC2.out.later hb, HB2.out.1.trans (hb.mono HB2.out.1.size), hI.later hb⟩
      have HL : Hid ((rn = rs.length ∧ wn = ws.length) ∧ encI ⟨c, n, s, rs, ws⟩ = xs ∧ xs.length ≤ 4000 ∧ (r = true ↔ MayI ⟨c, n, s, rs, ws⟩) ∧ (∀ x, MayI x → encI x = xs → x = ⟨c, n, s, rs, ws⟩)) := ⟨⟨hrn, hwn⟩, he rfl, H4.out, hr, fun x hx e => (hu x hx e).2⟩
      clear hM hrn hwn hI he hu hr HC2 HI2 HX HB2
      cases r with
      | false =>
        have HN : Hid (∀ y, ¬ DecIs xs y) := fun y hy => by
          have e := HL.out.2.2.2.2 y hy.1 hy.2.1
          have := HL.out.2.2.2.1.2 (e ▸ hy.1)
          cases this
        go_upto_region 5 with (first
          | (go_at_call 70; (with_reducible refine c2.out.mono ?_); clear c2; rintro e w3 ⟨rfl, hX3, H3⟩; obtain ⟨y0, -⟩ := hX3 0 _ rfl; obtain ⟨y1, -⟩ := hX3 1 _ rfl; obtain ⟨y2, -⟩ := hX3 2 _ rfl; obtain ⟨y3, -⟩ := hX3 3 _ rfl; obtain ⟨y4, -⟩ := hX3 4 _ rfl; clear hX3))
        have H5 := put_by H3.out.1
        obtain ⟨u0, o0⟩ := H5.out 0 _ rfl
        obtain ⟨u1, o1⟩ := H5.out 1 _ rfl
        obtain ⟨u2, o2⟩ := H5.out 2 _ rfl
        obtain ⟨u3, o3⟩ := H5.out 3 _ rfl
        obtain ⟨u4, o4⟩ := H5.out 4 _ rfl
        have HF := put_by (five_set (N := w.heap.size) H5.out rfl (Nat.le_refl _) (.int .i64 0) (.int .i64 0) (.int .i64 0) (.slice none 0 0) (.slice none 0 0))
        clear H5
        go_wp2
        generalize ((((w3.setCell _ _).setCell _ _).setCell _ _).setCell _ _).setCell _ _ = W9 at HF ⊢
        obtain ⟨v0, -⟩ := HF.out.1 0 _ rfl
        obtain ⟨v1, -⟩ := HF.out.1 1 _ rfl
        obtain ⟨v2, -⟩ := HF.out.1 2 _ rfl
        obtain ⟨v3, -⟩ := HF.out.1 3 _ rfl
        obtain ⟨v4, -⟩ := HF.out.1 4 _ rfl
        go_wp2
        exact bodyPost_ret (v := .tuple #[.agg #[.int .i64 0, .int .i64 0, .int .i64 0, .slice none 0 0, .slice none 0 0], .int .i64 4]) (by simp [results, Try.results51, go_sem, asAddr, v0, v1, v2, v3, v4]) rfl (HP.out _ _ (DPost.zero (H3.out.2.1.trans HF.out.2.1) HN.out))
      | true =>
        go_upto_region 6 with (first
          | (go_at_call 70; (with_reducible refine c2.out.mono ?_); clear c2; rintro e w3 ⟨rfl, hX3, H3⟩; obtain ⟨y0, -⟩ := hX3 0 _ rfl; obtain ⟨y1, -⟩ := hX3 1 _ rfl; obtain ⟨y2, -⟩ := hX3 2 _ rfl; obtain ⟨y3, -⟩ := hX3 3 _ rfl; obtain ⟨y4, -⟩ := hX3 4 _ rfl; clear hX3))
        have H5 := put_by H3.out.1
        obtain ⟨u0, o0⟩ := H5.out 0 _ rfl
        obtain ⟨u1, o1⟩ := H5.out 1 _ rfl
        obtain ⟨u2, o2⟩ := H5.out 2 _ rfl
        obtain ⟨u3, o3⟩ := H5.out 3 _ rfl
        obtain ⟨u4, o4⟩ := H5.out 4 _ rfl
        have HF := put_by (five_set (N := w.heap.size) H5.out rfl (Nat.le_refl _) (.int .i64 c) (.int .i64 n) (.int .i64 s) (.slice ra rn rc) (.slice wa wn wc))
        clear H5
        go_wp2
        generalize ((((w3.setCell _ _).setCell _ _).setCell _ _).setCell _ _).setCell _ _ = W9 at HF ⊢
        obtain ⟨v0, -⟩ := HF.out.1 0 _ rfl
        obtain ⟨v1, -⟩ := HF.out.1 1 _ rfl
        obtain ⟨v2, -⟩ := HF.out.1 2 _ rfl
        obtain ⟨v3, -⟩ := HF.out.1 3 _ rfl
        obtain ⟨v4, -⟩ := HF.out.1 4 _ rfl
        go_wp2
        exact bodyPost_ret (v := .tuple #[.agg #[.int .i64 c, .int .i64 n, .int .i64 s, .slice ra rn rc, .slice wa wn wc], .int .i64 0]) (by simp [results, Try.results51, go_sem, asAddr, v0, v1, v2, v3, v4]) rfl (HP.out _ _ ⟨c, n, s, ra, rn, rc, wa, wn, wc, 0, rfl, H3.out.2.1.trans HF.out.2.1, rs, ws, HL.out.1.1, HL.out.1.2, ⟨H3.out.2.2.reads.move (HF.out.2.2 _ (Nat.lt_irrefl _)) (fun _ _ h => Nat.le_of_lt h), H3.out.2.2.writes.move (HF.out.2.2 _ (Nat.lt_irrefl _)) (fun _ _ h => Nat.le_of_lt h), H3.out.2.2.few⟩, .inl ⟨⟨by have := HL.out.2.2.2.1; simpa using this, HL.out.2.1, HL.out.2.2.1⟩, rfl⟩⟩)
  · have HN : Hid (∀ y, ¬ DecIs xs y) := fun y hy => hf hy.2.2
    clear ho hp hl
    obtain ⟨m, hm⟩ : ∃ m, m = xs.length := ⟨_, rfl⟩
    rw [← hm] at hf ⊢
    clear hm HS
    have hf1 : (4000 : Int) < (m : Int) := by omega
    go_enter Try.func51, Try.ntmps51
    go_upto_region 1 with (fail)
    generalize w.alloc (.cells #[.int .i64 0, .int .i64 0, .int .i64 0, .slice none 0 0, .slice none 0 0] _) = W0 at HA HC ⊢
    obtain ⟨u0, o0⟩ := HC.out 0 _ rfl
    obtain ⟨u1, o1⟩ := HC.out 1 _ rfl
    obtain ⟨u2, o2⟩ := HC.out 2 _ rfl
    obtain ⟨u3, o3⟩ := HC.out 3 _ rfl
    obtain ⟨u4, o4⟩ := HC.out 4 _ rfl
    have HF := put_by (five_set (N := w.heap.size) HC.out rfl (Nat.le_refl _) (.int .i64 0) (.int .i64 0) (.int .i64 0) (.slice none 0 0) (.slice none 0 0))
    clear HC
    go_wp2
    generalize ((((W0.setCell _ _).setCell _ _).setCell _ _).setCell _ _).setCell _ _ = W9 at HF ⊢
    obtain ⟨v0, -⟩ := HF.out.1 0 _ rfl
    obtain ⟨v1, -⟩ := HF.out.1 1 _ rfl
    obtain ⟨v2, -⟩ := HF.out.1 2 _ rfl
    obtain ⟨v3, -⟩ := HF.out.1 3 _ rfl
    obtain ⟨v4, -⟩ := HF.out.1 4 _ rfl
    go_wp2
    exact bodyPost_ret (v := .tuple #[.agg #[.int .i64 0, .int .i64 0, .int .i64 0, .slice none 0 0, .slice none 0 0], .int .i64 4]) (by simp [results, Try.results51, go_sem, asAddr, v0, v1, v2, v3, v4]) rfl (HP.out _ _ (DPost.zero (HA.out.trans HF.out.2.1) HN.out))

end Go.Proofs.Ytjjdednlddnllaa
