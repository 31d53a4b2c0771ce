/- The methods of a unit: seal, store, crash. -/
import Derived.Test.YtfaejcdbjcklpaaUnCode
import Derived.Deep.CutRange
namespace Go.Proofs.Ytfaejcdbjcklpaa
open Go.ChangeShapes Go.WideShapes Go.ChangeAt Go.RowKit

set_option maxHeartbeats 1000000 in
theorem seal_any (B : Nat) (ok : Nat → Prop) (u : Un) (w : World) (hu : UnI B ok u w) (e : Int) :
    Calls Try.prog 13 #[.pointer (some ⟨B, 0, none⟩), .int .i64 e] w fun x w' => StPost B ok w (sealU u e) x w' := by
  have hc := hu.ep
  have hf := hu.free 64 (by omega)
  have hBl := hu.lt
  have HU := put_by hu
  clear hu
  by_cases h1 : e ≤ u.ep
  · have e1 : sealU u e = (rp 18, u) := by simp [sealU, h1]
    rw [e1]
    clear e1
    go_enter Try.func13, Try.ntmps13
    go_wp2
    have hb := (Below.refl _ w).alloc (Nat.le_refl _) (.cells #[.int .i64 18, .bool false, .slice none 0 0, .int .i64 0] 40)
    exact bodyPost_ret (v := .agg #[.int .i64 18, .bool false, .slice none 0 0, .int .i64 0]) (by simp [results, Try.results13, go_sem]) rfl ⟨isRp_bare _ _ _, HU.out.later hb, grown_below hb⟩
  · have d1 : decide (e ≤ u.ep) = false := decide_eq_false h1
    by_cases h2 : 1000000 < e
    · have e1 : sealU u e = (rp 2, u) := by simp [sealU, h1, h2]
      rw [e1]
      clear e1
      go_enter Try.func13, Try.ntmps13
      go_wp2
      have hb := (Below.refl _ w).alloc (Nat.le_refl _) (.cells #[.int .i64 2, .bool false, .slice none 0 0, .int .i64 0] 40)
      exact bodyPost_ret (v := .agg #[.int .i64 2, .bool false, .slice none 0 0, .int .i64 0]) (by simp [results, Try.results13, go_sem]) rfl ⟨isRp_bare _ _ _, HU.out.later hb, grown_below hb⟩
    · have d2 : decide (1000000 < e) = false := decide_eq_false h2
      have e1 : sealU u e = (⟨0, false, [], tailTo u.sl 64⟩, ⟨u.sl, e, u.fr⟩) := by simp [sealU, h1, h2]
      rw [e1]
      clear e1
      go_enter Try.func13, Try.ntmps13
      go_wp2_with (go_at_call 19; refine (tail_any B ok ⟨u.sl, e, u.fr⟩ _ ((HU.out.setEp e).later ((Below.refl _ _).alloc (Nat.le_refl _) _))).mono ?_; rintro _ _ ⟨rfl, rfl⟩)
      have hb := (Below.refl (w.setCell ⟨B, 64, none⟩ (.int .i64 e)).heap.size (w.setCell ⟨B, 64, none⟩ (.int .i64 e))).alloc (Nat.le_refl _) (.cells #[.int .i64 0, .bool false, .slice none 0 0, .int .i64 (tailTo u.sl 64)] 40)
      refine bodyPost_ret (v := .agg #[.int .i64 0, .bool false, .slice none 0 0, .int .i64 (tailTo u.sl 64)]) (by simp [results, Try.results13, go_sem]) rfl ⟨⟨none, 0, 0, rfl, _, rfl, none, 0, rfl, Octs.nil _ _ _ (fun _ => rfl), fun h => absurd rfl h⟩, (HU.out.setEp e).later hb, grown_trans (grown_set2 _) (grown_below hb)⟩

set_option maxHeartbeats 1000000 in
theorem crash_any (B : Nat) (ok : Nat → Prop) (u : Un) (w : World) (hu : UnI B ok u w) (f size : Int) (hf : f = -1 ∨ (0 ≤ f ∧ f < 64)) :
    Calls Try.prog 14 #[.pointer (some ⟨B, 0, none⟩), .int .i64 f, .int .i64 size] w fun x w' => x = .returned (.tuple #[]) ∧ UnI B ok (crashU u f size) w' ∧ w.grownBy w' (some B) := by
  have a1 := asData
  have a2 := nilNoData
  have a3 := junkNoData
  have a4 := trimNoData
  by_cases h1 : f = -1
  · subst h1
    have e1 : crashU u (-1) size = u := by simp [crashU]
    rw [e1]
    have HU := put_by hu
    clear hu hf e1
    go_enter Try.func14, Try.ntmps14
    go_wp2
    exact bodyPost_ret (v := .tuple #[]) (by simp [results, Try.results14, go_sem]) rfl ⟨rfl, HU.out, grown_below (Below.refl _ _)⟩
  · obtain ⟨n, rfl⟩ : ∃ n : Nat, f = n := ⟨f.toNat, by omega⟩
    have hn : n < 64 := by omega
    have hn' : (n : Int) < 64 := by omega
    have hne : ((n : Int) == -1) = false := by simp
    obtain ⟨v, hc, hs⟩ := hu.slot n hn
    have hfz := hu.free n (by omega)
    have HU := put_by hu
    clear hu hf
    rcases hs with ⟨hk, rfl⟩ | ⟨hk, hl, x, rfl, hb⟩ | ⟨hk, rfl⟩ | ⟨hk, rfl⟩
    · have e1 : crashU u n size = u := by simp [crashU, hk]
      rw [e1]
      clear hk e1 h1
      go_enter Try.func14, Try.ntmps14
      go_wp2
      exact bodyPost_end (v := .tuple #[]) (by simp [results, Try.results14, go_sem]) rfl ⟨rfl, HU.out, grown_below (Below.refl _ _)⟩
    · obtain ⟨a, c, rfl, -, -⟩ := hb
      have cF := fun W => frameSize_any a (u.sl n).data.length c hl W
      by_cases hz : size < 8 + ((u.sl n).data.length : Int)
      · have e1 : crashU u n size = u.put n ⟨0, []⟩ := by simp [crashU, hk, hz, h1]
        rw [e1]
        clear hk e1 hl h1
        generalize (u.sl n).data.length = m at cF hz hc
        go_enter Try.func14, Try.ntmps14
        go_wp2_with (go_at_call 20; refine (cF _).mono ?_; rintro _ _ ⟨rfl, rfl⟩)
        exact bodyPost_end (v := .tuple #[]) (by simp [results, Try.results14, go_sem]) rfl ⟨rfl, HU.out.put n hn ⟨0, []⟩ _ (.inl ⟨rfl, rfl⟩), grown_set2 _⟩
      · have e1 : crashU u n size = u := by simp [crashU, hz]
        have d1 := decide_eq_false hz
        rw [e1]
        clear hk e1 hl h1 hz
        generalize (u.sl n).data.length = m at cF d1 hc
        go_enter Try.func14, Try.ntmps14
        go_wp2_with (go_at_call 20; refine (cF _).mono ?_; rintro _ _ ⟨rfl, rfl⟩)
        exact bodyPost_end (v := .tuple #[]) (by simp [results, Try.results14, go_sem]) rfl ⟨rfl, HU.out, grown_below (Below.refl _ _)⟩
    · have e1 : crashU u n size = u := by simp [crashU, hk]
      rw [e1]
      clear hk e1 h1
      go_enter Try.func14, Try.ntmps14
      go_wp2
      exact bodyPost_end (v := .tuple #[]) (by simp [results, Try.results14, go_sem]) rfl ⟨rfl, HU.out, grown_below (Below.refl _ _)⟩
    · have e1 : crashU u n size = u := by simp [crashU, hk]
      rw [e1]
      clear hk e1 h1
      go_enter Try.func14, Try.ntmps14
      go_wp2
      exact bodyPost_end (v := .tuple #[]) (by simp [results, Try.results14, go_sem]) rfl ⟨rfl, HU.out, grown_below (Below.refl _ _)⟩

set_option maxHeartbeats 1000000 in
theorem store_any (B : Nat) (ok : Nat → Prop) (u : Un) (w : World) (hu : UnI B ok u w) (hok : Fresh ok w) (a : Nat) (ha : a < 64) (da : Option Addr) (dc : Nat) (d : List Int) (hd : Octs w da dc d) :
    Calls Try.prog 16 #[.pointer (some ⟨B, 0, none⟩), .int .i64 a, .slice da d.length dc] w fun x w' => StPost B ok w (storeU u a d) x w' := by
  have hnB := put_by hu.not
  have HU0 := put_by (hu.avoid (Nat.le_refl _))
  have HU := put_by hu
  have HD := put_by hd
  have HK := put_by hok
  have hBl := hu.lt
  clear hu hd hok
  by_cases h1 : 4000 < d.length
  · have e1 : storeU u a d = (rp 1, u) := by simp [storeU, h1]
    have h1' : (4000 : Int) < (d.length : Int) := by omega
    rw [e1]
    clear e1 h1
    generalize d.length = n at *
    go_enter Try.func16, Try.ntmps16
    go_wp2
    have hb := (Below.refl _ w).alloc (Nat.le_refl _) (.cells #[.int .i64 1, .bool false, .slice none 0 0, .int .i64 0] 40)
    exact bodyPost_ret (v := .agg #[.int .i64 1, .bool false, .slice none 0 0, .int .i64 0]) (by simp [results, Try.results16, go_sem]) rfl ⟨isRp_bare _ _ _, HU.out.later hb, grown_below hb⟩
  · have h1' : ¬ (4000 : Int) < (d.length : Int) := by omega
    have cC : ∀ W, Below w.heap.size w W → Calls Try.prog 21 #[.slice da d.length dc] W fun e w' => ∃ ao' cap', e = .returned (.slice ao' d.length cap') ∧ Hid (Octs w' ao' cap' d ∧ (∀ a, ao' = some a → W.heap.size ≤ a.block)) ∧ Below W.heap.size W w' := fun W hW => (Clone_any da dc d W (HD.out.later hW)).mono fun e w' ⟨p, q, h1, h2, h3, h4⟩ => ⟨p, q, h1, ⟨h2, h3⟩, h4⟩
    have HC := put_by cC
    clear cC
    obtain ⟨n, hn⟩ : ∃ n, n = d.length := ⟨_, rfl⟩
    have HN := put_by hn
    rw [← hn] at h1' HC ⊢
    clear hn
    by_cases h2 : (u.sl a).kind = 0
    · have e1 : storeU u a d = (rp 0, ⟨(u.put a ⟨1, d⟩).sl, u.ep, a⟩) := by simp [storeU, h1, h2]
      rw [e1]
      clear e1 h1
      go_enter Try.func16, Try.ntmps16
      go_wp2_with (go_at_call 21; refine (HC.out _ ((Below.refl _ w).alloc (Nat.le_refl _) _)).mono ?_; rintro e w' ⟨p, q, rfl, h3, h4⟩)
      have hs4 := h4.size
      simp at hs4
      have hb4 := ((Below.refl _ w).alloc (Nat.le_refl _) (.cells #[.int .i64 0, .bool false, .slice none 0 0, .int .i64 0] 40)).trans (h4.mono (by simp))
      have hv : IsSl (fun b => ok b ∧ b ≠ w.heap.size) w' (.iface 60 (.slice p n q)) ⟨1, d⟩ := .inr (.inl ⟨rfl, by show d.length ≤ 4000; rw [← HN.out]; omega, _, rfl, p, q, by rw [HN.out], h3.out.1, fun _ ad e => by have := h3.out.2 ad e; simp at this; exact ⟨HK.out _ (by omega), by omega⟩⟩)
      refine (put_free B _ u w' (HU0.out.later hb4) a ha _ _ ⟨1, d⟩ hv h2).mono ?_
      rintro e w2 ⟨hr, hu2, hg2⟩
      obtain ⟨p2, n2, q2, rfl, hn2, ho2, hnew2⟩ := hr.parts
      have hs2 := hg2.size
      simp only [rp] at ho2 hnew2 hn2
      have hd2 := hn2
      subst hd2
      simp only [rp]
      go_upto_region 4 with (fail)
      have hb5 := (Below.refl w2.heap.size w2).alloc (Nat.le_refl _) (.cells #[.int .i64 0, .bool false, .slice p2 ([] : List Int).length q2, .int .i64 0] 40)
      have hq5 := Quad.new w2 (.int .i64 0) (.bool false) (.slice p2 ([] : List Int).length q2) (.int .i64 0) 40
      have hu5 := hu2.later hb5
      have hg5 := grown_trans hg2 (grown_below (B := B) hb5)
      have ho5 := ho2.later hb5
      have hq := (((Quad.new w (.int .i64 0) (.bool false) (.slice none 0 0) (.int .i64 0) 40).later h4).move (W' := w2) (hg2.block _ (by omega) (by simp; omega))).later hb5
      have hs5 := hb5.size
      obtain ⟨r, hr9⟩ : ∃ r, r = w2.heap.size := ⟨_, rfl⟩
      rw [← hr9] at hq5 ⊢
      generalize w2.alloc (.cells #[.int .i64 0, .bool false, .slice p2 ([] : List Int).length q2, .int .i64 0] 40) = W5 at *
      have HQ := put_by hq
      obtain ⟨c0, c1, c2, c3, f0, f1, f2, f3⟩ := hq
      obtain ⟨e0, e1, e2, e3, g0, g1, g2, g3⟩ := hq5
      have c65 := hu5.fr
      have f65 := hu5.free 65 (by omega)
      have hB2 : B ≠ r := by omega
      have hB1 : B ≠ w.heap.size := by omega
      have h12 : r ≠ w.heap.size := by omega
      have HU5 := put_by hu5
      have HG5 := put_by hg5
      have HB4 := put_by hb4
      have HO5 := put_by ho5
      have hr10 : w.heap.size < r := by omega
      clear hr hu2 hg2 hv h3 h4 hb4 hb5 hu5 hg5 hr9 hs5 hs4 hs2 ho2 hnew2 ho5
      go_wp2
      have hz := (HQ.out.move (W' := W5.setCell ⟨B, 65, none⟩ (.int .i64 a)) (heap_setCell_other _ _ _ _ (show w.heap.size ≠ B by omega))).set (.int .i64 0) (.bool false) (.slice p2 0 q2) (.int .i64 0)
      show bodyPost _ _ _ _ _ (set4 (W5.setCell ⟨B, 65, none⟩ (.int .i64 a)) w.heap.size (.int .i64 0) (.bool false) (.slice p2 0 q2) (.int .i64 0))
      refine bodyPost_ret (v := .agg #[.int .i64 0, .bool false, .slice p2 0 q2, .int .i64 0]) (by simp [results, Try.results16, go_sem, hz.c0, hz.c1, hz.c2, hz.c3]) rfl ⟨?_, ?_, ?_⟩
      · exact isRp_set (data := []) (Octs.nil _ _ _ HO5.out.2.2.1) (fun hx => absurd rfl hx) _ _ _ _
      · exact (HU5.out.setFr a (by omega)).off (by omega) hnB.out _ _ _ _
      · exact grown_out (grown_trans (grown_trans (grown_below HB4.out) HG5.out) (grown_set2 _)) (Nat.le_refl _) _ _ _ _
    · have e1 : storeU u a d = (hasSl (u.sl a), u) := by simp [storeU, h1, h2]
      rw [e1]
      clear e1 h1
      have hP : ∀ (W : World) (v : Value), UnI B (fun b => ok b ∧ b ≠ w.heap.size) u W → Calls Try.prog 18 #[.pointer (some ⟨B, 0, none⟩), .int .i64 a, v] W fun e w' => StPost B (fun b => ok b ∧ b ≠ w.heap.size) W (hasSl (u.sl a), u) e w' := fun W v h => put_full B _ u W h a ha v h2
      have hcode : ((hasSl (u.sl a)).code == 0) = false := by
        simp only [hasSl]
        split <;> rfl
      have HP := put_by hP
      clear hP
      generalize hasSl (u.sl a) = rs at *
      go_enter Try.func16, Try.ntmps16
      go_wp2_with (go_at_call 21; refine (HC.out _ ((Below.refl _ w).alloc (Nat.le_refl _) _)).mono ?_; rintro e w' ⟨p, q, rfl, h3, h4⟩)
      have hs4 := h4.size
      simp at hs4
      have hb4 := ((Below.refl _ w).alloc (Nat.le_refl _) (.cells #[.int .i64 0, .bool false, .slice none 0 0, .int .i64 0] 40)).trans (h4.mono (by simp))
      refine (HP.out w' _ (HU0.out.later hb4)).mono ?_
      rintro e w2 ⟨hr, hu2, hg2⟩
      obtain ⟨p2, n2, q2, rfl, hn2, ho2, hnew2⟩ := hr.parts
      have hs2 := hg2.size
      have HN2 := put_by hn2
      clear hn2
      go_upto_region 4 with (fail)
      have hb5 := (Below.refl w2.heap.size w2).alloc (Nat.le_refl _) (.cells #[.int .i64 rs.code, .bool rs.junk, .slice p2 n2 q2, .int .i64 rs.tail] 40)
      have hq5 := Quad.new w2 (.int .i64 rs.code) (.bool rs.junk) (.slice p2 n2 q2) (.int .i64 rs.tail) 40
      have hu5 := hu2.later hb5
      have hg5 := grown_trans hg2 (grown_below (B := B) hb5)
      have ho5 := ho2.later hb5
      have hq := (((Quad.new w (.int .i64 0) (.bool false) (.slice none 0 0) (.int .i64 0) 40).later h4).move (W' := w2) (hg2.block _ (by omega) (by simp; omega))).later hb5
      have hs5 := hb5.size
      obtain ⟨r, hr9⟩ : ∃ r, r = w2.heap.size := ⟨_, rfl⟩
      rw [← hr9] at hq5 ⊢
      generalize w2.alloc (.cells #[.int .i64 rs.code, .bool rs.junk, .slice p2 n2 q2, .int .i64 rs.tail] 40) = W5 at *
      have HQ := put_by hq
      obtain ⟨c0, c1, c2, c3, f0, f1, f2, f3⟩ := hq
      obtain ⟨e0, e1, e2, e3, g0, g1, g2, g3⟩ := hq5
      have h12 : r ≠ w.heap.size := by omega
      have HU5 := put_by hu5
      have HG5 := put_by hg5
      have HB4 := put_by hb4
      have HO5 := put_by ho5
      have HW2 := put_by hnew2
      have hs9 := put_by hs4
      clear hr hu2 hg2 h3 h4 hb4 hb5 hu5 hg5 hr9 hs5 hs4 hs2 ho2 hnew2 ho5
      go_wp2
      have hz := HQ.out.set (.int .i64 rs.code) (.bool rs.junk) (.slice p2 n2 q2) (.int .i64 rs.tail)
      show bodyPost _ _ _ _ _ (set4 W5 w.heap.size (.int .i64 rs.code) (.bool rs.junk) (.slice p2 n2 q2) (.int .i64 rs.tail))
      refine bodyPost_ret (v := .agg #[.int .i64 rs.code, .bool rs.junk, .slice p2 n2 q2, .int .i64 rs.tail]) (by simp [results, Try.results16, go_sem, hz.c0, hz.c1, hz.c2, hz.c3]) rfl ⟨?_, ?_, ?_⟩
      · have e := HN2.out
        subst e
        exact isRp_set (w := w) HO5.out (fun hx ad e => by have := HW2.out hx ad e; have := hs9.out; omega) _ _ _ _
      · exact HU5.out.off (by omega) hnB.out _ _ _ _
      · exact grown_out (grown_trans (grown_below HB4.out) HG5.out) (Nat.le_refl _) _ _ _ _

end Go.Proofs.Ytfaejcdbjcklpaa
