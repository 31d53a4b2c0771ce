/- What the document's own unit tells of a slot. -/
import Derived.Test.YtegmcpcpnjfiaaaUnRefP
import Derived.Test.YtegmcpcpnjfiaaaTrSmall
import Derived.Deep.CutRange
namespace Go.Proofs.Ytegmcpcpnjfiaaa
open Go.ChangeShapes Go.WideShapes Go.ChangeAt Go.RowKit Go.Maps

def hasR (s : Sl) : Rp := if s.kind = 1 then ⟨0, false, s.data, 0⟩ else ⟨0, decide (s.kind = 2), [], 0⟩

set_option maxHeartbeats 1000000 in
theorem has_any (P M n : Nat) (ok : Nat → Prop) (u : Un) (w : World) (hu : RefI P M n ok u w) (a : Nat) (ha : a < 64) :
    Calls Try.prog 26 #[.pointer (some ⟨P, 0, none⟩), .int .i64 a] w fun e w' => IsRp w (hasR (u.sl a)) e w' ∧ Below w.heap.size w w' := by
  have hc := hu.mp
  have hPl := hu.lt
  obtain ⟨v, ⟨da, dc, rfl, hb, hl⟩, hlk⟩ := hu.map.look a ha
  have hl1 := hlk (w.alloc (.cells #[.int .i64 0, .bool false, .slice none 0 0, .int .i64 0] 36)) (Below.heap_alloc _ _ _ hu.map.lt)
  obtain ⟨a0, c0, e0, ho, -⟩ := hb
  simp only [Value.slice.injEq, true_and] at e0
  obtain ⟨rfl, rfl⟩ := e0
  clear hu hlk
  generalize u.sl a = s at *
  by_cases h1 : s.kind = 1
  · have e1 : hasR s = ⟨0, false, s.data, 0⟩ := by simp [hasR, h1]
    rw [e1]
    rw [h1] at hl1
    have HC : Hid (∀ W, Below w.heap.size w W → Calls Try.prog 27 #[.slice da s.data.length dc] W fun e w' => ∃ ao' cap', e = .returned (.slice ao' s.data.length cap') ∧ Hid (Octs w' ao' cap' s.data ∧ (∀ a, ao' = some a → W.heap.size ≤ a.block)) ∧ Below W.heap.size W w') := put_by fun W hW => (ownBytes_any da dc s.data W (ho.later hW)).mono fun e w' ⟨p, q, h1, h2, h3, h4⟩ => ⟨p, q, h1, ⟨h2, h3⟩, h4⟩
    clear h1 e1 ho
    obtain ⟨d, hd⟩ : ∃ d, d = s.data.length := ⟨_, rfl⟩
    have HD := put_by hd
    rw [← hd] at hl1 HC
    clear hd
    go_enter Try.func26, Try.ntmps26
    go_upto_region 3 with (fail)
    have hq := (Quad.new w (.int .i64 0) (.bool false) (.slice none 0 0) (.int .i64 0) 36).later ((Below.refl _ (w.alloc (.cells #[.int .i64 0, .bool false, .slice none 0 0, .int .i64 0] 36))).alloc (Nat.le_refl _) (.cells #[.int .i64 1, .slice da d dc] 64))
    have hb := ((Below.refl w.heap.size w).alloc (Nat.le_refl _) (.cells #[.int .i64 0, .bool false, .slice none 0 0, .int .i64 0] 36)).trans (((Below.refl _ (w.alloc (.cells #[.int .i64 0, .bool false, .slice none 0 0, .int .i64 0] 36))).alloc (Nat.le_refl _) (.cells #[.int .i64 1, .slice da d dc] 64)).mono (by simp))
    have ht := Two.new (w.alloc (.cells #[.int .i64 0, .bool false, .slice none 0 0, .int .i64 0] 36)) (.int .i64 1) (.slice da d dc) 64
    rw [World.size_alloc] at ht
    clear hl1
    generalize (w.alloc (.cells #[.int .i64 0, .bool false, .slice none 0 0, .int .i64 0] 36)).alloc (.cells #[.int .i64 1, .slice da d dc] 64) = V at *
    have HQ := put_by hq
    have HB := put_by hb
    obtain ⟨t0, t1, -, -⟩ := ht
    clear hq hb hc
    go_wp2_with (go_at_call 27; refine (HC.out _ HB.out).mono ?_; rintro e w' ⟨p, q, rfl, h3, h4⟩; have HQ2 := put_by (HQ.out.later h4); obtain ⟨c0, c1, c2, c3, f0, f1, f2, f3⟩ := HQ2.out; have HB2 := put_by h4; clear h4)
    have hz := HQ2.out.set (.int .i64 0) (.bool false) (.slice p d q) (.int .i64 0)
    show bodyPost _ _ _ _ _ (set4 w' w.heap.size (.int .i64 0) (.bool false) (.slice p d q) (.int .i64 0))
    refine bodyPost_ret (v := .agg #[.int .i64 0, .bool false, .slice p d q, .int .i64 0]) (by simp [results, Try.results26, go_sem, hz.c0, hz.c1, hz.c2, hz.c3]) rfl ⟨?_, below_set4 (HB.out.trans (HB2.out.mono HB.out.size)) (Nat.le_refl _) _ _ _ _⟩
    rw [HD.out]
    exact isRp_set h3.out.1 (fun _ ad e => by have := h3.out.2 ad e; have := HQ.out.lt; omega) _ _ _ _
  · have e1 : hasR s = ⟨0, decide (s.kind = 2), [], 0⟩ := by simp [hasR, h1]
    have h2 : ((s.kind : Int) == 1) = false := by simp; omega
    have h3 : ((s.kind : Int) == 2) = decide (s.kind = 2) := by
      by_cases h : s.kind = 2
      · simp [h]
      · rw [decide_eq_false h]; simp; omega
    rw [e1]
    clear h1 e1 ho
    generalize decide (s.kind = 2) = r at *
    generalize s.kind = k at *
    generalize s.data.length = d at *
    go_enter Try.func26, Try.ntmps26
    go_wp2
    exact bodyPost_ret (v := .agg #[.int .i64 0, .bool r, .slice none 0 0, .int .i64 0]) (by simp [results, Try.results26, go_sem]) rfl ⟨⟨none, 0, 0, rfl, _, rfl, none, 0, rfl, Octs.nil _ _ _ (fun _ => rfl), fun h => absurd rfl h⟩, ((Below.refl _ w).alloc (Nat.le_refl _) _).alloc (by simp) _⟩

end Go.Proofs.Ytegmcpcpnjfiaaa
