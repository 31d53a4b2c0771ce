/- Whether a layout may be. -/
import Derived.Test.YtcffikfjbpeggabLyFitU
namespace Go.Proofs.Ytcffikfjbpeggab
open Go.ChangeShapes Go.WideShapes Go.ChangeAt Go.RowKit Go.Shelf

/-- so long are the lists of a layout that came in -/
def LyFew (cs : List (List Int)) : Prop := cs.length ≤ 140737488351232 ∧ ∀ c ∈ cs, c.length ≤ 140737488351232

set_option maxHeartbeats 2000000 in
theorem May_any (ep : Int) (a : Option Addr) (cap : Nat) (cs : List (List Int)) (hf : LyFew cs) (w : World) (hL : Lies (kRow kInt) (fun b => b < w.heap.size) w a cap cs) :
    Calls Try.prog 10 #[.agg #[.int .i64 ep, .slice a cs.length cap]] w fun e w' => e = .returned (.bool (mayL ep cs)) ∧ Below w.heap.size w w' := by
  have hb1 : Below w.heap.size w (w.alloc (.cells #[.int .i64 ep, .slice a cs.length cap] 25)) := (Below.refl _ w).alloc (Nat.le_refl _) _
  have h1 := put_by (fitChains_any a cap cs hf.1 hf.2 (w.alloc (.cells #[.int .i64 ep, .slice a cs.length cap] 25)) (hL.later hb1))
  have h2 := put_by (fitUnits_any a cap cs hf.1 hf.2 (w.alloc (.cells #[.int .i64 ep, .slice a cs.length cap] 25)) (hL.move (ok' := fun b => b < (w.alloc (.cells #[.int .i64 ep, .slice a cs.length cap] 25)).heap.size) (Kept.of_below hb1) (fun b hb _ => by simp; omega)))
  have HB := put_by hb1
  obtain ⟨r, hr⟩ : ∃ r, r = mayL ep cs := ⟨_, rfl⟩
  rw [← hr]
  have HR := put_by hr
  clear hr hb1
  have HW : ∀ w', Below (w.alloc (.cells #[.int .i64 ep, .slice a cs.length cap] 25)).heap.size (w.alloc (.cells #[.int .i64 ep, .slice a cs.length cap] 25)) w' → Below w.heap.size w w' := fun w' h => HB.out.trans (h.mono HB.out.size)
  have HX := put_by HW
  clear HW
  go_enter Try.func10, Try.ntmps10
  by_cases g0 : 0 ≤ ep
  · by_cases g1 : ep ≤ 1000000
    · have e0 : r = (fitC cs && fitU cs.flatten) := by rw [HR.out, mayL, decide_eq_true ⟨g0, g1⟩, Bool.true_and]
      cases g2 : fitC cs with
      | false =>
        rw [g2, Bool.false_and] at e0
        subst e0
        go_wp2_with (go_at_call 14; refine (h1.out).mono ?_; rintro e w' ⟨rfl, rfl⟩; rw [g2])
        go_ret
        exact ⟨rfl, HB.out⟩
      | true =>
        rw [g2, Bool.true_and] at e0
        rw [← e0] at h2
        clear e0
        go_wp2_with first
          | (go_at_call 14; refine (h1.out).mono ?_; rintro e w' ⟨rfl, rfl⟩; rw [g2])
          | (go_at_call 15; refine (h2.out).mono ?_; rintro e w' ⟨rfl, hw⟩; have HV := put_by (HX.out _ hw); clear hw)
        go_ret
        exact ⟨rfl, HV.out⟩
    · have e0 : r = false := by rw [HR.out, mayL, decide_eq_false (by omega), Bool.false_and]
      subst e0
      go_wp2
      go_ret
      exact ⟨rfl, HB.out⟩
  · have e0 : r = false := by rw [HR.out, mayL, decide_eq_false (by omega), Bool.false_and]
    subst e0
    go_wp2
    go_ret
    exact ⟨rfl, HB.out⟩

end Go.Proofs.Ytcffikfjbpeggab
