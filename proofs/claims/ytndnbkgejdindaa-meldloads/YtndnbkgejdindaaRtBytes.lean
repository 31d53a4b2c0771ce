/- The reference's comparisons of bytes, as texts. -/
import Derived.Test.YtndnbkgejdindaaApBase
import Derived.Laws.BytesArg
import Derived.Lib.Bytes
namespace Go.Proofs.Ytndnbkgejdindaa
open Go.ChangeShapes Go.WideShapes Go.ChangeAt Go.RowKit

theorem octs_text {w : World} {ao : Option Addr} {cap : Nat} {xs : List Int} (h : Octs w ao cap xs) : (convert 34 9 (.slice ao xs.length cap)).run Try.prog w = .ok (.string (strOfNums xs)) w := by
  cases ao with
  | none =>
    have h0 : cap = 0 := h.2.2.1 rfl
    have h1 : xs = [] := List.length_eq_zero_iff.1 (by have := h.1; omega)
    subst h0 h1
    exact run_convert_bytes_nil (P := Try.prog) w 34 5 Try.underlying34 Try.underlying5 0 0 9 Try.underlying9
  | some ad =>
    rcases h.2.2.2.2 with q | ⟨b, off, e, hc⟩
    · subst q
      exact run_convert_bytes_back (P := Try.prog) w 34 9 5 ad cap [] Try.underlying34 Try.underlying5 Try.underlying9 (fun j hj => absurd hj (Nat.not_lt_zero _))
    · cases e
      exact run_convert_bytes_arg (P := Try.prog) w 34 5 Try.underlying34 Try.underlying5 b off xs.length cap xs rfl hc 9 Try.underlying9

theorem bytesOf_inj {xs ys : List Int} (hx : ∀ y ∈ xs, 0 ≤ y ∧ y ≤ 255) (hy : ∀ y ∈ ys, 0 ≤ y ∧ y ≤ 255) (h : Lib.bytesOf xs = Lib.bytesOf ys) : xs = ys := by
  have h1 : xs.map (fun n => UInt8.ofNat n.toNat) = ys.map (fun n => UInt8.ofNat n.toNat) := h
  clear h
  induction xs generalizing ys with
  | nil =>
    cases ys with
    | nil => rfl
    | cons y ys => simp at h1
  | cons x xs ih =>
    cases ys with
    | nil => simp at h1
    | cons y ys =>
      simp only [List.map_cons, List.cons.injEq] at h1
      have hx0 := hx x List.mem_cons_self
      have hy0 := hy y List.mem_cons_self
      have e : x = y := by
        have := congrArg UInt8.toNat h1.1
        simp only [UInt8.toNat_ofNat'] at this
        omega
      rw [e, ih (fun z hz => hx z (List.mem_cons_of_mem _ hz)) (fun z hz => hy z (List.mem_cons_of_mem _ hz)) h1.2]

theorem bytesSame_any (ao bo : Option Addr) (ca cb : Nat) (xs ys : List Int) (w : World) (hx : Octs w ao ca xs) (hy : Octs w bo cb ys) :
    Calls Try.prog 26 #[.slice ao xs.length ca, .slice bo ys.length cb] w fun e w' => e = .returned (.bool (decide (xs = ys))) ∧ w' = w := by
  have e1 := octs_text hx
  have e2 := octs_text hy
  have e3 : ((strOfNums xs).toList == (strOfNums ys).toList) = decide (xs = ys) := by
    rw [Lib.strOfNums_toList, Lib.strOfNums_toList]
    by_cases h : xs = ys
    · simp [h]
    · rw [decide_eq_false h, beq_eq_false_iff_ne]
      exact fun e => h (bytesOf_inj hx.2.2.2.1 hy.2.2.2.1 e)
  generalize decide (xs = ys) = r at e3 ⊢
  generalize strOfNums xs = s at e1 e3
  generalize strOfNums ys = t at e2 e3
  generalize xs.length = n at e1 ⊢
  generalize ys.length = m at e2 ⊢
  clear hx hy
  go_enter Try.func26, Try.ntmps26
  go_wp2
  go_ret
  exact ⟨rfl, rfl⟩

end Go.Proofs.Ytndnbkgejdindaa
