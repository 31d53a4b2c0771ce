/- What the document's TruthOf comes to at every whole number. -/
import Derived.Test.YtnplkdngboogdabValueOf
namespace Go.Proofs.Ytnplkdngboogdab
open Go.ChangeShapes Go.WideShapes Go.ChangeAt Go.RowKit

theorem TruthOf_any (t : Int) (w : World) :
    Calls Try.prog 6 #[.int .i64 t] w fun e w' => e = .returned (.tuple #[.agg #[.int .i64 (ofKind t), .int .i64 (ofInt t), .string ⟨#[]⟩], .int .i64 (ofErr t)]) ∧ Grown w w' ∧ Below w.heap.size w w' := by
  by_cases h0 : t = 0
  · subst h0
    go_enter Try.func6, Try.ntmps6
    go_wp2
    refine bodyPost_ret (v := .tuple #[.agg #[.int .i64 1, .int .i64 0, .string ⟨#[]⟩], .int .i64 0]) (by simp [results, Try.results6, go_sem]) rfl ⟨rfl, ?_, ?_⟩ <;> go_grown
  · by_cases h1 : t = 1
    · subst h1
      go_enter Try.func6, Try.ntmps6
      go_wp2
      refine bodyPost_ret (v := .tuple #[.agg #[.int .i64 0, .int .i64 0, .string ⟨#[]⟩], .int .i64 0]) (by simp [results, Try.results6, go_sem]) rfl ⟨rfl, ?_, ?_⟩ <;> go_grown
    · by_cases h2 : t = 2
      · subst h2
        go_enter Try.func6, Try.ntmps6
        go_wp2
        refine bodyPost_ret (v := .tuple #[.agg #[.int .i64 1, .int .i64 1, .string ⟨#[]⟩], .int .i64 0]) (by simp [results, Try.results6, go_sem]) rfl ⟨rfl, ?_, ?_⟩ <;> go_grown
      · have h : ¬ (0 ≤ t ∧ t ≤ 2) := by omega
        have ek : ofKind t = 0 := by simp [ofKind, h0, h2]
        have ev : ofInt t = 0 := by simp [ofInt, h2]
        have ee : ofErr t = 2 := by simp [ofErr, h]
        have g0 : (t == 0) = false := by simp [h0]
        have g1 : (t == 1) = false := by simp [h1]
        have g2 : (t == 2) = false := by simp [h2]
        rw [ek, ev, ee]
        go_enter Try.func6, Try.ntmps6
        go_wp2
        refine bodyPost_ret (v := .tuple #[.agg #[.int .i64 0, .int .i64 0, .string ⟨#[]⟩], .int .i64 2]) (by simp [results, Try.results6, go_sem]) rfl ⟨rfl, ?_, ?_⟩ <;> go_grown

end Go.Proofs.Ytnplkdngboogdab
