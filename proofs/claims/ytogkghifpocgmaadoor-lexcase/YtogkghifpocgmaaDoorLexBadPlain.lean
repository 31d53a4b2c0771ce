/- Joined tokens and something bad behind them: where it is told. No model here. -/
import Derived.Test.YtogkghifpocgmaaDoorLexJoinLen
namespace Go.Proofs.YtogkghifpocgmaaDoor

/-- tokens that may be -/
def AllMay (ts : List Tok) : Prop := ∀ t ∈ ts, may t = true ∧ t.int ≤ 9223372036854775807

theorem joinAns_ok {ts : List Tok} (hm : AllMay ts) (hn : ts.length ≤ 24) : joinAns ts = (joined ts, 0) := by
  have hl := joined_len hm
  unfold joinAns
  rw [if_neg (by omega), if_pos (List.all_eq_true.2 fun t ht => (hm t ht).1), if_neg (by omega)]

/-- from the beginning: joined tokens and what may stand behind them -/
theorem cut_joined {ts : List Tok} {r : List UInt8} (hm : AllMay ts) (hn : ts.length ≤ 300) (hr : Sep r) (hl : (joined ts ++ r).length ≤ 2000) {rs : List Tok} {p : Nat} {e : Int}
    (h : Cuts (joined ts ++ r) ((joined ts).length + gap false r) ts rs p e) : CutIs (joined ts ++ r) rs p e := by
  refine .inr ⟨hl, ?_⟩
  have := cuts_joined (l := joined ts ++ r) ts r 0 [] rs p e (by simp) hm hr (by simpa using hn) (by
    rw [Nat.zero_add, List.drop_left, List.nil_append]
    exact h)
  simpa using this

theorem drop_behind (a b : List UInt8) (n : Nat) : (a ++ b).drop (a.length + n) = b.drop n := by
  rw [← List.drop_drop, List.drop_left]

/-- a token that is refused behind joined ones and a blank -/
theorem cut_bad {ts : List Tok} {r : List UInt8} {e : Int} (hm : AllMay ts) (hn : ts.length ≤ 24) (hr : r ≠ []) (hl : r.length ≤ 7) (hg : gap false r = 0) (ho : one r = .bad e) : CutIs (joined ts ++ 32 :: r) [] ((joined ts).length + 1) e := by
  have hj := joined_len hm
  have hpos := List.length_pos_iff.2 hr
  refine cut_joined hm (by omega) (sep_cons (by decide)) (by simp; omega) ?_
  rw [gap_blank 32 r (by decide), hg, Nat.add_zero]
  refine .bad _ ts e (by simp; omega) (by omega) ?_
  rw [drop_behind]
  exact ho

theorem back_cut {ts : List Tok} (hm : AllMay ts) (hn : ts.length ≤ 24) : CutIs (joined ts) ts 0 0 := by
  have hj := joined_len hm
  have := cut_joined (ts := ts) (r := []) hm (by omega) sep_nil (by simp; omega) (rs := ts) (p := 0) (e := 0) (.done _ _ (by simp [gap]))
  rwa [List.append_nil] at this

end Go.Proofs.YtogkghifpocgmaaDoor
