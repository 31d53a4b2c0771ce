/- Package lex: whether a token may be: the contract, at every argument. -/
import Derived.Test.YtedinkoapieakaaDoorLexWord
import Derived.Deep.RegionWith
import Derived.Deep.QuietTactic
import Derived.BigQuiet
namespace Go.Proofs.YtedinkoapieakaaDoor
open Go.ChangeShapes Go.WideShapes Go.ChangeAt Go.RowKit

set_option maxHeartbeats 2000000 in
theorem May_any (k n : Int) (s : ByteArray) (w : World) (tab : Marks w) (u8 : U8 w) :
    Calls Tryd.prog 14 #[.agg #[.int .i64 k, .int .i64 n, .string s]] w fun e w' => e = .returned (.bool (may ⟨k, n, bts s⟩)) ∧ Below w.heap.size w w' := by
  have hz := size_bytes s
  have hb : ∀ o, Below w.heap.size w (w.alloc o) := fun o => (Below.refl _ w).alloc (Nat.le_refl _) o
  by_cases h1 : k = 1
  · subst h1
    by_cases hn : n = 0
    · subst hn
      have cW := isWord_any s
      have R : Hid (may ⟨1, 0, bts s⟩ = isWord (bts s)) := by simp [Hid, may]
      generalize isWord (bts s) = b at cW R
      clear hz
      go_enter Tryd.func14, Tryd.ntmps14
      go_wp2_with (go_at_call 41; refine (cW _).mono ?_; rintro e w' ⟨rfl, rfl⟩)
      go_ret
      rw [R.out]
      exact ⟨rfl, hb _⟩
    · have R : Hid (may ⟨1, n, bts s⟩ = false) := by simp [Hid, may, hn]
      clear hz
      go_enter Tryd.func14, Tryd.ntmps14
      go_wp2
      go_ret
      rw [R.out]
      exact ⟨rfl, hb _⟩
  by_cases h2 : k = 2
  · subst h2
    clear h1
    by_cases hn : 0 ≤ n
    · by_cases h0 : bts s = []
      · have e0 : s.toList = [] := by rw [bytes_to_list]; exact h0
        have R : Hid (may ⟨2, n, bts s⟩ = true) := by simp [Hid, may, hn, h0]
        clear hz h0
        go_enter Tryd.func14, Tryd.ntmps14
        go_wp2
        go_ret
        rw [R.out]
        exact ⟨rfl, hb _⟩
      · have e0 : ¬ s.toList = [] := by rw [bytes_to_list]; exact h0
        have e1 : s.toList.isEmpty = false := by cases hx : s.toList <;> simp_all
        have R : Hid (may ⟨2, n, bts s⟩ = false) := by simp [Hid, may, h0]
        clear hz h0
        go_enter Tryd.func14, Tryd.ntmps14
        go_wp2
        go_ret
        rw [R.out]
        exact ⟨rfl, hb _⟩
    · have R : Hid (may ⟨2, n, bts s⟩ = false) := by simp [Hid, may, hn]
      clear hz
      go_enter Tryd.func14, Tryd.ntmps14
      go_wp2
      go_ret
      rw [R.out]
      exact ⟨rfl, hb _⟩
  by_cases h3 : k = 3
  · subst h3
    clear h1 h2
    by_cases hn : n = 0
    · subst hn
      by_cases h4 : s.size ≤ 40
      · have h5 : (s.size : Int) ≤ 40 := by omega
        have cV := fun o => ValidString_any s (by omega) (w.alloc o) (u8.later (hb o))
        have R : Hid (may ⟨3, 0, bts s⟩ = signs (bts s)) := by
          have : (bts s).length ≤ 40 := by omega
          simp [Hid, may, this]
        generalize signs (bts s) = b at cV R
        clear hz
        go_enter Tryd.func14, Tryd.ntmps14
        go_wp2_with (go_at_call 42; refine (cV _).mono ?_; rintro e w' ⟨rfl, hb2⟩)
        go_ret
        rw [R.out]
        exact ⟨rfl, (hb _).trans (hb2.mono (by simp))⟩
      · have h5 : ¬ (s.size : Int) ≤ 40 := by omega
        have R : Hid (may ⟨3, 0, bts s⟩ = false) := by
          have : ¬ (bts s).length ≤ 40 := by omega
          simp [Hid, may, this]
        clear hz
        go_enter Tryd.func14, Tryd.ntmps14
        go_wp2
        go_ret
        rw [R.out]
        exact ⟨rfl, hb _⟩
    · have R : Hid (may ⟨3, n, bts s⟩ = false) := by simp [Hid, may, hn]
      clear hz
      go_enter Tryd.func14, Tryd.ntmps14
      go_wp2
      go_ret
      rw [R.out]
      exact ⟨rfl, hb _⟩
  by_cases h4 : k = 4
  · subst h4
    clear h1 h2 h3
    by_cases hn : n = 0
    · subst hn
      by_cases h0 : bts s = []
      · have e0 : s.toList = [] := by rw [bytes_to_list]; exact h0
        have R : Hid (may ⟨4, 0, bts s⟩ = false) := by simp [Hid, may, h0, isMark]
        clear hz h0
        go_enter Tryd.func14, Tryd.ntmps14
        go_wp2_with (go_region)
        all_goals
          go_ret
          rw [R.out]
          exact ⟨rfl, (hb _).drew⟩
      · have e0 : ¬ s.toList = [] := by rw [bytes_to_list]; exact h0
        have e1 : s.toList.isEmpty = false := by cases hx : s.toList <;> simp_all
        have cM : ∀ o n, Calls Tryd.prog 36 #[.string s] ((w.alloc o).drewN n) fun e w' => e = .returned (.string (str ((bts s).take (markLen (bts s))))) ∧ w' = (w.alloc o).drewN n := fun o n => (markOf_any s ((w.alloc o).drewN n) (tab.later (drewN_below (hb o) n))).mono fun _ _ h => ⟨h.1, h.2.symm⟩
        have R : Hid (may ⟨4, 0, bts s⟩ = ((str ((bts s).take (markLen (bts s)))).toList == s.toList)) := by
          show _ = _
          rw [bytes_to_list, bytes_to_list, bts_str]
          have hm : markLen (bts s) ≤ (bts s).length := by
            match bts s with
            | [] => exact Nat.le_refl _
            | [a] => simp only [markLen]; split <;> simp
            | a :: b :: r => simp only [markLen]; split <;> simp; split <;> simp
          have e2 : may ⟨4, 0, bts s⟩ = decide (markLen (bts s) = (bts s).length) := by simp [may, isMark, h0]
          rw [e2, Bool.eq_iff_iff, decide_eq_true_eq, beq_iff_eq]
          constructor
          · intro h
            show List.take _ (bts s) = bts s
            rw [h, List.take_length]
          · intro h
            have h : List.take _ (bts s) = bts s := h
            have := congrArg List.length h
            rw [List.length_take] at this
            omega
        generalize str ((bts s).take (markLen (bts s))) = m at cM R
        clear hz h0
        go_enter Tryd.func14, Tryd.ntmps14
        have e2 : (s.toList == []) = false := by simpa using e0
        go_wp2
        go_quiet (first | (go_at_call 36; (with_reducible refine Calls.quiet_of_same (cM _ _))))
        go_wp2
        go_ret
        rw [R.out]
        exact ⟨rfl, drewN_below (hb _) _⟩
    · have R : Hid (may ⟨4, n, bts s⟩ = false) := by simp [Hid, may, hn]
      clear hz
      go_enter Tryd.func14, Tryd.ntmps14
      go_wp2_with (go_region)
      all_goals
        go_ret
        rw [R.out]
        exact ⟨rfl, (hb _).drew⟩
  · have R : Hid (may ⟨k, n, bts s⟩ = false) := by simp [Hid, may, h1, h2, h3, h4]
    clear hz
    go_enter Tryd.func14, Tryd.ntmps14
    go_wp2
    go_ret
    rw [R.out]
    exact ⟨rfl, hb _⟩

end Go.Proofs.YtedinkoapieakaaDoor
