/- What all of a few slots are asked; jobs, one behind the other. -/
import Derived.Test.YtfaejcdbjcklpaaUnJobsP
import Derived.Test.YtfaejcdbjcklpaaTrOneB
namespace Go.Proofs.Ytfaejcdbjcklpaa
open Go.ChangeShapes Go.WideShapes Go.ChangeAt Go.RowKit

def askK (ep : Int) (n : Nat) : List Jb := (List.range n).map fun (a : Nat) => ⟨2, ep, (a : Int), []⟩

theorem askK_succ (ep : Int) (n : Nat) : askK ep (n + 1) = askK ep n ++ [⟨2, ep, (n : Int), []⟩] := by
  simp [askK, List.range_succ]

theorem askK_length (ep : Int) (n : Nat) : (askK ep n).length = n := by simp [askK]

/-- a job without data -/
theorem bare_job (ok : Nat → Prop) (W : World) (k e a : Int) : kJb.rel ok W ⟨k, e, a, []⟩ [.int .i64 k, .int .i64 e, .int .i64 a, .slice none 0 0] :=
  ⟨_, rfl, none, 0, rfl, Octs.nil _ _ _ (fun _ => rfl), fun h => absurd rfl h⟩

set_option maxHeartbeats 800000 in
theorem look_any (ep : Int) (w : World) :
    Calls Try.prog 8 #[.int .i64 ep] w fun e w' => ∃ (a : Option Addr) (c : Nat), e = .returned (.slice a 6 c) ∧ Rows kJb (fun b => w.heap.size ≤ b) w' w.heap.size 29 (.slice a 6 c) (askK ep 6) ∧ Below w.heap.size w w' := by
  go_enter Try.func8, Try.ntmps8
  go_wp2
  go_loopw [3, 4] (fun s i wr => ∃ (k : Nat) (a : Option Addr) (c : Nat), k ≤ 6 ∧ i = .int .i64 k ∧ s = .slice a k c ∧ Hid (Rows kJb (fun b => w.heap.size ≤ b) wr w.heap.size 29 (.slice a k c) (askK ep k) ∧ Below w.heap.size w wr)) (fun _ i _ => 6 - (intOf i).toNat)
  case atStart => exact ⟨0, none, 0, Nat.zero_le _, rfl, rfl, Rows.nil _ _ _ _ _, Below.refl _ _⟩
  case round =>
    obtain ⟨k, a, c, hk, rfl, rfl, HR⟩ := hrel
    by_cases hlt : k < 6
    · have ik : (k : Int) < 6 := by omega
      go_wp2_with (at_builtin; refine wpList_append_one eltJb rfl (.tmp 9) (.tmp 13) rfl w.heap.size (.slice a k c) (askK ep k) rfl HR.out.1 ⟨2, ep, (k : Int), []⟩ [.int .i64 2, .int .i64 ep, .int .i64 (k : Int), .slice none 0 0] _ _ rfl rfl (bare_job _ _ _ _ _) ?_ (by rw [askK_length]; omega) (by decide) HR.out.2.size ?_)
      · exact fun b hb => by have := HR.out.2.size; omega
      · intro f' w3 hR3 hg3 hat3
        obtain ⟨a6, c6, e6⟩ := rows_form hR3
        have hl6 : (askK ep k ++ [(⟨2, ep, (k : Int), []⟩ : Jb)]).length = k + 1 := by simp [askK_length]
        rw [hl6] at e6
        subst e6
        have HI3 : Hid (Rows kJb (fun b => w.heap.size ≤ b) w3 w.heap.size 29 (.slice a6 (k + 1) c6) (askK ep (k + 1)) ∧ Below w.heap.size w w3) := put_by (by
          rw [askK_succ]
          exact ⟨hR3, below_grown HR.out.2 HR.out.2.size hg3 (fun r hr => (rows_lt HR.out.1 r hr).1)⟩)
        clear hR3 hg3 hat3 hl6 HR
        go_wp2
        go_roundw
        case rel => exact ⟨k + 1, a6, c6, by omega, by go_num, rfl, HI3⟩
        case measure => simp [intOf]; omega
    · have hk6 : k = 6 := by omega
      subst hk6
      go_wp2
      go_ret
      exact ⟨a, c, rfl, HR.out.1, HR.out.2⟩

end Go.Proofs.Ytfaejcdbjcklpaa
