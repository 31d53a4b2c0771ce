/- What is told of a slot; small functions of a unit. -/
import Derived.Test.YtfaejcdbjcklpaaUnMem
import Derived.Lib.SliceRun
import Derived.BigQuiet
namespace Go.Proofs.Ytfaejcdbjcklpaa
open Go.ChangeShapes Go.WideShapes Go.ChangeAt Go.RowKit

theorem asData (W : World) (v : Value) : (Instr.typeAssert (.iface 60 v) 43 60 true).run Try.prog W = .ok (.tuple #[v, .bool true]) W := by kernel_rfl
theorem asJunk (W : World) (v : Value) : (Instr.typeAssert (.iface 57 v) 43 57 true).run Try.prog W = .ok (.tuple #[v, .bool true]) W := by kernel_rfl
theorem asTrim (W : World) (v : Value) : (Instr.typeAssert (.iface 58 v) 43 58 true).run Try.prog W = .ok (.tuple #[v, .bool true]) W := by kernel_rfl
theorem nilNoData (W : World) : (Instr.typeAssert .nilIface 43 60 true).run Try.prog W = .ok (.tuple #[.slice none 0 0, .bool false]) W := by kernel_rfl
theorem nilNoJunk (W : World) : (Instr.typeAssert .nilIface 43 57 true).run Try.prog W = .ok (.tuple #[.agg #[], .bool false]) W := by kernel_rfl
theorem nilNoTrim (W : World) : (Instr.typeAssert .nilIface 43 58 true).run Try.prog W = .ok (.tuple #[.agg #[], .bool false]) W := by kernel_rfl
theorem junkNoData (W : World) (v : Value) : (Instr.typeAssert (.iface 57 v) 43 60 true).run Try.prog W = .ok (.tuple #[.slice none 0 0, .bool false]) W := by kernel_rfl
theorem trimNoData (W : World) (v : Value) : (Instr.typeAssert (.iface 58 v) 43 60 true).run Try.prog W = .ok (.tuple #[.slice none 0 0, .bool false]) W := by kernel_rfl
theorem trimNoJunk (W : World) (v : Value) : (Instr.typeAssert (.iface 58 v) 43 57 true).run Try.prog W = .ok (.tuple #[.agg #[], .bool false]) W := by kernel_rfl

set_option maxHeartbeats 1000000 in
theorem Clone_any (ao : Option Addr) (cap : Nat) (xs : List Int) (w : World) (he : Octs w ao cap xs) :
    Calls Try.prog 21 #[.slice ao xs.length cap] w fun e w' => ∃ ao' cap', e = .returned (.slice ao' xs.length cap') ∧ Octs w' ao' cap' xs ∧ (∀ a, ao' = some a → w.heap.size ≤ a.block) ∧ Below w.heap.size w w' := by
  have hb := he.2.2.2.1
  have hl := he.2.1
  have qT : ∀ (w : World) (a : Option Addr) (n c n' c' : Nat), (binOp .eql 27 (.slice a n c) (.slice none n' c')).run Try.prog w = .ok (.bool a.isNone) w := fun w a n c n' c' => Lib.run_eql_slice_nil w _ _ a n c n' c' Try.underlying27
  cases ao with
  | none =>
    have h0 : cap = 0 := he.2.2.1 rfl
    have h1 : xs = [] := List.length_eq_zero_iff.1 (by have := he.1; omega)
    subst h0 h1
    go_enter Try.func21, Try.ntmps21
    go_wp2
    go_ret
    exact ⟨none, 0, rfl, Octs.nil _ _ _ (fun _ => rfl), (fun a e => by cases e), Below.refl _ w⟩
  | some ad =>
    obtain ⟨n, hn⟩ : ∃ n, n = xs.length := ⟨_, rfl⟩
    rw [← hn] at hl ⊢
    have HN : Hid (n = xs.length) := hn
    clear hn
    have hw1 : (w.alloc (.cells #[] 5)).ownsRow w.heap.size 5 1 (.slice (some ⟨w.heap.size, 0, none⟩) 0 0) 0 [] := ⟨rfl, .inr ⟨w.heap.size, 0, _, rfl, Nat.le_refl _, heap_alloc_new w _, Nat.le_refl _, by decide, rfl, rfl⟩⟩
    go_enter Try.func21, Try.ntmps21
    go_wp2_with (at_builtin; refine wpList_append_oct rfl (.tmp 5) (.tmp 6) rfl w.heap.size (.slice (some ⟨w.heap.size, 0, none⟩) 0 0) 0 [] rfl hw1 (some ad) cap n xs rfl HN.out (he.later ((Below.refl _ w).alloc (Nat.le_refl _) _)) (by omega) (by simp) ?_; intro v' w' hown hg)
    rw [Nat.zero_add, List.nil_append] at hown
    obtain ⟨ao', cap', rfl, ho⟩ := own_octs HN.out rfl (by rw [← HN.out]; exact hl) hb hown
    have hnew := own_new hown
    rw [← HN.out]
    go_wp2
    go_ret
    exact ⟨_, _, rfl, ho, hnew, ((Below.refl _ w).alloc (Nat.le_refl _) _).grown hg (by simp) (fun g h => by cases h; exact Nat.le_refl _)⟩

theorem refData (v : Value) (w : World) : Calls Try.prog 39 #[v] w fun e w' => e = .returned (.int .i64 15) ∧ w' = w := by
  go_enter Try.func39, Try.ntmps39
  go_wp2
  go_ret
  exact ⟨rfl, rfl⟩

theorem refJunk (w : World) : Calls Try.prog 37 #[.agg #[]] w fun e w' => e = .returned (.int .i64 15) ∧ Below w.heap.size w w' := by
  go_enter Try.func37, Try.ntmps37
  go_wp2
  go_ret
  exact ⟨rfl, (Below.refl _ w).alloc (Nat.le_refl _) _⟩

theorem refTrim (w : World) : Calls Try.prog 38 #[.agg #[]] w fun e w' => e = .returned (.int .i64 16) ∧ Below w.heap.size w w' := by
  go_enter Try.func38, Try.ntmps38
  go_wp2
  go_ret
  exact ⟨rfl, (Below.refl _ w).alloc (Nat.le_refl _) _⟩

theorem frameSize_any (a : Option Addr) (n c : Nat) (hn : n ≤ 4000) (w : World) : Calls Try.prog 20 #[.slice a n c] w fun e w' => e = .returned (.int .i64 (8 + (n : Int))) ∧ w' = w := by
  go_enter Try.func20, Try.ntmps20
  go_wp2
  go_ret
  refine ⟨?_, rfl⟩
  go_num

set_option maxHeartbeats 1000000 in
theorem read_any (ok : Nat → Prop) (v : Value) (s : Sl) (w : World) (hs : IsSl ok w v s) :
    Calls Try.prog 17 #[v] w fun e w' => IsRp w (readSl s) e w' ∧ Below w.heap.size w w' := by
  rcases hs with ⟨hk, rfl⟩ | ⟨hk, hl, x, rfl, hb⟩ | ⟨hk, rfl⟩ | ⟨hk, rfl⟩
  · have h1 := nilNoData
    have h2 := nilNoJunk
    have h3 := nilNoTrim
    have e : readSl s = rp 17 := by simp [readSl, hk]
    rw [e]
    clear hk e
    go_enter Try.func17, Try.ntmps17
    go_wp2
    refine bodyPost_ret (v := .agg #[.int .i64 17, .bool false, .slice none 0 0, .int .i64 0]) (by simp [results, Try.results17, go_sem]) rfl ⟨isRp_bare _ _ _, (Below.refl _ w).alloc (Nat.le_refl _) _⟩
  · have h1 := asData
    have e : readSl s = ⟨0, false, s.data, 0⟩ := by simp [readSl, hk]
    rw [e]
    obtain ⟨a, c, rfl, ho, -⟩ := hb
    have hC : ∀ W, Below w.heap.size w W → Calls Try.prog 21 #[.slice a s.data.length c] W fun e w' => ∃ ao' cap', e = .returned (.slice ao' s.data.length cap') ∧ Hid (Octs w' ao' cap' s.data ∧ (∀ a, ao' = some a → W.heap.size ≤ a.block)) ∧ Below W.heap.size W w' := fun W hW => (Clone_any a c s.data W (ho.later hW)).mono fun e w' ⟨p, q, h1, h2, h3, h4⟩ => ⟨p, q, h1, ⟨h2, h3⟩, h4⟩
    have HC := put_by hC
    clear hC hk e
    go_enter Try.func17, Try.ntmps17
    go_wp2_with (go_at_call 21; refine (HC.out _ ?_).mono ?_)
    · exact (Below.refl _ w).alloc (Nat.le_refl _) _
    · rintro e w' ⟨p, q, rfl, h2, h3⟩
      obtain ⟨ho', hn'⟩ := h2.out
      have hq := (Quad.new w (.int .i64 0) (.bool false) (.slice none 0 0) (.int .i64 0) 40).later h3
      have hb := ((Below.refl _ w).alloc (Nat.le_refl _) (.cells #[.int .i64 0, .bool false, .slice none 0 0, .int .i64 0] 40)).trans (h3.mono (by simp))
      have HQ := put_by hq
      obtain ⟨q0, q1, q2, q3, g0, g1, g2, g3⟩ := hq
      clear h3 h2
      go_wp2
      have hz := HQ.out.set (.int .i64 0) (.bool false) (.slice p s.data.length q) (.int .i64 0)
      show bodyPost _ _ _ _ _ (set4 w' w.heap.size (.int .i64 0) (.bool false) (.slice p s.data.length q) (.int .i64 0))
      refine bodyPost_ret (v := .agg #[.int .i64 0, .bool false, .slice p s.data.length q, .int .i64 0]) (by simp [results, Try.results17, go_sem, hz.c0, hz.c1, hz.c2, hz.c3]) rfl ⟨isRp_set ho' (fun _ a e => by have := hn' a e; simpa using this) _ _ _ _, ?_⟩
      exact below_set4 hb (Nat.le_refl _) _ _ _ _
  · have h1 := junkNoData
    have h2 := asJunk
    have e : readSl s = ⟨0, true, [], 0⟩ := by simp [readSl, hk]
    rw [e]
    clear hk e
    go_enter Try.func17, Try.ntmps17
    go_wp2
    refine bodyPost_ret (v := .agg #[.int .i64 0, .bool true, .slice none 0 0, .int .i64 0]) (by simp [results, Try.results17, go_sem]) rfl ⟨⟨none, 0, 0, rfl, _, rfl, none, 0, rfl, Octs.nil _ _ _ (fun _ => rfl), fun h => absurd rfl h⟩, ((Below.refl _ w).alloc (Nat.le_refl _) _).alloc (by simp) _⟩
  · have h1 := trimNoData
    have h2 := trimNoJunk
    have h3 := asTrim
    have e : readSl s = rp 16 := by simp [readSl, hk]
    rw [e]
    clear hk e
    go_enter Try.func17, Try.ntmps17
    go_wp2
    refine bodyPost_ret (v := .agg #[.int .i64 16, .bool false, .slice none 0 0, .int .i64 0]) (by simp [results, Try.results17, go_sem]) rfl ⟨isRp_bare _ _ _, ((Below.refl _ w).alloc (Nat.le_refl _) _).alloc (by simp) _⟩

end Go.Proofs.Ytfaejcdbjcklpaa
