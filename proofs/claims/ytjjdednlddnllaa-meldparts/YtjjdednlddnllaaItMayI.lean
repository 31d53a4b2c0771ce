/- Which intents may be: what May comes to at every intent. -/
import Derived.Test.YtjjdednlddnllaaItMayW
namespace Go.Proofs.Ytjjdednlddnllaa
open Go.ChangeShapes Go.WideShapes Go.ChangeAt Go.RowKit

theorem within_bool (x y : Int) : (decide (y ≤ x) && decide (x ≤ 1048576)) = true ↔ y ≤ x ∧ x ≤ 1048576 := by simp

set_option maxRecDepth 100000 in
set_option maxHeartbeats 4000000 in
theorem May_any (ok : Nat → Prop) (c n s : Int) (rs : List Ent) (ws : List Wt) (ra : Option Addr) (rc : Nat) (wa : Option Addr) (wc : Nat) (w : World) (hI : ItIs ok w rs ws ra rc wa wc) (R : Bool) (hR : R = true ↔ MayI ⟨c, n, s, rs, ws⟩) :
    Calls Try.prog 70 #[.agg #[.int .i64 c, .int .i64 n, .int .i64 s, .slice ra rs.length rc, .slice wa ws.length wc]] w fun e w' => e = .returned (.bool R) ∧ Below w.heap.size w w' := by
  obtain ⟨d4, h4⟩ := bool_of (RdsP rs)
  obtain ⟨d5, h5⟩ := bool_of (WtsP ws)
  obtain ⟨d1, e1⟩ : ∃ d, d = (decide (1 ≤ c) && decide (c ≤ 1048576)) := ⟨_, rfl⟩
  obtain ⟨d2, e2⟩ : ∃ d, d = (decide (1 ≤ n) && decide (n ≤ 1048576)) := ⟨_, rfl⟩
  obtain ⟨d3, e3⟩ : ∃ d, d = (decide (0 ≤ s) && decide (s ≤ 1048576)) := ⟨_, rfl⟩
  have H1 : Hid (d1 = true ↔ 1 ≤ c ∧ c ≤ 1048576) := by rw [e1]; exact within_bool _ _
  have H2 : Hid (d2 = true ↔ 1 ≤ n ∧ n ≤ 1048576) := by rw [e2]; exact within_bool _ _
  have H3 : Hid (d3 = true ↔ 0 ≤ s ∧ s ≤ 1048576) := by rw [e3]; exact within_bool _ _
  have c1 : Hid (∀ V, Calls Try.prog 86 #[.int .i64 c, .int .i64 1] V fun e w' => e = .returned (.bool d1) ∧ w' = V) := fun V => by rw [e1]; exact within_any c 1 V
  have c2 : Hid (∀ V, Calls Try.prog 86 #[.int .i64 n, .int .i64 1] V fun e w' => e = .returned (.bool d2) ∧ w' = V) := fun V => by rw [e2]; exact within_any n 1 V
  have c3 : Hid (∀ V, Calls Try.prog 86 #[.int .i64 s, .int .i64 0] V fun e w' => e = .returned (.bool d3) ∧ w' = V) := fun V => by rw [e3]; exact within_any s 0 V
  have c4 : Hid (Calls Try.prog 87 #[.slice ra rs.length rc] (w.alloc (.cells #[.int .i64 c, .int .i64 n, .int .i64 s, .slice ra rs.length rc, .slice wa ws.length wc] 77)) fun e w' => e = .returned (.bool d4) ∧ w'.cell? ⟨w.heap.size, 4, none⟩ = some (.slice wa ws.length wc) ∧ Below w.heap.size w w') := by
    have hV := (Below.refl w.heap.size w).alloc (Nat.le_refl _) (.cells #[.int .i64 c, .int .i64 n, .int .i64 s, .slice ra rs.length rc, .slice wa ws.length wc] 77)
    exact (mayRead_any ok rs hI.few.1 ra rc _ (hI.reads.later hV) d4 h4).mono (fun e w' h => ⟨h.1, (h.2.cell (p := ⟨w.heap.size, 4, none⟩) (by simp)).trans (by simp), hV.trans (h.2.mono hV.size)⟩)
  have c5 : Hid (∀ V, Below w.heap.size w V → Calls Try.prog 88 #[.slice wa ws.length wc] V fun e w' => e = .returned (.bool d5) ∧ Below w.heap.size w w') := fun V hV => (mayWrite_any ok ws hI.few.2 wa wc V (hI.writes.later hV) d5 h5).mono (fun e w' h => ⟨h.1, hV.trans (h.2.mono hV.size)⟩)
  have H4 := put_by h4
  have H5 := put_by h5
  have HR := put_by hR
  clear h4 h5 hR hI e1 e2 e3
  generalize rs.length = nr at c4 ⊢
  generalize ws.length = nw at c4 c5 ⊢
  have HA := put_by ((Below.refl w.heap.size w).alloc (Nat.le_refl _) (.cells #[.int .i64 c, .int .i64 n, .int .i64 s, .slice ra nr rc, .slice wa nw wc] 77))
  cases d1 with
  | false =>
    have HF : Hid (R = false) := of_not HR.out (fun h => by cases (H1.out.2 h.client))
    go_enter Try.func70, Try.ntmps70
    go_wp2_with (first
      | (go_at_call 86; (with_reducible refine (c1.out _).mono ?_); rintro e w1 ⟨rfl, rfl⟩)
      | (go_at_call 86; (with_reducible refine (c2.out _).mono ?_); rintro e w1 ⟨rfl, rfl⟩)
      | (go_at_call 86; (with_reducible refine (c3.out _).mono ?_); rintro e w1 ⟨rfl, rfl⟩)
      | (go_at_call 87; (with_reducible refine c4.out.mono ?_); rintro e w4 ⟨rfl, k4, b4⟩; have HA := put_by b4; clear b4)
      | (go_at_call 88; (with_reducible refine (c5.out _ HA.out).mono ?_); rintro e w5 ⟨rfl, b5⟩; have HA := put_by b5; clear b5))
    go_ret
    rw [HF.out]
    exact ⟨rfl, HA.out⟩
  | true =>
    cases d2 with
    | false =>
      have HF : Hid (R = false) := of_not HR.out (fun h => by cases (H2.out.2 h.number))
      go_enter Try.func70, Try.ntmps70
      go_wp2_with (first
        | (go_at_call 86; (with_reducible refine (c1.out _).mono ?_); rintro e w1 ⟨rfl, rfl⟩)
        | (go_at_call 86; (with_reducible refine (c2.out _).mono ?_); rintro e w1 ⟨rfl, rfl⟩)
        | (go_at_call 86; (with_reducible refine (c3.out _).mono ?_); rintro e w1 ⟨rfl, rfl⟩)
        | (go_at_call 87; (with_reducible refine c4.out.mono ?_); rintro e w4 ⟨rfl, k4, b4⟩; have HA := put_by b4; clear b4)
        | (go_at_call 88; (with_reducible refine (c5.out _ HA.out).mono ?_); rintro e w5 ⟨rfl, b5⟩; have HA := put_by b5; clear b5))
      go_ret
      rw [HF.out]
      exact ⟨rfl, HA.out⟩
    | true =>
      cases d3 with
      | false =>
        have HF : Hid (R = false) := of_not HR.out (fun h => by cases (H3.out.2 h.base))
        go_enter Try.func70, Try.ntmps70
        go_wp2_with (first
          | (go_at_call 86; (with_reducible refine (c1.out _).mono ?_); rintro e w1 ⟨rfl, rfl⟩)
          | (go_at_call 86; (with_reducible refine (c2.out _).mono ?_); rintro e w1 ⟨rfl, rfl⟩)
          | (go_at_call 86; (with_reducible refine (c3.out _).mono ?_); rintro e w1 ⟨rfl, rfl⟩)
          | (go_at_call 87; (with_reducible refine c4.out.mono ?_); rintro e w4 ⟨rfl, k4, b4⟩; have HA := put_by b4; clear b4)
          | (go_at_call 88; (with_reducible refine (c5.out _ HA.out).mono ?_); rintro e w5 ⟨rfl, b5⟩; have HA := put_by b5; clear b5))
        go_ret
        rw [HF.out]
        exact ⟨rfl, HA.out⟩
      | true =>
        cases d4 with
        | false =>
          have HF : Hid (R = false) := of_not HR.out (fun h => by cases (H4.out.2 ⟨h.few.1, h.reads⟩))
          go_enter Try.func70, Try.ntmps70
          go_wp2_with (first
            | (go_at_call 86; (with_reducible refine (c1.out _).mono ?_); rintro e w1 ⟨rfl, rfl⟩)
            | (go_at_call 86; (with_reducible refine (c2.out _).mono ?_); rintro e w1 ⟨rfl, rfl⟩)
            | (go_at_call 86; (with_reducible refine (c3.out _).mono ?_); rintro e w1 ⟨rfl, rfl⟩)
            | (go_at_call 87; (with_reducible refine c4.out.mono ?_); rintro e w4 ⟨rfl, k4, b4⟩; have HA := put_by b4; clear b4)
            | (go_at_call 88; (with_reducible refine (c5.out _ HA.out).mono ?_); rintro e w5 ⟨rfl, b5⟩; have HA := put_by b5; clear b5))
          go_ret
          rw [HF.out]
          exact ⟨rfl, HA.out⟩
        | true =>
          cases d5 with
          | false =>
            have HF : Hid (R = false) := of_not HR.out (fun h => by cases (H5.out.2 ⟨h.few.2, h.writes, h.asc⟩))
            go_enter Try.func70, Try.ntmps70
            go_wp2_with (first
              | (go_at_call 86; (with_reducible refine (c1.out _).mono ?_); rintro e w1 ⟨rfl, rfl⟩)
              | (go_at_call 86; (with_reducible refine (c2.out _).mono ?_); rintro e w1 ⟨rfl, rfl⟩)
              | (go_at_call 86; (with_reducible refine (c3.out _).mono ?_); rintro e w1 ⟨rfl, rfl⟩)
              | (go_at_call 87; (with_reducible refine c4.out.mono ?_); rintro e w4 ⟨rfl, k4, b4⟩; have HA := put_by b4; clear b4)
              | (go_at_call 88; (with_reducible refine (c5.out _ HA.out).mono ?_); rintro e w5 ⟨rfl, b5⟩; have HA := put_by b5; clear b5))
            go_ret
            rw [HF.out]
            exact ⟨rfl, HA.out⟩
          | true =>
            have HF : Hid (R = true) := HR.out.2 ⟨H1.out.1 rfl, H2.out.1 rfl, H3.out.1 rfl, ⟨(H4.out.1 rfl).1, (H5.out.1 rfl).1⟩, (H4.out.1 rfl).2, (H5.out.1 rfl).2.1, (H5.out.1 rfl).2.2⟩
            go_enter Try.func70, Try.ntmps70
            go_wp2_with (first
              | (go_at_call 86; (with_reducible refine (c1.out _).mono ?_); rintro e w1 ⟨rfl, rfl⟩)
              | (go_at_call 86; (with_reducible refine (c2.out _).mono ?_); rintro e w1 ⟨rfl, rfl⟩)
              | (go_at_call 86; (with_reducible refine (c3.out _).mono ?_); rintro e w1 ⟨rfl, rfl⟩)
              | (go_at_call 87; (with_reducible refine c4.out.mono ?_); rintro e w4 ⟨rfl, k4, b4⟩; have HA := put_by b4; clear b4)
              | (go_at_call 88; (with_reducible refine (c5.out _ HA.out).mono ?_); rintro e w5 ⟨rfl, b5⟩; have HA := put_by b5; clear b5))
            go_ret
            rw [HF.out]
            exact ⟨rfl, HA.out⟩

end Go.Proofs.Ytjjdednlddnllaa
