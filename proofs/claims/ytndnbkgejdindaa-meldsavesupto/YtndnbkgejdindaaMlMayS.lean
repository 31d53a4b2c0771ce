/- Which states may be: what May comes to at every state. -/
import Derived.Test.YtndnbkgejdindaaMlDone
namespace Go.Proofs.Ytndnbkgejdindaa
open Go.ChangeShapes Go.WideShapes Go.ChangeAt Go.RowKit

theorem mayS_iff {p : Int} {cs : List Cel} {ds : List Dn} : MayS ⟨p, cs, ds⟩ ↔ (0 ≤ p ∧ p ≤ 1048576) ∧ CelsP p cs ∧ DnsP p ds :=
  ⟨fun h => ⟨h.pos, ⟨h.cells, h.asc⟩, ⟨h.dones, h.ascD⟩⟩, fun h => ⟨h.1, h.2.1.1, h.2.1.2, h.2.2.1, h.2.2.2⟩⟩

set_option maxRecDepth 100000 in
set_option maxHeartbeats 4000000 in
theorem MayS_any (ok : Nat → Prop) (p : Int) (cs : List Cel) (ds : List Dn) (ca : Option Addr) (cc : Nat) (da : Option Addr) (dc : Nat) (w : World) (hI : StIs ok w cs ds ca cc da dc) (R : Bool) (hR : R = true ↔ MayS ⟨p, cs, ds⟩) :
    Calls Try.prog 16 #[.agg #[.int .i64 p, .slice ca cs.length cc, .slice da ds.length dc]] w fun e w' => e = .returned (.bool R) ∧ Below w.heap.size w w' := by
  rw [mayS_iff] at hR
  obtain ⟨r1, h1⟩ := bool_of (CelsP p cs)
  obtain ⟨r2, h2⟩ := bool_of (DnsP p ds)
  have hV := (Below.refl w.heap.size w).alloc (Nat.le_refl _) (.cells #[.int .i64 p, .slice ca cs.length cc, .slice da ds.length dc] 25)
  have c1 : Hid (Calls Try.prog 27 #[.slice ca cs.length cc, .int .i64 p] (w.alloc (.cells #[.int .i64 p, .slice ca cs.length cc, .slice da ds.length dc] 25)) fun e w' => e = .returned (.bool r1) ∧ w'.cell? ⟨w.heap.size, 2, none⟩ = some (.slice da ds.length dc) ∧ w'.cell? ⟨w.heap.size, 0, none⟩ = some (.int .i64 p) ∧ Hid (Below w.heap.size w w')) :=
    (mayHave_any ok p cs hI.few.1 ca cc _ (hI.cells.later hV) r1 h1).mono (fun e w' h => ⟨h.1, (h.2.cell (p := ⟨w.heap.size, 2, none⟩) (by simp)).trans (by simp), (h.2.cell (p := ⟨w.heap.size, 0, none⟩) (by simp)).trans (by simp), hV.trans (h.2.mono hV.size)⟩)
  have c2 : Hid (∀ V, Below w.heap.size w V → Calls Try.prog 28 #[.slice da ds.length dc, .int .i64 p] V fun e w' => e = .returned (.bool r2) ∧ Hid (Below w.heap.size w w')) := fun V hW => (mayHaveDone_any ok p ds hI.few.2 da dc V (hI.dones.later hW) r2 h2).mono (fun e w' h => ⟨h.1, hW.trans (h.2.mono hW.size)⟩)
  have HV := put_by hV
  have HR : Hid (R = true ↔ (0 ≤ p ∧ p ≤ 1048576) ∧ r1 = true ∧ r2 = true) := by rw [h1, h2]; exact hR
  clear hI hR h1 h2 hV
  generalize cs.length = n1 at c1 HV ⊢
  generalize ds.length = n2 at c1 c2 HV ⊢
  by_cases p0 : 0 ≤ p
  · by_cases p1 : p ≤ 1048576
    · cases r1 with
      | false =>
        have HF : Hid (R = false) := of_not HR.out (fun h => by cases h.2.1)
        go_enter Try.func16, Try.ntmps16
        go_wp2_with (first
          | (go_at_call 27; (with_reducible refine c1.out.mono ?_); clear c1; rintro e w1 ⟨rfl, k2, k0, H1⟩))
        go_ret
        rw [HF.out]
        exact ⟨rfl, H1.out⟩
      | true =>
        cases r2 with
        | false =>
          have HF : Hid (R = false) := of_not HR.out (fun h => by cases h.2.2)
          go_enter Try.func16, Try.ntmps16
          go_wp2_with (first
            | (go_at_call 27; (with_reducible refine c1.out.mono ?_); clear c1; rintro e w1 ⟨rfl, k2, k0, H1⟩)
            | (go_at_call 28; (with_reducible refine (c2.out _ H1.out).mono ?_); clear c2; rintro e w2 ⟨rfl, H2⟩))
          go_ret
          rw [HF.out]
          exact ⟨rfl, H2.out⟩
        | true =>
          have HF : Hid (R = true) := HR.out.2 ⟨⟨p0, p1⟩, rfl, rfl⟩
          go_enter Try.func16, Try.ntmps16
          go_wp2_with (first
            | (go_at_call 27; (with_reducible refine c1.out.mono ?_); clear c1; rintro e w1 ⟨rfl, k2, k0, H1⟩)
            | (go_at_call 28; (with_reducible refine (c2.out _ H1.out).mono ?_); clear c2; rintro e w2 ⟨rfl, H2⟩))
          go_ret
          rw [HF.out]
          exact ⟨rfl, H2.out⟩
    · have HF : Hid (R = false) := of_not HR.out (fun h => p1 h.1.2)
      go_enter Try.func16, Try.ntmps16
      go_wp2
      go_ret
      rw [HF.out]
      exact ⟨rfl, HV.out⟩
  · have HF : Hid (R = false) := of_not HR.out (fun h => p0 h.1.1)
    go_enter Try.func16, Try.ntmps16
    go_wp2
    go_ret
    rw [HF.out]
    exact ⟨rfl, HV.out⟩

end Go.Proofs.Ytndnbkgejdindaa
