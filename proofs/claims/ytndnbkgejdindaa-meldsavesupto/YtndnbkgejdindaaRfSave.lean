/- The reference's bytes of a state, or that it may not be. -/
import Derived.Test.YtndnbkgejdindaaMlSave
import Derived.Test.YtndnbkgejdindaaRfStMay
import Derived.Test.YtndnbkgejdindaaRfStTell
namespace Go.Proofs.Ytndnbkgejdindaa
open Go.ChangeShapes Go.WideShapes Go.ChangeAt Go.RowKit

set_option maxRecDepth 100000 in
set_option maxHeartbeats 4000000 in
theorem Saved_any (ok : Nat → Prop) (p : Int) (cs : List Cel) (ds : List Dn) (ca : Option Addr) (cc : Nat) (da : Option Addr) (dc : Nat) (w : World) (hI : StIs ok w cs ds ca cc da dc) (hT : (encS ⟨p, cs, ds⟩).length ≤ 900000000) :
    Calls Try.prog 11 #[.agg #[.int .i64 p, .slice ca cs.length cc, .slice da ds.length dc]] w fun e w' => SPost ⟨p, cs, ds⟩ w e w' := by
  generalize hpost : (fun e w' => SPost ⟨p, cs, ds⟩ w e w') = Q
  have HP : Hid (∀ e w', SPost ⟨p, cs, ds⟩ w e w' → Q e w') := fun e w' h => by rw [← hpost]; exact h
  clear hpost
  obtain ⟨R, hR⟩ := bool_of (MayS ⟨p, cs, ds⟩)
  have hV := (Below.refl w.heap.size w).alloc (Nat.le_refl _) (.cells #[.int .i64 p, .slice ca cs.length cc, .slice da ds.length dc] 25)
  have c0 : Hid (Calls Try.prog 19 #[.agg #[.int .i64 p, .slice ca cs.length cc, .slice da ds.length dc]] (w.alloc (.cells #[.int .i64 p, .slice ca cs.length cc, .slice da ds.length dc] 25)) fun e w' => e = .returned (.bool R) ∧ (w'.cell? ⟨w.heap.size, 0, none⟩ = some (.int .i64 p) ∧ w'.cell? ⟨w.heap.size, 1, none⟩ = some (.slice ca cs.length cc) ∧ w'.cell? ⟨w.heap.size, 2, none⟩ = some (.slice da ds.length dc)) ∧ Hid (Below w.heap.size w w')) :=
    (StateMay_any ok p cs ds ca cc da dc _ (hI.later hV) R hR).mono (fun e w' h => ⟨h.1, ⟨(h.2.cell (p := ⟨w.heap.size, 0, none⟩) (by simp)).trans (by simp), (h.2.cell (p := ⟨w.heap.size, 1, none⟩) (by simp)).trans (by simp), (h.2.cell (p := ⟨w.heap.size, 2, none⟩) (by simp)).trans (by simp)⟩, hV.trans (h.2.mono hV.size)⟩)
  have c1 : Hid (R = true → ∀ V, Below w.heap.size w V → Calls Try.prog 22 #[.agg #[.int .i64 p, .slice ca cs.length cc, .slice da ds.length dc]] V fun e w' => ∃ (a : Option Addr) (m k : Nat), e = .returned (.slice a m k) ∧ Hid (m = (encS ⟨p, cs, ds⟩).length ∧ Octs w' a k (encS ⟨p, cs, ds⟩) ∧ (∀ ad, a = some ad → w.heap.size ≤ ad.block) ∧ Below w.heap.size w w')) := fun hr V hW => by
    have hM := hR.1 hr
    obtain ⟨pn, hpn⟩ : ∃ pn : Nat, (pn : Int) = p := ⟨p.toNat, by have := hM.pos.1; simp only at this; omega⟩
    subst hpn
    refine (stateBytes_any ok pn cs ds ca cc da dc V (hI.later hW) hM hT).mono ?_
    rintro e w' ⟨a, m, k, h1, h2, h3, h4, h5⟩
    exact ⟨a, m, k, h1, h2, h3, fun ad e => Nat.le_trans hW.size (h4 ad e), hW.trans (h5.mono hW.size)⟩
  have HR := put_by hR
  clear hI hT hV hR
  generalize cs.length = n1 at c0 c1 ⊢
  generalize ds.length = n2 at c0 c1 ⊢
  cases R with
  | false =>
    have HN : Hid (¬ MayS ⟨p, cs, ds⟩) := fun h => by cases HR.out.2 h
    go_enter Try.func11, Try.ntmps11
    go_wp2_with (first
      | (go_at_call 19; (with_reducible refine c0.out.mono ?_); clear c0; rintro e w1 ⟨rfl, ⟨k0, k1, k2⟩, H1⟩))
    exact HP.out _ _ ⟨[], 4, none, 0, 0, rfl, .inr ⟨HN.out, rfl, rfl⟩, rfl, Octs.nil _ _ _ (fun _ => rfl), (fun _ e => by cases e), H1.out⟩
  | true =>
    have c2 := put_by (c1.out rfl)
    have HY := put_by (HR.out.1 rfl)
    clear c1
    go_enter Try.func11, Try.ntmps11
    go_wp2_with (first
      | (go_at_call 19; (with_reducible refine c0.out.mono ?_); clear c0; rintro e w1 ⟨rfl, ⟨k0, k1, k2⟩, H1⟩)
      | (go_at_call 22; (with_reducible refine (c2.out _ H1.out).mono ?_); clear c2; rintro e w2 ⟨a2, m2, p2, rfl, H2⟩))
    exact HP.out _ _ ⟨_, 0, a2, m2, p2, rfl, .inl ⟨HY.out, rfl, rfl⟩, H2.out.1, H2.out.2.1, H2.out.2.2.1, H2.out.2.2.2⟩

end Go.Proofs.Ytndnbkgejdindaa
