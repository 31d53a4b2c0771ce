/- The byte that tells Gone. -/
import Derived.Test.YtjilcljchdmbjaaRdText
namespace Go.Proofs.Ytjilcljchdmbjaa
open Go.ChangeShapes Go.WideShapes Go.ChangeAt Go.RowKit

def GoneIs (st : Option (List Int)) (g : Bool) (st' : Option (List Int)) : Prop := (∃ r, st.bind cutB = some (g, r) ∧ st' = some r) ∨ (st.bind cutB = none ∧ g = false ∧ st' = none)

def GonePost (R : Nat) (st : Option (List Int)) (w : World) (e : Ending) (w' : World) : Prop := ∃ (g : Bool) (st' : Option (List Int)), e = .returned (.bool g) ∧ GoneIs st g st' ∧ RdrS w' R st' ∧ w.grownBy w' (some R)

set_option maxRecDepth 100000 in
set_option maxHeartbeats 1000000 in
theorem gone_any (R : Nat) (st : Option (List Int)) (w : World) (h : RdrS w R st) :
    Calls Try.prog 36 #[.pointer (some ⟨R, 0, none⟩)] w fun e w' => GonePost R st w e w' := by
  generalize hpost : (fun e w' => GonePost R st w e w') = Q
  have HP : Hid (∀ e w', GonePost R st w e w' → Q e w') := fun e w' h => by rw [← hpost]; exact h
  clear hpost
  have c1 : Hid (Calls Try.prog 50 #[.pointer (some ⟨R, 0, none⟩), .int .i64 1] w fun e w' => ∃ (a : Option Addr) (m c : Nat), e = .returned (.slice a m c) ∧ Hid (∃ ts st1, m = ts.length ∧ Octs w' a c ts ∧ TakeIs st 1 ts st1 ∧ RdrS w' R st1 ∧ w.grownBy w' (some R))) := by
    refine (take_any R 1 st w h).mono ?_
    rintro e w' ⟨a, m, c, ts, st1, rfl, h1, h2, h3, h4, h5⟩
    exact ⟨a, m, c, rfl, ts, st1, h1, h2, h3, h4, h5⟩
  clear h
  go_enter Try.func36, Try.ntmps36
  go_upto_region 2 with (first
    | (go_at_call 50; refine c1.out.mono ?_; clear c1; rintro e w1 ⟨a, m, c, rfl, H1⟩))
  obtain ⟨ts, st1, g1, g2, g3, g4, g5⟩ := H1.out
  rcases g3 with ⟨xs, rfl, hn, e2, rfl⟩ | ⟨hn, rfl, rfl⟩
  · match xs, hn with
    | y :: r, _ =>
      replace e2 : ts = [y] := e2
      subst e2
      replace g1 : m = 1 := g1
      subst g1
      obtain ⟨b, off, rfl, kc, y0, y1⟩ := g2.at (k := 0) (by simp)
      replace kc : w1.cell? ⟨b, off, none⟩ = some (.int .u8 y) := by simpa using kc
      replace y0 : 0 ≤ y := y0
      replace y1 : y ≤ 255 := y1
      have H4 : Hid (RdrS w1 R (some r) ∧ w.grownBy w1 (some R)) := ⟨g4, g5⟩
      clear g2 g4 g5 H1
      by_cases h1 : y = 1
      · subst h1
        go_wp2
        exact HP.out _ _ ⟨true, some r, rfl, .inl ⟨r, rfl, rfl⟩, H4.out.1, H4.out.2⟩
      · by_cases h0 : y = 0
        · subst h0
          go_wp2
          exact HP.out _ _ ⟨false, some r, rfl, .inl ⟨r, rfl, rfl⟩, H4.out.1, H4.out.2⟩
        · obtain ⟨a5, m5, c5, t5, xs5, h5, e5⟩ := H4.out.1
          obtain ⟨k0, k1, f0, f1⟩ := h5.two
          have H5 := put_by (show RdrS (w1.setCell ⟨R, 1, none⟩ (.bool true)) R none from ⟨a5, m5, c5, true, xs5, h5.tear, rfl⟩)
          have HG := put_by (grown_trans H4.out.2 (grown_set (j := 1) (.bool true)))
          have HN : Hid ((some (y :: r)).bind cutB = none) := by
            show cutB (y :: r) = none
            rw [cutB]
            simp only [if_neg h0, if_neg h1]
          have b1 : (y != 1) = true := by simpa using h1
          have b0 : (y != 0) = true := by simpa using h0
          clear h5 e5 H4
          go_wp2
          exact HP.out _ _ ⟨false, none, rfl, .inr ⟨HN.out, rfl, rfl⟩, H5.out, HG.out⟩
  · replace g1 : m = 0 := g1
    subst g1
    obtain ⟨a5, m5, c5, t5, xs5, h5, e5⟩ := g4
    obtain ⟨k0, k1, f0, f1⟩ := h5.two
    have H5 := put_by (show RdrS (w1.setCell ⟨R, 1, none⟩ (.bool true)) R none from ⟨a5, m5, c5, true, xs5, h5.tear, rfl⟩)
    have HG := put_by (grown_trans g5 (grown_set (j := 1) (.bool true)))
    have HN : Hid (st.bind cutB = none) := by
      cases st with
      | none => rfl
      | some xs =>
        have h0 := hn xs rfl
        have : xs = [] := List.length_eq_zero_iff.1 (by omega)
        subst this
        rfl
    clear h5 e5 g2 g5 H1 hn
    go_wp2
    exact HP.out _ _ ⟨false, none, rfl, .inr ⟨HN.out, rfl, rfl⟩, H5.out, HG.out⟩

end Go.Proofs.Ytjilcljchdmbjaa
