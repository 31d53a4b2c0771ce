/- Texts, and the byte that tells Gone, that are read. -/
import Derived.Test.YtjilcljchdmbjaaRdNum
namespace Go.Proofs.Ytjilcljchdmbjaa
open Go.ChangeShapes Go.WideShapes Go.ChangeAt Go.RowKit

/-- so many bytes: what is taken, and what is left -/
def TakeIs (st : Option (List Int)) (n : Nat) (ts : List Int) (st' : Option (List Int)) : Prop := (∃ xs, st = some xs ∧ n ≤ xs.length ∧ ts = xs.take n ∧ st' = some (xs.drop n)) ∨ ((∀ xs, st = some xs → xs.length < n) ∧ ts = [] ∧ st' = none)

def TakPost (R n : Nat) (st : Option (List Int)) (w : World) (e : Ending) (w' : World) : Prop := ∃ (a : Option Addr) (m c : Nat) (ts : List Int) (st' : Option (List Int)), e = .returned (.slice a m c) ∧ m = ts.length ∧ Octs w' a c ts ∧ TakeIs st n ts st' ∧ RdrS w' R st' ∧ w.grownBy w' (some R)

theorem take_any (R n : Nat) (st : Option (List Int)) (w : World) (h : RdrS w R st) :
    Calls Try.prog 50 #[.pointer (some ⟨R, 0, none⟩), .int .i64 n] w fun e w' => TakPost R n st w e w' := by
  obtain ⟨a, m, cap, t, xs, h, hst⟩ := h
  by_cases ht : t = true ∨ xs.length < n
  · refine (take_torn R a m cap t n w h.two (ht.imp id (fun e => by have := h.len; omega))).mono ?_
    rintro e w' ⟨rfl, rfl⟩
    refine ⟨none, 0, 0, [], none, rfl, rfl, Octs.nil _ _ _ (fun _ => rfl), .inr ⟨fun ys hy => ?_, rfl, rfl⟩, ⟨a, m, cap, true, xs, h.tear, rfl⟩, grown_set _⟩
    rw [hst] at hy
    rcases ht with ht | ht
    · rw [ht] at hy; cases hy
    · cases t with
      | true => cases hy
      | false =>
        cases hy
        exact ht
  · have ht0 : t = false := by cases t with | false => rfl | true => exact absurd (.inl rfl) ht
    subst ht0
    have hn : n ≤ xs.length := by omega
    refine (take_ok R a m cap xs n w h hn).mono ?_
    rintro e w' ⟨a1, c1, a2, m2, c2, rfl, h1, h2, h3, h5⟩
    exact ⟨a1, n, c1, xs.take n, some (xs.drop n), rfl, by rw [List.length_take]; omega, h2, .inl ⟨xs, hst, hn, rfl, rfl⟩, ⟨a2, m2, c2, false, _, h5, rfl⟩, h1⟩

/-- a text: what is read, and what is left -/
def TextIs (st : Option (List Int)) (ts : List Int) (st' : Option (List Int)) : Prop := (∃ r, st.bind cutT = some (ts, r) ∧ st' = some r) ∨ (st.bind cutT = none ∧ ts = [] ∧ st' = none)

theorem textIs_of {st st1 st2 : Option (List Int)} {n : Nat} {ts : List Int} (h1 : NumIs st n st1) (h2 : TakeIs st1 n ts st2) : TextIs st ts st2 := by
  cases st with
  | none =>
    rcases h1 with ⟨m, r, e, _⟩ | ⟨_, _, rfl⟩
    · cases e
    · rcases h2 with ⟨xs, e, _⟩ | ⟨_, e2, e3⟩
      · cases e
      · exact .inr ⟨rfl, e2, e3⟩
  | some b =>
    have ec : ∀ x, (some b).bind cutT = x ↔ cutT b = x := fun x => Iff.rfl
    rcases h1 with ⟨m, r, e, em, rfl⟩ | ⟨e, _, rfl⟩
    · have em2 : n = m := by omega
      subst em2
      have e : cut4 b = some (n, r) := e
      rcases h2 with ⟨xs, e1, hn, e2, e3⟩ | ⟨hn, e2, e3⟩
      · cases e1
        refine .inl ⟨r.drop n, ?_, e3⟩
        show cutT b = _
        rw [cutT, e, e2]
        simp only [hn, if_true]
      · refine .inr ⟨?_, e2, e3⟩
        show cutT b = _
        have := hn r rfl
        rw [cutT, e]
        simp only [if_neg (show ¬ n ≤ r.length by omega)]
    · have e : cut4 b = none := e
      rcases h2 with ⟨xs, e1, _⟩ | ⟨_, e2, e3⟩
      · cases e1
      · refine .inr ⟨?_, e2, e3⟩
        show cutT b = _
        rw [cutT, e]

def TextPost (R : Nat) (st : Option (List Int)) (w : World) (e : Ending) (w' : World) : Prop := ∃ (a : Option Addr) (m c : Nat) (ts : List Int) (st' : Option (List Int)), e = .returned (.slice a m c) ∧ m = ts.length ∧ Octs w' a c ts ∧ (∀ ad, a = some ad → w.heap.size ≤ ad.block) ∧ TextIs st ts st' ∧ RdrS w' R st' ∧ w.grownBy w' (some R)

set_option maxHeartbeats 4000000 in
theorem text_any (R : Nat) (st : Option (List Int)) (w : World) (h : RdrS w R st) :
    Calls Try.prog 33 #[.pointer (some ⟨R, 0, none⟩)] w fun e w' => TextPost R st w e w' := by
  generalize hpost : (fun e w' => TextPost R st w e w') = Q
  have HP : Hid (∀ e w', TextPost R st w e w' → Q e w') := fun e w' h => by rw [← hpost]; exact h
  clear hpost
  have c1 : Hid (Calls Try.prog 30 #[.pointer (some ⟨R, 0, none⟩)] w fun e w' => ∃ n : Nat, e = .returned (.int .i64 (n : Int)) ∧ Hid (∃ st1, NumIs st n st1 ∧ RdrS w' R st1 ∧ w.grownBy w' (some R))) := by
    refine (number_any R st w h).mono ?_
    rintro e w' ⟨v, st1, rfl, ⟨v0, v1⟩, h1, h2, h3⟩
    obtain ⟨n, rfl⟩ := Int.eq_ofNat_of_zero_le v0
    exact ⟨n, rfl, st1, h1, h2, h3⟩
  have c2 : Hid (∀ (V : World) (n : Nat), (∃ st1, NumIs st n st1 ∧ RdrS V R st1 ∧ w.grownBy V (some R)) → Calls Try.prog 50 #[.pointer (some ⟨R, 0, none⟩), .int .i64 (n : Int)] V fun e w' => ∃ (a : Option Addr) (m c : Nat), e = .returned (.slice a m c) ∧ m ≤ 140737488351232 ∧ Hid (∃ ts st2, m = ts.length ∧ Octs w' a c ts ∧ TextIs st ts st2 ∧ RdrS w' R st2 ∧ w.grownBy w' (some R))) := fun V n ⟨st1, g1, g2, g3⟩ => by
    refine (take_any R n st1 V g2).mono ?_
    rintro e w' ⟨a, m, c, ts, st2, rfl, h1, h2, h3, h4, h5⟩
    exact ⟨a, m, c, rfl, by rw [h1]; exact h2.2.1, ts, st2, h1, h2, textIs_of g1 h3, h4, grown_trans g3 h5⟩
  clear h
  go_enter Try.func33, Try.ntmps33
  go_upto_region 2 with (first
    | (go_at_call 30; refine c1.out.mono ?_; clear c1; rintro e w1 ⟨n, rfl, H1⟩)
    | (go_at_call 50; refine (c2.out _ _ H1.out).mono ?_; clear c2; rintro e w2 ⟨a, m, c, rfl, hm, H2⟩)
    | (at_builtin; obtain ⟨ts, st2, g1, g2, g3, g4, g5⟩ := H2.out; refine wpList_append_oct rfl (.const (.slice none 0 0)) (.tmp 6) rfl w2.heap.size (.slice none 0 0) 0 [] rfl (World.ownsRow_nil _ _ _ _) a c m ts rfl g1 g2 (by omega) (Nat.le_refl _) ?_; intro v' w3 hown hg; rw [Nat.zero_add, List.nil_append] at hown; obtain ⟨a3, c3, rfl, ho⟩ := own_octs g1 rfl g2.2.1 g2.2.2.2.1 hown; have HT := put_by (show TextPost R st w (.returned (.slice a3 ts.length c3)) w3 from ⟨a3, ts.length, c3, ts, st2, rfl, rfl, ho, (fun ad had => Nat.le_trans g5.size (own_new hown ad had)), g3, g4.later ((Below.refl _ w2).grown hg (Nat.le_refl _) (fun g h => by cases h)), grown_trans g5 (grown_below ((Below.refl _ w2).grown hg (Nat.le_refl _) (fun g h => by cases h)) _)⟩); clear hown hg ho g1 g2 g3 g4 g5))
  all_goals exact HP.out _ _ HT.out

end Go.Proofs.Ytjilcljchdmbjaa
