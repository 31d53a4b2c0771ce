/- The reference: numbers and texts that are cut at a place. -/
import Derived.Test.YtndnbkgejdindaaRdMany
import Derived.BigQuiet
namespace Go.Proofs.Ytndnbkgejdindaa
open Go.ChangeShapes Go.WideShapes Go.ChangeAt Go.RowKit

set_option maxHeartbeats 1000000 in
theorem fromLittle_any (ao : Option Addr) (cap : Nat) (xs : List Int) (h4 : 4 ≤ xs.length) (w : World) (he : Octs w ao cap xs) :
    Calls Try.prog 24 #[.slice ao xs.length cap] w fun e w' => e = .returned (.int .i64 (num4 xs)) ∧ ∃ k, w' = w.drewN k := by
  obtain ⟨b, off, rfl, k0, l0, u0⟩ := he.at (k := 0) (by omega)
  obtain ⟨b', off', e1, k1, l1, u1⟩ := he.at (k := 1) (by omega)
  cases e1
  obtain ⟨b', off', e1, k2, l2, u2⟩ := he.at (k := 2) (by omega)
  cases e1
  obtain ⟨b', off', e1, k3, l3, u3⟩ := he.at (k := 3) (by omega)
  cases e1
  have hl := he.2.1
  clear he
  unfold num4
  generalize xs.getD 0 0 = x0 at k0 l0 u0 ⊢
  generalize xs.getD 1 0 = x1 at k1 l1 u1 ⊢
  generalize xs.getD 2 0 = x2 at k2 l2 u2 ⊢
  generalize xs.getD 3 0 = x3 at k3 l3 u3 ⊢
  generalize xs.length = n at h4 hl ⊢
  rw [Nat.add_zero] at k0
  have j0 : (0 : Int) < (n : Int) := by omega
  have j1 : (1 : Int) < (n : Int) := by omega
  have j2 : (2 : Int) < (n : Int) := by omega
  have j3 : (3 : Int) < (n : Int) := by omega
  go_enter Try.func24, Try.ntmps24
  go_wp2
  go_quiet (fail)
  go_wp2
  go_ret
  exact ⟨rfl, _, rfl⟩

/-- a number at a place -/
theorem little_at (b off cap : Nat) (xs : List Int) (k : Nat) (hk : k + 4 ≤ xs.length) (w : World) (he : Octs w (some ⟨b, off, none⟩) cap xs) :
    Calls Try.prog 24 #[.slice (some ⟨b, off + k, none⟩) (xs.length - k) (cap - k)] w fun e w' => ∃ q : Nat, e = .returned (.int .i64 (q : Int)) ∧ q ≤ 4294967295 ∧ cut4 (xs.drop k) = some (q, xs.drop (k + 4)) ∧ Below w.heap.size w w' := by
  have hd := he.drop (k := k) (by omega)
  have h4 : 4 ≤ (xs.drop k).length := by rw [List.length_drop]; omega
  have h := fromLittle_any _ _ _ h4 w hd
  rw [List.length_drop] at h
  refine h.mono ?_
  rintro e w' ⟨rfl, j, rfl⟩
  obtain ⟨n0, n1⟩ := num4_bounds h4 hd.2.2.2.1
  obtain ⟨q, hq⟩ := Int.eq_ofNat_of_zero_le n0
  refine ⟨q, by rw [hq], by omega, ?_, drawn_below (Below.refl _ w) j⟩
  rw [cut4, if_pos h4, hq, List.drop_drop]
  rfl

/-- a place in bytes, or none -/
def Pos (xs : List Int) (p : Int) (st : Option (List Int)) : Prop := (p = -1 ∧ st = none) ∨ (∃ k : Nat, p = k ∧ k ≤ xs.length ∧ st = some (xs.drop k))

def CtPost (xs : List Int) (st : Option (List Int)) (w : World) (e : Ending) (w' : World) : Prop := ∃ (a : Option Addr) (m c : Nat) (p : Int), e = .returned (.tuple #[.slice a m c, .int .i64 p]) ∧ -1 ≤ p ∧ p ≤ 4000 ∧ ∃ ts st', m = ts.length ∧ Octs w' a c ts ∧ (∀ ad, a = some ad → w.heap.size ≤ ad.block) ∧ TextIs st ts st' ∧ Pos xs p st' ∧ Below w.heap.size w w'

theorem ct_none {xs : List Int} {st : Option (List Int)} {w w' : World} (h : st.bind cutT = none) (hb : Below w.heap.size w w') : CtPost xs st w (.returned (.tuple #[.slice none 0 0, .int .i64 (-1)])) w' :=
  ⟨none, 0, 0, -1, rfl, by omega, by omega, [], none, rfl, Octs.nil _ _ _ (fun _ => rfl), (fun _ h => by cases h), .inr ⟨h, rfl, rfl⟩, .inl ⟨rfl, rfl⟩, hb⟩

set_option maxRecDepth 100000 in
set_option maxHeartbeats 800000 in
theorem cutText_any (a : Option Addr) (cap : Nat) (xs : List Int) (p : Int) (st : Option (List Int)) (w : World) (ho : Octs w a cap xs) (hf : xs.length ≤ 4000) (hp : Pos xs p st) :
    Calls Try.prog 25 #[.slice a xs.length cap, .int .i64 p] w fun e w' => CtPost xs st w e w' := by
  generalize hpost : (fun e w' => CtPost xs st w e w') = Q
  have HP : Hid (∀ e w', CtPost xs st w e w' → Q e w') := fun e w' h => by rw [← hpost]; exact h
  clear hpost
  rcases hp with ⟨rfl, rfl⟩ | ⟨k, rfl, hk, rfl⟩
  · clear ho hf
    generalize xs.length = m
    go_enter Try.func25, Try.ntmps25
    go_wp2
    exact HP.out _ _ (ct_none rfl (Below.refl _ _))
  · by_cases h4 : k + 4 ≤ xs.length
    · obtain ⟨b, off, rfl, -⟩ := ho.at (k := 0) (by omega)
      have c1 := put_by (little_at b off cap xs k h4 w ho)
      have c2 : Hid (∀ (V : World) (q : Nat), Below w.heap.size w V → q ≤ (xs.drop (k + 4)).length → ∀ off2, (k + 4 < cap → off2 = off + (k + 4)) → Calls Try.prog 51 #[.slice (some ⟨b, off2, none⟩) q (cap - (k + 4))] V fun e w' => ∃ (a2 : Option Addr) (m2 c2 : Nat), e = .returned (.slice a2 m2 c2) ∧ Hid (m2 = ((xs.drop (k + 4)).take q).length ∧ Octs w' a2 c2 ((xs.drop (k + 4)).take q) ∧ (∀ ad, a2 = some ad → w.heap.size ≤ ad.block) ∧ Below w.heap.size w w')) := fun V q hV hq off2 h2 => by
        have hcap := ho.1
        have hlen : ((xs.drop (k + 4)).take q).length = q := by rw [List.length_take]; omega
        have hoc : Octs V (some ⟨b, off2, none⟩) (cap - (k + 4)) ((xs.drop (k + 4)).take q) := by
          by_cases hlt : k + 4 < cap
          · rw [h2 hlt]
            exact ((ho.later hV).drop (k := k + 4) h4).take q
          · have : (xs.drop (k + 4)).take q = [] := List.length_eq_zero_iff.1 (by rw [hlen]; rw [List.length_drop] at hq; omega)
            rw [this]
            exact Octs.nil _ _ _ (fun e => by cases e)
        have h := ownBytes_any _ _ _ V hoc
        rw [hlen] at h
        refine h.mono ?_
        rintro e w' ⟨a2, c2, rfl, g1, g2, g3⟩
        exact ⟨a2, q, c2, rfl, hlen.symm, g1, fun ad e => Nat.le_trans hV.size (g2 ad e), hV.trans (g3.mono hV.size)⟩
      have hcap := ho.1
      have HL : Hid ((xs.drop (k + 4)).length = xs.length - (k + 4)) := by rw [List.length_drop]; exact rfl
      have HX : Hid (∀ q : Nat, cut4 (xs.drop k) = some (q, xs.drop (k + 4)) → ¬ q ≤ (xs.drop (k + 4)).length → (some (xs.drop k)).bind cutT = none) := fun q e hq => by
        show cutT (xs.drop k) = none
        rw [cutT, e]
        simp only [if_neg hq]
      have HY : Hid (∀ q : Nat, cut4 (xs.drop k) = some (q, xs.drop (k + 4)) → q ≤ (xs.drop (k + 4)).length → TextIs (some (xs.drop k)) ((xs.drop (k + 4)).take q) (some (xs.drop (k + 4 + q)))) := fun q e hq => .inl ⟨xs.drop (k + 4 + q), (show cutT (xs.drop k) = _ by rw [cutT, e]; simp only [hq, if_true, List.drop_drop]), rfl⟩
      have HM : Hid (xs.length ≤ 4000) := hf
      obtain ⟨m, hm⟩ : ∃ m, m = xs.length := ⟨_, rfl⟩
      rw [← hm] at c1 hcap h4 hf HL ⊢
      have HZ := put_by hm
      clear ho hm hk
      go_enter Try.func25, Try.ntmps25
      go_upto_region 4 with (first
        | (go_at_call 24; (with_reducible refine c1.out.mono ?_); clear c1; rintro e w1 ⟨q, rfl, hq, hc, hb⟩; have HC := put_by hc; have HB := put_by hb; clear hc hb))
      by_cases hqm : q ≤ m - (k + 4)
      · have i1 : ¬ ((m : Int) - (k : Int) - 4 < (q : Int)) := by omega
        have hqx : q ≤ (xs.drop (k + 4)).length := by rw [HL.out]; exact hqm
        have d1 := put_by (c2.out w1 q HB.out hqx)
        have HT := put_by (HY.out q HC.out hqx)
        have HP2 : Hid (Pos xs ((k : Int) + 4 + q) (some (xs.drop (k + 4 + q)))) := .inr ⟨k + 4 + q, by omega, by rw [← HZ.out]; omega, rfl⟩
        clear hqx c2 HX HY HC HL
        by_cases hc2 : k + 4 < cap
        · have d2 := put_by (d1.out (off + (k + 4)) (fun _ => rfl))
          clear d1
          go_wp2_with (first
            | (go_at_call 51; refine d2.out.mono ?_; clear d2; rintro e w2 ⟨a2, m2, c2, rfl, H2⟩))
          exact HP.out _ _ ⟨a2, m2, c2, _, rfl, by omega, by omega, _, _, H2.out.1, H2.out.2.1, H2.out.2.2.1, HT.out, HP2.out, H2.out.2.2.2⟩
        · have hce : cap = k + 4 := by omega
          obtain rfl : q = 0 := by omega
          have d2 : Hid (∀ off2, Calls Try.prog 51 #[.slice (some ⟨b, off2, none⟩) 0 0] w1 fun e w' => ∃ (a2 : Option Addr) (m2 c2 : Nat), e = .returned (.slice a2 m2 c2) ∧ Hid (m2 = ((xs.drop (k + 4)).take 0).length ∧ Octs w' a2 c2 ((xs.drop (k + 4)).take 0) ∧ (∀ ad, a2 = some ad → w.heap.size ≤ ad.block) ∧ Below w.heap.size w w')) := fun off2 => by
            have h := d1.out off2 (fun h => absurd h hc2)
            rw [hce, Nat.sub_self] at h
            exact h
          clear d1 hc2
          subst hce
          go_wp2_with (first
            | (go_at_call 51; (with_reducible refine (d2.out _).mono ?_); clear d2; rintro e w2 ⟨a2, m2, c2, rfl, H2⟩))
          exact HP.out _ _ ⟨a2, m2, c2, _, rfl, by omega, by omega, _, _, H2.out.1, H2.out.2.1, H2.out.2.2.1, HT.out, HP2.out, H2.out.2.2.2⟩
      · have i1 : ((m : Int) - (k : Int) - 4 < (q : Int)) := by omega
        have HN := put_by (HX.out q HC.out (by rw [HL.out]; exact hqm))
        clear HX HY c2 HC HL
        go_wp2
        exact HP.out _ _ (ct_none HN.out HB.out)
    · have HN : Hid ((some (xs.drop k)).bind cutT = none) := by
        show cutT (xs.drop k) = none
        rw [cutT, cut4, if_neg (by rw [List.length_drop]; omega)]
      clear ho
      generalize xs.length = m at hf hk h4
      have i1 : (m : Int) < (k : Int) + 4 := by omega
      go_enter Try.func25, Try.ntmps25
      go_wp2
      exact HP.out _ _ (ct_none HN.out (Below.refl _ _))

end Go.Proofs.Ytndnbkgejdindaa

/- The reference: a text that is cut at a place, in more bytes. -/
namespace Go.Proofs.Ytndnbkgejdindaa
open Go.ChangeShapes Go.WideShapes Go.ChangeAt Go.RowKit

def CtPostB (xs : List Int) (st : Option (List Int)) (w : World) (e : Ending) (w' : World) : Prop := ∃ (a : Option Addr) (m c : Nat) (p : Int), e = .returned (.tuple #[.slice a m c, .int .i64 p]) ∧ -1 ≤ p ∧ p ≤ 140737488351232 ∧ ∃ ts st', m = ts.length ∧ Octs w' a c ts ∧ (∀ ad, a = some ad → w.heap.size ≤ ad.block) ∧ TextIs st ts st' ∧ Pos xs p st' ∧ Below w.heap.size w w'

theorem ct_noneB {xs : List Int} {st : Option (List Int)} {w w' : World} (h : st.bind cutT = none) (hb : Below w.heap.size w w') : CtPostB xs st w (.returned (.tuple #[.slice none 0 0, .int .i64 (-1)])) w' :=
  ⟨none, 0, 0, -1, rfl, by omega, by omega, [], none, rfl, Octs.nil _ _ _ (fun _ => rfl), (fun _ h => by cases h), .inr ⟨h, rfl, rfl⟩, .inl ⟨rfl, rfl⟩, hb⟩

set_option maxRecDepth 100000 in
set_option maxHeartbeats 800000 in
theorem cutTextB_any (a : Option Addr) (cap : Nat) (xs : List Int) (p : Int) (st : Option (List Int)) (w : World) (ho : Octs w a cap xs) (hf : xs.length ≤ 140737488351232) (hp : Pos xs p st) :
    Calls Try.prog 25 #[.slice a xs.length cap, .int .i64 p] w fun e w' => CtPostB xs st w e w' := by
  generalize hpost : (fun e w' => CtPostB xs st w e w') = Q
  have HP : Hid (∀ e w', CtPostB xs st w e w' → Q e w') := fun e w' h => by rw [← hpost]; exact h
  clear hpost
  rcases hp with ⟨rfl, rfl⟩ | ⟨k, rfl, hk, rfl⟩
  · clear ho hf
    generalize xs.length = m
    go_enter Try.func25, Try.ntmps25
    go_wp2
    exact HP.out _ _ (ct_noneB rfl (Below.refl _ _))
  · by_cases h4 : k + 4 ≤ xs.length
    · obtain ⟨b, off, rfl, -⟩ := ho.at (k := 0) (by omega)
      have c1 := put_by (little_at b off cap xs k h4 w ho)
      have c2 : Hid (∀ (V : World) (q : Nat), Below w.heap.size w V → q ≤ (xs.drop (k + 4)).length → ∀ off2, (k + 4 < cap → off2 = off + (k + 4)) → Calls Try.prog 51 #[.slice (some ⟨b, off2, none⟩) q (cap - (k + 4))] V fun e w' => ∃ (a2 : Option Addr) (m2 c2 : Nat), e = .returned (.slice a2 m2 c2) ∧ Hid (m2 = ((xs.drop (k + 4)).take q).length ∧ Octs w' a2 c2 ((xs.drop (k + 4)).take q) ∧ (∀ ad, a2 = some ad → w.heap.size ≤ ad.block) ∧ Below w.heap.size w w')) := fun V q hV hq off2 h2 => by
        have hcap := ho.1
        have hlen : ((xs.drop (k + 4)).take q).length = q := by rw [List.length_take]; omega
        have hoc : Octs V (some ⟨b, off2, none⟩) (cap - (k + 4)) ((xs.drop (k + 4)).take q) := by
          by_cases hlt : k + 4 < cap
          · rw [h2 hlt]
            exact ((ho.later hV).drop (k := k + 4) h4).take q
          · have : (xs.drop (k + 4)).take q = [] := List.length_eq_zero_iff.1 (by rw [hlen]; rw [List.length_drop] at hq; omega)
            rw [this]
            exact Octs.nil _ _ _ (fun e => by cases e)
        have h := ownBytes_any _ _ _ V hoc
        rw [hlen] at h
        refine h.mono ?_
        rintro e w' ⟨a2, c2, rfl, g1, g2, g3⟩
        exact ⟨a2, q, c2, rfl, hlen.symm, g1, fun ad e => Nat.le_trans hV.size (g2 ad e), hV.trans (g3.mono hV.size)⟩
      have hcap := ho.1
      have HL : Hid ((xs.drop (k + 4)).length = xs.length - (k + 4)) := by rw [List.length_drop]; exact rfl
      have HX : Hid (∀ q : Nat, cut4 (xs.drop k) = some (q, xs.drop (k + 4)) → ¬ q ≤ (xs.drop (k + 4)).length → (some (xs.drop k)).bind cutT = none) := fun q e hq => by
        show cutT (xs.drop k) = none
        rw [cutT, e]
        simp only [if_neg hq]
      have HY : Hid (∀ q : Nat, cut4 (xs.drop k) = some (q, xs.drop (k + 4)) → q ≤ (xs.drop (k + 4)).length → TextIs (some (xs.drop k)) ((xs.drop (k + 4)).take q) (some (xs.drop (k + 4 + q)))) := fun q e hq => .inl ⟨xs.drop (k + 4 + q), (show cutT (xs.drop k) = _ by rw [cutT, e]; simp only [hq, if_true, List.drop_drop]), rfl⟩
      have HM : Hid (xs.length ≤ 140737488351232) := hf
      obtain ⟨m, hm⟩ : ∃ m, m = xs.length := ⟨_, rfl⟩
      rw [← hm] at c1 hcap h4 hf HL ⊢
      have HZ := put_by hm
      clear ho hm hk
      go_enter Try.func25, Try.ntmps25
      go_upto_region 4 with (first
        | (go_at_call 24; (with_reducible refine c1.out.mono ?_); clear c1; rintro e w1 ⟨q, rfl, hq, hc, hb⟩; have HC := put_by hc; have HB := put_by hb; clear hc hb))
      by_cases hqm : q ≤ m - (k + 4)
      · have i1 : ¬ ((m : Int) - (k : Int) - 4 < (q : Int)) := by omega
        have hqx : q ≤ (xs.drop (k + 4)).length := by rw [HL.out]; exact hqm
        have d1 := put_by (c2.out w1 q HB.out hqx)
        have HT := put_by (HY.out q HC.out hqx)
        have HP2 : Hid (Pos xs ((k : Int) + 4 + q) (some (xs.drop (k + 4 + q)))) := .inr ⟨k + 4 + q, by omega, by rw [← HZ.out]; omega, rfl⟩
        clear hqx c2 HX HY HC HL
        by_cases hc2 : k + 4 < cap
        · have d2 := put_by (d1.out (off + (k + 4)) (fun _ => rfl))
          clear d1
          go_wp2_with (first
            | (go_at_call 51; refine d2.out.mono ?_; clear d2; rintro e w2 ⟨a2, m2, c2, rfl, H2⟩))
          exact HP.out _ _ ⟨a2, m2, c2, _, rfl, by omega, by omega, _, _, H2.out.1, H2.out.2.1, H2.out.2.2.1, HT.out, HP2.out, H2.out.2.2.2⟩
        · have hce : cap = k + 4 := by omega
          obtain rfl : q = 0 := by omega
          have d2 : Hid (∀ off2, Calls Try.prog 51 #[.slice (some ⟨b, off2, none⟩) 0 0] w1 fun e w' => ∃ (a2 : Option Addr) (m2 c2 : Nat), e = .returned (.slice a2 m2 c2) ∧ Hid (m2 = ((xs.drop (k + 4)).take 0).length ∧ Octs w' a2 c2 ((xs.drop (k + 4)).take 0) ∧ (∀ ad, a2 = some ad → w.heap.size ≤ ad.block) ∧ Below w.heap.size w w')) := fun off2 => by
            have h := d1.out off2 (fun h => absurd h hc2)
            rw [hce, Nat.sub_self] at h
            exact h
          clear d1 hc2
          subst hce
          go_wp2_with (first
            | (go_at_call 51; (with_reducible refine (d2.out _).mono ?_); clear d2; rintro e w2 ⟨a2, m2, c2, rfl, H2⟩))
          exact HP.out _ _ ⟨a2, m2, c2, _, rfl, by omega, by omega, _, _, H2.out.1, H2.out.2.1, H2.out.2.2.1, HT.out, HP2.out, H2.out.2.2.2⟩
      · have i1 : ((m : Int) - (k : Int) - 4 < (q : Int)) := by omega
        have HN := put_by (HX.out q HC.out (by rw [HL.out]; exact hqm))
        clear HX HY c2 HC HL
        go_wp2
        exact HP.out _ _ (ct_noneB HN.out HB.out)
    · have HN : Hid ((some (xs.drop k)).bind cutT = none) := by
        show cutT (xs.drop k) = none
        rw [cutT, cut4, if_neg (by rw [List.length_drop]; omega)]
      clear ho
      generalize xs.length = m at hf hk h4
      have i1 : (m : Int) < (k : Int) + 4 := by omega
      go_enter Try.func25, Try.ntmps25
      go_wp2
      exact HP.out _ _ (ct_noneB HN.out (Below.refl _ _))

/-- a text that is cut at a place -/
theorem cut_place (a : Option Addr) (cap : Nat) (xs : List Int) (k : Nat) (hk : k ≤ xs.length) (w : World) (ho : Octs w a cap xs) (hf : xs.length ≤ 140737488351232) :
    Calls Try.prog 25 #[.slice a xs.length cap, .int .i64 (k : Int)] w fun e w' => ∃ (a1 : Option Addr) (m c : Nat) (p : Int), e = .returned (.tuple #[.slice a1 m c, .int .i64 p]) ∧ ((p = -1 ∧ Hid (cutT (xs.drop k) = none ∧ Below w.heap.size w w')) ∨ (p = ((k + 4 + m : Nat) : Int) ∧ k + 4 + m ≤ xs.length ∧ Hid (∃ ts, m = ts.length ∧ Octs w' a1 c ts ∧ (∀ ad, a1 = some ad → w.heap.size ≤ ad.block) ∧ cutT (xs.drop k) = some (ts, xs.drop (k + 4 + m)) ∧ Below w.heap.size w w'))) := by
  refine (cutTextB_any a cap xs k (some (xs.drop k)) w ho hf (.inr ⟨k, rfl, hk, rfl⟩)).mono ?_
  rintro e w' ⟨a1, m, c, p, rfl, -, -, ts, st', hm, h1, h2, h3, h4, h5⟩
  refine ⟨a1, m, c, p, rfl, ?_⟩
  rcases h3 with ⟨r, e1, rfl⟩ | ⟨e1, -, rfl⟩
  · rcases h4 with ⟨-, e2⟩ | ⟨k', rfl, hk', e2⟩
    · cases e2
    · have e3 := Option.some.inj e2
      subst e3
      have e1' : cutT (xs.drop k) = some (ts, xs.drop k') := e1
      have hl := congrArg List.length (cutT_inv (fun y hy => ho.2.2.2.1 y (List.mem_of_mem_drop hy)) e1').1
      rw [List.length_append, txt4, List.length_append, le4_length, List.length_drop, List.length_drop] at hl
      obtain rfl : k' = k + 4 + m := by omega
      exact .inr ⟨rfl, hk', ts, hm, h1, h2, e1', h5⟩
  · rcases h4 with ⟨rfl, -⟩ | ⟨k', -, -, e2⟩
    · exact .inl ⟨rfl, e1, h5⟩
    · cases e2

end Go.Proofs.Ytndnbkgejdindaa
