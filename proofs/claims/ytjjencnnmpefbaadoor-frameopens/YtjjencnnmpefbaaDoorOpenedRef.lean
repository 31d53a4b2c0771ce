/- What the reference's Opened comes to at every slice of bytes. -/
import Derived.Test.YtjjencnnmpefbaaDoorFrameOpen
import Derived.Test.YtjjencnnmpefbaaDoorOfRef
import Derived.Deep.RegionWith
namespace Go.Proofs.YtjjencnnmpefbaaDoor
open Go.ChangeShapes Go.WideShapes Go.ChangeAt Go.RowKit

set_option maxHeartbeats 1000000 in
theorem fromLittle_any (ao : Option Addr) (cap : Nat) (xs : List Int) (h4 : 4 ≤ xs.length) (w : World) (he : Octs w ao cap xs) :
    Calls Tryd.prog 27 #[.slice ao xs.length cap] w fun e w' => e = .returned (.int .i64 (num4 xs)) ∧ ∃ k, w' = w.drewN k := by
  obtain ⟨b, off, rfl, k0, l0, u0⟩ := he.at (k := 0) (by omega)
  obtain ⟨b', off', e1, k1, l1, u1⟩ := he.at (k := 1) (by omega)
  cases e1
  obtain ⟨b', off', e1, k2, l2, u2⟩ := he.at (k := 2) (by omega)
  cases e1
  obtain ⟨b', off', e1, k3, l3, u3⟩ := he.at (k := 3) (by omega)
  cases e1
  have hl := he.2.1
  clear he
  unfold num4
  generalize xs.getD 0 0 = x0 at k0 l0 u0 ⊢
  generalize xs.getD 1 0 = x1 at k1 l1 u1 ⊢
  generalize xs.getD 2 0 = x2 at k2 l2 u2 ⊢
  generalize xs.getD 3 0 = x3 at k3 l3 u3 ⊢
  generalize xs.length = n at h4 hl ⊢
  rw [Nat.add_zero] at k0
  have j0 : (0 : Int) < (n : Int) := by omega
  have j1 : (1 : Int) < (n : Int) := by omega
  have j2 : (2 : Int) < (n : Int) := by omega
  have j3 : (3 : Int) < (n : Int) := by omega
  go_enter Tryd.func27, Tryd.ntmps27
  go_wp2
  go_quiet (fail)
  go_wp2
  go_ret
  exact ⟨rfl, _, rfl⟩

theorem fromLittle_below {w1 : World} (ao : Option Addr) (cap : Nat) (xs : List Int) (h4 : 4 ≤ xs.length) (v : World) (hb : Below w1.heap.size w1 v) (he : Octs v ao cap xs) :
    Calls Tryd.prog 27 #[.slice ao xs.length cap] v fun e w' => e = .returned (.int .i64 (num4 xs)) ∧ Below w1.heap.size w1 w' := by
  refine (fromLittle_any ao cap xs h4 v he).mono ?_
  rintro e w' ⟨rfl, k, rfl⟩
  exact ⟨rfl, below_drewN hb k⟩

set_option maxHeartbeats 2000000 in
theorem Opened_any (ao : Option Addr) (cap : Nat) (xs : List Int) (w : World) (he : Octs w ao cap xs) :
    Calls Tryd.prog 14 #[.slice ao xs.length cap] w fun e w' => ∃ ao' cap', e = .returned (.tuple #[.slice ao' (openVal xs).length cap', .int .i64 (openLen xs), .int .i64 (openErr xs)]) ∧ Octs w' ao' cap' (openVal xs) ∧ Below w.heap.size w w' := by
  have hl := he.2.1
  by_cases h8 : xs.length < 8
  · obtain ⟨e1, e2, e3⟩ := open_short h8
    rw [e1, e2, e3]
    clear e1 e2 e3 he
    generalize xs.length = n at hl h8
    go_enter Tryd.func14, Tryd.ntmps14
    go_wp2
    go_ret3
    exact ⟨none, 0, rfl, Octs.nil _ _ _ (fun _ => rfl), Below.refl _ _⟩
  · obtain ⟨b, off, rfl, -⟩ := he.at (k := 0) (by omega)
    have hcap := he.1
    have HB : Hid (∀ y ∈ xs, 0 ≤ y ∧ y ≤ 255) := he.2.2.2.1
    have HE : Hid (Octs w (some ⟨b, off, none⟩) cap xs) := he
    have HT1 : Calls Tryd.prog 27 #[.slice (some ⟨b, off, none⟩) xs.length cap] w fun e w' => e = .returned (.int .i64 (num4 xs)) ∧ Below w.heap.size w w' := fromLittle_below _ cap xs (by omega) _ (Below.refl _ _) HE.out
    have HT2 : ∀ w1 v1, Below w.heap.size w w1 → Below w1.heap.size w1 v1 → Calls Tryd.prog 27 #[.slice (some ⟨b, off + 4, none⟩) (xs.length - 4) (cap - 4)] v1 fun e w' => e = .returned (.int .i64 (num4 (xs.drop 4))) ∧ Below w1.heap.size w1 w' := by
      intro w1 v1 h1 h2
      have := fromLittle_below _ (cap - 4) (xs.drop 4) (by rw [List.length_drop]; omega) v1 h2 (((HE.out.later h1).later h2).drop (k := 4) (by omega))
      rwa [List.length_drop] at this
    obtain ⟨q, hq⟩ : ∃ q, q = num4 (xs.drop 4) := ⟨_, rfl⟩
    rw [← hq] at HT2
    obtain ⟨p, hp⟩ : ∃ p, p = num4 xs := ⟨_, rfl⟩
    rw [← hp] at HT1
    obtain ⟨p0, p1⟩ := num4_bounds (xs := xs) (by omega) HB.out
    rw [← hp] at p0 p1
    obtain ⟨n, hn⟩ : ∃ n, n = xs.length := ⟨_, rfl⟩
    by_cases hg : 4000 < p
    · obtain ⟨e1, e2, e3⟩ := open_great h8 (by rw [← hp]; exact hg)
      rw [e1, e2, e3]
      rw [← hn] at hl h8 hcap HT1 HT2
      rw [← hn]
      clear e1 e2 e3 he hq hp hn
      go_enter Tryd.func14, Tryd.ntmps14
      go_wp2_with (go_at_call 27; (with_reducible refine HT1.mono ?_); rintro e w1 ⟨rfl, b1⟩)
      go_ret3
      exact ⟨none, 0, rfl, Octs.nil _ _ _ (fun _ => rfl), b1⟩
    · obtain ⟨m, hm⟩ : ∃ m : Nat, p = (m : Int) := ⟨p.toNat, (Int.toNat_of_nonneg p0).symm⟩
      by_cases ht : n < 8 + m
      · obtain ⟨e1, e2, e3⟩ := open_torn h8 (by rw [← hp]; exact hg) (by rw [← hp, ← hn]; omega)
        rw [e1, e2, e3]
        rw [← hn] at hl h8 hcap HT1 HT2
        rw [← hn]
        clear e1 e2 e3 he hq hp hn
        subst hm
        go_enter Tryd.func14, Tryd.ntmps14
        go_wp2_with (go_at_call 27; (with_reducible refine HT1.mono ?_); rintro e w1 ⟨rfl, b1⟩)
        go_ret3
        exact ⟨none, 0, rfl, Octs.nil _ _ _ (fun _ => rfl), b1⟩
      · have hmp : (num4 xs).toNat = m := by rw [← hp, hm]; rfl
        have hbl : (bodyOf xs).length = m := by
          have := bodyOf_length (xs := xs) (by omega) (by rw [← hp]; exact p0) (by rw [← hp, ← hn]; omega)
          rw [← hp] at this
          omega
        obtain ⟨ys, hys⟩ : ∃ ys, ys = bodyOf xs := ⟨_, rfl⟩
        obtain ⟨s, hs1⟩ : ∃ s, s = sumN (bodyOf xs) := ⟨_, rfl⟩
        have HBY : Hid (∀ y ∈ ys, 0 ≤ y ∧ y ≤ 255) := by rw [hys]; exact bodyOf_byte HB.out
        have HY : Hid (m = ys.length) := by rw [hys]; exact hbl.symm
        have HOB : ∀ v1, Below w.heap.size w v1 → Octs v1 (some (if cap = 8 then ⟨b, off, none⟩ else ⟨b, off + 8, none⟩)) (cap - 8) ys := by
          intro v1 h1
          by_cases h0 : cap = 8
          · have : ys = [] := List.length_eq_zero_iff.1 (by rw [← HY.out]; omega)
            rw [this, if_pos h0]
            exact Octs.nil _ _ _ (fun h => by cases h)
          · rw [if_neg h0, hys]
            unfold bodyOf
            exact (Octs.drop (HE.out.later h1) (by omega)).take _
        obtain ⟨g, hg2⟩ : ∃ g, g = (if cap = 8 then (⟨b, off, none⟩ : Addr) else ⟨b, off + 8, none⟩) := ⟨_, rfl⟩
        rw [← hg2] at HOB
        have HS : ∀ a c w1 v1, Octs w1 a c ys → Below w1.heap.size w1 v1 → Calls Tryd.prog 25 #[.slice a m c] v1 fun e w' => e = .returned (.int .i64 (s : Int)) ∧ Below w1.heap.size w1 w' := by
          intro a c w1 v1 h1 h2
          have := SumOf_any a c ys (by rw [← HY.out]; omega) v1 (h1.later h2)
          rw [← HY.out] at this
          rw [hs1, ← hys]
          exact this.mono (fun e w' h => ⟨h.1, h2.trans (h.2.mono h2.size)⟩)
        by_cases hs : (sumN (bodyOf xs) : Int) = num4 (xs.drop 4)
        · obtain ⟨e1, e2, e3⟩ := open_good h8 (by rw [← hp]; exact hg) (by rw [← hp, ← hn]; omega) hs
          rw [e1, e2, e3, hmp, ← hys, ← HY.out]
          rw [← hn] at hl h8 hcap HT1 HT2
          rw [← hn]
          have hqs : q = (s : Int) := by rw [hq, hs1, hs]
          clear e1 e2 e3 he hmp hbl hq hp hn hs hys hs1
          subst hm hqs
          rcases Decidable.em (cap = 8) with h0 | h0
          · rw [if_pos h0] at hg2
            subst h0 hg2
            obtain rfl : m = 0 := by omega
            go_enter Tryd.func14, Tryd.ntmps14
            go_wp2_with (first
              | (go_at_call 27; (with_reducible refine HT1.mono ?_); rintro e w1 ⟨rfl, b1⟩)
              | (at_builtin; refine wpList_append_oct rfl _ _ rfl w1.heap.size _ _ _ rfl (World.ownsRow_nil _ _ _ _) (some ⟨b, off, none⟩) 0 0 ys rfl HY.out (HOB _ b1) (by omega) (Nat.le_refl _) ?_; intro v' w2 hown hgrow; have b2 : Below w.heap.size w w2 := b1.grown hgrow b1.size (by intro k hk; cases hk); obtain ⟨ao', cap', e9, he1⟩ := own_octs (xs := ys) (by have := HY.out; omega) (by simp) (by rw [← HY.out]; omega) HBY.out hown; rw [← HY.out] at e9; subst e9))
            have KS := fun v1 h => HS ao' cap' w2 v1 he1 h
            have KT := fun v1 h => HT2 w2 v1 b2 h
            have bx : Below w2.heap.size w2 w2.drew := (Below.refl _ _).drew
            go_region_with (first
              | (go_at_call 25; (with_reducible refine (KS _ ?_).mono ?_); assumption; rintro e w3 ⟨rfl, b3⟩)
              | (go_at_call 27; (with_reducible refine (KT _ ?_).mono ?_); assumption; rintro e w4 ⟨rfl, b4⟩))
            all_goals
              go_wp2
              go_ret3
              first | exact ⟨ao', cap', rfl, he1.later b4, b2.trans (b4.mono b2.size)⟩ | exact ⟨ao', cap', rfl, he1.later b3, b2.trans (b3.mono b2.size)⟩
          · rw [if_neg h0] at hg2
            subst hg2
            go_enter Tryd.func14, Tryd.ntmps14
            go_wp2_with (first
              | (go_at_call 27; (with_reducible refine HT1.mono ?_); rintro e w1 ⟨rfl, b1⟩)
              | (at_builtin; refine wpList_append_oct rfl _ _ rfl w1.heap.size _ _ _ rfl (World.ownsRow_nil _ _ _ _) (some ⟨b, off + 8, none⟩) (cap - 8) (8 + m - 8) ys rfl (by rw [← HY.out]; omega) (HOB _ b1) (by omega) (Nat.le_refl _) ?_; intro v' w2 hown hgrow; have b2 : Below w.heap.size w w2 := b1.grown hgrow b1.size (by intro k hk; cases hk); obtain ⟨ao', cap', e9, he1⟩ := own_octs (xs := ys) (by have := HY.out; omega) (by simp) (by rw [← HY.out]; omega) HBY.out hown; rw [← HY.out] at e9; subst e9))
            have KS := fun v1 h => HS ao' cap' w2 v1 he1 h
            have KT := fun v1 h => HT2 w2 v1 b2 h
            have bx : Below w2.heap.size w2 w2.drew := (Below.refl _ _).drew
            go_region_with (first
              | (go_at_call 25; (with_reducible refine (KS _ ?_).mono ?_); assumption; rintro e w3 ⟨rfl, b3⟩)
              | (go_at_call 27; (with_reducible refine (KT _ ?_).mono ?_); assumption; rintro e w4 ⟨rfl, b4⟩))
            all_goals
              go_wp2
              go_ret3
              first | exact ⟨ao', cap', rfl, he1.later b4, b2.trans (b4.mono b2.size)⟩ | exact ⟨ao', cap', rfl, he1.later b3, b2.trans (b3.mono b2.size)⟩
        · obtain ⟨e1, e2, e3⟩ := open_other h8 (by rw [← hp]; exact hg) (by rw [← hp, ← hn]; omega) hs
          rw [e1, e2, e3]
          rw [← hn] at hl h8 hcap HT1 HT2
          rw [← hn]
          have hne : ((s : Int) == q) = false := by
            rw [hq, hs1]
            simpa using hs
          clear e1 e2 e3 he hmp hbl hq hp hn hs hys hs1
          subst hm
          rcases Decidable.em (cap = 8) with h0 | h0
          · rw [if_pos h0] at hg2
            subst h0 hg2
            obtain rfl : m = 0 := by omega
            go_enter Tryd.func14, Tryd.ntmps14
            go_wp2_with (first
              | (go_at_call 27; (with_reducible refine HT1.mono ?_); rintro e w1 ⟨rfl, b1⟩)
              | (at_builtin; refine wpList_append_oct rfl _ _ rfl w1.heap.size _ _ _ rfl (World.ownsRow_nil _ _ _ _) (some ⟨b, off, none⟩) 0 0 ys rfl HY.out (HOB _ b1) (by omega) (Nat.le_refl _) ?_; intro v' w2 hown hgrow; have b2 : Below w.heap.size w w2 := b1.grown hgrow b1.size (by intro k hk; cases hk); obtain ⟨ao', cap', e9, he1⟩ := own_octs (xs := ys) (by have := HY.out; omega) (by simp) (by rw [← HY.out]; omega) HBY.out hown; rw [← HY.out] at e9; subst e9))
            have KS := fun v1 h => HS ao' cap' w2 v1 he1 h
            have KT := fun v1 h => HT2 w2 v1 b2 h
            have bx : Below w2.heap.size w2 w2.drew := (Below.refl _ _).drew
            go_region_with (first
              | (go_at_call 25; (with_reducible refine (KS _ ?_).mono ?_); assumption; rintro e w3 ⟨rfl, b3⟩)
              | (go_at_call 27; (with_reducible refine (KT _ ?_).mono ?_); assumption; rintro e w4 ⟨rfl, b4⟩))
            all_goals
              go_wp2
              go_ret3
              first | exact ⟨none, 0, rfl, Octs.nil _ _ _ (fun _ => rfl), b2.trans (b4.mono b2.size)⟩ | exact ⟨none, 0, rfl, Octs.nil _ _ _ (fun _ => rfl), b2.trans (b3.mono b2.size)⟩
          · rw [if_neg h0] at hg2
            subst hg2
            go_enter Tryd.func14, Tryd.ntmps14
            go_wp2_with (first
              | (go_at_call 27; (with_reducible refine HT1.mono ?_); rintro e w1 ⟨rfl, b1⟩)
              | (at_builtin; refine wpList_append_oct rfl _ _ rfl w1.heap.size _ _ _ rfl (World.ownsRow_nil _ _ _ _) (some ⟨b, off + 8, none⟩) (cap - 8) (8 + m - 8) ys rfl (by rw [← HY.out]; omega) (HOB _ b1) (by omega) (Nat.le_refl _) ?_; intro v' w2 hown hgrow; have b2 : Below w.heap.size w w2 := b1.grown hgrow b1.size (by intro k hk; cases hk); obtain ⟨ao', cap', e9, he1⟩ := own_octs (xs := ys) (by have := HY.out; omega) (by simp) (by rw [← HY.out]; omega) HBY.out hown; rw [← HY.out] at e9; subst e9))
            have KS := fun v1 h => HS ao' cap' w2 v1 he1 h
            have KT := fun v1 h => HT2 w2 v1 b2 h
            have bx : Below w2.heap.size w2 w2.drew := (Below.refl _ _).drew
            go_region_with (first
              | (go_at_call 25; (with_reducible refine (KS _ ?_).mono ?_); assumption; rintro e w3 ⟨rfl, b3⟩)
              | (go_at_call 27; (with_reducible refine (KT _ ?_).mono ?_); assumption; rintro e w4 ⟨rfl, b4⟩))
            all_goals
              go_wp2
              go_ret3
              first | exact ⟨none, 0, rfl, Octs.nil _ _ _ (fun _ => rfl), b2.trans (b4.mono b2.size)⟩ | exact ⟨none, 0, rfl, Octs.nil _ _ _ (fun _ => rfl), b2.trans (b3.mono b2.size)⟩

end Go.Proofs.YtjjencnnmpefbaaDoor
