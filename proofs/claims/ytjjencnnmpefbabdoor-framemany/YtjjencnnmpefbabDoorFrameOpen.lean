/- What Open comes to at every slice of bytes. -/
import Derived.Test.YtjjencnnmpefbabDoorFrameFour
import Derived.Test.YtjjencnnmpefbabDoorFoursLaid
import Derived.Test.YtjjencnnmpefbabDoorOctAppend
import Derived.BigQuiet
import Derived.WalkSmall
namespace Go.Proofs.YtjjencnnmpefbabDoor
open Go.ChangeShapes Go.WideShapes Go.ChangeAt Go.RowKit

/-- the bytes behind the first ones -/
theorem Octs.drop {w : World} {b off cap : Nat} {xs : List Int} (h : Octs w (some ⟨b, off, none⟩) cap xs) {k : Nat} (hk : k ≤ xs.length) : Octs w (some ⟨b, off + k, none⟩) (cap - k) (xs.drop k) := by
  have h1 := h.1
  have h2 := h.2.1
  refine ⟨by rw [List.length_drop]; omega, by rw [List.length_drop]; omega, (fun h => by cases h), fun y hy => h.2.2.2.1 y (List.mem_of_mem_drop hy), ?_⟩
  rcases h.2.2.2.2 with h' | ⟨b', off', e, hc⟩
  · left; subst h'; simp
  · cases e
    right
    refine ⟨b, off + k, rfl, fun i hi => ?_⟩
    rw [List.length_drop] at hi
    rw [Nat.add_assoc, hc (k + i) (by omega)]
    simp [List.getD]

theorem Octs.cut {w : World} {ao : Option Addr} {cap cap' : Nat} {xs : List Int} (h : Octs w ao cap xs) (h1 : xs.length ≤ cap') (h2 : ao ≠ none) : Octs w ao cap' xs :=
  ⟨h1, h.2.1, fun e => absurd e h2, h.2.2.2⟩

set_option maxHeartbeats 1000000 in
theorem Open_new (ao : Option Addr) (cap : Nat) (xs : List Int) (w : World) (tab : Fours w) (he : Octs w ao cap xs) :
    Calls Tryd.prog 5 #[.slice ao xs.length cap] w fun e w' => ∃ ao' cap', e = .returned (.tuple #[.slice ao' (openVal xs).length cap', .int .i64 (openLen xs), .int .i64 (openErr xs)]) ∧ Octs w' ao' cap' (openVal xs) ∧ (∀ a, ao' = some a → w.heap.size ≤ a.block) ∧ Below w.heap.size w w' := by
  have hl := he.2.1
  by_cases h8 : xs.length < 8
  · obtain ⟨e1, e2, e3⟩ := open_short h8
    rw [e1, e2, e3]
    clear e1 e2 e3 he
    generalize xs.length = n at hl h8
    go_enter Tryd.func5, Tryd.ntmps5
    go_wp2
    go_ret3
    exact ⟨none, 0, rfl, Octs.nil _ _ _ (fun _ => rfl), (fun _ h => by cases h), Below.refl _ _⟩
  · obtain ⟨b, off, rfl, -⟩ := he.at (k := 0) (by omega)
    have hcap := he.1
    have HB : Hid (∀ y ∈ xs, 0 ≤ y ∧ y ≤ 255) := he.2.2.2.1
    have HE : Hid (Octs w (some ⟨b, off, none⟩) cap xs) := he
    have HT1 : ∀ k, Calls Tryd.prog 12 #[.slice (some ⟨b, off, none⟩) xs.length cap] (w.drewN k) fun e w' => e = .returned (.int .i64 (num4 xs)) ∧ w' = w.drewN k := fun k => told_any _ cap xs (by omega) _ HE.out
    have HT2 : ∀ k, Calls Tryd.prog 12 #[.slice (some ⟨b, off + 4, none⟩) (xs.length - 4) (cap - 4)] (w.drewN k) fun e w' => e = .returned (.int .i64 (num4 (xs.drop 4))) ∧ w' = w.drewN k := by
      intro k
      have := told_any _ (cap - 4) (xs.drop 4) (by rw [List.length_drop]; omega) (w.drewN k) (HE.out.drop (k := 4) (by omega))
      rwa [List.length_drop] at this
    obtain ⟨q, hq⟩ : ∃ q, q = num4 (xs.drop 4) := ⟨_, rfl⟩
    rw [← hq] at HT2
    obtain ⟨p, hp⟩ : ∃ p, p = num4 xs := ⟨_, rfl⟩
    rw [← hp] at HT1
    obtain ⟨p0, p1⟩ := num4_bounds (xs := xs) (by omega) HB.out
    rw [← hp] at p0 p1
    obtain ⟨n, hn⟩ : ∃ n, n = xs.length := ⟨_, rfl⟩
    by_cases hg : 4000 < p
    · obtain ⟨e1, e2, e3⟩ := open_great h8 (by rw [← hp]; exact hg)
      rw [e1, e2, e3]
      rw [← hn] at hl h8 hcap HT1 HT2
      rw [← hn]
      clear e1 e2 e3 he hq hp hn
      go_enter Tryd.func5, Tryd.ntmps5
      go_wp2
      go_quiet (first | (go_at_call 12; (with_reducible refine Calls.quiet_of_same (HT1 _))) | (go_at_call 12; (with_reducible refine Calls.quiet_of_same (HT2 _))))
      go_wp2
      go_ret3
      exact ⟨none, 0, rfl, Octs.nil _ _ _ (fun _ => rfl), (fun _ h => by cases h), below_drewN (Below.refl _ _) _⟩
    · obtain ⟨m, hm⟩ : ∃ m : Nat, p = (m : Int) := ⟨p.toNat, (Int.toNat_of_nonneg p0).symm⟩
      by_cases ht : n < 8 + m
      · obtain ⟨e1, e2, e3⟩ := open_torn h8 (by rw [← hp]; exact hg) (by rw [← hp, ← hn]; omega)
        rw [e1, e2, e3]
        rw [← hn] at hl h8 hcap HT1 HT2
        rw [← hn]
        clear e1 e2 e3 he hq hp hn
        subst hm
        go_enter Tryd.func5, Tryd.ntmps5
        go_wp2
        go_quiet (first | (go_at_call 12; (with_reducible refine Calls.quiet_of_same (HT1 _))) | (go_at_call 12; (with_reducible refine Calls.quiet_of_same (HT2 _))))
        go_wp2
        go_ret3
        exact ⟨none, 0, rfl, Octs.nil _ _ _ (fun _ => rfl), (fun _ h => by cases h), below_drewN (Below.refl _ _) _⟩
      · have hmp : (num4 xs).toNat = m := by rw [← hp, hm]; rfl
        have hbl : (bodyOf xs).length = m := by
          have := bodyOf_length (xs := xs) (by omega) (by rw [← hp]; exact p0) (by rw [← hp, ← hn]; omega)
          rw [← hp] at this
          omega
        obtain ⟨ys, hys⟩ : ∃ ys, ys = bodyOf xs := ⟨_, rfl⟩
        obtain ⟨s, hs1⟩ : ∃ s, s = sumN (bodyOf xs) := ⟨_, rfl⟩
        have HBY : Hid (∀ y ∈ ys, 0 ≤ y ∧ y ≤ 255) := by rw [hys]; exact bodyOf_byte HB.out
        have HY : Hid (m = ys.length) := by rw [hys]; exact hbl.symm
        have HOB : Hid (∀ k : Nat, Octs (w.drewN k) (some (if 8 + m = 8 then ⟨b, off, none⟩ else ⟨b, off + 8, none⟩)) m ys) := by
          intro k
          have hmc : m ≤ cap - 8 := by omega
          by_cases h0 : m = 0
          · have : ys = [] := List.length_eq_zero_iff.1 (by rw [← HY.out]; exact h0)
            rw [this, if_pos (by omega)]
            exact Octs.nil _ _ _ (fun h => by cases h)
          · rw [if_neg (by omega)]
            refine Octs.cut (cap := cap - 8) ?_ (by rw [← HY.out]; omega) (fun h => by cases h)
            rw [hys]
            unfold bodyOf
            exact (Octs.drop (w := w.drewN k) HE.out (by omega)).take _
        obtain ⟨g, hg2⟩ : ∃ g, g = (if 8 + m = 8 then (⟨b, off, none⟩ : Addr) else ⟨b, off + 8, none⟩) := ⟨_, rfl⟩
        rw [← hg2] at HOB
        have HO : ∀ k, Calls Tryd.prog 13 #[.slice (some g) m m] (w.drewN k) fun e w' => e = .returned (.int .i64 (s : Int)) ∧ w.drewN k = w' := by
          intro k
          have := Of_any (some g) m ys (w.drewN k) tab (HOB.out k)
          rw [← HY.out] at this
          rw [hs1, ← hys]
          exact this.mono (fun e w' h => ⟨h.1, h.2.symm⟩)
        by_cases hs : (sumN (bodyOf xs) : Int) = num4 (xs.drop 4)
        · obtain ⟨e1, e2, e3⟩ := open_good h8 (by rw [← hp]; exact hg) (by rw [← hp, ← hn]; omega) hs
          rw [e1, e2, e3, hmp, ← hys, ← HY.out]
          rw [← hn] at hl h8 hcap HT1 HT2
          rw [← hn]
          have hqs : q = (s : Int) := by rw [hq, hs1, hs]
          clear e1 e2 e3 he hmp hbl hq hp hn hs hys hs1
          subst hm hqs
          rcases Nat.eq_zero_or_pos m with h0 | h0
          · rw [if_pos (by omega)] at hg2
            subst h0 hg2
            go_enter Tryd.func5, Tryd.ntmps5
            go_wp2
            go_quiet (first | (go_at_call 12; (with_reducible refine Calls.quiet_of_same (HT1 _))) | (go_at_call 12; (with_reducible refine Calls.quiet_of_same (HT2 _))))
            go_wp2_with (first
              | (go_at_call 13; (with_reducible refine (HO _).mono ?_); rintro e w2 ⟨rfl, rfl⟩)
              | (at_builtin; refine wpList_append_oct rfl _ _ rfl w.heap.size _ _ _ rfl (World.ownsRow_nil _ _ _ _) (some ⟨b, off, none⟩) 0 0 ys rfl HY.out (HOB.out _) (by omega) (Nat.le_refl _) ?_; intro v' w1 hown hgrow; have hb1 : Below w.heap.size w w1 := (below_drewN (Below.refl _ w) _).grown hgrow (Nat.le_refl _) (by intro k hk; cases hk); obtain ⟨ao', cap', e9, he1⟩ := own_octs (xs := ys) (by rw [Nat.zero_add]; exact HY.out) (by simp) (by rw [← HY.out]; omega) HBY.out hown; rw [← HY.out] at e9; subst e9; have hnew := own_new hown))
            go_ret3
            exact ⟨ao', cap', rfl, he1, hnew, hb1⟩
          · rw [if_neg (by omega)] at hg2
            subst hg2
            have h0 : ¬ m = 0 := by omega
            go_enter Tryd.func5, Tryd.ntmps5
            go_wp2
            go_quiet (first | (go_at_call 12; (with_reducible refine Calls.quiet_of_same (HT1 _))) | (go_at_call 12; (with_reducible refine Calls.quiet_of_same (HT2 _))))
            go_wp2_with (first
              | (go_at_call 13; (with_reducible refine (HO _).mono ?_); rintro e w2 ⟨rfl, rfl⟩)
              | (at_builtin; refine wpList_append_oct rfl _ _ rfl w.heap.size _ _ _ rfl (World.ownsRow_nil _ _ _ _) (some ⟨b, off + 8, none⟩) m m ys rfl HY.out (HOB.out _) (by omega) (Nat.le_refl _) ?_; intro v' w1 hown hgrow; have hb1 : Below w.heap.size w w1 := (below_drewN (Below.refl _ w) _).grown hgrow (Nat.le_refl _) (by intro k hk; cases hk); obtain ⟨ao', cap', e9, he1⟩ := own_octs (xs := ys) (by rw [Nat.zero_add]; exact HY.out) (by simp) (by rw [← HY.out]; omega) HBY.out hown; rw [← HY.out] at e9; subst e9; have hnew := own_new hown))
            go_ret3
            exact ⟨ao', cap', rfl, he1, hnew, hb1⟩
        · obtain ⟨e1, e2, e3⟩ := open_other h8 (by rw [← hp]; exact hg) (by rw [← hp, ← hn]; omega) hs
          rw [e1, e2, e3]
          rw [← hn] at hl h8 hcap HT1 HT2
          rw [← hn]
          have hne : ((s : Int) == q) = false := by
            rw [hq, hs1]
            simpa using hs
          clear e1 e2 e3 he hmp hbl hq hp hn hs hys hs1 HY HBY
          subst hm
          rcases Nat.eq_zero_or_pos m with h0 | h0
          · rw [if_pos (by omega)] at hg2
            subst h0 hg2
            go_enter Tryd.func5, Tryd.ntmps5
            go_wp2
            go_quiet (first | (go_at_call 12; (with_reducible refine Calls.quiet_of_same (HT1 _))) | (go_at_call 12; (with_reducible refine Calls.quiet_of_same (HT2 _))))
            go_wp2_with (go_at_call 13; (with_reducible refine (HO _).mono ?_); rintro e w2 ⟨rfl, rfl⟩)
            go_ret3
            exact ⟨none, 0, rfl, Octs.nil _ _ _ (fun _ => rfl), (fun _ h => by cases h), below_drewN (Below.refl _ _) _⟩
          · rw [if_neg (by omega)] at hg2
            subst hg2
            have h0 : ¬ m = 0 := by omega
            go_enter Tryd.func5, Tryd.ntmps5
            go_wp2
            go_quiet (first | (go_at_call 12; (with_reducible refine Calls.quiet_of_same (HT1 _))) | (go_at_call 12; (with_reducible refine Calls.quiet_of_same (HT2 _))))
            go_wp2_with (go_at_call 13; (with_reducible refine (HO _).mono ?_); rintro e w2 ⟨rfl, rfl⟩)
            go_ret3
            exact ⟨none, 0, rfl, Octs.nil _ _ _ (fun _ => rfl), (fun _ h => by cases h), below_drewN (Below.refl _ _) _⟩

theorem Open_any (ao : Option Addr) (cap : Nat) (xs : List Int) (w : World) (tab : Fours w) (he : Octs w ao cap xs) :
    Calls Tryd.prog 5 #[.slice ao xs.length cap] w fun e w' => ∃ ao' cap', e = .returned (.tuple #[.slice ao' (openVal xs).length cap', .int .i64 (openLen xs), .int .i64 (openErr xs)]) ∧ Octs w' ao' cap' (openVal xs) ∧ Below w.heap.size w w' :=
  (Open_new ao cap xs w tab he).mono fun _ _ ⟨a, c, h1, h2, _, h4⟩ => ⟨a, c, h1, h2, h4⟩

end Go.Proofs.YtjjencnnmpefbabDoor
