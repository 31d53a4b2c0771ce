/- What the turning over of bits within 32 in a row comes to; where none was turned the bytes are as they were, and they lie in new memory. -/
import Derived.Test.YtjjencnnmpefbaaDoorBurstPlain
import Derived.Test.YtjjencnnmpefbaaDoorOctAppend
import Derived.Test.YtjjencnnmpefbaaDoorPicked
import Derived.LoopTactic
import Derived.Handy
namespace Go.Proofs.YtjjencnnmpefbaaDoor
open Go.ChangeShapes Go.WideShapes Go.ChangeAt Go.RowKit

set_option maxHeartbeats 1000000 in
theorem turned_over (ao : Option Addr) (cap : Nat) (xs : List Int) (at_ pat : Int) (h2 : xs.length ≤ 2000) (w : World) (he : Octs w ao cap xs) :
    Calls Tryd.prog 21 #[.slice ao xs.length cap, .int .i64 at_, .int .i64 pat] w fun e w' => ∃ ao' cap' ys, ∃ c : Nat,
      e = .returned (.tuple #[.slice ao' xs.length cap', .int .i64 c]) ∧ xs.length = ys.length ∧ Octs w' ao' cap' ys ∧ (c = 0 ↔ sumOf 0#32 xs = sumOf 0#32 ys) ∧ (c = 0 → ys = xs) ∧ (∀ a, ao' = some a → w.heap.size ≤ a.block) ∧ Below w.heap.size w w' := by
  have HE : Hid (Octs w ao cap xs) := he
  clear he
  obtain ⟨n, hn⟩ : ∃ n, n = xs.length := ⟨_, rfl⟩
  rw [← hn] at h2
  rw [← hn]
  have HN : Hid (n = xs.length) := hn
  clear hn
  by_cases hz : n = 0
  · have hx : xs = [] := List.length_eq_zero_iff.1 (by rw [← HN.out]; exact hz)
    subst hz hx
    go_enter Tryd.func21, Tryd.ntmps21
    go_wp2_with (at_builtin; refine wpList_append_oct rfl _ _ rfl w.heap.size _ _ _ rfl (World.ownsRow_nil _ _ _ _) ao cap 0 [] rfl rfl HE.out (by omega) (Nat.le_refl _) ?_; intro v' w1 hown hgrow; have hb1 : Below w.heap.size w w1 := (Below.refl _ w).grown hgrow (Nat.le_refl _) (by intro k hk; cases hk); obtain ⟨ao', cap', rfl, he1⟩ := own_octs (xs := []) (by simp) (by simp) (by simp) (by simp) hown)
    go_ret2
    exact ⟨ao', cap', [], 0, rfl, rfl, he1, by simp, fun _ => rfl, fun a ha => by subst ha; exact (hown.lt a.block rfl).1, hb1⟩
  · obtain ⟨fm, hfm⟩ : ∃ fm : Nat, (fm : Int) = at_ % ((8 * n : Nat) : Int) := ⟨(at_ % ((8 * n : Nat) : Int)).toNat, Int.toNat_of_nonneg (Int.emod_nonneg _ (by omega))⟩
    have hlt : fm < 8 * n := by
      have := Int.emod_lt_of_pos at_ (b := ((8 * n : Nat) : Int)) (by omega)
      omega
    have HP : ∀ v1, Calls Tryd.prog 20 #[.int .i64 at_, .int .i64 (8 * (n : Int))] v1 fun e w' => e = .returned (.int .i64 (fm : Int)) ∧ v1 = w' := by
      intro v1
      have := Picked_any at_ ((8 * n : Nat) : Int) (by omega) (by omega) v1
      rw [← hfm] at this
      rw [show (8 * (n : Int)) = ((8 * n : Nat) : Int) by omega]
      exact this
    clear hfm
    go_enter Tryd.func21, Tryd.ntmps21
    go_wp2_with (first
      | (at_builtin; refine wpList_append_oct rfl _ _ rfl w.heap.size _ _ _ rfl (World.ownsRow_nil _ _ _ _) ao cap n xs rfl HN.out HE.out (by omega) (Nat.le_refl _) ?_; intro v' w1 hown hgrow; have hb1 : Below w.heap.size w w1 := (Below.refl _ w).grown hgrow (Nat.le_refl _) (by intro k hk; cases hk); rw [Nat.zero_add, List.nil_append] at hown; obtain ⟨g, gcap, rfl, hO⟩ := own_ownOcts HN.out.symm (by omega) hown; clear hown)
      | (go_at_call 20; refine (HP _).mono ?_; rintro e w2 ⟨rfl, rfl⟩))
    go_loopw [9, 11] (fun q i wr => ∃ k c : Nat, ∃ f v, k ≤ 32 ∧ q = .int .i64 c ∧ i = .int .i64 k ∧ Hid (OwnOcts wr w.heap.size g n gcap f ∧ Below w.heap.size w wr ∧ Burst n fm (fun i => xs.getD i 0) f k c v ∧ (c = 0 → f = fun i => xs.getD i 0))) (fun _ i _ => 32 - (intOf i).toNat)
    case atStart =>
      refine ⟨0, 0, _, _, Nat.zero_le _, rfl, rfl, hO, hb1, Burst.start ?_, fun _ => rfl⟩
      intro i hi
      obtain ⟨_, _, _, _, q1, q2⟩ := HE.out.at (k := i) (by rw [← HN.out]; exact hi)
      exact ⟨q1, q2⟩
    case round =>
      obtain ⟨k, c, f, v, hk, rfl, rfl, HR⟩ := hrel
      by_cases h32 : k < 32
      · by_cases hin : fm + k < 8 * n
        · have hck := HR.out.2.2.1.2.2.2.2
          by_cases hbit : bits .and .i64 (pat / 2 ^ k) 1 = 1
          · obtain ⟨m, hm⟩ : ∃ m, m = (fm + k) / 8 := ⟨_, rfl⟩
            obtain ⟨t, ht⟩ : ∃ t, t = (fm + k) % 8 := ⟨_, rfl⟩
            have hmn : m < n := by omega
            have ht8 : t < 8 := by omega
            have q1 : ((fm : Int) + (k : Int)) / 8 = (m : Int) := by omega
            have q2 : ((fm : Int) + (k : Int)).tdiv 8 = (m : Int) := by rw [Int.tdiv_eq_ediv_of_nonneg (by omega)]; omega
            have r1 : ((fm : Int) + (k : Int)) % 8 = (t : Int) := by omega
            have r2 : ((fm : Int) + (k : Int)).tmod 8 = (t : Int) := by rw [Int.tmod_eq_emod_of_nonneg (by omega)]; omega
            have hc := HR.out.1.cell hmn
            have hf := HR.out.1.frozen m
            have hb := HR.out.2.2.1.1 m hmn
            have HT : Hid (m = (fm + k) / 8 ∧ t = (fm + k) % 8 ∧ flipped f (fm + k) m = bits .xor .u8 (f m) ((2 ^ t : Nat) : Int)) := ⟨hm, ht, by unfold flipped; rw [if_pos hm, ← ht]⟩
            clear hm ht
            generalize f m = x at hc hb HT
            have HP2 : Hid ((2 : Int) ^ t % 256 = ((2 ^ t : Nat) : Int)) := by
              have : ∀ t, t < 8 → (2 : Int) ^ t % 256 = ((2 ^ t : Nat) : Int) := by decide
              exact this t ht8
            go_wp2_with (go_region)
            all_goals
              go_roundw
              case rel =>
                refine ⟨k + 1, c + 1, flipped f (fm + k), _, by omega, by go_num, by go_num, ((HR.out.1.stored m _).drew.congr ?_), (HR.out.2.1.setCell HR.out.1.lt.1 _).drew, HR.out.2.2.1.turn h32 hin, fun e => by omega⟩
                intro i _
                rw [HP2.out]
                by_cases him : i = m
                · rw [if_pos him, him, HT.out.2.2]
                · rw [if_neg him]
                  unfold flipped
                  rw [if_neg (by rw [← HT.out.1]; exact him)]
              case measure => simp [intOf]; omega
          · go_wp2
            go_roundw
            case rel => exact ⟨k + 1, c, f, v, by omega, rfl, by go_num, HR.out.1, HR.out.2.1, HR.out.2.2.1.stay, HR.out.2.2.2⟩
            case measure => simp [intOf]; omega
        · have R := HR.out
          go_wp2
          go_ret2
          refine ⟨_, _, rowOf n f, c, rfl, (rowOf_length _ _).symm, R.1.octs (by omega) R.2.2.1.1, ?_, fun e => by rw [R.2.2.2 e, HN.out, ← eq_rowOf], fun a ha => by cases ha; exact R.1.lt.1, R.2.1⟩
          have := R.2.2.1.seen
          rw [HN.out, ← eq_rowOf] at this
          rw [HN.out]
          exact this
      · have R := HR.out
        go_wp2
        go_ret2
        refine ⟨_, _, rowOf n f, c, rfl, (rowOf_length _ _).symm, R.1.octs (by omega) R.2.2.1.1, ?_, fun e => by rw [R.2.2.2 e, HN.out, ← eq_rowOf], fun a ha => by cases ha; exact R.1.lt.1, R.2.1⟩
        have := R.2.2.1.seen
        rw [HN.out, ← eq_rowOf] at this
        rw [HN.out]
        exact this

end Go.Proofs.YtjjencnnmpefbaaDoor
