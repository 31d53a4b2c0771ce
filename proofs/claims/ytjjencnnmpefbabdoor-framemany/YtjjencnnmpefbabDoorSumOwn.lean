/- What the program's sum comes to at every slice of bytes. -/
import Derived.Test.YtjjencnnmpefbabDoorCrcPlain
import Derived.Test.YtjjencnnmpefbabDoorOctPlain
import Derived.Laws.BitsAllLaws
import Derived.LoopTactic
import Derived.Handy
namespace Go.Proofs.YtjjencnnmpefbabDoor
open Go.ChangeShapes Go.WideShapes Go.ChangeAt Go.RowKit

/-- the table of the program as it is laid -/
def Fours (w : World) : Prop := ∀ i, i < 16 → w.cell? ⟨0, i, none⟩ = some (.int .u32 ((fours.getD i 0 : Nat) : Int))

/-- a word as a number -/
def wd (r : BitVec 32) : Int := (r.toNat : Int)

theorem wd_lo (r : BitVec 32) : 0 ≤ wd r := by unfold wd; omega
theorem wd_hi (r : BitVec 32) : wd r ≤ 4294967295 := by unfold wd; have := r.isLt; omega

theorem wd_ofNat {n : Nat} (h : n < 4294967296) : wd (BitVec.ofNat 32 n) = (n : Int) := by
  unfold wd; rw [BitVec.toNat_ofNat, Nat.mod_eq_of_lt (by omega)]

theorem wd_xor (a b : BitVec 32) : bits .xor .u32 (wd a) (wd b) = wd (a ^^^ b) := by
  unfold wd
  rw [u32_xor_nat _ _ (by have := a.isLt; omega) (by have := b.isLt; omega), BitVec.toNat_xor]

theorem wd_not (a : BitVec 32) : bits .xor .u32 IntKind.u32.max (wd a) = wd (~~~a) := by
  have h := wd_xor (BitVec.allOnes 32) a
  rw [BitVec.allOnes_xor] at h
  exact h

theorem wd_four (r : BitVec 32) : wd r / (16 : Int) = wd (r >>> 4) := by
  unfold wd
  rw [BitVec.toNat_ushiftRight, Nat.shiftRight_eq_div_pow]
  omega

theorem wd_inj {a b : BitVec 32} (h : wd a = wd b) : a = b := by
  unfold wd at h
  exact BitVec.eq_of_toNat_eq (by omega)

theorem fours_lt : ∀ i, i < 16 → fours.getD i 0 < 4294967296 := by decide

theorem divided_any (r : BitVec 32) (w : World) (tab : Fours w) :
    Calls Tryd.prog 16 #[.int .u32 (wd r)] w fun e w' => e = .returned (.int .u32 (wd (ones 4 r))) ∧ w' = w := by
  have h0 := wd_lo r
  have h1 := wd_hi r
  have hm : bits .and .u32 (wd r) 15 = ((r.toNat % 16 : Nat) : Int) := by
    rw [u32_and _ _ h0 (by omega) (by omega) (by omega)]
    show ((r.toNat &&& (2 ^ 4 - 1) : Nat) : Int) = _
    rw [Nat.and_two_pow_sub_one_eq_mod]
  have hlt : r.toNat % 16 < 16 := Nat.mod_lt _ (by omega)
  have hc := tab _ hlt
  have hx : bits .xor .u32 (wd r / 16) ((fours.getD (r.toNat % 16) 0 : Nat) : Int) = wd (ones 4 r) := by
    rw [ones_four, ← wd_xor, wd_four, wd_ofNat (fours_lt _ hlt)]
  generalize r.toNat % 16 = m at hm hc hlt hx
  generalize ((fours.getD m 0 : Nat) : Int) = t at hc hx
  go_enter Tryd.func16, Tryd.ntmps16
  go_wp2
  go_ret
  exact ⟨rfl, rfl⟩

/-- the sum of bytes behind a word -/
theorem behind_any (s : BitVec 32) (ao : Option Addr) (cap : Nat) (xs : List Int) (w : World) (tab : Fours w) (he : Octs w ao cap xs) :
    Calls Tryd.prog 15 #[.int .u32 (wd s), .slice ao xs.length cap] w fun e w' => e = .returned (.int .u32 (wd (sumOf s xs))) ∧ w' = w := by
  have hl := he.2.1
  have HE : Hid (Octs w ao cap xs) := he
  clear he
  obtain ⟨n, hn⟩ : ∃ n, n = xs.length := ⟨_, rfl⟩
  rw [← hn] at hl
  rw [← hn]
  have HN : Hid (n = xs.length) := hn
  clear hn
  have hnot := wd_not s
  have HR : Hid (run (~~~s) xs = ~~~(sumOf s xs)) := by unfold Hid sumOf; simp
  generalize sumOf s xs = u at HR ⊢
  have hnu := wd_not (~~~u)
  rw [BitVec.not_not] at hnu
  go_enter Tryd.func15, Tryd.ntmps15
  go_wp2
  go_loopw [5, 12] (fun l i wr => ∃ k : Nat, ∃ r : BitVec 32, k ≤ n ∧ i = .int .i64 k ∧ l = .int .u32 (wd r) ∧ wr = w ∧ Hid (run (~~~s) (xs.take k) = r)) (fun _ i _ => n - (intOf i).toNat)
  case atStart => exact ⟨0, _, Nat.zero_le _, rfl, rfl, rfl, rfl⟩
  case round =>
    obtain ⟨k, r, hk, rfl, rfl, rfl, HS⟩ := hrel
    by_cases hlt : k < n
    · have hx : k < xs.length := by rw [← HN.out]; exact hlt
      obtain ⟨b, off, rfl, hc, hb0, hb1⟩ := HE.out.at hx
      obtain ⟨x, hx1⟩ : ∃ x, x = xs.getD k 0 := ⟨_, rfl⟩
      rw [← hx1] at hc hb0 hb1
      have hxw : bits .xor .u32 (wd r) x = wd (r ^^^ BitVec.ofNat 32 x.toNat) := by
        rw [← wd_xor, wd_ofNat (by omega), Int.toNat_of_nonneg hb0]
      have R : Hid (run (~~~s) (xs.take (k + 1)) = ones 4 (ones 4 (r ^^^ BitVec.ofNat 32 x.toNat))) := by
        rw [List.take_succ_eq_append_getElem hx, run_append, HS.out]
        have : xs[k] = x := by rw [hx1]; simp [List.getD, hx]
        rw [this]
        show fed r x = _
        unfold fed
        rw [← ones_add]
      generalize r ^^^ BitVec.ofNat 32 x.toNat = q at hxw R
      clear hx1 hx HS
      have H1 : Calls Tryd.prog 16 #[.int .u32 (wd q)] wr _ := divided_any q wr tab
      have H2 : Calls Tryd.prog 16 #[.int .u32 (wd (ones 4 q))] wr _ := divided_any (ones 4 q) wr tab
      go_wp2_with (first | (go_at_call 16; with_reducible refine H1.mono ?_; rintro e w' ⟨rfl, rfl⟩) | (go_at_call 16; with_reducible refine H2.mono ?_; rintro e w' ⟨rfl, rfl⟩))
      go_roundw
      case rel => exact ⟨k + 1, _, by omega, by go_num, rfl, trivial, R⟩
      case measure => simp [intOf]; omega
    · have hkn : k = n := by omega
      subst hkn
      have R : r = ~~~u := by
        have := HS.out
        rw [List.take_of_length_le (by rw [← HN.out]; exact Nat.le_refl _), HR.out] at this
        exact this.symm
      clear HS
      subst R
      go_wp2
      go_ret
      exact ⟨rfl, rfl⟩

theorem Of_any (ao : Option Addr) (cap : Nat) (xs : List Int) (w : World) (tab : Fours w) (he : Octs w ao cap xs) :
    Calls Tryd.prog 13 #[.slice ao xs.length cap] w fun e w' => e = .returned (.int .i64 (wd (sumOf 0#32 xs))) ∧ w' = w := by
  have H : Calls Tryd.prog 15 #[.int .u32 0, .slice ao xs.length cap] w _ := behind_any 0#32 ao cap xs w tab he
  have h0 := wd_lo (sumOf 0#32 xs)
  have h1 := wd_hi (sumOf 0#32 xs)
  generalize sumOf 0#32 xs = u at H h0 h1 ⊢
  go_enter Tryd.func13, Tryd.ntmps13
  go_wp2_with (go_at_call 15; refine H.mono ?_; rintro e w' ⟨rfl, rfl⟩)
  go_ret
  exact ⟨rfl, rfl⟩

end Go.Proofs.YtjjencnnmpefbabDoor
