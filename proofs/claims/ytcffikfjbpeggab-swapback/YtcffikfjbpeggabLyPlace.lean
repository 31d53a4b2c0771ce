/- Places and positions. -/
import Derived.Test.YtcffikfjbpeggabLyMay
import Derived.Deep.RegionHeld3
import Derived.Deep.Cut
namespace Go.Proofs.Ytcffikfjbpeggab
open Go.ChangeShapes Go.WideShapes Go.ChangeAt Go.RowKit

/-- the place of a position among n chains: its chain, its address, the number of the error -/
def plc (r : Bool) (n : Nat) (pos : Int) : Int × Int × Int :=
  if r = false then (0, 0, 4) else if 0 ≤ pos ∧ pos < 64 * n then (pos % n, pos / n, 0) else (0, 0, 2)

/-- the position of a place -/
def psn (r : Bool) (n : Nat) (ch ad : Int) : Int × Int :=
  if r = false then (0, 4) else if (0 ≤ ch ∧ ch < n) ∧ 0 ≤ ad ∧ ad < 64 then (ad * n + ch, 0) else (0, 2)

def three (t : Int × Int × Int) : Value := .tuple #[.int .i64 t.1, .int .i64 t.2.1, .int .i64 t.2.2]
def two (t : Int × Int) : Value := .tuple #[.int .i64 t.1, .int .i64 t.2]

theorem mul_small {n : Nat} {ad ch : Int} (hn : n ≤ 6) (h1 : 0 ≤ ad) (h2 : ad ≤ 64) (h3 : 0 ≤ ch) (h4 : ch ≤ 6) : 0 ≤ ad * n ∧ ad * n ≤ 384 ∧ 0 ≤ ad * n + ch ∧ ad * n + ch ≤ 390 := by
  have a : 0 ≤ ad * (n : Int) := Int.mul_nonneg h1 (by omega)
  have b : ad * (n : Int) ≤ 64 * 6 := Int.mul_le_mul h2 (by omega) (by omega) (by omega)
  omega

set_option maxHeartbeats 1000000 in
theorem posOf_any (ep ch ad : Int) (a : Option Addr) (n cap : Nat) (hn : n ≤ 6) (h1 : 0 ≤ ad) (h2 : ad ≤ 64) (h3 : 0 ≤ ch) (h4 : ch ≤ 6) (w : World) :
    Calls Try.prog 13 #[.agg #[.int .i64 ep, .slice a n cap], .int .i64 ch, .int .i64 ad] w fun e w' => e = .returned (.int .i64 (ad * n + ch)) ∧ Below w.heap.size w w' := by
  obtain ⟨m1, m2, m3, m4⟩ := mul_small hn h1 h2 h3 h4
  have hb := (Below.refl _ w).alloc (Nat.le_refl _) (.cells #[.int .i64 ep, .slice a n cap] 25)
  go_enter Try.func13, Try.ntmps13
  go_wp2
  go_ret
  exact ⟨by simp, hb⟩

/-- a layout's own facts, where it may be -/
theorem may_len {ep : Int} {cs : List (List Int)} (h : mayL ep cs = true) : 1 ≤ cs.length ∧ cs.length ≤ 6 := by
  have := mayL_iff.1 h
  exact ⟨this.2.1.1, this.2.1.2.1⟩

set_option maxHeartbeats 2000000 in
theorem Place_any (ep pos : Int) (a : Option Addr) (cap : Nat) (cs : List (List Int)) (hf : LyFew cs) (hp1 : -9223372036854775808 ≤ pos) (hp2 : pos ≤ 9223372036854775807) (w : World) (hL : Lies (kRow kInt) (fun b => b < w.heap.size) w a cap cs) :
    Calls Try.prog 8 #[.agg #[.int .i64 ep, .slice a cs.length cap], .int .i64 pos] w fun e w' => e = .returned (three (plc (mayL ep cs) cs.length pos)) ∧ Below w.heap.size w w' := by
  have hlen := may_len (ep := ep) (cs := cs)
  obtain ⟨n, hn⟩ : ∃ n, n = cs.length := ⟨_, rfl⟩
  have hb1 : Below w.heap.size w (w.alloc (.cells #[.int .i64 ep, .slice a n cap] 25)) := (Below.refl _ w).alloc (Nat.le_refl _) _
  have cM := May_any ep a cap cs hf (w.alloc (.cells #[.int .i64 ep, .slice a n cap] 25)) (hL.move (ok' := fun b => b < (w.alloc (.cells #[.int .i64 ep, .slice a n cap] 25)).heap.size) (Kept.of_below hb1) (fun b hb _ => by simp; omega))
  rw [← hn] at cM hlen ⊢
  have HK : Hid (∀ V, Below (w.alloc (.cells #[.int .i64 ep, .slice a n cap] 25)).heap.size (w.alloc (.cells #[.int .i64 ep, .slice a n cap] 25)) V → V.cell? ⟨w.heap.size, 0, none⟩ = some (.int .i64 ep) ∧ V.cell? ⟨w.heap.size, 1, none⟩ = some (.slice a n cap)) := put_by fun V hV => ⟨(hV.cell (p := ⟨w.heap.size, 0, none⟩) (by simp)).trans (by simp), (hV.cell (p := ⟨w.heap.size, 1, none⟩) (by simp)).trans (by simp)⟩
  have HB := put_by hb1
  have HM := put_by cM
  clear cM hn hL hf hb1
  cases hr : mayL ep cs with
  | false =>
    rw [hr] at HM
    clear hlen hr
    go_enter Try.func8, Try.ntmps8
    go_wp2_with (go_at_call 10; refine (HM.out).mono ?_; clear HM; rintro e V ⟨rfl, hV⟩; have HV := put_by (HB.out.trans (hV.mono HB.out.size)); clear hV)
    refine bodyPost_ret (results_tmp3 rfl _ _ _) rfl ?_
    exact ⟨rfl, HV.out⟩
  | true =>
    rw [hr] at HM
    obtain ⟨l1, l2⟩ := hlen hr
    clear hlen hr
    have z1 : ((n : Int) == 0) = false := by simp; omega
    by_cases g0 : pos < 0
    · have HP : Hid (plc true n pos = (0, 0, 2)) := put_by (by unfold plc; rw [if_neg (by simp), if_neg (by omega)])
      rw [HP.out]
      go_enter Try.func8, Try.ntmps8
      go_wp2_with (go_at_call 10; refine (HM.out).mono ?_; clear HM; rintro e V ⟨rfl, hV⟩; have HV := put_by (HB.out.trans (hV.mono HB.out.size)); obtain ⟨k1, k2⟩ := HK.out V hV; clear hV)
      go_region
      all_goals go_wp2
      all_goals
        refine bodyPost_ret (results_tmp3 rfl _ _ _) rfl ?_
        exact ⟨rfl, HV.out.drew⟩
    · have t1 : Int.tmod pos n = pos % n := Int.tmod_eq_emod_of_nonneg (by omega)
      have t2 : Int.tdiv pos n = pos / n := Int.tdiv_eq_ediv_of_nonneg (by omega)
      have b1 : 0 ≤ pos / n := Int.ediv_nonneg (by omega) (by omega)
      have b2 : pos / n ≤ pos := Int.ediv_le_self _ (by omega)
      have b3 : 0 ≤ pos % n := Int.emod_nonneg _ (by omega)
      have b4 : pos % n < n := Int.emod_lt_of_pos _ (by omega)
      by_cases g1 : pos < 64 * n
      · have HP : Hid (plc true n pos = (pos % n, pos / n, 0)) := put_by (by unfold plc; rw [if_neg (by simp), if_pos (by omega)])
        have b5 : pos / n < 64 := Int.ediv_lt_of_lt_mul (by omega) g1
        rw [HP.out]
        go_enter Try.func8, Try.ntmps8
        go_wp2_with (go_at_call 10; refine (HM.out).mono ?_; clear HM; rintro e V ⟨rfl, hV⟩; have HV := put_by (HB.out.trans (hV.mono HB.out.size)); obtain ⟨k1, k2⟩ := HK.out V hV; clear hV)
        go_region
        all_goals go_wp2
        all_goals
          refine bodyPost_ret (results_tmp3 rfl _ _ _) rfl ?_
          exact ⟨rfl, HV.out.drew⟩
      · have HP : Hid (plc true n pos = (0, 0, 2)) := put_by (by unfold plc; rw [if_neg (by simp), if_neg (by omega)])
        have b5 : 64 ≤ pos / n := Int.le_ediv_of_mul_le (by omega) (by omega)
        rw [HP.out]
        go_enter Try.func8, Try.ntmps8
        go_wp2_with (go_at_call 10; refine (HM.out).mono ?_; clear HM; rintro e V ⟨rfl, hV⟩; have HV := put_by (HB.out.trans (hV.mono HB.out.size)); obtain ⟨k1, k2⟩ := HK.out V hV; clear hV)
        go_region
        all_goals go_wp2
        all_goals
          refine bodyPost_ret (results_tmp3 rfl _ _ _) rfl ?_
          exact ⟨rfl, HV.out.drew⟩

end Go.Proofs.Ytcffikfjbpeggab
