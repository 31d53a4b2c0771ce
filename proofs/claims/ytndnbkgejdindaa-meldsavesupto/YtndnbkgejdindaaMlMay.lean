/- Which cells and dones may be: the small functions of meld. -/
import Derived.Test.YtndnbkgejdindaaMlMem
import Derived.Test.YtndnbkgejdindaaRegTake
namespace Go.Proofs.Ytndnbkgejdindaa
open Go.ChangeShapes Go.WideShapes Go.ChangeAt Go.RowKit

set_option maxRecDepth 100000 in
theorem mayCount_any (x : Int) (w : World) :
    Calls Try.prog 54 #[.int .i64 x] w fun e w' => e = .returned (.bool (decide (1 ≤ x ∧ x ≤ 1048576))) ∧ w' = w := by
  by_cases h1 : 1 ≤ x
  · by_cases h2 : x ≤ 1048576
    · go_enter Try.func54, Try.ntmps54
      go_wp2
      go_ret
      simp [h1, h2]
    · go_enter Try.func54, Try.ntmps54
      go_wp2
      go_ret
      simp [h2]
  · go_enter Try.func54, Try.ntmps54
    go_wp2
    go_ret
    simp
    omega

set_option maxRecDepth 100000 in
set_option maxHeartbeats 4000000 in
theorem mayBeCell_any (x : Cel) (ka va : Option Addr) (kc vc : Nat) (w : World) (R : Bool) (hR : R = true ↔ (1 ≤ x.key.length ∧ x.key.length ≤ 1200 ∧ x.val.length ≤ 4000 ∧ (x.gone = true → x.val = []))) :
    Calls Try.prog 52 #[.agg #[.slice ka x.key.length kc, .slice va x.val.length vc, .bool x.gone, .int .i64 x.since]] w fun e w' => e = .returned (.bool R) ∧ Below w.heap.size w w' := by
  have e1 : x.val = [] ↔ x.val.length = 0 := List.length_eq_zero_iff.symm
  rw [e1] at hR
  clear e1
  generalize x.key.length = i1 at hR ⊢
  generalize x.val.length = i2 at hR ⊢
  generalize x.gone = g at hR ⊢
  generalize x.since = s
  have HR := put_by hR
  have HB := put_by ((Below.refl w.heap.size w).alloc (Nat.le_refl _) (.cells #[.slice ka i1 kc, .slice va i2 vc, .bool g, .int .i64 s] 51))
  clear hR
  by_cases h1 : 1 ≤ i1
  · by_cases h2 : i1 ≤ 1200
    · by_cases h3 : i2 ≤ 4000
      · cases g with
        | false =>
          have HF : Hid (R = true) := HR.out.2 ⟨h1, h2, h3, fun e => by cases e⟩
          go_enter Try.func52, Try.ntmps52
          go_wp2
          go_ret
          rw [HF.out]
          exact ⟨rfl, HB.out⟩
        | true =>
          by_cases h5 : i2 = 0
          · have HF : Hid (R = true) := HR.out.2 ⟨h1, h2, h3, fun _ => h5⟩
            subst h5
            go_enter Try.func52, Try.ntmps52
            go_wp2
            go_ret
            rw [HF.out]
            exact ⟨rfl, HB.out⟩
          · have HF : Hid (R = false) := of_not HR.out (fun h => h5 (h.2.2.2 rfl))
            have h6 : ((i2 : Int) == 0) = false := by simpa using h5
            go_enter Try.func52, Try.ntmps52
            go_wp2
            go_ret
            rw [HF.out]
            exact ⟨rfl, HB.out⟩
      · have HF : Hid (R = false) := of_not HR.out (fun h => h3 h.2.2.1)
        go_enter Try.func52, Try.ntmps52
        go_wp2
        go_ret
        rw [HF.out]
        exact ⟨rfl, HB.out⟩
    · have HF : Hid (R = false) := of_not HR.out (fun h => h2 h.2.1)
      go_enter Try.func52, Try.ntmps52
      go_wp2
      go_ret
      rw [HF.out]
      exact ⟨rfl, HB.out⟩
  · have HF : Hid (R = false) := of_not HR.out (fun h => h1 h.1)
    go_enter Try.func52, Try.ntmps52
    go_wp2
    go_ret
    rw [HF.out]
    exact ⟨rfl, HB.out⟩

/-- below 0: the first one is less; above 0: the other one -/
def cmpI (a b : Int) : Int := if a < b then -1 else if b < a then 1 else 0

set_option maxRecDepth 100000 in
theorem isNaN_any (x : Int) (w : World) : Calls Try.prog 80 #[.int .i64 x] w fun e w' => e = .returned (.bool false) ∧ w' = w := by
  go_enter Try.func80, Try.ntmps80
  go_wp2
  go_ret
  simp

set_option maxRecDepth 100000 in
set_option maxHeartbeats 4000000 in
theorem CompareI_any (a b : Int) (w : World) : Calls Try.prog 58 #[.int .i64 a, .int .i64 b] w fun e w' => e = .returned (.int .i64 (cmpI a b)) ∧ w' = w := by
  by_cases h1 : a < b
  · have HF : Hid (cmpI a b = -1) := if_pos h1
    go_enter Try.func58, Try.ntmps58
    go_wp2_with (go_at_call 80; (with_reducible refine (isNaN_any _ _).mono ?_); rintro e w1 ⟨rfl, rfl⟩)
    go_ret
    rw [HF.out]
    exact ⟨rfl, rfl⟩
  · by_cases h2 : b < a
    · have HF : Hid (cmpI a b = 1) := by rw [cmpI, if_neg h1, if_pos h2]; exact rfl
      go_enter Try.func58, Try.ntmps58
      go_wp2_with (go_at_call 80; (with_reducible refine (isNaN_any _ _).mono ?_); rintro e w1 ⟨rfl, rfl⟩)
      go_ret
      rw [HF.out]
      exact ⟨rfl, rfl⟩
    · have HF : Hid (cmpI a b = 0) := by rw [cmpI, if_neg h1, if_neg h2]; exact rfl
      go_enter Try.func58, Try.ntmps58
      go_wp2_with (go_at_call 80; (with_reducible refine (isNaN_any _ _).mono ?_); rintro e w1 ⟨rfl, rfl⟩)
      go_ret
      rw [HF.out]
      exact ⟨rfl, rfl⟩

/-- the first of two that is not 0 -/
def orI (a b : Int) : Int := if a = 0 then b else a

set_option maxRecDepth 100000 in
set_option maxHeartbeats 4000000 in
theorem OrI_any (B : Nat) (a b : Int) (w : World) (h0 : w.cell? ⟨B, 0, none⟩ = some (.int .i64 a)) (h1 : w.cell? ⟨B, 1, none⟩ = some (.int .i64 b)) :
    Calls Try.prog 57 #[.slice (some ⟨B, 0, none⟩) 2 2] w fun e w' => e = .returned (.int .i64 (orI a b)) ∧ w' = w := by
  go_enter Try.func57, Try.ntmps57
  go_wp2
  go_loopw [8] (fun i wr => ∃ k : Nat, k ≤ 2 ∧ i = .int .i64 k ∧ wr = w ∧ Hid ((0 < k → a = 0) ∧ (1 < k → b = 0))) (fun i _ => 2 - (intOf i).toNat)
  case atStart => exact ⟨0, by omega, rfl, rfl, by simp [Hid]⟩
  case round =>
    obtain ⟨k, hk, rfl, rfl, H⟩ := hrel
    rcases (show k = 0 ∨ k = 1 ∨ k = 2 by omega) with rfl | rfl | rfl
    · by_cases ha : a = 0
      · have HF := put_by ha
        subst ha
        go_wp2
        go_roundw
        case rel => exact ⟨1, by omega, by go_num, trivial, by simp [Hid]⟩
        case measure => simp [intOf]
      · have HF : Hid (orI a b = a) := if_neg ha
        have hn : (a != 0) = true := by simpa using ha
        go_wp2
        go_ret
        rw [HF.out]
        exact ⟨rfl, rfl⟩
    · have ha := H.out.1 (by omega)
      subst ha
      have HF : Hid (orI 0 b = b) := if_pos rfl
      by_cases hb : b = 0
      · subst hb
        go_wp2
        go_roundw
        case rel => exact ⟨2, by omega, by go_num, trivial, by simp [Hid]⟩
        case measure => simp [intOf]
      · have hn : (b != 0) = true := by simpa using hb
        go_wp2
        go_ret
        rw [HF.out]
        exact ⟨rfl, rfl⟩
    · have ha := H.out.1 (by omega)
      have hb := H.out.2 (by omega)
      subst ha hb
      go_wp2
      go_ret
      exact ⟨rfl, rfl⟩

/-- by whose they are -/
def cmpD (a b : Dn) : Int := orI (cmpI a.client b.client) (cmpI a.number b.number)

theorem cmpD_lt (a b : Dn) : cmpD a b < 0 ↔ dnAhead a b = true := by
  unfold cmpD orI cmpI dnAhead
  rw [decide_eq_true_eq]
  split <;> split <;> (try split) <;> omega

theorem cmpD_eq (a b : Dn) : cmpD a b = 0 ↔ (a.client = b.client ∧ a.number = b.number) := by
  unfold cmpD orI cmpI
  split <;> split <;> (try split) <;> omega

end Go.Proofs.Ytndnbkgejdindaa
