/- The reference's order of texts. -/
import Derived.Test.YtndnbkgejdindaaRtBytes
import Derived.Test.YtndnbkgejdindaaSameOct
namespace Go.Proofs.Ytndnbkgejdindaa
open Go.ChangeShapes Go.WideShapes Go.ChangeAt Go.RowKit

theorem text_at {s : ByteArray} {xs : List Int} (hs : s = strOfNums xs) (hx : ∀ y ∈ xs, 0 ≤ y ∧ y ≤ 255) {k : Nat} (hk : k < s.size) : (((s[k]'hk).toNat : Nat) : Int) = xs.getD k 0 := by
  subst hs
  have hk2 : k < xs.length := by rwa [strOfNums_size] at hk
  have h1 : (strOfNums xs)[k]'hk = UInt8.ofNat (xs[k]).toNat := by
    show (strOfNums xs).data[k] = _
    simp [strOfNums]
  rw [h1, List.getD_eq_getElem?_getD, List.getElem?_eq_getElem hk2, Option.getD_some]
  have := hx xs[k] (List.getElem_mem hk2)
  simp only [UInt8.toNat_ofNat']
  omega

set_option maxHeartbeats 4000000 in
theorem textOrder_any (s t : ByteArray) (xs ys : List Int) (hs : s = strOfNums xs) (ht : t = strOfNums ys) (hx : ∀ y ∈ xs, 0 ≤ y ∧ y ≤ 255) (hy : ∀ y ∈ ys, 0 ≤ y ∧ y ≤ 255) (hl1 : xs.length ≤ 140737488351232) (hl2 : ys.length ≤ 140737488351232) (w : World) :
    Calls Try.prog 63 #[.string s, .string t] w fun e w' => ∃ r : Int, e = .returned (.int .i64 r) ∧ decide (r < 0) = ahead xs ys ∧ Below w.heap.size w w' := by
  have hn : s.size = xs.length := by rw [hs, strOfNums_size]
  have hm : t.size = ys.length := by rw [ht, strOfNums_size]
  obtain ⟨n, hn'⟩ : ∃ n, n = s.size := ⟨_, rfl⟩
  obtain ⟨m, hm'⟩ : ∃ m, m = t.size := ⟨_, rfl⟩
  have HN : Hid (n = xs.length ∧ n = s.size ∧ s = strOfNums xs) := ⟨hn'.trans hn, hn', hs⟩
  have HM : Hid (m = ys.length ∧ m = t.size ∧ t = strOfNums ys) := ⟨hm'.trans hm, hm', ht⟩
  have hl1' : n ≤ 140737488351232 := by omega
  have hl2' : m ≤ 140737488351232 := by omega
  clear hn hm hs ht hl1 hl2 hn' hm'
  go_enter Try.func63, Try.ntmps63
  go_wp2
  go_loopw [5] (fun i wr => ∃ k : Nat, k ≤ n ∧ k ≤ m ∧ i = .int .i64 k ∧ Hid (Below w.heap.size w wr) ∧ Hid (xs.take k = ys.take k)) (fun i _ => n - (intOf i).toNat)
  case atStart => exact ⟨0, Nat.zero_le _, Nat.zero_le _, rfl, Below.refl _ _, rfl⟩
  case round =>
    obtain ⟨k, hk, hkm, rfl, HB, HT⟩ := hrel
    by_cases hlt : k < n ∧ k < m
    · have hl5 : k < n := hlt.1
      have hl6 : k < m := hlt.2
      have hk1 : k < s.size := by have := HN.out; omega
      have hk2 : k < t.size := by have := HM.out; omega
      have hl3 : (k : Int) < (s.size : Int) := by omega
      have hl4 : (k : Int) < (t.size : Int) := by omega
      have hkx : k < xs.length := by have := HN.out; omega
      have hky : k < ys.length := by have := HM.out; omega
      have x1 := text_at HN.out.2.2 hx hk1
      have y1 := text_at HM.out.2.2 hy hk2
      have R1 : Hid ((s[k]'hk1).toNat = (t[k]'hk2).toNat → xs.take (k + 1) = ys.take (k + 1)) := fun e => take_ext xs ys k hkx hky HT.out (by rw [← x1, ← y1, e])
      have R2 : Hid (¬ (s[k]'hk1).toNat = (t[k]'hk2).toNat → ahead xs ys = decide ((s[k]'hk1).toNat < (t[k]'hk2).toNat)) := fun e => by
        have h1 := ahead_differ hkx hky HT.out (by rw [← x1, ← y1]; omega)
        rw [← x1, ← y1] at h1
        rw [h1]
        by_cases h : (s[k]'hk1).toNat < (t[k]'hk2).toNat
        · rw [decide_eq_true h, decide_eq_true (by omega)]
        · rw [decide_eq_false h, decide_eq_false (by omega)]
      clear x1 y1 hkx hky hx hy
      rcases Nat.lt_trichotomy (s[k]'hk1).toNat (t[k]'hk2).toNat with hc | hc | hc
      · have R : Hid (ahead xs ys = true) := by rw [Hid, R2.out (by omega), decide_eq_true hc]
        clear hlt
        go_wp2_with (go_region)
        all_goals
          go_ret
          exact ⟨-1, rfl, by rw [R.out]; rfl, HB.out.drew⟩
      · have R := put_by (R1.out hc)
        have hc1 : ¬ (s[k]'hk1).toNat < (t[k]'hk2).toNat := by omega
        have hc2 : ¬ (t[k]'hk2).toNat < (s[k]'hk1).toNat := by omega
        clear hlt hc R1 R2
        go_wp2_with (go_region)
        all_goals
          go_roundw
          case rel => exact ⟨k + 1, by omega, by omega, by go_num, HB.out.drew.drew, R⟩
          case measure => simp [intOf]; omega
      · have R : Hid (ahead xs ys = false) := by rw [Hid, R2.out (by omega), decide_eq_false (by omega)]
        have hc1 : ¬ (s[k]'hk1).toNat < (t[k]'hk2).toNat := by omega
        clear hlt
        go_wp2_with (go_region)
        all_goals
          go_ret
          exact ⟨1, rfl, by rw [R.out]; rfl, HB.out.drew.drew⟩
    · have R : Hid (ahead xs ys = decide (n < m)) := by
        have h1 := HN.out.1
        have h2 := HM.out.1
        have h3 := ahead_ends (xs := xs) (ys := ys) (k := k) (by omega) (by omega) HT.out (by omega)
        rw [h3, h1, h2]
        rfl
      have e1 := HN.out.2.1
      have e2 := HM.out.2.1
      clear hx hy
      by_cases hl : k < n
      · have i1 : (k : Int) < (s.size : Int) := by omega
        have i2 : ¬ (k : Int) < (t.size : Int) := by omega
        have i3 : ¬ (s.size : Int) < (t.size : Int) := by omega
        have i4 : (t.size : Int) < (s.size : Int) := by omega
        have R9 : Hid (ahead xs ys = false) := by rw [Hid, R.out, decide_eq_false (by omega)]
        clear hlt e1 e2
        go_wp2
        go_ret
        exact ⟨1, rfl, by rw [R9.out]; rfl, HB.out⟩
      · have i1 : ¬ (k : Int) < (s.size : Int) := by omega
        by_cases hnm : n < m
        · have i3 : (s.size : Int) < (t.size : Int) := by omega
          have R9 : Hid (ahead xs ys = true) := by rw [Hid, R.out, decide_eq_true hnm]
          clear hlt e1 e2
          go_wp2
          go_ret
          exact ⟨-1, rfl, by rw [R9.out]; rfl, HB.out⟩
        · have i3 : ¬ (s.size : Int) < (t.size : Int) := by omega
          have i4 : ¬ (t.size : Int) < (s.size : Int) := by omega
          have R9 : Hid (ahead xs ys = false) := by rw [Hid, R.out, decide_eq_false hnm]
          clear hlt e1 e2
          go_wp2
          go_ret
          exact ⟨0, rfl, by rw [R9.out]; rfl, HB.out⟩

theorem bytesLess_any (ao bo : Option Addr) (ca cb : Nat) (xs ys : List Int) (w : World) (hx : Octs w ao ca xs) (hy : Octs w bo cb ys) :
    Calls Try.prog 36 #[.slice ao xs.length ca, .slice bo ys.length cb] w fun e w' => e = .returned (.bool (ahead xs ys)) ∧ Below w.heap.size w w' := by
  have e1 := octs_text hx
  have e2 := octs_text hy
  have cT : Hid (Calls Try.prog 63 #[.string (strOfNums xs), .string (strOfNums ys)] w fun e w' => ∃ r : Int, e = .returned (.int .i64 r) ∧ Hid (decide (r < 0) = ahead xs ys ∧ Below w.heap.size w w')) := (textOrder_any _ _ xs ys rfl rfl hx.2.2.2.1 hy.2.2.2.1 hx.2.1 hy.2.1 w).mono fun e w' ⟨r, h1, h2, h3⟩ => ⟨r, h1, h2, h3⟩
  generalize strOfNums xs = s at e1 cT
  generalize strOfNums ys = t at e2 cT
  generalize xs.length = n at e1 ⊢
  generalize ys.length = m at e2 ⊢
  clear hx hy
  go_enter Try.func36, Try.ntmps36
  go_wp2_with (first
    | (go_at_call 63; refine cT.out.mono ?_; rintro e w' ⟨r, rfl, H⟩))
  go_ret
  rw [← H.out.1]
  exact ⟨rfl, H.out.2⟩

end Go.Proofs.Ytndnbkgejdindaa
