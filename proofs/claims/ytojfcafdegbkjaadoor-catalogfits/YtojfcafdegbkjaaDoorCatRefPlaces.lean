/- Whether places may stand in a key or an index, as the document's own answer tells it. -/
import Derived.Test.YtojfcafdegbkjaaDoorCatMem
import Derived.Deep.RegionWith
namespace Go.Proofs.YtojfcafdegbkjaaDoor
open Go.ChangeShapes Go.WideShapes Go.ChangeAt Go.RowKit

theorem Ints.cell {W : World} {ao : Option Addr} {l : List Int} (h : Ints W ao l) (h0 : l ≠ []) : ∃ b off, ao = some ⟨b, off, none⟩ ∧ b < W.heap.size ∧ ∀ i (hi : i < l.length), W.cell? ⟨b, off + i, none⟩ = some (.int .i64 l[i]) := by
  rcases h with h | ⟨b, off, e, hlt, h⟩
  · exact absurd h h0
  · refine ⟨b, off, e, hlt, fun i hi => ?_⟩
    obtain ⟨cs, ⟨rfl, _⟩, hc⟩ := h i hi
    have := hc 0 _ rfl
    rwa [Nat.mul_one] at this

set_option maxRecDepth 100000 in
set_option maxHeartbeats 4000000 in
theorem placesMay_any (cols : List TCol) (l : List Int) (ao : Option Addr) (cap : Nat) (w : World) (h : Ints w ao l) (n : Nat) (hn : n = l.length) (m : Nat) (hm : m = cols.length) :
    Calls Tryd.prog 22 #[.slice ao n cap, .int .i64 m] w fun e w' => e = .returned (.bool (placesOk (isCol cols) l)) ∧ Below w.heap.size w w' := by
  have HN := put_by hn
  have HM := put_by hm
  have H := put_by h
  have E0 : Hid (placesOk (isCol cols) l = allOk 1 3 (fun x : Int => x) (isCol cols) l) := rfl
  clear h hn hm
  by_cases hfew : n < 1
  · have h0 : (n : Int) < 1 := by omega
    have R : Hid (placesOk (isCol cols) l = false) := by rw [E0.out]; exact allOk_few (by rw [← HN.out]; exact hfew)
    clear hfew
    go_enter Tryd.func22, Tryd.ntmps22
    go_wp2
    go_ret
    rw [R.out]
    exact ⟨rfl, Below.refl _ _⟩
  have h0 : ¬ (n : Int) < 1 := by omega
  by_cases hmany : 3 < n
  · have h1 : (n : Int) > 3 := by omega
    have R : Hid (placesOk (isCol cols) l = false) := by rw [E0.out]; exact allOk_many (by rw [← HN.out]; exact hmany)
    clear hmany
    go_enter Tryd.func22, Tryd.ntmps22
    go_wp2
    go_ret
    rw [R.out]
    exact ⟨rfl, Below.refl _ _⟩
  have h1 : ¬ (n : Int) > 3 := by omega
  obtain ⟨b, off, rfl, hb, hc⟩ := Ints.cell H.out (by intro e; rw [e] at HN; have := HN.out; simp at this; omega)
  have HC := put_by hc
  clear hc
  go_enter Tryd.func22, Tryd.ntmps22
  go_wp2
  go_loopw [5] (fun v wr => ∃ i : Nat, i ≤ n ∧ v = .int .i64 i ∧ Hid (Good (fun x : Int => x) (isCol cols) l i) ∧ Hid (Below w.heap.size w wr)) (fun v _ => n - (intOf v).toNat)
  case atStart => exact ⟨0, Nat.zero_le _, rfl, Good.zero, Below.refl _ _⟩
  case round =>
    obtain ⟨i, hi, rfl, HG, HB⟩ := hrel
    by_cases hlt : i < n
    · have hlt1 : (i : Int) < (n : Int) := by omega
      have hx : i < l.length := by rw [← HN.out]; exact hlt
      obtain ⟨x, ex⟩ : ∃ x, l[i] = x := ⟨_, rfl⟩
      have c0 : wr.cell? ⟨b, off + i, none⟩ = some (.int .i64 x) := (HB.out.cell hb).trans (by rw [← ex]; exact HC.out i hx)
      have EX := put_by ex
      clear ex
      by_cases hp : 0 ≤ x ∧ x < m
      · obtain ⟨hp0, hp1⟩ := hp
        have hp2 : ¬ x < 0 := by omega
        have hp3 : ¬ x ≥ m := by omega
        have hf : Hid (isCol cols l[i] = true) := by
          rw [Hid, EX.out]
          unfold isCol
          rw [← HM.out]
          exact decide_eq_true ⟨hp0, hp1⟩
        clear hp0 hp1
        go_wp2
        go_loopw [6] (fun v wr => ∃ k : Nat, k ≤ i ∧ v = .int .i64 k ∧ Hid (∀ a (ha : a < k) (ha2 : a < l.length), l[a] ≠ x) ∧ Hid (Below w.heap.size w wr)) (fun v _ => i - (intOf v).toNat)
        case atStart => exact ⟨0, Nat.zero_le _, rfl, fun _ h => absurd h (Nat.not_lt_zero _), HB⟩
        case round =>
          obtain ⟨k, hk, rfl, HA, HB2⟩ := hrel
          by_cases hki : k < i
          · have hki1 : (k : Int) < (i : Int) := by omega
            have hkn : (k : Int) < (n : Int) := by omega
            have hy : k < l.length := by omega
            obtain ⟨y, ey⟩ : ∃ y, l[k] = y := ⟨_, rfl⟩
            have d0 : wr.cell? ⟨b, off + i, none⟩ = some (.int .i64 x) := (HB2.out.cell hb).trans (by rw [← EX.out]; exact HC.out i hx)
            have d1 : wr.cell? ⟨b, off + k, none⟩ = some (.int .i64 y) := (HB2.out.cell hb).trans (by rw [← ey]; exact HC.out k hy)
            have EY := put_by ey
            clear ey
            by_cases hyx : y = x
            · subst hyx
              have R : Hid (placesOk (isCol cols) l = false) := by rw [E0.out]; exact allOk_two hki hx (EY.out.trans EX.out.symm)
              go_wp2_with (go_region)
              all_goals
                go_ret
                rw [R.out]
                exact ⟨rfl, HB2.out.drew⟩
            · have R : Hid (∀ a (ha : a < k + 1) (ha2 : a < l.length), l[a] ≠ x) := by
                intro a ha ha2
                by_cases e : a = k
                · subst e
                  rw [EY.out]
                  exact hyx
                · exact HA.out a (by omega) ha2
              go_wp2_with (go_region)
              all_goals
                go_roundw
                case rel => exact ⟨k + 1, by omega, by go_num, R, HB2.out.drew⟩
                case measure => simp [intOf]; omega
          · have hkn : k = i := by omega
            subst hkn
            have R : Hid (Good (fun x : Int => x) (isCol cols) l (k + 1)) := HG.out.step hx hf.out (fun a ha => by rw [EX.out]; exact HA.out a ha (by omega))
            clear hf
            go_wp2
            go_roundw
            case rel => exact ⟨k + 1, by omega, by go_num, R, HB2⟩
            case measure => simp [intOf]; omega
      · have R : Hid (placesOk (isCol cols) l = false) := by
          rw [E0.out]
          refine allOk_bad hx ?_
          rw [EX.out]
          unfold isCol
          rw [← HM.out]
          exact decide_eq_false hp
        by_cases hp2 : x < 0
        · clear hp
          go_wp2
          go_ret
          rw [R.out]
          exact ⟨rfl, HB.out⟩
        · have hp3 : x ≥ m := by omega
          clear hp
          go_wp2
          go_ret
          rw [R.out]
          exact ⟨rfl, HB.out⟩
    · have hkn : i = n := by omega
      subst hkn
      have R : Hid (placesOk (isCol cols) l = true) := by
        rw [E0.out]
        have := HG.out
        rw [HN.out] at this
        exact this.all (by rw [← HN.out]; omega) (by rw [← HN.out]; omega)
      go_wp2
      go_ret
      rw [R.out]
      exact ⟨rfl, HB.out⟩

end Go.Proofs.YtojfcafdegbkjaaDoor
