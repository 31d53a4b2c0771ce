/- Whether a table fits, as the document's own answer tells it. -/
import Derived.Test.YtojfcafdegbkjaaDoorCatRefPlaces
import Derived.Test.YtojfcafdegbkjaaDoorNamesRef
namespace Go.Proofs.YtojfcafdegbkjaaDoor
open Go.ChangeShapes Go.WideShapes Go.ChangeAt Go.RowKit

theorem str_same {a b : List UInt8} : ((str a).toList == (str b).toList) = decide (a = b) := by
  rw [bytes_to_list, bytes_to_list, bts_str, bts_str]
  by_cases h : a = b <;> simp [h]

theorem row_all {α : Type} {R : World → α → List Value → Prop} {size : Nat} {W : World} {ao : Option Addr} {l : List α} (h : RowC R size W ao l) (h0 : l ≠ []) : ∃ b off, ao = some ⟨b, off, none⟩ ∧ b < W.heap.size ∧ ∀ i (hi : i < l.length), ∃ cs, R W l[i] cs ∧ ∀ j u, cs[j]? = some u → W.cell? ⟨b, off + i * size + j, none⟩ = some u := by
  rcases h with h | h
  · exact absurd h h0
  · exact h

theorem not_nil {α : Type} {l : List α} {n : Nat} (h : n = l.length) (hn : 0 < n) : l ≠ [] := by
  intro e
  rw [e] at h
  simp at h
  omega

theorem NameMay_at (u : List UInt8) (V : World) : Calls Tryd.prog 21 #[.string (str u)] V fun e w' => e = .returned (.bool (nameIs u)) ∧ Hid (Below V.heap.size V w') := by
  have c := NameMay_any (str u) V
  rw [bts_str] at c
  exact c

set_option maxRecDepth 100000 in
set_option maxHeartbeats 8000000 in
theorem TableFits_any (t : Tab) (a1 : Option Addr) (p1 : Nat) (a2 : Option Addr) (p2 : Nat) (a3 : Option Addr) (p3 : Nat) (w : World) (hC : Cols w a1 t.cols) (hK : Ints w a2 t.key) (hX : Idxs w a3 t.idxs) (n1 n2 n3 : Nat) (hn1 : n1 = t.cols.length) (hn2 : n2 = t.key.length) (hn3 : n3 = t.idxs.length) :
    Calls Tryd.prog 9 #[.agg #[.string (str t.nm), .slice a1 n1 p1, .slice a2 n2 p2, .slice a3 n3 p3]] w fun e w' => e = .returned (.bool (tabOk t)) ∧ Below w.heap.size w w' := by
  obtain ⟨wB, eB⟩ : ∃ wB, wB = w.alloc (.cells #[.string (str t.nm), .slice a1 n1 p1, .slice a2 n2 p2, .slice a3 n3 p3] 29) := ⟨_, rfl⟩
  have hw : Below w.heap.size w wB := by
    rw [eB]
    exact (Below.refl _ w).alloc (Nat.le_refl _) _
  have hsz : wB.heap.size = w.heap.size + 1 := by rw [eB]; simp
  have k1 : wB.cell? ⟨w.heap.size, 1, none⟩ = some (.slice a1 n1 p1) := by rw [eB]; simp
  have k2 : wB.cell? ⟨w.heap.size, 2, none⟩ = some (.slice a2 n2 p2) := by rw [eB]; simp
  have k3 : wB.cell? ⟨w.heap.size, 3, none⟩ = some (.slice a3 n3 p3) := by rw [eB]; simp
  have BX : Hid (∀ V, Hid (Below wB.heap.size wB V) → V.cell? ⟨w.heap.size, 1, none⟩ = some (.slice a1 n1 p1) ∧ V.cell? ⟨w.heap.size, 2, none⟩ = some (.slice a2 n2 p2) ∧ V.cell? ⟨w.heap.size, 3, none⟩ = some (.slice a3 n3 p3)) := fun V hV =>
    ⟨(hV.out.cell (p := ⟨w.heap.size, 1, none⟩) (by show w.heap.size < _; omega)).trans k1, (hV.out.cell (p := ⟨w.heap.size, 2, none⟩) (by show w.heap.size < _; omega)).trans k2, (hV.out.cell (p := ⟨w.heap.size, 3, none⟩) (by show w.heap.size < _; omega)).trans k3⟩
  have HC := put_by (hC.later hw)
  have HK := put_by (hK.later hw)
  have HX := put_by (hX.later hw)
  have HW := put_by hw
  have EB := put_by eB
  have N1 := put_by hn1
  have N2 := put_by hn2
  have N3 := put_by hn3
  have cT : Hid (∀ V, V = wB → Calls Tryd.prog 21 #[.string (str t.nm)] V fun e w' => e = .returned (.bool (nameIs t.nm)) ∧ Hid (Below wB.heap.size wB w')) := by
    rintro _ rfl
    exact NameMay_at t.nm _
  have R0 : Hid (tabOk t = (nameIs t.nm && (allOk 1 6 TCol.nm colOk t.cols && (placesOk (isFilled t.cols) t.key && allOk 0 2 Idx.nm (idxOk t.cols) t.idxs)))) := rfl
  clear hw hsz k1 k2 k3 hC hK hX eB hn1 hn2 hn3
  cases r1 : nameIs t.nm with
  | false =>
    have R : Hid (tabOk t = false) := by rw [R0.out, r1]; rfl
    rw [r1] at cT
    generalize str t.nm = nm at *
    clear r1
    go_enter Tryd.func9, Tryd.ntmps9
    go_wp2_with (go_at_call 21; refine (cT.out _ EB.out.symm).mono ?_; rintro e w3 ⟨rfl, b3⟩)
    go_ret
    rw [R.out]
    exact ⟨rfl, HW.out.trans (b3.out.mono HW.out.size)⟩
  | true =>
  have R1 : Hid (tabOk t = (allOk 1 6 TCol.nm colOk t.cols && (placesOk (isFilled t.cols) t.key && allOk 0 2 Idx.nm (idxOk t.cols) t.idxs))) := by rw [R0.out, r1]; rfl
  rw [r1] at cT
  generalize str t.nm = nm at *
  clear r1 R0
  by_cases h0 : n1 = 0
  · have R : Hid (tabOk t = false) := by rw [R1.out, allOk_few (by rw [← N1.out]; omega)]; rfl
    subst h0
    go_enter Tryd.func9, Tryd.ntmps9
    go_wp2_with (go_at_call 21; refine (cT.out _ EB.out.symm).mono ?_; rintro e w3 ⟨rfl, b3⟩)
    go_ret
    rw [R.out]
    exact ⟨rfl, HW.out.trans (b3.out.mono HW.out.size)⟩
  have g0 : ((n1 : Int) == 0) = false := by simpa using h0
  by_cases h6 : 6 < n1
  · have R : Hid (tabOk t = false) := by rw [R1.out, allOk_many (by rw [← N1.out]; omega)]; rfl
    have g6 : decide (6 < (n1 : Int)) = true := by simp; omega
    go_enter Tryd.func9, Tryd.ntmps9
    go_wp2_with (go_at_call 21; refine (cT.out _ EB.out.symm).mono ?_; rintro e w3 ⟨rfl, b3⟩)
    go_ret
    rw [R.out]
    exact ⟨rfl, HW.out.trans (b3.out.mono HW.out.size)⟩
  have g6 : decide (6 < (n1 : Int)) = false := by simp; omega
  by_cases h2 : 2 < n3
  · have R : Hid (tabOk t = false) := by rw [R1.out, allOk_many (least := 0) (by rw [← N3.out]; omega)]; simp [Hid]
    have g2 : decide (2 < (n3 : Int)) = true := by simp; omega
    go_enter Tryd.func9, Tryd.ntmps9
    go_wp2_with (go_at_call 21; refine (cT.out _ EB.out.symm).mono ?_; rintro e w3 ⟨rfl, b3⟩; obtain ⟨q1, q2, q3⟩ := BX.out _ b3)
    go_ret
    rw [R.out]
    exact ⟨rfl, HW.out.trans (b3.out.mono HW.out.size)⟩
  have g2 : decide (2 < (n3 : Int)) = false := by simp; omega
  obtain ⟨b, off, rfl, hb, hc⟩ := row_all HC.out (not_nil N1.out (by omega))
  have HCC := put_by hc
  clear hc
  go_enter Tryd.func9, Tryd.ntmps9
  go_wp2_with (go_at_call 21; refine (cT.out _ EB.out.symm).mono ?_; rintro e w3 ⟨rfl, b3⟩; obtain ⟨q1, q2, q3⟩ := BX.out _ b3)
  go_loopw [35] (fun v wr => ∃ i : Nat, i ≤ n1 ∧ v = .int .i64 i ∧ Hid (Good TCol.nm colOk t.cols i) ∧ Hid (Below wB.heap.size wB wr)) (fun v _ => n1 - (intOf v).toNat)
  case atStart => exact ⟨0, Nat.zero_le _, rfl, Good.zero, b3⟩
  case round =>
    obtain ⟨i, hi, rfl, HG, HB⟩ := hrel
    clear q1 q2 q3
    by_cases hlt : i < n1
    · have hlt1 : (i : Int) < (n1 : Int) := by omega
      have hx : i < t.cols.length := by rw [← N1.out]; exact hlt
      obtain ⟨cs, ⟨rfl, hnm⟩, hc⟩ := HCC.out i hx
      obtain ⟨x, ex⟩ : ∃ x, t.cols[i] = x := ⟨_, rfl⟩
      rw [ex] at hc
      obtain ⟨s, es⟩ : ∃ s, str x.nm = s := ⟨_, rfl⟩
      have c0 : wr.cell? ⟨b, off + i * 3, none⟩ = some (.string s) := (HB.out.cell hb).trans (by rw [← es]; exact hc 0 _ rfl)
      have c1 : wr.cell? ⟨b, off + i * 3 + 1, none⟩ = some (.int .i64 x.ty) := (HB.out.cell hb).trans (hc 1 _ rfl)
      have c2 : wr.cell? ⟨b, off + i * 3 + 2, none⟩ = some (.bool x.nn) := (HB.out.cell hb).trans (hc 2 _ rfl)
      have cN : Hid (∀ V, Calls Tryd.prog 21 #[.string s] V fun e w' => e = .returned (.bool (nameIs x.nm)) ∧ Hid (Below V.heap.size V w')) := by
        rw [← es]
        exact NameMay_at x.nm
      have NC : Hid (∀ V, Hid (Below wB.heap.size wB V) → ∀ k (hk : k < t.cols.length), V.cell? ⟨b, off + k * 3, none⟩ = some (.string (str (t.cols[k]).nm)) ∧ True) := by
        intro V hV k hk
        obtain ⟨cs, ⟨rfl, _⟩, hc⟩ := HCC.out k hk
        exact ⟨(hV.out.cell hb).trans (hc 0 _ rfl), trivial⟩
      have EX := put_by ex
      have ES := put_by es
      clear hc hnm ex es
      by_cases hok : colOk x = true
      · have hok2 : nameIs x.nm = true ∧ (1 ≤ x.ty ∧ x.ty ≤ 3) := by
          unfold colOk at hok
          simpa using hok
        have HOK := put_by hok
        obtain ⟨hnm, ht1, ht3⟩ := hok2
        rw [hnm] at cN
        clear hok hnm
        obtain ⟨ty, ety⟩ : ∃ ty, x.ty = ty := ⟨_, rfl⟩
        rw [ety] at c1 ht1 ht3
        clear ety
        generalize x.nn = nn at c2
        have hty : ty = 1 ∨ ty = 2 ∨ ty = 3 := by omega
        clear ht1 ht3
        rcases hty with rfl | rfl | rfl
        · go_wp2_with (go_at_call 21; (with_reducible refine (cN.out _).mono ?_); rintro e w4 ⟨rfl, b4⟩; have q0 : w4.cell? ⟨wr.heap.size, 0, none⟩ = some (.string s) := (b4.out.cell (p := ⟨wr.heap.size, 0, none⟩) (by simp)).trans (by simp); have q1 : w4.cell? ⟨wr.heap.size, 1, none⟩ = some (.int .i64 1) := (b4.out.cell (p := ⟨wr.heap.size, 1, none⟩) (by simp)).trans (by simp))
          have HB4 : Hid (Below wB.heap.size wB w4) := (HB.out.alloc HB.out.size _).trans (b4.out.mono (HB.out.alloc HB.out.size _).size)
          have hl4 : wr.heap.size < w4.heap.size := by have := b4.out.size; simp at this; omega
          have Q0 := put_by (show wr.heap.size < w4.heap.size ∧ w4.cell? ⟨wr.heap.size, 0, none⟩ = some (.string s) from ⟨hl4, q0⟩)
          clear q0 q1 b4 hl4
          go_loopw [6] (fun v wq => ∃ k : Nat, k ≤ i ∧ v = .int .i64 k ∧ Hid (∀ a (ha : a < k) (ha2 : a < t.cols.length), (t.cols[a]).nm ≠ x.nm) ∧ Hid (Below w4.heap.size w4 wq)) (fun v _ => i - (intOf v).toNat)
          case atStart => exact ⟨0, Nat.zero_le _, rfl, fun _ h => absurd h (Nat.not_lt_zero _), Below.refl _ _⟩
          case round =>
            rename World => wq
            obtain ⟨k, hk, rfl, HA, HB5⟩ := hrel
            have HB6 : Hid (Below wB.heap.size wB wq) := HB4.out.trans (HB5.out.mono HB4.out.size)
            by_cases hki : k < i
            · have hki1 : (k : Int) < (i : Int) := by omega
              have hkn : (k : Int) < (n1 : Int) := by omega
              have hy : k < t.cols.length := by omega
              obtain ⟨d0, d1⟩ := NC.out wq HB6 k hy
              have d2 := (HB5.out.cell (p := ⟨wr.heap.size, 0, none⟩) Q0.out.1).trans Q0.out.2
              obtain ⟨m1, m2, m3⟩ := BX.out _ HB6
              obtain ⟨y, ey⟩ : ∃ y, (t.cols[k]).nm = y := ⟨_, rfl⟩
              rw [ey] at d0
              by_cases hyx : y = x.nm
              · have R : Hid (tabOk t = false) := by rw [R1.out, allOk_two (least := 1) (most := 6) (fits := colOk) (key := TCol.nm) hki hx (by rw [ey, EX.out]; exact hyx)]; rfl
                rw [hyx, ES.out] at d0
                clear hyx ey
                go_wp2_with (go_region)
                all_goals
                  go_ret
                  rw [R.out]
                  exact ⟨rfl, HW.out.trans ((HB6.out.drew).mono HW.out.size)⟩
              · have R : Hid (∀ a (ha : a < k + 1) (ha2 : a < t.cols.length), (t.cols[a]).nm ≠ x.nm) := by
                  intro a ha ha2
                  by_cases e : a = k
                  · subst e
                    rw [ey]
                    exact hyx
                  · exact HA.out a (by omega) ha2
                have hss : ((str y).toList == s.toList) = false := by
                  rw [← ES.out, str_same]
                  exact decide_eq_false hyx
                generalize str y = sy at d0 hss
                clear hyx ey
                go_wp2_with (go_region)
                all_goals
                  go_roundw
                  case rel => exact ⟨k + 1, by omega, by go_num, R, HB5.out.drew⟩
                  case measure => simp [intOf]; omega
            · have hkn : k = i := by omega
              subst hkn
              have R : Hid (Good TCol.nm colOk t.cols (k + 1)) := HG.out.step hx (by rw [EX.out]; exact HOK.out) (fun a ha => by rw [EX.out]; exact HA.out a ha (by omega))
              go_wp2
              go_roundw
              case rel => exact ⟨k + 1, by omega, by go_num, R, HB6⟩
              case measure => simp [intOf]; omega
        · go_wp2_with (go_at_call 21; (with_reducible refine (cN.out _).mono ?_); rintro e w4 ⟨rfl, b4⟩; have q0 : w4.cell? ⟨wr.heap.size, 0, none⟩ = some (.string s) := (b4.out.cell (p := ⟨wr.heap.size, 0, none⟩) (by simp)).trans (by simp); have q1 : w4.cell? ⟨wr.heap.size, 1, none⟩ = some (.int .i64 2) := (b4.out.cell (p := ⟨wr.heap.size, 1, none⟩) (by simp)).trans (by simp))
          have HB4 : Hid (Below wB.heap.size wB w4) := (HB.out.alloc HB.out.size _).trans (b4.out.mono (HB.out.alloc HB.out.size _).size)
          have hl4 : wr.heap.size < w4.heap.size := by have := b4.out.size; simp at this; omega
          have Q0 := put_by (show wr.heap.size < w4.heap.size ∧ w4.cell? ⟨wr.heap.size, 0, none⟩ = some (.string s) from ⟨hl4, q0⟩)
          clear q0 q1 b4 hl4
          go_loopw [6] (fun v wq => ∃ k : Nat, k ≤ i ∧ v = .int .i64 k ∧ Hid (∀ a (ha : a < k) (ha2 : a < t.cols.length), (t.cols[a]).nm ≠ x.nm) ∧ Hid (Below w4.heap.size w4 wq)) (fun v _ => i - (intOf v).toNat)
          case atStart => exact ⟨0, Nat.zero_le _, rfl, fun _ h => absurd h (Nat.not_lt_zero _), Below.refl _ _⟩
          case round =>
            rename World => wq
            obtain ⟨k, hk, rfl, HA, HB5⟩ := hrel
            have HB6 : Hid (Below wB.heap.size wB wq) := HB4.out.trans (HB5.out.mono HB4.out.size)
            by_cases hki : k < i
            · have hki1 : (k : Int) < (i : Int) := by omega
              have hkn : (k : Int) < (n1 : Int) := by omega
              have hy : k < t.cols.length := by omega
              obtain ⟨d0, d1⟩ := NC.out wq HB6 k hy
              have d2 := (HB5.out.cell (p := ⟨wr.heap.size, 0, none⟩) Q0.out.1).trans Q0.out.2
              obtain ⟨m1, m2, m3⟩ := BX.out _ HB6
              obtain ⟨y, ey⟩ : ∃ y, (t.cols[k]).nm = y := ⟨_, rfl⟩
              rw [ey] at d0
              by_cases hyx : y = x.nm
              · have R : Hid (tabOk t = false) := by rw [R1.out, allOk_two (least := 1) (most := 6) (fits := colOk) (key := TCol.nm) hki hx (by rw [ey, EX.out]; exact hyx)]; rfl
                rw [hyx, ES.out] at d0
                clear hyx ey
                go_wp2_with (go_region)
                all_goals
                  go_ret
                  rw [R.out]
                  exact ⟨rfl, HW.out.trans ((HB6.out.drew).mono HW.out.size)⟩
              · have R : Hid (∀ a (ha : a < k + 1) (ha2 : a < t.cols.length), (t.cols[a]).nm ≠ x.nm) := by
                  intro a ha ha2
                  by_cases e : a = k
                  · subst e
                    rw [ey]
                    exact hyx
                  · exact HA.out a (by omega) ha2
                have hss : ((str y).toList == s.toList) = false := by
                  rw [← ES.out, str_same]
                  exact decide_eq_false hyx
                generalize str y = sy at d0 hss
                clear hyx ey
                go_wp2_with (go_region)
                all_goals
                  go_roundw
                  case rel => exact ⟨k + 1, by omega, by go_num, R, HB5.out.drew⟩
                  case measure => simp [intOf]; omega
            · have hkn : k = i := by omega
              subst hkn
              have R : Hid (Good TCol.nm colOk t.cols (k + 1)) := HG.out.step hx (by rw [EX.out]; exact HOK.out) (fun a ha => by rw [EX.out]; exact HA.out a ha (by omega))
              go_wp2
              go_roundw
              case rel => exact ⟨k + 1, by omega, by go_num, R, HB6⟩
              case measure => simp [intOf]; omega
        · go_wp2_with (go_at_call 21; (with_reducible refine (cN.out _).mono ?_); rintro e w4 ⟨rfl, b4⟩; have q0 : w4.cell? ⟨wr.heap.size, 0, none⟩ = some (.string s) := (b4.out.cell (p := ⟨wr.heap.size, 0, none⟩) (by simp)).trans (by simp); have q1 : w4.cell? ⟨wr.heap.size, 1, none⟩ = some (.int .i64 3) := (b4.out.cell (p := ⟨wr.heap.size, 1, none⟩) (by simp)).trans (by simp))
          have HB4 : Hid (Below wB.heap.size wB w4) := (HB.out.alloc HB.out.size _).trans (b4.out.mono (HB.out.alloc HB.out.size _).size)
          have hl4 : wr.heap.size < w4.heap.size := by have := b4.out.size; simp at this; omega
          have Q0 := put_by (show wr.heap.size < w4.heap.size ∧ w4.cell? ⟨wr.heap.size, 0, none⟩ = some (.string s) from ⟨hl4, q0⟩)
          clear q0 q1 b4 hl4
          go_loopw [6] (fun v wq => ∃ k : Nat, k ≤ i ∧ v = .int .i64 k ∧ Hid (∀ a (ha : a < k) (ha2 : a < t.cols.length), (t.cols[a]).nm ≠ x.nm) ∧ Hid (Below w4.heap.size w4 wq)) (fun v _ => i - (intOf v).toNat)
          case atStart => exact ⟨0, Nat.zero_le _, rfl, fun _ h => absurd h (Nat.not_lt_zero _), Below.refl _ _⟩
          case round =>
            rename World => wq
            obtain ⟨k, hk, rfl, HA, HB5⟩ := hrel
            have HB6 : Hid (Below wB.heap.size wB wq) := HB4.out.trans (HB5.out.mono HB4.out.size)
            by_cases hki : k < i
            · have hki1 : (k : Int) < (i : Int) := by omega
              have hkn : (k : Int) < (n1 : Int) := by omega
              have hy : k < t.cols.length := by omega
              obtain ⟨d0, d1⟩ := NC.out wq HB6 k hy
              have d2 := (HB5.out.cell (p := ⟨wr.heap.size, 0, none⟩) Q0.out.1).trans Q0.out.2
              obtain ⟨m1, m2, m3⟩ := BX.out _ HB6
              obtain ⟨y, ey⟩ : ∃ y, (t.cols[k]).nm = y := ⟨_, rfl⟩
              rw [ey] at d0
              by_cases hyx : y = x.nm
              · have R : Hid (tabOk t = false) := by rw [R1.out, allOk_two (least := 1) (most := 6) (fits := colOk) (key := TCol.nm) hki hx (by rw [ey, EX.out]; exact hyx)]; rfl
                rw [hyx, ES.out] at d0
                clear hyx ey
                go_wp2_with (go_region)
                all_goals
                  go_ret
                  rw [R.out]
                  exact ⟨rfl, HW.out.trans ((HB6.out.drew).mono HW.out.size)⟩
              · have R : Hid (∀ a (ha : a < k + 1) (ha2 : a < t.cols.length), (t.cols[a]).nm ≠ x.nm) := by
                  intro a ha ha2
                  by_cases e : a = k
                  · subst e
                    rw [ey]
                    exact hyx
                  · exact HA.out a (by omega) ha2
                have hss : ((str y).toList == s.toList) = false := by
                  rw [← ES.out, str_same]
                  exact decide_eq_false hyx
                generalize str y = sy at d0 hss
                clear hyx ey
                go_wp2_with (go_region)
                all_goals
                  go_roundw
                  case rel => exact ⟨k + 1, by omega, by go_num, R, HB5.out.drew⟩
                  case measure => simp [intOf]; omega
            · have hkn : k = i := by omega
              subst hkn
              have R : Hid (Good TCol.nm colOk t.cols (k + 1)) := HG.out.step hx (by rw [EX.out]; exact HOK.out) (fun a ha => by rw [EX.out]; exact HA.out a ha (by omega))
              go_wp2
              go_roundw
              case rel => exact ⟨k + 1, by omega, by go_num, R, HB6⟩
              case measure => simp [intOf]; omega
      · have R : Hid (tabOk t = false) := by rw [R1.out, allOk_bad (least := 1) (most := 6) (fits := colOk) (key := TCol.nm) hx (by rw [EX.out]; exact Bool.eq_false_iff.2 hok)]; rfl
        cases hnm : nameIs x.nm with
        | false =>
          rw [hnm] at cN
          clear hok hnm
          go_wp2_with (go_at_call 21; (with_reducible refine (cN.out _).mono ?_); rintro e w4 ⟨rfl, b4⟩)
          go_ret
          rw [R.out]
          exact ⟨rfl, HW.out.trans (((HB.out.alloc HB.out.size _).trans (b4.out.mono (HB.out.alloc HB.out.size _).size)).mono HW.out.size)⟩
        | true =>
          have hty : ¬ (1 ≤ x.ty ∧ x.ty ≤ 3) := by
            unfold colOk at hok
            rw [hnm] at hok
            simpa using hok
          rw [hnm] at cN
          clear hok hnm
          obtain ⟨ty, ety⟩ : ∃ ty, x.ty = ty := ⟨_, rfl⟩
          rw [ety] at c1 hty
          clear ety
          have h1 : (ty != 1) = true := by simp; omega
          have h2 : (ty != 2) = true := by simp; omega
          have h3 : (ty != 3) = true := by simp; omega
          clear hty
          go_wp2_with (go_at_call 21; (with_reducible refine (cN.out _).mono ?_); rintro e w4 ⟨rfl, b4⟩; have q1 : w4.cell? ⟨wr.heap.size, 1, none⟩ = some (.int .i64 ty) := (b4.out.cell (p := ⟨wr.heap.size, 1, none⟩) (by simp)).trans (by simp))
          go_ret
          rw [R.out]
          exact ⟨rfl, HW.out.trans (((HB.out.alloc HB.out.size _).trans (b4.out.mono (HB.out.alloc HB.out.size _).size)).mono HW.out.size)⟩
    · have hin : n1 = i := by omega
      subst hin
      have R2 : Hid (tabOk t = (placesOk (isFilled t.cols) t.key && allOk 0 2 Idx.nm (idxOk t.cols) t.idxs)) := by
        have hg := HG.out
        rw [N1.out] at hg
        rw [R1.out, hg.all (by rw [← N1.out]; omega) (by rw [← N1.out]; omega)]
        rfl
      have cP : Hid (∀ V, Hid (Below wB.heap.size wB V) → Calls Tryd.prog 22 #[.slice a2 n2 p2, .int .i64 (n1 : Int)] V fun e w' => e = .returned (.bool (placesOk (isCol t.cols) t.key)) ∧ Hid (Below wB.heap.size wB w')) := fun V hV =>
        (placesMay_any t.cols t.key a2 p2 V (HK.out.later hV.out) n2 N2.out n1 N1.out).mono fun e w' h => ⟨h.1, hV.out.trans (h.2.mono hV.out.size)⟩
      obtain ⟨m1, m2, m3⟩ := BX.out _ HB
      cases hp : placesOk (isCol t.cols) t.key with
      | false =>
        have R : Hid (tabOk t = false) := by rw [R2.out, places_filled, hp]; rfl
        rw [hp] at cP
        clear hp
        go_wp2_with (go_at_call 22; (with_reducible refine (cP.out _ HB).mono ?_); rintro e w4 ⟨rfl, b4⟩)
        go_ret
        rw [R.out]
        exact ⟨rfl, HW.out.trans (b4.out.mono HW.out.size)⟩
      | true =>
      have R3 : Hid (tabOk t = ((t.key.all fun x => (t.cols[x.toNat]?.map TCol.nn).getD false) && allOk 0 2 Idx.nm (idxOk t.cols) t.idxs)) := by rw [R2.out, places_filled, hp, Bool.true_and]; rfl
      have hk1 : 1 ≤ t.key.length ∧ t.key.length ≤ 3 ∧ ∀ y ∈ t.key, isCol t.cols y = true := by
        unfold placesOk allOk at hp
        simp only [Bool.and_eq_true, decide_eq_true_eq, List.all_eq_true] at hp
        exact ⟨hp.1.1.1, hp.1.1.2, hp.1.2⟩
      have HK1 := put_by hk1
      have hn2a : 1 ≤ n2 := by rw [N2.out]; exact hk1.1
      have hn2b : n2 ≤ 3 := by rw [N2.out]; exact hk1.2.1
      rw [hp] at cP
      clear hp hk1
      obtain ⟨kb, koff, rfl, hkb, hkc⟩ := Ints.cell HK.out (not_nil N2.out (by omega))
      have HKC := put_by hkc
      clear hkc
      go_wp2_with (go_at_call 22; (with_reducible refine (cP.out _ HB).mono ?_); rintro e w4 ⟨rfl, b4⟩)
      clear m1 m2 m3
      go_loopw [7] (fun v wq => ∃ j : Nat, j ≤ n2 ∧ v = .int .i64 j ∧ Hid (∀ a (ha : a < j) (ha2 : a < t.key.length), (t.cols[(t.key[a]).toNat]?.map TCol.nn).getD false = true) ∧ Hid (Below wB.heap.size wB wq)) (fun v _ => n2 - (intOf v).toNat)
      case atStart => exact ⟨0, Nat.zero_le _, rfl, fun _ h => absurd h (Nat.not_lt_zero _), b4⟩
      case round =>
        rename World => wq
        obtain ⟨j, hj, rfl, HA, HB6⟩ := hrel
        obtain ⟨m1, m2, m3⟩ := BX.out _ HB6
        by_cases hjn : j < n2
        · have hjn1 : (j : Int) < (n2 : Int) := by omega
          have hy : j < t.key.length := by rw [← N2.out]; exact hjn
          obtain ⟨y, ey⟩ : ∃ y, t.key[j] = y := ⟨_, rfl⟩
          have hyc := HK1.out.2.2 _ (List.getElem_mem hy)
          rw [ey] at hyc
          have hyc2 : 0 ≤ y ∧ y < t.cols.length := of_decide_eq_true hyc
          obtain ⟨q, rfl⟩ : ∃ q : Nat, y = q := ⟨y.toNat, by omega⟩
          have hq : q < t.cols.length := by omega
          have hq1 : (q : Int) < (n1 : Int) := by rw [N1.out]; omega
          have d0 : wq.cell? ⟨kb, koff + j, none⟩ = some (.int .i64 (q : Int)) := (HB6.out.cell hkb).trans (by rw [← ey]; exact HKC.out j hy)
          obtain ⟨cs, ⟨rfl, _⟩, hc⟩ := HCC.out q hq
          have d1 : wq.cell? ⟨b, off + q * 3 + 2, none⟩ = some (.bool (t.cols[q]).nn) := (HB6.out.cell hb).trans (hc 2 _ rfl)
          have hf : (t.cols[(t.key[j]).toNat]?.map TCol.nn).getD false = (t.cols[q]).nn := by
            rw [ey, Int.toNat_natCast, List.getElem?_eq_getElem hq]
            rfl
          clear hc hyc hyc2
          cases hnn : (t.cols[q]).nn with
          | false =>
            rw [hnn] at d1 hf
            have R : Hid (tabOk t = false) := by
              have : (t.key.all fun x => (t.cols[x.toNat]?.map TCol.nn).getD false) = false := by
                rw [← Bool.not_eq_true, List.all_eq_true]
                intro hh
                rw [hh _ (List.getElem_mem hy)] at hf
                cases hf
              rw [R3.out, this]
              rfl
            clear hf hnn ey
            go_wp2_with (go_region)
            all_goals
              go_ret
              rw [R.out]
              exact ⟨rfl, HW.out.trans ((HB6.out.drew).mono HW.out.size)⟩
          | true =>
            rw [hnn] at d1 hf
            have R : Hid (∀ a (ha : a < j + 1) (ha2 : a < t.key.length), (t.cols[(t.key[a]).toNat]?.map TCol.nn).getD false = true) := by
              intro a ha ha2
              by_cases e : a = j
              · subst e
                exact hf
              · exact HA.out a (by omega) ha2
            clear hf hnn ey
            go_wp2_with (go_region)
            all_goals
              go_roundw
              case rel => exact ⟨j + 1, by omega, by go_num, R, HB6.out.drew⟩
              case measure => simp [intOf]; omega
        · have hjn2 : j = n2 := by omega
          have hjn1 : ¬ (j : Int) < (n2 : Int) := by omega
          have R4 : Hid (tabOk t = allOk 0 2 Idx.nm (idxOk t.cols) t.idxs) := by
            have : (t.key.all fun x => (t.cols[x.toNat]?.map TCol.nn).getD false) = true := by
              rw [List.all_eq_true]
              intro y hy
              obtain ⟨a, ha, rfl⟩ := List.getElem_of_mem hy
              exact HA.out a (by rw [hjn2, N2.out]; exact ha) ha
            rw [R3.out, this, Bool.true_and]
            rfl
          clear hjn2
          go_wp2
          clear m1 m2 m3
          go_loopw [100] (fun v wr => ∃ i : Nat, i ≤ n3 ∧ v = .int .i64 i ∧ Hid (Good Idx.nm (idxOk t.cols) t.idxs i) ∧ Hid (Below wB.heap.size wB wr)) (fun v _ => n3 - (intOf v).toNat)
          case atStart => exact ⟨0, Nat.zero_le _, rfl, Good.zero, HB6⟩
          case round =>
            clear HG HB
            rename World => wr
            obtain ⟨i, hi, rfl, HG, HB⟩ := hrel
            by_cases hlt : i < n3
            · have hlt1 : (i : Int) < (n3 : Int) := by omega
              have hx : i < t.idxs.length := by rw [← N3.out]; exact hlt
              obtain ⟨c, coff, rfl, hb3, hcx⟩ := row_all HX.out (not_nil N3.out (by omega))
              obtain ⟨cs, hr, hc⟩ := hcx i hx
              obtain ⟨x, ex⟩ : ∃ x, t.idxs[i] = x := ⟨_, rfl⟩
              rw [ex] at hr
              obtain ⟨ap, pp, rfl, hnm, hI⟩ := hr
              obtain ⟨s, es⟩ : ∃ s, str x.nm = s := ⟨_, rfl⟩
              have c0 : wr.cell? ⟨c, coff + i * 2, none⟩ = some (.string s) := (HB.out.cell hb3).trans (by rw [← es]; exact hc 0 _ rfl)
              have c1 : wr.cell? ⟨c, coff + i * 2 + 1, none⟩ = some (.slice ap x.pl.length pp) := (HB.out.cell hb3).trans (hc 1 _ rfl)
              have cN : Hid (∀ V, Calls Tryd.prog 21 #[.string s] V fun e w' => e = .returned (.bool (nameIs x.nm)) ∧ Hid (Below V.heap.size V w')) := by
                rw [← es]
                exact NameMay_at x.nm
              have cQ : Hid (∀ V, Hid (Below wB.heap.size wB V) → Calls Tryd.prog 22 #[.slice ap x.pl.length pp, .int .i64 (n1 : Int)] V fun e w' => e = .returned (.bool (placesOk (isCol t.cols) x.pl)) ∧ Hid (Below V.heap.size V w')) := fun V hV =>
                placesMay_any t.cols x.pl ap pp V (hI.later hV.out) _ rfl n1 N1.out
              have NC : Hid (∀ V, Hid (Below wB.heap.size wB V) → ∀ k (hk : k < t.idxs.length), V.cell? ⟨c, coff + k * 2, none⟩ = some (.string (str (t.idxs[k]).nm)) ∧ True) := by
                intro V hV k hk
                obtain ⟨cs, ⟨_, _, rfl, _, _⟩, hc⟩ := hcx k hk
                exact ⟨(hV.out.cell hb3).trans (hc 0 _ rfl), trivial⟩
              have EX := put_by ex
              have ES := put_by es
              generalize x.pl.length = m at c1 cQ
              clear hc hnm ex es hcx hI
              by_cases hok : idxOk t.cols x = true
              · have hok2 : nameIs x.nm = true ∧ placesOk (isCol t.cols) x.pl = true := by
                  unfold idxOk at hok
                  simpa using hok
                have HOK := put_by hok
                rw [hok2.1] at cN
                rw [hok2.2] at cQ
                clear hok hok2
                go_wp2_with (first
                  | (go_at_call 21; (with_reducible refine (cN.out _).mono ?_); rintro e w5 ⟨rfl, b5⟩; have q0 : w5.cell? ⟨wr.heap.size, 0, none⟩ = some (.string s) := (b5.out.cell (p := ⟨wr.heap.size, 0, none⟩) (by simp)).trans (by simp); have q1 : w5.cell? ⟨wr.heap.size, 1, none⟩ = some (.slice ap m pp) := (b5.out.cell (p := ⟨wr.heap.size, 1, none⟩) (by simp)).trans (by simp); have HB5 : Hid (Below wB.heap.size wB w5) := (HB.out.alloc HB.out.size _).trans (b5.out.mono (HB.out.alloc HB.out.size _).size))
                  | (go_at_call 22; (with_reducible refine (cQ.out _ HB5).mono ?_); rintro e w4 ⟨rfl, b4⟩))
                have HB4 : Hid (Below wB.heap.size wB w4) := HB5.out.trans (b4.out.mono HB5.out.size)
                have hl5 : wr.heap.size < w5.heap.size := by have := b5.out.size; simp at this; omega
                have Q0 := put_by (show wr.heap.size < w4.heap.size ∧ w4.cell? ⟨wr.heap.size, 0, none⟩ = some (.string s) from ⟨Nat.lt_of_lt_of_le hl5 b4.out.size, (b4.out.cell (p := ⟨wr.heap.size, 0, none⟩) hl5).trans q0⟩)
                clear q0 q1 b4 hl5 b5 HB5
                go_loopw [10] (fun v wq => ∃ k : Nat, k ≤ i ∧ v = .int .i64 k ∧ Hid (∀ a (ha : a < k) (ha2 : a < t.idxs.length), (t.idxs[a]).nm ≠ x.nm) ∧ Hid (Below w4.heap.size w4 wq)) (fun v _ => i - (intOf v).toNat)
                case atStart => exact ⟨0, Nat.zero_le _, rfl, fun _ h => absurd h (Nat.not_lt_zero _), Below.refl _ _⟩
                case round =>
                  rename World => wq
                  obtain ⟨k, hk, rfl, HA, HB5⟩ := hrel
                  have HB6 : Hid (Below wB.heap.size wB wq) := HB4.out.trans (HB5.out.mono HB4.out.size)
                  by_cases hki : k < i
                  · have hki1 : (k : Int) < (i : Int) := by omega
                    have hkn : (k : Int) < (n3 : Int) := by omega
                    have hy : k < t.idxs.length := by omega
                    obtain ⟨d0, d1⟩ := NC.out wq HB6 k hy
                    have d2 := (HB5.out.cell (p := ⟨wr.heap.size, 0, none⟩) Q0.out.1).trans Q0.out.2
                    obtain ⟨m1, m2, m3⟩ := BX.out _ HB6
                    obtain ⟨y, ey⟩ : ∃ y, (t.idxs[k]).nm = y := ⟨_, rfl⟩
                    rw [ey] at d0
                    by_cases hyx : y = x.nm
                    · have R : Hid (tabOk t = false) := by rw [R4.out]; exact allOk_two (least := 0) (most := 2) (fits := idxOk t.cols) (key := Idx.nm) hki hx (by rw [ey, EX.out]; exact hyx)
                      rw [hyx, ES.out] at d0
                      clear hyx ey
                      go_wp2_with (go_region)
                      all_goals
                        go_ret
                        rw [R.out]
                        exact ⟨rfl, HW.out.trans ((HB6.out.drew).mono HW.out.size)⟩
                    · have R : Hid (∀ a (ha : a < k + 1) (ha2 : a < t.idxs.length), (t.idxs[a]).nm ≠ x.nm) := by
                        intro a ha ha2
                        by_cases e : a = k
                        · subst e
                          rw [ey]
                          exact hyx
                        · exact HA.out a (by omega) ha2
                      have hss : ((str y).toList == s.toList) = false := by
                        rw [← ES.out, str_same]
                        exact decide_eq_false hyx
                      generalize str y = sy at d0 hss
                      clear hyx ey
                      go_wp2_with (go_region)
                      all_goals
                        go_roundw
                        case rel => exact ⟨k + 1, by omega, by go_num, R, HB5.out.drew⟩
                        case measure => simp [intOf]; omega
                  · have hkn : k = i := by omega
                    subst hkn
                    have R : Hid (Good Idx.nm (idxOk t.cols) t.idxs (k + 1)) := HG.out.step hx (by rw [EX.out]; exact HOK.out) (fun a ha => by rw [EX.out]; exact HA.out a ha (by omega))
                    go_wp2
                    go_roundw
                    case rel => exact ⟨k + 1, by omega, by go_num, R, HB6⟩
                    case measure => simp [intOf]; omega
              · have R : Hid (tabOk t = false) := by rw [R4.out]; exact allOk_bad (least := 0) (most := 2) (fits := idxOk t.cols) (key := Idx.nm) hx (by rw [EX.out]; exact Bool.eq_false_iff.2 hok)
                cases hnm : nameIs x.nm with
                | false =>
                  rw [hnm] at cN
                  clear hok hnm
                  go_wp2_with (go_at_call 21; (with_reducible refine (cN.out _).mono ?_); rintro e w4 ⟨rfl, b4⟩)
                  go_ret
                  rw [R.out]
                  exact ⟨rfl, HW.out.trans (((HB.out.alloc HB.out.size _).trans (b4.out.mono (HB.out.alloc HB.out.size _).size)).mono HW.out.size)⟩
                | true =>
                  have hpl : placesOk (isCol t.cols) x.pl = false := by
                    unfold idxOk at hok
                    rw [hnm] at hok
                    simpa using hok
                  rw [hnm] at cN
                  rw [hpl] at cQ
                  clear hok hnm hpl
                  go_wp2_with (first
                    | (go_at_call 21; (with_reducible refine (cN.out _).mono ?_); rintro e w5 ⟨rfl, b5⟩; have q1 : w5.cell? ⟨wr.heap.size, 1, none⟩ = some (.slice ap m pp) := (b5.out.cell (p := ⟨wr.heap.size, 1, none⟩) (by simp)).trans (by simp); have HB5 : Hid (Below wB.heap.size wB w5) := (HB.out.alloc HB.out.size _).trans (b5.out.mono (HB.out.alloc HB.out.size _).size))
                    | (go_at_call 22; (with_reducible refine (cQ.out _ HB5).mono ?_); rintro e w4 ⟨rfl, b4⟩))
                  go_ret
                  rw [R.out]
                  exact ⟨rfl, HW.out.trans ((HB5.out.trans (b4.out.mono HB5.out.size)).mono HW.out.size)⟩
            · have hin : n3 = i := by omega
              subst hin
              have hlt1 : ¬ (n3 : Int) < (n3 : Int) := by omega
              have R : Hid (tabOk t = true) := by
                have hg := HG.out
                rw [N3.out] at hg
                rw [R4.out]
                exact hg.all (Nat.zero_le _) (by rw [← N3.out]; omega)
              go_wp2
              go_ret
              rw [R.out]
              exact ⟨rfl, HW.out.trans (HB.out.mono HW.out.size)⟩

end Go.Proofs.YtojfcafdegbkjaaDoor
