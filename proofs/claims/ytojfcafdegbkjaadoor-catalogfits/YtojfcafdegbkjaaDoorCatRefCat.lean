/- Whether a catalog fits, as the document's own answer tells it. -/
import Derived.Test.YtojfcafdegbkjaaDoorCatRefTable
namespace Go.Proofs.YtojfcafdegbkjaaDoor
open Go.ChangeShapes Go.WideShapes Go.ChangeAt Go.RowKit

set_option maxRecDepth 100000 in
set_option maxHeartbeats 8000000 in
theorem CatalogFits_any (l : List Tab) (ao : Option Addr) (cap : Nat) (w : World) (h : Tabs w ao l) (n : Nat) (hn : n = l.length) :
    Calls Tryd.prog 5 #[.slice ao n cap] w fun e w' => e = .returned (.bool (catOk l)) ∧ Below w.heap.size w w' := by
  have HN := put_by hn
  have H := put_by h
  have E0 : Hid (catOk l = allOk 0 4 Tab.nm tabOk l) := rfl
  clear h hn
  by_cases hmany : 4 < n
  · have h1 : (n : Int) > 4 := by omega
    have R : Hid (catOk l = false) := by rw [E0.out]; exact allOk_many (by rw [← HN.out]; exact hmany)
    clear hmany
    go_enter Tryd.func5, Tryd.ntmps5
    go_wp2
    go_ret
    rw [R.out]
    exact ⟨rfl, Below.refl _ _⟩
  have h1 : ¬ (n : Int) > 4 := by omega
  go_enter Tryd.func5, Tryd.ntmps5
  go_wp2
  go_loopw [3] (fun v wr => ∃ i : Nat, i ≤ n ∧ v = .int .i64 i ∧ Hid (Good Tab.nm tabOk l i) ∧ Hid (Below w.heap.size w wr)) (fun v _ => n - (intOf v).toNat)
  case atStart => exact ⟨0, Nat.zero_le _, rfl, Good.zero, Below.refl _ _⟩
  case round =>
    obtain ⟨i, hi, rfl, HG, HB⟩ := hrel
    by_cases hlt : i < n
    · have hlt1 : (i : Int) < (n : Int) := by omega
      have hx : i < l.length := by rw [← HN.out]; exact hlt
      obtain ⟨b, off, rfl, hb, hcx⟩ := row_all H.out (not_nil HN.out (by omega))
      obtain ⟨cs, hr, hc⟩ := hcx i hx
      obtain ⟨x, ex⟩ : ∃ x, l[i] = x := ⟨_, rfl⟩
      rw [ex] at hr
      obtain ⟨a1, p1, a2, p2, a3, p3, rfl, hnm, hC, hK, hX⟩ := hr
      obtain ⟨s, es⟩ : ∃ s, str x.nm = s := ⟨_, rfl⟩
      have c0 : wr.cell? ⟨b, off + i * 4, none⟩ = some (.string s) := (HB.out.cell hb).trans (by rw [← es]; exact hc 0 _ rfl)
      have c1 : wr.cell? ⟨b, off + i * 4 + 1, none⟩ = some (.slice a1 x.cols.length p1) := (HB.out.cell hb).trans (hc 1 _ rfl)
      have c2 : wr.cell? ⟨b, off + i * 4 + 2, none⟩ = some (.slice a2 x.key.length p2) := (HB.out.cell hb).trans (hc 2 _ rfl)
      have c3 : wr.cell? ⟨b, off + i * 4 + 3, none⟩ = some (.slice a3 x.idxs.length p3) := (HB.out.cell hb).trans (hc 3 _ rfl)
      have cT : Hid (Calls Tryd.prog 9 #[.agg #[.string s, .slice a1 x.cols.length p1, .slice a2 x.key.length p2, .slice a3 x.idxs.length p3]] wr fun e w' => e = .returned (.bool (tabOk x)) ∧ Hid (Below w.heap.size w w')) := by
        rw [← es]
        exact (TableFits_any x a1 p1 a2 p2 a3 p3 wr (hC.later HB.out) (hK.later HB.out) (hX.later HB.out) _ _ _ rfl rfl rfl).mono fun e w' h => ⟨h.1, HB.out.trans (h.2.mono HB.out.size)⟩
      have NC : Hid (∀ V, Hid (Below w.heap.size w V) → ∀ k (hk : k < l.length), V.cell? ⟨b, off + k * 4, none⟩ = some (.string (str (l[k]).nm))) := by
        intro V hV k hk
        obtain ⟨cs, ⟨_, _, _, _, _, _, rfl, _, _⟩, hc⟩ := hcx k hk
        exact (hV.out.cell hb).trans (hc 0 _ rfl)
      have EX := put_by ex
      have ES := put_by es
      generalize x.cols.length = n1 at c1 cT
      generalize x.key.length = n2 at c2 cT
      generalize x.idxs.length = n3 at c3 cT
      clear hc hnm ex es hcx hC hK hX
      cases hok : tabOk x with
      | false =>
        have R : Hid (catOk l = false) := by rw [E0.out]; exact allOk_bad hx (by rw [EX.out]; exact hok)
        rw [hok] at cT
        clear hok
        go_wp2_with (go_at_call 9; (with_reducible refine cT.out.mono ?_); rintro e w4 ⟨rfl, b4⟩)
        go_ret
        rw [R.out]
        exact ⟨rfl, b4.out⟩
      | true =>
        have HOK := put_by hok
        rw [hok] at cT
        clear hok
        go_wp2_with (go_at_call 9; (with_reducible refine cT.out.mono ?_); rintro e w4 ⟨rfl, b4⟩)
        clear c0 c1 c2 c3
        go_loopw [4] (fun v wq => ∃ k : Nat, k ≤ i ∧ v = .int .i64 k ∧ Hid (∀ a (ha : a < k) (ha2 : a < l.length), (l[a]).nm ≠ x.nm) ∧ Hid (Below w.heap.size w wq)) (fun v _ => i - (intOf v).toNat)
        case atStart => exact ⟨0, Nat.zero_le _, rfl, fun _ h => absurd h (Nat.not_lt_zero _), b4⟩
        case round =>
          rename World => wq
          obtain ⟨k, hk, rfl, HA, HB6⟩ := hrel
          by_cases hki : k < i
          · have hki1 : (k : Int) < (i : Int) := by omega
            have hkn : (k : Int) < (n : Int) := by omega
            have hy : k < l.length := by omega
            have d0 := NC.out wq HB6 k hy
            have d1 := NC.out wq HB6 i hx
            rw [EX.out, ES.out] at d1
            obtain ⟨y, ey⟩ : ∃ y, (l[k]).nm = y := ⟨_, rfl⟩
            rw [ey] at d0
            by_cases hyx : y = x.nm
            · have R : Hid (catOk l = false) := by rw [E0.out]; exact allOk_two (key := Tab.nm) hki hx (by rw [ey, EX.out]; exact hyx)
              rw [hyx, ES.out] at d0
              clear hyx ey
              go_wp2_with (go_region)
              all_goals
                go_ret
                rw [R.out]
                exact ⟨rfl, HB6.out.drew⟩
            · have R : Hid (∀ a (ha : a < k + 1) (ha2 : a < l.length), (l[a]).nm ≠ x.nm) := by
                intro a ha ha2
                by_cases e : a = k
                · subst e
                  rw [ey]
                  exact hyx
                · exact HA.out a (by omega) ha2
              have hss : ((str y).toList == s.toList) = false := by
                rw [← ES.out, str_same]
                exact decide_eq_false hyx
              generalize str y = sy at d0 hss
              clear hyx ey
              go_wp2_with (go_region)
              all_goals
                go_roundw
                case rel => exact ⟨k + 1, by omega, by go_num, R, HB6.out.drew⟩
                case measure => simp [intOf]; omega
          · have hkn : k = i := by omega
            subst hkn
            have R : Hid (Good Tab.nm tabOk l (k + 1)) := HG.out.step hx (by rw [EX.out]; exact HOK.out) (fun a ha => by rw [EX.out]; exact HA.out a ha (by omega))
            go_wp2
            go_roundw
            case rel => exact ⟨k + 1, by omega, by go_num, R, HB6⟩
            case measure => simp [intOf]; omega
    · have hin : n = i := by omega
      subst hin
      have R : Hid (catOk l = true) := by
        have hg := HG.out
        rw [HN.out] at hg
        rw [E0.out]
        exact hg.all (Nat.zero_le _) (by rw [← HN.out]; omega)
      go_wp2
      go_ret
      rw [R.out]
      exact ⟨rfl, HB.out⟩

end Go.Proofs.YtojfcafdegbkjaaDoor
