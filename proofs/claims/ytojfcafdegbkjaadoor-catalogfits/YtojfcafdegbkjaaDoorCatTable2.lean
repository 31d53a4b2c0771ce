/- Whether a table fits, and a catalog, as the program tells it. -/
import Derived.Test.YtojfcafdegbkjaaDoorCatTable
import Derived.Laws.EntriesVeiled
namespace Go.Proofs.YtojfcafdegbkjaaDoor
open Go.ChangeShapes Go.WideShapes Go.ChangeAt Go.RowKit Go.Maps

set_option maxRecDepth 100000 in
set_option maxHeartbeats 4000000 in
theorem fitsTable_any (t : Tab) (a1 : Option Addr) (p1 : Nat) (a2 : Option Addr) (p2 : Nat) (a3 : Option Addr) (p3 : Nat) (w : World) (tab : MayTabs w) (hC : Cols w a1 t.cols) (hK : Ints w a2 t.key) (hX : Idxs w a3 t.idxs) :
    Calls Tryd.prog 8 #[.agg #[.string (str t.nm), .slice a1 t.cols.length p1, .slice a2 t.key.length p2, .slice a3 t.idxs.length p3]] w fun e w' => e = .returned (.bool (tabOk t)) ∧ Below w.heap.size w w' := by
  obtain ⟨w2, e2⟩ : ∃ w2, w2 = (w.alloc (.cells #[.string (str t.nm), .slice a1 t.cols.length p1, .slice a2 t.key.length p2, .slice a3 t.idxs.length p3] 29)).alloc (.cells #[.func (.func 11) #[] #[.pointer (some ⟨w.heap.size, 0, none⟩)]] 33) := ⟨_, rfl⟩
  have hw : Below w.heap.size w w2 := by
    rw [e2]
    exact ((Below.refl _ w).alloc (Nat.le_refl _) _).alloc (by simp) _
  have hsz : w2.heap.size = w.heap.size + 2 := by rw [e2]; simp
  have k0 : w2.cell? ⟨w.heap.size, 0, none⟩ = some (.string (str t.nm)) := by rw [e2]; simp
  have k1 : w2.cell? ⟨w.heap.size, 1, none⟩ = some (.slice a1 t.cols.length p1) := by rw [e2]; simp
  have k2 : w2.cell? ⟨w.heap.size, 2, none⟩ = some (.slice a2 t.key.length p2) := by rw [e2]; simp
  have k3 : w2.cell? ⟨w.heap.size, 3, none⟩ = some (.slice a3 t.idxs.length p3) := by rw [e2]; simp
  have kD : w2.cell? ⟨w.heap.size + 1, 0, none⟩ = some (.func (.func 11) #[] #[.pointer (some ⟨w.heap.size, 0, none⟩)]) := by rw [e2]; simp
  have tab2 := tab.later hw
  have hC2 := hC.later hw
  have hK2 := hK.later hw
  have hX2 := hX.later hw
  have cM : Hid (∀ V, V = w2 → Calls Tryd.prog 14 #[.string (str t.nm)] V fun e w' => e = .returned (.bool (nameIs t.nm)) ∧ Hid (Below w2.heap.size w2 w')) := by
    rintro _ rfl
    exact mayName_at t.nm _ _ tab2 (Below.refl _ _)
  have cC : Hid (∀ V, Hid (Below w2.heap.size w2 V) → Calls Tryd.prog 16 #[.slice a1 t.cols.length p1, .int .i64 1, .int .i64 6, .func (.func 17) #[] #[], .func (.func 18) #[] #[]] V fun e w' => e = .returned (.bool (allOk 1 6 TCol.nm colOk t.cols)) ∧ Hid (Below w2.heap.size w2 w')) := fun V hV =>
    (fitsAllC_any colOk t.cols a1 p1 V (hC2.later hV.out) _ rfl (fun x _ _ _ U hU => fitsColumn_any x V U (tab2.later hV.out) hU)).mono fun e w' h => ⟨h.1, hV.out.trans (h.2.mono hV.out.size)⟩
  have cP : Hid (∀ V, Hid (Below w2.heap.size w2 V) → Calls Tryd.prog 15 #[.slice a2 t.key.length p2, .func (.func 12) #[] #[.pointer (some ⟨w.heap.size + 1, 0, none⟩), .pointer (some ⟨w.heap.size, 0, none⟩)]] V fun e w' => e = .returned (.bool (placesOk (isFilled t.cols) t.key)) ∧ Hid (Below w2.heap.size w2 w')) := fun V hV =>
    (fitsPlaces2_any (isFilled t.cols) t.key a2 p2 _ _ V (hK2.later hV.out) _ rfl (fun y _ _ _ U hU =>
      have hU2 := hV.out.trans (hU.mono hV.out.size)
      (isFilled_any y w.heap.size (w.heap.size + 1) t.cols a1 _ p1 rfl U (hC2.later hU2) ((hU2.cell (p := ⟨w.heap.size, 1, none⟩) (by show w.heap.size < _; omega)).trans k1) ((hU2.cell (p := ⟨w.heap.size + 1, 0, none⟩) (by show w.heap.size + 1 < _; omega)).trans kD)).mono fun e w' h => ⟨h.1, h.2 ▸ hU⟩)).mono fun e w' h => ⟨h.1, hV.out.trans (h.2.mono hV.out.size)⟩
  have cX : Hid (∀ V, Hid (Below w2.heap.size w2 V) → Calls Tryd.prog 19 #[.slice a3 t.idxs.length p3, .int .i64 0, .int .i64 2, .func (.func 20) #[] #[], .func (.func 13) #[] #[.pointer (some ⟨w.heap.size + 1, 0, none⟩)]] V fun e w' => e = .returned (.bool (allOk 0 2 Idx.nm (idxOk t.cols) t.idxs)) ∧ Hid (Below w2.heap.size w2 w')) := fun V hV =>
    (fitsAllX_any (idxOk t.cols) t.idxs a3 p3 _ V (hX2.later hV.out) _ rfl (fun x _ a p hI _ U hU =>
      fitsIndex_any x t.cols w.heap.size (w.heap.size + 1) a1 a _ p1 p rfl V U (tab2.later hV.out) (by have := hV.out.size; omega) (by have := hV.out.size; omega) ((hV.out.cell (p := ⟨w.heap.size, 1, none⟩) (by show w.heap.size < _; omega)).trans k1) ((hV.out.cell (p := ⟨w.heap.size + 1, 0, none⟩) (by show w.heap.size + 1 < _; omega)).trans kD) hI hU)).mono fun e w' h => ⟨h.1, hV.out.trans (h.2.mono hV.out.size)⟩
  have BX : Hid (∀ V, Hid (Below w2.heap.size w2 V) → V.cell? ⟨w.heap.size, 1, none⟩ = some (.slice a1 t.cols.length p1) ∧ V.cell? ⟨w.heap.size, 2, none⟩ = some (.slice a2 t.key.length p2) ∧ V.cell? ⟨w.heap.size, 3, none⟩ = some (.slice a3 t.idxs.length p3)) := fun V hV =>
    ⟨(hV.out.cell (p := ⟨w.heap.size, 1, none⟩) (by show w.heap.size < _; omega)).trans k1, (hV.out.cell (p := ⟨w.heap.size, 2, none⟩) (by show w.heap.size < _; omega)).trans k2, (hV.out.cell (p := ⟨w.heap.size, 3, none⟩) (by show w.heap.size < _; omega)).trans k3⟩
  have HW := put_by hw
  have E2 := put_by e2
  have R0 : tabOk t = (nameIs t.nm && (allOk 1 6 TCol.nm colOk t.cols && (placesOk (isFilled t.cols) t.key && allOk 0 2 Idx.nm (idxOk t.cols) t.idxs))) := rfl
  clear hw hsz k0 k1 k2 k3 kD tab2 hC2 hK2 hX2 tab hC hK hX e2
  generalize nameIs t.nm = r1 at cM R0
  generalize allOk 1 6 TCol.nm colOk t.cols = r2 at cC R0
  generalize placesOk (isFilled t.cols) t.key = r3 at cP R0
  generalize allOk 0 2 Idx.nm (idxOk t.cols) t.idxs = r4 at cX R0
  generalize str t.nm = nm at *
  generalize t.cols.length = n1 at *
  generalize t.key.length = n2 at *
  generalize t.idxs.length = n3 at *
  have R : Hid (tabOk t = (r1 && (r2 && (r3 && r4)))) := R0
  clear R0
  cases r1 with
  | false =>
    go_enter Tryd.func8, Tryd.ntmps8
    go_wp2_with (go_at_call 14; refine (cM.out _ E2.out.symm).mono ?_; rintro e w3 ⟨rfl, b3⟩)
    go_ret
    rw [R.out]
    exact ⟨rfl, HW.out.trans (b3.out.mono HW.out.size)⟩
  | true => cases r2 with
    | false =>
      go_enter Tryd.func8, Tryd.ntmps8
      go_wp2_with (first
        | (go_at_call 14; refine (cM.out _ E2.out.symm).mono ?_; rintro e w3 ⟨rfl, b3⟩; obtain ⟨q1, q2, q3⟩ := BX.out _ b3)
        | (go_at_call 16; (with_reducible refine (cC.out _ b3).mono ?_); rintro e w4 ⟨rfl, b4⟩))
      go_ret
      rw [R.out]
      exact ⟨rfl, HW.out.trans (b4.out.mono HW.out.size)⟩
    | true => cases r3 with
      | false =>
        go_enter Tryd.func8, Tryd.ntmps8
        go_wp2_with (first
          | (go_at_call 14; refine (cM.out _ E2.out.symm).mono ?_; rintro e w3 ⟨rfl, b3⟩; obtain ⟨q1, q2, q3⟩ := BX.out _ b3)
          | (go_at_call 16; (with_reducible refine (cC.out _ b3).mono ?_); rintro e w4 ⟨rfl, b4⟩; obtain ⟨s1, s2, s3⟩ := BX.out _ b4)
          | (go_at_call 15; (with_reducible refine (cP.out _ b4).mono ?_); rintro e w5 ⟨rfl, b5⟩))
        go_ret
        rw [R.out]
        exact ⟨rfl, HW.out.trans (b5.out.mono HW.out.size)⟩
      | true =>
        go_enter Tryd.func8, Tryd.ntmps8
        go_wp2_with (first
          | (go_at_call 14; refine (cM.out _ E2.out.symm).mono ?_; rintro e w3 ⟨rfl, b3⟩; obtain ⟨q1, q2, q3⟩ := BX.out _ b3)
          | (go_at_call 16; (with_reducible refine (cC.out _ b3).mono ?_); rintro e w4 ⟨rfl, b4⟩; obtain ⟨s1, s2, s3⟩ := BX.out _ b4)
          | (go_at_call 15; (with_reducible refine (cP.out _ b4).mono ?_); rintro e w5 ⟨rfl, b5⟩; obtain ⟨o1, o2, o3⟩ := BX.out _ b5)
          | (go_at_call 19; (with_reducible refine (cX.out _ b5).mono ?_); rintro e w6 ⟨rfl, b6⟩))
        go_ret
        rw [R.out]
        exact ⟨rfl, HW.out.trans (b6.out.mono HW.out.size)⟩

set_option maxHeartbeats 2000000 in
theorem Fits_any (l : List Tab) (ao : Option Addr) (cap : Nat) (w : World) (tab : MayTabs w) (h : Tabs w ao l) (n : Nat) (hn : n = l.length) :
    Calls Tryd.prog 4 #[.slice ao n cap] w fun e w' => e = .returned (.bool (catOk l)) ∧ Below w.heap.size w w' := by
  have cA := put_by (fitsAllT_any tabOk l ao cap w h n hn (fun x _ a1 p1 a2 p2 a3 p3 hh _ W hW => (fitsTable_any x a1 p1 a2 p2 a3 p3 W (tab.later hW) (hh.1.later hW) (hh.2.1.later hW) (hh.2.2.later hW)).mono fun e w' h => ⟨h.1, hW.trans (h.2.mono hW.size)⟩))
  have R : Hid (catOk l = allOk 0 4 Tab.nm tabOk l) := rfl
  generalize allOk 0 4 Tab.nm tabOk l = r at cA R
  clear h hn tab
  go_enter Tryd.func4, Tryd.ntmps4
  go_wp2_with (go_at_call 6; (with_reducible refine cA.out.mono ?_); rintro e w1 ⟨rfl, b1⟩)
  go_ret
  rw [R.out]
  exact ⟨rfl, b1⟩

end Go.Proofs.YtojfcafdegbkjaaDoor
