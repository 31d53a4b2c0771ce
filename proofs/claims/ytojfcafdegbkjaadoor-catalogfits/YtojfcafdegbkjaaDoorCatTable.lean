/- Whether a catalog fits, as the program tells it: columns, indexes, tables, catalogs. -/
import Derived.Test.YtojfcafdegbkjaaDoorCatPlaces
import Derived.Test.YtojfcafdegbkjaaDoorCatFitsT
import Derived.Test.YtojfcafdegbkjaaDoorCatFitsC
import Derived.Test.YtojfcafdegbkjaaDoorCatFitsX
import Derived.Test.YtojfcafdegbkjaaDoorNamesRef
import Derived.Test.YtojfcafdegbkjaaDoorLexTabs
namespace Go.Proofs.YtojfcafdegbkjaaDoor
open Go.ChangeShapes Go.WideShapes Go.ChangeAt Go.RowKit Go.Maps

/-- MayName, in whatever world behind one that bears the tables -/
theorem mayName_at (u : List UInt8) (w W : World) (tab : MayTabs w) (hW : Below w.heap.size w W) : Calls Tryd.prog 14 #[.string (str u)] W fun e w' => e = .returned (.bool (nameIs u)) ∧ Below w.heap.size w w' := by
  have t := tab.later hW
  have c := MayName_any (str u) W t.1 t.2
  rw [bts_str] at c
  exact c.mono fun e w' h => ⟨h.1, hW.trans (h.2.mono hW.size)⟩

set_option maxHeartbeats 2000000 in
theorem fitsColumn_any (x : TCol) (w W : World) (tab : MayTabs w) (hW : Below w.heap.size w W) :
    Calls Tryd.prog 18 #[.agg #[.string (str x.nm), .int .i64 x.ty, .bool x.nn]] W fun e w' => e = .returned (.bool (colOk x)) ∧ Below w.heap.size w w' := by
  have cM : Hid (∀ o, Calls Tryd.prog 14 #[.string (str x.nm)] (W.alloc o) fun e w' => e = .returned (.bool (nameIs x.nm)) ∧ Below w.heap.size w w' ∧ Below (W.alloc o).heap.size (W.alloc o) w') := fun o => by
    have t := tab.later (hW.alloc hW.size o)
    have c := MayName_any (str x.nm) (W.alloc o) t.1 t.2
    rw [bts_str] at c
    exact c.mono fun e w' h => ⟨h.1, (hW.alloc hW.size o).trans (h.2.mono (hW.alloc hW.size o).size), h.2⟩
  have R0 : colOk x = (nameIs x.nm && decide (1 ≤ x.ty ∧ x.ty ≤ 3)) := rfl
  cases hn : nameIs x.nm with
  | false =>
    have R : Hid (colOk x = false) := by rw [Hid, R0, hn]; rfl
    rw [hn] at cM
    clear hn R0
    go_enter Tryd.func18, Tryd.ntmps18
    go_wp2_with (go_at_call 14; (with_reducible refine (cM.out _).mono ?_); rintro e w1 ⟨rfl, b1, b2⟩)
    go_ret
    rw [R.out]
    exact ⟨rfl, b1⟩
  | true =>
    rw [hn] at cM
    by_cases h1 : 1 ≤ x.ty
    · by_cases h3 : x.ty ≤ 3
      · have R : Hid (colOk x = true) := by rw [Hid, R0, hn]; simp [h1, h3]
        clear hn R0
        go_enter Tryd.func18, Tryd.ntmps18
        go_wp2_with (go_at_call 14; (with_reducible refine (cM.out _).mono ?_); rintro e w1 ⟨rfl, b1, b2⟩; have q1 : w1.cell? ⟨W.heap.size, 1, none⟩ = some (.int .i64 x.ty) := (b2.cell (p := ⟨W.heap.size, 1, none⟩) (by simp)).trans (by simp))
        go_ret
        rw [R.out]
        exact ⟨rfl, b1⟩
      · have R : Hid (colOk x = false) := by rw [Hid, R0, hn]; simp [h3]
        have h4 : decide (x.ty ≤ 3) = false := decide_eq_false h3
        clear hn R0 h3
        go_enter Tryd.func18, Tryd.ntmps18
        go_wp2_with (go_at_call 14; (with_reducible refine (cM.out _).mono ?_); rintro e w1 ⟨rfl, b1, b2⟩; have q1 : w1.cell? ⟨W.heap.size, 1, none⟩ = some (.int .i64 x.ty) := (b2.cell (p := ⟨W.heap.size, 1, none⟩) (by simp)).trans (by simp))
        go_ret
        rw [R.out]
        exact ⟨rfl, b1⟩
    · have R : Hid (colOk x = false) := by rw [Hid, R0, hn]; simp [h1]
      clear hn R0
      go_enter Tryd.func18, Tryd.ntmps18
      go_wp2_with (go_at_call 14; (with_reducible refine (cM.out _).mono ?_); rintro e w1 ⟨rfl, b1, b2⟩; have q1 : w1.cell? ⟨W.heap.size, 1, none⟩ = some (.int .i64 x.ty) := (b2.cell (p := ⟨W.heap.size, 1, none⟩) (by simp)).trans (by simp))
      go_ret
      rw [R.out]
      exact ⟨rfl, b1⟩

set_option maxHeartbeats 4000000 in
theorem fitsIndex_any (x : Idx) (cols : List TCol) (B D : Nat) (a1 a2 : Option Addr) (n p1 p2 : Nat) (hn : n = cols.length) (w W : World) (tab : MayTabs w) (hB : B < w.heap.size) (hD : D < w.heap.size) (c1 : w.cell? ⟨B, 1, none⟩ = some (.slice a1 n p1))
    (d0 : w.cell? ⟨D, 0, none⟩ = some (.func (.func 11) #[] #[.pointer (some ⟨B, 0, none⟩)])) (hI : Ints w a2 x.pl) (hW : Below w.heap.size w W) :
    Calls Tryd.prog 13 #[.agg #[.string (str x.nm), .slice a2 x.pl.length p2], .pointer (some ⟨D, 0, none⟩)] W fun e w' => e = .returned (.bool (idxOk cols x)) ∧ Below w.heap.size w w' := by
  have cM : Hid (∀ o, Calls Tryd.prog 14 #[.string (str x.nm)] (W.alloc o) fun e w' => e = .returned (.bool (nameIs x.nm)) ∧ Hid (Below w.heap.size w w' ∧ Below (W.alloc o).heap.size (W.alloc o) w')) := fun o => by
    have t := tab.later (hW.alloc hW.size o)
    have c := MayName_any (str x.nm) (W.alloc o) t.1 t.2
    rw [bts_str] at c
    exact c.mono fun e w' h => ⟨h.1, (hW.alloc hW.size o).trans (h.2.mono (hW.alloc hW.size o).size), h.2⟩
  have cP : Hid (∀ V, Below w.heap.size w V → Calls Tryd.prog 15 #[.slice a2 x.pl.length p2, .func (.func 11) #[] #[.pointer (some ⟨B, 0, none⟩)]] V fun e w' => e = .returned (.bool (placesOk (isCol cols) x.pl)) ∧ Hid (Below w.heap.size w w')) := fun V hV =>
    (fitsPlaces1_any (isCol cols) x.pl a2 p2 _ V (hI.later hV) _ rfl (fun y _ _ _ U hU => (isCol_any y B cols a1 n p1 hn U (((hV.trans (hU.mono hV.size)).cell hB).trans c1)).mono fun e w' h => ⟨h.1, h.2 ▸ hU⟩)).mono fun e w' h => ⟨h.1, hV.trans (h.2.mono hV.size)⟩
  have R0 : idxOk cols x = (nameIs x.nm && placesOk (isCol cols) x.pl) := rfl
  have HD := put_by (fun (V : World) (hV : Below w.heap.size w V) => (hV.cell (p := ⟨D, 0, none⟩) hD).trans d0)
  generalize x.pl.length = m at cP ⊢
  cases hx : nameIs x.nm with
  | false =>
    have R : Hid (idxOk cols x = false) := by rw [Hid, R0, hx]; rfl
    rw [hx] at cM
    clear hx R0 d0 c1 hn tab hI
    go_enter Tryd.func13, Tryd.ntmps13
    go_wp2_with (go_at_call 14; (with_reducible refine (cM.out _).mono ?_); rintro e w1 ⟨rfl, b1⟩)
    go_ret
    rw [R.out]
    exact ⟨rfl, b1.out.1⟩
  | true =>
    have R : Hid (idxOk cols x = placesOk (isCol cols) x.pl) := by rw [Hid, R0, hx]; rfl
    rw [hx] at cM
    generalize placesOk (isCol cols) x.pl = r at cP R
    clear hx R0 d0 c1 hn tab hI
    go_enter Tryd.func13, Tryd.ntmps13
    go_wp2_with (first
      | (go_at_call 14; (with_reducible refine (cM.out _).mono ?_); rintro e w1 ⟨rfl, b1⟩; have q1 : w1.cell? ⟨W.heap.size, 1, none⟩ = some (.slice a2 m p2) := (b1.out.2.cell (p := ⟨W.heap.size, 1, none⟩) (by simp)).trans (by simp); have q2 := HD.out w1 b1.out.1)
      | (go_at_call 15; (with_reducible refine (cP.out _ b1.out.1).mono ?_); rintro e w2 ⟨rfl, b2⟩))
    go_ret
    rw [R.out]
    exact ⟨rfl, b2.out⟩

end Go.Proofs.YtojfcafdegbkjaaDoor
