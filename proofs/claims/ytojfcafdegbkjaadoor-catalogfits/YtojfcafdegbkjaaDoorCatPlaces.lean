/- The closures of fitsTable over a table's columns, and what they tell of places. -/
import Derived.Test.YtojfcafdegbkjaaDoorCatFitsI1
import Derived.Test.YtojfcafdegbkjaaDoorCatFitsI2
namespace Go.Proofs.YtojfcafdegbkjaaDoor
open Go.ChangeShapes Go.WideShapes Go.ChangeAt Go.RowKit Go.Maps

set_option maxHeartbeats 2000000 in
theorem isCol_any (x : Int) (B : Nat) (cols : List TCol) (a1 : Option Addr) (n p1 : Nat) (hn : n = cols.length) (W : World) (c1 : W.cell? ⟨B, 1, none⟩ = some (.slice a1 n p1)) :
    Calls Tryd.prog 11 #[.int .i64 x, .pointer (some ⟨B, 0, none⟩)] W fun e w' => e = .returned (.bool (isCol cols x)) ∧ W = w' := by
  have R : Hid (isCol cols x = decide (0 ≤ x ∧ x < n)) := by subst hn; rfl
  clear hn
  by_cases h0 : 0 ≤ x
  · by_cases h1 : x < n
    · have R2 : Hid (isCol cols x = true) := by rw [R.out]; exact decide_eq_true ⟨h0, h1⟩
      clear R
      go_enter Tryd.func11, Tryd.ntmps11
      go_wp2
      go_ret
      rw [R2.out]
      exact ⟨rfl, rfl⟩
    · have R2 : Hid (isCol cols x = false) := by rw [R.out]; exact decide_eq_false fun h => h1 h.2
      clear R
      go_enter Tryd.func11, Tryd.ntmps11
      go_wp2
      go_ret
      rw [R2.out]
      exact ⟨rfl, rfl⟩
  · have R2 : Hid (isCol cols x = false) := by rw [R.out]; exact decide_eq_false fun h => h0 h.1
    clear R
    go_enter Tryd.func11, Tryd.ntmps11
    go_wp2
    go_ret
    rw [R2.out]
    exact ⟨rfl, rfl⟩

set_option maxHeartbeats 2000000 in
theorem isFilled_any (x : Int) (B D : Nat) (cols : List TCol) (a1 : Option Addr) (n p1 : Nat) (hn : n = cols.length) (W : World) (hC : Cols W a1 cols) (c1 : W.cell? ⟨B, 1, none⟩ = some (.slice a1 n p1))
    (d0 : W.cell? ⟨D, 0, none⟩ = some (.func (.func 11) #[] #[.pointer (some ⟨B, 0, none⟩)])) :
    Calls Tryd.prog 12 #[.int .i64 x, .pointer (some ⟨D, 0, none⟩), .pointer (some ⟨B, 0, none⟩)] W fun e w' => e = .returned (.bool (isFilled cols x)) ∧ W = w' := by
  have cI := isCol_any x B cols a1 n p1 hn W c1
  have R0 : isFilled cols x = (isCol cols x && (cols[x.toNat]?.map TCol.nn).getD false) := rfl
  cases hi : isCol cols x with
  | false =>
    have R : Hid (isFilled cols x = false) := by rw [Hid, R0, hi]; rfl
    rw [hi] at cI
    clear hi R0 hC
    go_enter Tryd.func12, Tryd.ntmps12
    go_wp2_with (go_at_call 11; (with_reducible refine cI.mono ?_); rintro e w1 ⟨rfl, rfl⟩)
    go_ret
    rw [R.out]
    exact ⟨rfl, rfl⟩
  | true =>
    rw [hi] at cI
    have h2 : 0 ≤ x ∧ x < cols.length := of_decide_eq_true hi
    obtain ⟨i, rfl⟩ : ∃ i : Nat, x = i := ⟨x.toNat, by omega⟩
    have hx : i < cols.length := by omega
    have hx2 : (i : Int) < (n : Int) := by omega
    obtain ⟨b, off, rfl, hb, cs, ⟨rfl, hnm⟩, hc⟩ := RowC.at hC hx
    have q2 : W.cell? ⟨b, off + i * 3 + 2, none⟩ = some (.bool (cols[i]).nn) := hc 2 _ rfl
    have R : Hid (isFilled cols (i : Int) = (cols[i]).nn) := by
      rw [Hid, R0, hi, Bool.true_and, Int.toNat_natCast, List.getElem?_eq_getElem hx]
      rfl
    generalize (cols[i]).nn = r at q2 R
    clear hi R0 hC hc hnm h2 hx
    go_enter Tryd.func12, Tryd.ntmps12
    go_wp2_with (go_at_call 11; (with_reducible refine cI.mono ?_); rintro e w1 ⟨rfl, rfl⟩)
    go_ret
    rw [R.out]
    exact ⟨rfl, rfl⟩

set_option maxHeartbeats 2000000 in
theorem fitsPlaces1_any (P : Int → Bool) (l : List Int) (ao : Option Addr) (cap : Nat) (v1 : Value) (w : World) (h : Ints w ao l) (n : Nat) (hn : n = l.length)
    (cF : ∀ x ∈ l, True → (Lit.int .i64 x).wf = true → ∀ W : World, Below w.heap.size w W → Calls Tryd.prog 11 #[.int .i64 x, v1] W fun e w' => e = .returned (.bool (P x)) ∧ Below w.heap.size w w') :
    Calls Tryd.prog 15 #[.slice ao n cap, .func (.func 11) #[] #[v1]] w fun e w' => e = .returned (.bool (placesOk P l)) ∧ Below w.heap.size w w' := by
  have cA := put_by (fitsAllI1_any P l ao cap v1 w h n hn cF)
  have R : Hid (placesOk P l = allOk 1 3 (fun x : Int => x) P l) := rfl
  generalize allOk 1 3 (fun x : Int => x) P l = r at cA R
  clear h hn cF
  go_enter Tryd.func15, Tryd.ntmps15
  go_wp2_with (go_at_call 26; (with_reducible refine cA.out.mono ?_); rintro e w1 ⟨rfl, b1⟩)
  go_ret
  rw [R.out]
  exact ⟨rfl, b1⟩

set_option maxHeartbeats 2000000 in
theorem fitsPlaces2_any (P : Int → Bool) (l : List Int) (ao : Option Addr) (cap : Nat) (v1 v2 : Value) (w : World) (h : Ints w ao l) (n : Nat) (hn : n = l.length)
    (cF : ∀ x ∈ l, True → (Lit.int .i64 x).wf = true → ∀ W : World, Below w.heap.size w W → Calls Tryd.prog 12 #[.int .i64 x, v1, v2] W fun e w' => e = .returned (.bool (P x)) ∧ Below w.heap.size w w') :
    Calls Tryd.prog 15 #[.slice ao n cap, .func (.func 12) #[] #[v1, v2]] w fun e w' => e = .returned (.bool (placesOk P l)) ∧ Below w.heap.size w w' := by
  have cA := put_by (fitsAllI2_any P l ao cap v1 v2 w h n hn cF)
  have R : Hid (placesOk P l = allOk 1 3 (fun x : Int => x) P l) := rfl
  generalize allOk 1 3 (fun x : Int => x) P l = r at cA R
  clear h hn cF
  go_enter Tryd.func15, Tryd.ntmps15
  go_wp2_with (go_at_call 26; (with_reducible refine cA.out.mono ?_); rintro e w1 ⟨rfl, b1⟩)
  go_ret
  rw [R.out]
  exact ⟨rfl, b1⟩

end Go.Proofs.YtojfcafdegbkjaaDoor
