/- Whether so many elements of a list fit: fitsAll, at tables. -/
import Derived.Test.YtojfcafdegbkjaaDoorCatNoTwoT
import Derived.Carry
namespace Go.Proofs.YtojfcafdegbkjaaDoor
open Go.ChangeShapes Go.WideShapes Go.ChangeAt Go.RowKit Go.Maps

set_option maxRecDepth 100000 in
set_option maxHeartbeats 4000000 in
theorem fitsAllT_any (P : Tab → Bool) (l : List Tab) (ao : Option Addr) (cap : Nat) (w : World) (h : Tabs w ao l) (n : Nat) (hn : n = l.length)
    (cF : ∀ x ∈ l, ∀ (a1 : Option Addr) (p1 : Nat) (a2 : Option Addr) (p2 : Nat) (a3 : Option Addr) (p3 : Nat), Cols w a1 x.cols ∧ Ints w a2 x.key ∧ Idxs w a3 x.idxs → x.nm.length ≤ maxLen → ∀ W : World, Below w.heap.size w W → Calls Tryd.prog 8 #[.agg #[.string (str x.nm), .slice a1 x.cols.length p1, .slice a2 x.key.length p2, .slice a3 x.idxs.length p3]] W fun e w' => e = .returned (.bool (P x)) ∧ Below w.heap.size w w') :
    Calls Tryd.prog 6 #[.slice ao n cap, .int .i64 0, .int .i64 4, .func (.func 7) #[] #[], .func (.func 8) #[] #[]] w fun e w' => e = .returned (.bool (allOk 0 4 Tab.nm P l)) ∧ Below w.heap.size w w' := by
  have H := put_by h
  have HN := put_by hn
  have HF := put_by cF
  clear h hn cF
  have h0 : ¬ (n : Int) < 0 := by omega
  by_cases hmany : 4 < n
  · have h1 : (n : Int) > 4 := by omega
    have R : Hid (allOk 0 4 Tab.nm P l = false) := allOk_many (by rw [← HN.out]; exact hmany)
    clear hmany
    go_enter Tryd.func6, Tryd.ntmps6
    go_wp2
    go_ret
    rw [R.out]
    exact ⟨rfl, Below.refl _ _⟩
  have h1 : ¬ (n : Int) > 4 := by omega
  go_enter Tryd.func6, Tryd.ntmps6
  go_wp2
  go_loopw [25] (fun i wr => ∃ k : Nat, k ≤ n ∧ i = .int .i64 k ∧ Hid (∀ i (hi : i < l.length), i < k → P l[i] = true) ∧ Hid (Below w.heap.size w wr)) (fun i _ => n - (intOf i).toNat)
  case atStart => exact ⟨0, Nat.zero_le _, rfl, fun _ _ h => absurd h (Nat.not_lt_zero _), Below.refl _ _⟩
  case round =>
    obtain ⟨k, hk, rfl, HD, HB⟩ := hrel
    by_cases hlt : k < n
    · have hlt1 : (k : Int) < (n : Int) := by omega
      have hx : k < l.length := by rw [← HN.out]; exact hlt
      obtain ⟨b, off, rfl, hb, cs, hr, hc⟩ := RowC.at H.out hx
      have hmem : l[k] ∈ l := List.getElem_mem hx
      obtain ⟨x, ex⟩ : ∃ x, l[k] = x := ⟨_, rfl⟩
      rw [ex] at hr hmem
      obtain ⟨a1, p1, a2, p2, a3, p3, rfl, hnm, h5⟩ := hr
      have c0 : wr.cell? ⟨b, off + k * 4, none⟩ = some (.string (str x.nm)) := (HB.out.cell hb).trans (hc 0 _ rfl)
      have c1 : wr.cell? ⟨b, off + k * 4 + 1, none⟩ = some (.slice a1 x.cols.length p1) := (HB.out.cell hb).trans (hc 1 _ rfl)
      have c2 : wr.cell? ⟨b, off + k * 4 + 2, none⟩ = some (.slice a2 x.key.length p2) := (HB.out.cell hb).trans (hc 2 _ rfl)
      have c3 : wr.cell? ⟨b, off + k * 4 + 3, none⟩ = some (.slice a3 x.idxs.length p3) := (HB.out.cell hb).trans (hc 3 _ rfl)
      have cX : Hid (∀ o, Calls Tryd.prog 8 #[.agg #[.string (str x.nm), .slice a1 x.cols.length p1, .slice a2 x.key.length p2, .slice a3 x.idxs.length p3]] (wr.alloc o) fun e w' => e = .returned (.bool (P x)) ∧ Hid (Below w.heap.size w w')) := fun o => 
        HF.out x hmem a1 p1 a2 p2 a3 p3 h5 hnm (wr.alloc o) (HB.out.alloc HB.out.size o)
      have EX := put_by ex
      clear hc hnm ex hmem
      cases hp : P x with
      | false =>
        have R : Hid (allOk 0 4 Tab.nm P l = false) := allOk_bad hx (by rw [EX.out]; exact hp)
        rw [hp] at cX
        clear hp
        go_wp2_with (go_at_call 8; (with_reducible refine (cX.out _).mono ?_); rintro e w2 ⟨rfl, b2⟩)
        go_ret
        rw [R.out]
        exact ⟨rfl, b2.out⟩
      | true =>
        rw [hp] at cX
        have R : Hid (∀ i (hi : i < l.length), i < k + 1 → P l[i] = true) := by
          intro i hi hik
          by_cases e : i = k
          · subst e
            rw [EX.out]
            exact hp
          · exact HD.out i hi (by omega)
        clear hp
        go_wp2_with (go_at_call 8; (with_reducible refine (cX.out _).mono ?_); rintro e w2 ⟨rfl, b2⟩)
        go_roundw
        case rel => exact ⟨k + 1, by omega, by go_num, R, b2⟩
        case measure => simp [intOf]; omega
    · have hkn : k = n := by omega
      subst hkn
      have R : Hid (allOk 0 4 Tab.nm P l = decide (l.map Tab.nm).Nodup) := allOk_nodup (by rw [← HN.out]; exact Nat.zero_le _) (by rw [← HN.out]; omega) (fun i hi => HD.out i hi (by rw [HN.out]; exact hi))
      have cN : Hid (Calls Tryd.prog 10 #[.slice ao k cap, .func (.func 7) #[] #[]] wr fun e w' => e = .returned (.bool (decide (l.map Tab.nm).Nodup)) ∧ Hid (Below w.heap.size w w')) :=
        (noTwoT_any l ao cap wr (Tabs.later H.out HB.out) k HN.out (by omega)).mono fun e w' hh => ⟨hh.1, HB.out.trans (hh.2.mono HB.out.size)⟩
      generalize decide (l.map Tab.nm).Nodup = r at R cN
      go_wp2_with (go_at_call 10; (with_reducible refine cN.out.mono ?_); rintro e w2 ⟨rfl, b2⟩)
      go_ret
      rw [R.out]
      exact ⟨rfl, b2.out⟩

end Go.Proofs.YtojfcafdegbkjaaDoor
