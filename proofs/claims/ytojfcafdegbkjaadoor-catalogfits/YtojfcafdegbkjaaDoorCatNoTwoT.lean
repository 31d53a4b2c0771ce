/- Whether no two elements of a list have one key: noTwo, at tables. -/
import Derived.Test.YtojfcafdegbkjaaDoorSeenMap
import Derived.Carry
namespace Go.Proofs.YtojfcafdegbkjaaDoor
open Go.ChangeShapes Go.WideShapes Go.ChangeAt Go.RowKit Go.Maps

theorem keyT_any (s : ByteArray) (v1 v2 v3 : Value) (W : World) : Calls Tryd.prog 7 #[.agg #[.string s, v1, v2, v3]] W fun e w' => e = .returned (.string s) ∧ Hid (Below W.heap.size W w') := by
  go_enter Tryd.func7, Tryd.ntmps7
  go_wp2
  go_ret
  exact ⟨rfl, (Below.refl _ _).alloc (Nat.le_refl _) _⟩

set_option maxRecDepth 100000 in
set_option maxHeartbeats 4000000 in
theorem noTwoT_any (l : List Tab) (ao : Option Addr) (cap : Nat) (w : World) (h : Tabs w ao l) (n : Nat) (hn : n = l.length) (hl : n ≤ 6) :
    Calls Tryd.prog 10 #[.slice ao n cap, .func (.func 7) #[] #[]] w fun e w' => e = .returned (.bool (decide (l.map Tab.nm).Nodup)) ∧ Below w.heap.size w w' := by
  have hmm := @run_makeMap Tryd.prog
  have H := put_by h
  have HN := put_by hn
  clear h hn
  go_enter Tryd.func10, Tryd.ntmps10
  go_wp2
  go_loopw [11] (fun i wr => ∃ k : Nat, k ≤ n ∧ i = .int .i64 k ∧ Hid (SeenS wr w.heap.size k ((l.map Tab.nm).take k)) ∧ Hid ((l.map Tab.nm).take k).Nodup ∧ Hid (Below w.heap.size w wr)) (fun i _ => n - (intOf i).toNat)
  case atStart => exact ⟨0, Nat.zero_le _, rfl, World.ownsMap_made _ _ _ _, by simp [Hid], (Below.refl _ _).alloc (Nat.le_refl _) _⟩
  case round =>
    obtain ⟨k, hk, rfl, HS, HD, HB⟩ := hrel
    by_cases hlt : k < n
    · have hlt1 : (k : Int) < (n : Int) := by omega
      have hx : k < l.length := by rw [← HN.out]; exact hlt
      obtain ⟨b, off, rfl, hb, cs, hr, hc⟩ := RowC.at H.out hx
      have e1 : (l.map Tab.nm)[k]'(by simpa using hx) = Tab.nm l[k] := by simp
      generalize l[k] = x at hr e1
      obtain ⟨a1, p1, a2, p2, a3, p3, rfl, hnm, h5⟩ := hr
      have c0 : wr.cell? ⟨b, off + k * 4, none⟩ = some (.string (str x.nm)) := (HB.out.cell hb).trans (hc 0 _ rfl)
      have c1 : wr.cell? ⟨b, off + k * 4 + 1, none⟩ = some (.slice a1 x.cols.length p1) := (HB.out.cell hb).trans (hc 1 _ rfl)
      have c2 : wr.cell? ⟨b, off + k * 4 + 2, none⟩ = some (.slice a2 x.key.length p2) := (HB.out.cell hb).trans (hc 2 _ rfl)
      have c3 : wr.cell? ⟨b, off + k * 4 + 3, none⟩ = some (.slice a3 x.idxs.length p3) := (HB.out.cell hb).trans (hc 3 _ rfl)
      have HX := put_by hnm
      clear hc hnm
      have HW : Hid (Below w.heap.size w wr ∧ SeenS wr w.heap.size k ((l.map Tab.nm).take k)) := ⟨HB.out, HS.out⟩
      have HE := put_by (World.ownsMap.lt HS.out)
      by_cases hin : x.nm ∈ (l.map Tab.nm).take k
      · have cN : Hid (∀ o W, Hid (Below (wr.alloc o).heap.size (wr.alloc o) W) → Calls Tryd.prog 23 #[.map (some w.heap.size), .string (str x.nm)] W fun e w' => e = .returned (.bool false) ∧ Hid (Below w.heap.size w w')) := fun o W hW =>
          (isNewS_any x.nm HX.out w.heap.size k _ W (SeenS.later (HW.out.2.alloc o) hW.out) (by unfold maxLen; omega)).mono fun e w' hh => ⟨by rw [hh.1, decide_eq_true hin]; rfl, ((HW.out.1.alloc HW.out.1.size o).trans (hW.out.mono (HW.out.1.alloc HW.out.1.size o).size)).trans hh.2.2⟩
        have R : Hid (decide (l.map Tab.nm).Nodup = false) := by
          refine decide_eq_false (nodup_twin (k := k) (by simpa using hx) ?_)
          rw [e1]
          exact hin
        clear hin e1 hx
        go_wp2_with (first | (go_at_call 7; (with_reducible refine (keyT_any _ _ _ _ _).mono ?_); rintro e w1 ⟨rfl, b1⟩) | (go_at_call 23; (with_reducible refine (cN.out _ _ b1).mono ?_); rintro e w2 ⟨rfl, b2⟩))
        go_ret
        rw [R.out]
        exact ⟨rfl, b2.out⟩
      · have cN : Hid (∀ o W, Hid (Below (wr.alloc o).heap.size (wr.alloc o) W) → Calls Tryd.prog 23 #[.map (some w.heap.size), .string (str x.nm)] W fun e w' => e = .returned (.bool true) ∧ Hid (Below w.heap.size w w' ∧ SeenS w' w.heap.size (k + 1) ((l.map Tab.nm).take k ++ [x.nm]))) := fun o W hW =>
          (isNewS_any x.nm HX.out w.heap.size k _ W (SeenS.later (HW.out.2.alloc o) hW.out) (by unfold maxLen; omega)).mono fun e w' hh => ⟨by rw [hh.1, decide_eq_false hin]; rfl, ((HW.out.1.alloc HW.out.1.size o).trans (hW.out.mono (HW.out.1.alloc HW.out.1.size o).size)).trans hh.2.2, hh.2.1⟩
        have R : Hid (((l.map Tab.nm).take (k + 1)).Nodup ∧ (l.map Tab.nm).take k ++ [x.nm] = (l.map Tab.nm).take (k + 1)) := by
          have hx2 : k < (l.map Tab.nm).length := by simpa using hx
          refine ⟨nodup_more hx2 HD.out (by rw [e1]; exact hin), ?_⟩
          rw [List.take_add_one, List.getElem?_eq_getElem hx2, e1]
          rfl
        clear hin e1 hx
        go_wp2_with (first | (go_at_call 7; (with_reducible refine (keyT_any _ _ _ _ _).mono ?_); rintro e w1 ⟨rfl, b1⟩) | (go_at_call 23; (with_reducible refine (cN.out _ _ b1).mono ?_); rintro e w2 ⟨rfl, b2⟩))
        go_roundw
        case rel => exact ⟨k + 1, by omega, by go_num, by rw [← R.out.2]; exact b2.out.2, R.out.1, b2.out.1⟩
        case measure => simp [intOf]; omega
    · have hkn : k = n := by omega
      subst hkn
      have R : Hid (decide (l.map Tab.nm).Nodup = true) := by
        have := HD.out
        rw [HN.out, List.take_of_length_le (by simp)] at this
        exact decide_eq_true this
      go_wp2
      go_ret
      rw [R.out]
      exact ⟨rfl, HB.out⟩

end Go.Proofs.YtojfcafdegbkjaaDoor
