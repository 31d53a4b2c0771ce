/- What is asked twice is done once: the walk. -/
import Derived.Test.YtjjdednlddnllabMlLaw
namespace Go.Proofs.Ytjjdednlddnllab
open Go.ChangeShapes Go.WideShapes Go.ChangeAt Go.RowKit

set_option maxRecDepth 100000 in
set_option maxHeartbeats 2000000 in
theorem MeldTwice_any (l : List Wsh) (la : Option Addr) (lc : Nat) (which at' : Int) (w : World) (hL : Lies kWi (fun _ => True) w la lc l) :
    Calls Try.prog 4 #[.slice la l.length lc, .int .i64 which, .int .i64 at'] w fun e w' => e = .returned (.bool true) ∧ Below w.heap.size w w' := by
  generalize hpost : (fun (e : Ending) (w' : World) => e = .returned (.bool true) ∧ Below w.heap.size w w') = Q
  have HO : Hid (∀ w', ¬ Q .outgrown w') := fun w' hh => by
    rw [← hpost] at hh
    cases hh.1
  have HP : Hid (∀ w', Below w.heap.size w w' → Q (.returned (.bool true)) w') := fun w' h => by rw [← hpost]; exact ⟨rfl, h⟩
  clear hpost
  have c0 : Hid (Calls Try.prog 8 #[.slice la l.length lc, .int .i64 16] w fun e w' => ∃ (oa : Option Addr) (on oc : Nat) (xa : Option Addr) (xn xc : Nat), e = .returned (.tuple #[.slice oa on oc, .slice xa xn xc, .bool true]) ∧ Hid (∃ js : List Itt, LogJ 16 js ∧ on = js.length ∧ xn = js.length ∧ Lies kLog (fun b => w.heap.size ≤ b) w' oa oc (js.map encI) ∧ Ples oa oc ∧ Lies kItt (fun b => w.heap.size ≤ b) w' xa xc js ∧ Below w.heap.size w w')) := LogOf_law l la lc 16 (by omega) w w (Below.refl _ _) hL
  clear hL
  generalize l.length = nl at c0 ⊢
  go_enter Try.func4, Try.ntmps4
  go_upto_region 4 with (first
    | (go_at_call 8; (with_reducible refine c0.out.mono ?_); clear c0; rintro e w1 ⟨oa, on, oc, xa, xn, xc, rfl, H1⟩))
  obtain ⟨js, hJ, hon, -, hlog, hples, -, hbw⟩ := H1.out
  have HJ := put_by (And.intro hJ hon)
  have HLG := put_by hlog
  have HPL := put_by hples
  have HB1 := put_by hbw
  have hoc : on ≤ oc := by have := hlog.1; rw [List.length_map] at this; omega
  have hon16 : on ≤ 16 := by rw [hon]; exact hJ.1
  clear H1 hJ hon hlog hples hbw
  by_cases h0 : on = 0
  · subst h0
    have cM : Hid (∀ V, Calls Try.prog 14 #[.agg #[.int .i64 0, .slice none 0 0, .slice none 0 0]] V fun e w' => e = .returned (.bool true) ∧ Hid (Below V.heap.size V w')) := fun V => MayS_any (fun _ => True) 0 [] [] none 0 none 0 V ⟨Lies.nil _ _ _ (fun _ => rfl), Lies.nil _ _ _ (fun _ => rfl), by simp⟩ true ⟨fun _ => noSta_may, fun _ => rfl⟩
    go_wp2_with (first
      | (go_at_call 14; (with_reducible refine (cM.out _).mono ?_); clear cM; rintro e w2 ⟨rfl, H2⟩))
    exact HP.out _ (HB1.out.trans (H2.out.mono HB1.out.size))
  · have h0i : ¬ (on : Int) = 0 := by omega
    obtain ⟨i, hi⟩ : ∃ i : Nat, (i : Int) = which % (on : Int) := ⟨(which % (on : Int)).toNat, Int.toNat_of_nonneg (Int.emod_nonneg _ (by omega))⟩
    have hin : i < on := by have := Int.emod_lt_of_pos which (show (0 : Int) < (on : Int) by omega); omega
    obtain ⟨t, ht⟩ : ∃ t : Nat, (t : Int) = at' % ((on : Int) - (i : Int)) := ⟨(at' % ((on : Int) - (i : Int))).toNat, Int.toNat_of_nonneg (Int.emod_nonneg _ (by omega))⟩
    have htn : t < on - i := by have := Int.emod_lt_of_pos at' (show (0 : Int) < (on : Int) - (i : Int) by omega); omega
    have c1 : Hid (∀ V, Calls Try.prog 15 #[.int .i64 which, .int .i64 (on : Int)] V fun e w' => e = .returned (.int .i64 (i : Int)) ∧ V = w') := fun V => by rw [hi]; exact Picked_any which _ (by omega) (by omega) V
    have c2 : Hid (∀ V, Calls Try.prog 15 #[.int .i64 at', .int .i64 ((on : Int) - (i : Int))] V fun e w' => e = .returned (.int .i64 (t : Int)) ∧ V = w') := fun V => by rw [ht]; exact Picked_any at' _ (by omega) (by omega) V
    obtain ⟨k, hk⟩ : ∃ k, k = i + 1 + t := ⟨_, rfl⟩
    have iw1 : IntKind.i64.wrap ((i : Int) + 1) = (i : Int) + 1 := by rw [IntKind.wrap_i64]; omega
    have iw2 : IntKind.i64.wrap ((on : Int) - (i : Int)) = (on : Int) - (i : Int) := by rw [IntKind.wrap_i64]; omega
    have iw3 : IntKind.i64.wrap ((i : Int) + 1 + (t : Int)) = (k : Int) := by rw [IntKind.wrap_i64]; omega
    have hkn : k ≤ on := by omega
    have hik : i < k := by omega
    clear hi ht hk
    go_upto_region 8 with (first
      | (go_at_call 15; (with_reducible refine (c1.out _).mono ?_); clear c1; rintro e w2 ⟨rfl, rfl⟩)
      | (go_at_call 15; (with_reducible refine (c2.out _).mono ?_); clear c2; rintro e w2 ⟨rfl, rfl⟩))
    clear iw1 iw2 iw3 htn
    obtain ⟨x, hx⟩ : ∃ x, x = js[i]'(by rw [← HJ.out.2]; exact hin) := ⟨_, rfl⟩
    have HX := put_by hx
    obtain ⟨b, off, rfl, hb1, -, cs, ⟨xa, xc, rfl, o1, o2, o3⟩, hcell⟩ := HLG.out.at (k := i) (by rw [List.length_map, ← HJ.out.2]; exact hin)
    have hxe : (js.map encI)[i]'(by rw [List.length_map, ← HJ.out.2]; exact hin) = encI x := by rw [List.getElem_map, hx]
    rw [hxe] at o1 hcell
    have z0 : w1.cell? ⟨b, off + i, none⟩ = some (.slice xa (encI x).length xc) := by simpa using hcell 0 _ rfl
    obtain ⟨xl, hxl⟩ : ∃ xl, xl = (encI x).length := ⟨_, rfl⟩
    rw [← hxl] at z0
    have HSV : Hid (∀ V, Below w1.heap.size w1 V → V.cell? ⟨b, off + i, none⟩ = some (.slice xa xl xc)) := fun V hV => (hV.cell (p := ⟨b, off + i, none⟩) hb1).trans z0
    have HEN : Hid (∀ V, Below w1.heap.size w1 V → ∀ ok : Nat → Prop, (∀ b, b < w1.heap.size → ok b) → kLog.rel ok V (encI x) [.slice xa xl xc]) := fun V hV ok hok => ⟨xa, xc, by rw [hxl], o1.later hV, o2, fun ad e => ⟨hok _ (o3 ad e).2, Nat.lt_of_lt_of_le (o3 ad e).2 hV.size⟩⟩
    have HMK : Hid (k = ((js.take k).map encI).length) := by show k = _; rw [List.length_map, List.length_take, ← HJ.out.2]; omega
    have HMD : Hid (on - k = ((js.drop k).map encI).length) := by show _ = _; rw [List.length_map, List.length_drop, ← HJ.out.2]
    have hin2 : (i : Int) < (on : Int) := by omega
    have hkoc : k ≤ oc := by omega
    clear hx hxe o1 o2 o3 hcell hxl hb1
    go_cut [12] from 45 to 58 (fun v wx => ∃ (a6 : Option Addr) (m6 c6 : Nat), v = .slice a6 m6 c6 ∧ Hid (m6 = on + 1 ∧ Lies kLog (fun _ => True) wx a6 c6 ((js.take k).map encI ++ [encI x] ++ (js.drop k).map encI) ∧ Below w1.heap.size w1 wx))
    case first =>
      have hS : (fun V : World => V.cell? ⟨b, off + i, none⟩ = some (.slice xa xl xc)) w1.drew := HSV.out _ (Below.refl _ _).drew
      have h2 : Lies kLog (fun b => b < w1.heap.size) w1 (some ⟨b, off, none⟩) oc (js.map encI) := HLG.out.move (Kept.of_below (Below.refl _ _)) (fun b hb _ => hb)
      by_cases hck : oc = k
      · have hok : k = on := by omega
        obtain rfl := hck.symm
        obtain rfl := hok
        have HLT : Hid (Lies kLog (fun b => b < w1.heap.size) w1 (some ⟨b, off, none⟩) k ((js.take k).map encI) ∧ Lies kLog (fun b => b < w1.heap.size) w1 (some ⟨b, off, none⟩) 0 ((js.drop k).map encI)) := ⟨log_take h2 k, by rw [List.drop_of_length_le (by rw [← HJ.out.2]; exact Nat.le_refl _)]; exact Lies.nil _ _ _ (fun e => by cases e)⟩
        have HMD : Hid (0 = ((js.drop k).map encI).length) := by rw [← HMD.out]; show 0 = _; omega
        clear h2 z0 HLG HPL
        refine region_plain (fun V : World => V.cell? ⟨b, off + i, none⟩ = some (.slice xa xl xc)) 14 (by kernel_rfl) ?_
        change wpAnyU _ _ _ _ _ 15 #[false, false, false, false, false, false, false, false, false, false, false, false, false, false, false] _ w1.drew
        refine V_takeS [14] 45 (k := 0) (v := .slice (some ⟨b, off, none⟩) k k) rfl rfl (by kernel_rfl) (by kernel_rfl) (by kernel_rfl) (by kernel_rfl) (by kernel_rfl) (by kernel_rfl) (fun _ _ _ h => h) (Or.inl ⟨by rfl, fun V hV => ?_⟩) hS ?_
        · have z0 := hV; go_simp
        try simp only [Act.put, List.setIfInBounds_toArray, List.set_cons_zero, List.set_cons_succ]
        refine V_takeS [14] 46 (k := 1) (v := .int .i64 (k : Int)) rfl rfl (by kernel_rfl) (by kernel_rfl) (by kernel_rfl) (by kernel_rfl) (by kernel_rfl) (by kernel_rfl) (fun _ _ _ h => h) (Or.inl ⟨by rfl, fun V hV => ?_⟩) hS ?_
        · have z0 := hV; go_simp
        try simp only [Act.put, List.setIfInBounds_toArray, List.set_cons_zero, List.set_cons_succ]
        refine V_takeS [14] 47 (k := 2) (v := .slice (some ⟨b, off, none⟩) k k) rfl rfl (by kernel_rfl) (by kernel_rfl) (by kernel_rfl) (by kernel_rfl) (by kernel_rfl) (by kernel_rfl) (fun _ _ _ h => h) (Or.inl ⟨by rfl, fun V hV => ?_⟩) hS ?_
        · have z0 := hV; go_simp
        try simp only [Act.put, List.setIfInBounds_toArray, List.set_cons_zero, List.set_cons_succ]
        refine V_takeS [14] 49 (k := 4) (v := .slice (some ⟨b, off, none⟩) k k) rfl rfl (by kernel_rfl) (by kernel_rfl) (by kernel_rfl) (by kernel_rfl) (by kernel_rfl) (by kernel_rfl) (fun _ _ _ h => h) (Or.inl ⟨by rfl, fun V hV => ?_⟩) hS ?_
        · have z0 := hV; go_simp
        try simp only [Act.put, List.setIfInBounds_toArray, List.set_cons_zero, List.set_cons_succ]
        refine V_takeS [14] 50 (k := 5) (v := .int .i64 (i : Int)) rfl rfl (by kernel_rfl) (by kernel_rfl) (by kernel_rfl) (by kernel_rfl) (by kernel_rfl) (by kernel_rfl) (fun _ _ _ h => h) (Or.inl ⟨by rfl, fun V hV => ?_⟩) hS ?_
        · have z0 := hV; go_simp
        try simp only [Act.put, List.setIfInBounds_toArray, List.set_cons_zero, List.set_cons_succ]
        refine V_takeS [14] 51 (k := 6) (v := .pointer (some ⟨b, off + i, none⟩)) rfl rfl (by kernel_rfl) (by kernel_rfl) (by kernel_rfl) (by kernel_rfl) (by kernel_rfl) (by kernel_rfl) (fun _ _ _ h => h) (Or.inl ⟨by rfl, fun V hV => ?_⟩) hS ?_
        · have z0 := hV; go_simp
        try simp only [Act.put, List.setIfInBounds_toArray, List.set_cons_zero, List.set_cons_succ]
        refine V_takeS [14] 52 (k := 7) (v := .slice xa xl xc) rfl rfl (by kernel_rfl) (by kernel_rfl) (by kernel_rfl) (by kernel_rfl) (by kernel_rfl) (by kernel_rfl) (fun _ _ _ h => h) (Or.inl ⟨by rfl, fun V hV => ?_⟩) hS ?_
        · have z0 := hV; go_simp
        try simp only [Act.put, List.setIfInBounds_toArray, List.set_cons_zero, List.set_cons_succ]
        refine V_takeS [14] 55 (k := 10) (v := .slice (some ⟨b, off, none⟩) k k) rfl rfl (by kernel_rfl) (by kernel_rfl) (by kernel_rfl) (by kernel_rfl) (by kernel_rfl) (by kernel_rfl) (fun _ _ _ h => h) (Or.inl ⟨by rfl, fun V hV => ?_⟩) hS ?_
        · have z0 := hV; go_simp
        try simp only [Act.put, List.setIfInBounds_toArray, List.set_cons_zero, List.set_cons_succ]
        refine V_takeS [14] 56 (k := 11) (v := .int .i64 (k : Int)) rfl rfl (by kernel_rfl) (by kernel_rfl) (by kernel_rfl) (by kernel_rfl) (by kernel_rfl) (by kernel_rfl) (fun _ _ _ h => h) (Or.inl ⟨by rfl, fun V hV => ?_⟩) hS ?_
        · have z0 := hV; go_simp
        try simp only [Act.put, List.setIfInBounds_toArray, List.set_cons_zero, List.set_cons_succ]
        refine V_takeS [14] 57 (k := 12) (v := .slice (some ⟨b, off, none⟩) 0 0) rfl rfl (by kernel_rfl) (by kernel_rfl) (by kernel_rfl) (by kernel_rfl) (by kernel_rfl) (by kernel_rfl) (fun _ _ _ h => h) (Or.inl ⟨by rfl, fun V hV => ?_⟩) hS ?_
        · have z0 := hV; go_simp
        try simp only [Act.put, List.setIfInBounds_toArray, List.set_cons_zero, List.set_cons_succ]
        refine U_two (i := 3) (j := 8) (by kernel_rfl) rfl rfl rfl rfl (fun K hK => ?_) (fun K hK => ?_)
        · refine wp_of_list rfl (by rintro ⟨_, _, hh⟩; exact HO.out _ hh) (wpList_append_rowsB (K := kLog) (ok := fun _ => True) (ok2 := fun b => b < w1.heap.size) eltLg rfl (.const (.slice none 0 0)) (.tmp 47) rfl w1.heap.size (.slice none 0 0) [] rfl (Rows.nil _ _ _ _ _) (some ⟨b, off, none⟩) k k ((js.take k).map encI) rfl HMK.out (HLT.out.1.later (Below.refl _ _).drew) (fun _ _ _ _ => trivial) (fun _ _ _ e => by cases e) (by simp only [List.length_nil]; omega) (by decide) (Nat.le_refl _) (fun v3 w3 r1 r2 r3 => list_end ?_))
          obtain ⟨a3, c3, e3⟩ := rows_form r1
          obtain ⟨m3, hm3⟩ : ∃ m3, m3 = ([] ++ (js.take k).map encI).length := ⟨_, rfl⟩
          rw [← hm3] at e3
          subst e3
          have H3 : Hid (Rows kLog (fun _ => True) w3 w1.heap.size 39 (.slice a3 m3 c3) ((js.take k).map encI) ∧ Below w1.heap.size w1 w3) := ⟨by simpa using r1, below_grown (Below.refl _ _).drew (Nat.le_refl _) r2 (fun r e => by cases e)⟩
          have hS3 := HSV.out _ H3.out.2
          refine hK _ _ (fun _ => hS3) ?_
          clear hK K r1 r2 r3 hm3 hS
          try simp only [Act.put, List.setIfInBounds_toArray]
          try simp only [List.set_cons_zero, List.set_cons_succ]
          refine U_one (i := 8) (listed' := #[true, true, true, true, true, true, true, true, true, false, true, true, true, false, false]) (by kernel_rfl) rfl (by kernel_rfl) rfl (fun K hK => ?_)
          go_simp
          have hba : Below w3.heap.size w3 (w3.alloc (.cells #[.slice xa xl xc] 39)) := (Below.refl _ _).alloc (Nat.le_refl _) _
          have hS4 := HSV.out _ (H3.out.2.trans (hba.mono H3.out.2.size))
          refine hK _ _ (fun _ => hS4) ?_
          clear hK K hS3 hba
          try simp only [Act.put, List.setIfInBounds_toArray, List.set_cons_zero, List.set_cons_succ]
          refine U_one (i := 9) (listed' := #[true, true, true, true, true, true, true, true, true, true, true, true, true, false, false]) (by kernel_rfl) rfl (by kernel_rfl) rfl (fun K hK => ?_)
          refine wp_of_list rfl (by rintro ⟨_, _, hh⟩; exact HO.out _ hh) (wpList_append_oneB (K := kLog) (ok := fun _ => True) eltLg rfl (.tmp 48) (.tmp 53) rfl w1.heap.size (.slice a3 m3 c3) ((js.take k).map encI) rfl H3.out.1 (encI x) [.slice xa xl xc] _ _ rfl rfl (HEN.out _ H3.out.2 _ (fun b hb => ⟨trivial, fun e => by have := (rows_lt H3.out.1 b e).1; omega⟩)) (fun _ _ => trivial) (by rw [← HMK.out]; omega) (by decide) H3.out.2.size (fun v5 w5 r1 r2 r3 => list_end ?_))
          obtain ⟨a5, c5, e5⟩ := rows_form r1
          obtain ⟨m5, hm5⟩ : ∃ m5, m5 = ((js.take k).map encI ++ [encI x]).length := ⟨_, rfl⟩
          rw [← hm5] at e5
          subst e5
          have H5 : Hid (Rows kLog (fun _ => True) w5 w1.heap.size 39 (.slice a5 m5 c5) ((js.take k).map encI ++ [encI x]) ∧ Below w1.heap.size w1 w5) := ⟨r1, below_grown H3.out.2 H3.out.2.size r2 (fun r e => (rows_lt H3.out.1 r e).1)⟩
          have hS5 := HSV.out _ H5.out.2
          have HM5 : Hid (m5 = k + 1) := by rw [hm5, List.length_append, ← HMK.out]; exact rfl
          refine hK _ _ (fun _ => hS5) ?_
          clear hK K r1 r2 r3 hm5 hS4
          try simp only [Act.put, List.setIfInBounds_toArray]
          try simp only [Act.put, List.setIfInBounds_toArray, List.set_cons_zero, List.set_cons_succ]
          refine U_one (i := 13) (listed' := #[true, true, true, true, true, true, true, true, true, true, true, true, true, true, false]) (by kernel_rfl) rfl (by kernel_rfl) rfl (fun K hK => ?_)
          refine wp_of_list rfl (by rintro ⟨_, _, hh⟩; exact HO.out _ hh) (wpList_append_rowsB (K := kLog) (ok := fun _ => True) (ok2 := fun b => b < w1.heap.size) eltLg rfl (.tmp 54) (.tmp 57) rfl w1.heap.size (.slice a5 m5 c5) ((js.take k).map encI ++ [encI x]) rfl H5.out.1 _ _ _ ((js.drop k).map encI) rfl HMD.out (HLT.out.2.later H5.out.2) (fun _ _ _ _ => trivial) (fun b _ hb e => by have := (rows_lt H5.out.1 b e).1; omega) (by rw [List.length_append, ← HMK.out, HMD.out, List.length_map, List.length_drop]; have h9 := HJ.out.2; simp only [List.length_cons, List.length_nil]; try omega) (by decide) H5.out.2.size (fun v6 w6 r1 r2 r3 => list_end ?_))
          obtain ⟨a6, c6, e6⟩ := rows_form r1
          obtain ⟨m6, hm6⟩ : ∃ m6, m6 = ((js.take k).map encI ++ [encI x] ++ (js.drop k).map encI).length := ⟨_, rfl⟩
          rw [← hm6] at e6
          subst e6
          have H6 : Hid (m6 = k + 1 ∧ Lies kLog (fun _ => True) w6 a6 c6 ((js.take k).map encI ++ [encI x] ++ (js.drop k).map encI) ∧ Below w1.heap.size w1 w6) := ⟨by rw [hm6, List.length_append, List.length_append, ← HMK.out, ← HMD.out]; simp only [List.length_cons, List.length_nil]; try omega, (rows_lies r1 (fun _ _ => trivial)).2.1, below_grown H5.out.2 H5.out.2.size r2 (fun r e => by have := (rows_lt H5.out.1 r e).1; omega)⟩
          have hS6 := HSV.out _ H6.out.2.2
          refine hK _ _ (fun _ => hS6) ?_
          clear hK K r1 r2 r3 hm6 hS5
          try simp only [Act.put]
          try simp only [Act.put, List.setIfInBounds_toArray, List.set_cons_zero, List.set_cons_succ]
          refine U_one (i := 14) (listed' := #[true, true, true, true, true, true, true, true, true, true, true, true, true, true, true]) (by kernel_rfl) rfl (by kernel_rfl) rfl (fun K hK => ?_)
          go_simp
          refine hK _ _ (fun hh => by cases (show true = false from hh)) ?_
          clear hK K
          try simp only [Act.put, List.setIfInBounds_toArray, List.set_cons_zero, List.set_cons_succ]
          refine U_done (by kernel_rfl) ?_ _
          go_wp2
          go_meet
          exact ⟨a6, m6, c6, rfl, H6.out⟩
        · go_simp
          have hba : Below w1.heap.size w1 (w1.alloc (.cells #[.slice xa xl xc] 39)).drew := ((Below.refl _ _).alloc (Nat.le_refl _) _).drew
          have HLO : Hid (Lies kLog (fun b => b ≤ w1.heap.size) (w1.alloc (.cells #[.slice xa xl xc] 39)).drew (some ⟨w1.heap.size, 0, none⟩) 1 [encI x]) := (lies_one (cs := [.slice xa xl xc]) _ rfl _ (HEN.out w1 (Below.refl _ _) (fun b => b ≤ w1.heap.size) (fun b hb => Nat.le_of_lt hb)) (Nat.le_refl _)).later (Below.refl _ _).drew
          have hsz : Hid ((w1.alloc (.cells #[.slice xa xl xc] 39)).drew.heap.size = w1.heap.size + 1) := by simp [Hid]
          have HBA := put_by hba
          have hS3 := HSV.out _ hba
          refine hK _ _ (fun _ => hS3) ?_
          clear hK K hS hba
          try simp only [List.setIfInBounds_toArray, List.set_cons_zero, List.set_cons_succ]
          generalize (w1.alloc (.cells #[.slice xa xl xc] 39)).drew = WB at HLO hsz HBA hS3 ⊢
          refine U_one (i := 3) (listed' := #[true, true, true, true, true, true, true, true, true, false, true, true, true, false, false]) (by kernel_rfl) rfl (by kernel_rfl) rfl (fun K hK => ?_)
          refine wp_of_list rfl (by rintro ⟨_, _, hh⟩; exact HO.out _ hh) (wpList_append_rowsB (K := kLog) (ok := fun _ => True) (ok2 := fun b => b < w1.heap.size) eltLg rfl (.const (.slice none 0 0)) (.tmp 47) rfl (w1.heap.size + 1) (.slice none 0 0) [] rfl (Rows.nil _ _ _ _ _) (some ⟨b, off, none⟩) k k ((js.take k).map encI) rfl HMK.out (HLT.out.1.later HBA.out) (fun _ _ _ _ => trivial) (fun _ _ _ e => by cases e) (by simp only [List.length_nil]; omega) (by decide) (Nat.le_of_eq hsz.out.symm) (fun v3 w3 r1 r2 r3 => list_end ?_))
          obtain ⟨a3, c3, e3⟩ := rows_form r1
          obtain ⟨m3, hm3⟩ : ∃ m3, m3 = ([] ++ (js.take k).map encI).length := ⟨_, rfl⟩
          rw [← hm3] at e3
          subst e3
          have hb3 : Below WB.heap.size WB w3 := below_grown (Below.refl _ _) (Nat.le_refl _) r2 (fun r e => by cases e)
          have H3 : Hid (Rows kLog (fun _ => True) w3 (w1.heap.size + 1) 39 (.slice a3 m3 c3) ((js.take k).map encI) ∧ Below w1.heap.size w1 w3) := ⟨by simpa using r1, HBA.out.trans (hb3.mono HBA.out.size)⟩
          have HLO3 := put_by (HLO.out.later hb3)
          have hsz3 : Hid (w1.heap.size + 1 ≤ w3.heap.size) := by have h1 := hb3.size; have h2 := hsz.out; show _ ≤ _; omega
          have hS4 := HSV.out _ H3.out.2
          refine hK _ _ (fun _ => hS4) ?_
          clear hK K r1 r2 r3 hm3 hS3 hb3 HLO HBA
          try simp only [Act.put, List.setIfInBounds_toArray]
          try simp only [Act.put, List.setIfInBounds_toArray, List.set_cons_zero, List.set_cons_succ]
          refine U_one (i := 9) (listed' := #[true, true, true, true, true, true, true, true, true, true, true, true, true, false, false]) (by kernel_rfl) rfl (by kernel_rfl) rfl (fun K hK => ?_)
          refine wp_of_list rfl (by rintro ⟨_, _, hh⟩; exact HO.out _ hh) (wpList_append_rowsB (K := kLog) (ok := fun _ => True) (ok2 := fun b => b ≤ w1.heap.size) eltLg rfl (.tmp 48) (.tmp 53) rfl (w1.heap.size + 1) (.slice a3 m3 c3) ((js.take k).map encI) rfl H3.out.1 (some ⟨w1.heap.size, 0, none⟩) 1 1 [encI x] rfl rfl HLO3.out (fun _ _ _ _ => trivial) (fun b _ hb e => by have := (rows_lt H3.out.1 b e).1; omega) (by rw [← HMK.out]; omega) (by decide) hsz3.out (fun v5 w5 r1 r2 r3 => list_end ?_))
          obtain ⟨a5, c5, e5⟩ := rows_form r1
          obtain ⟨m5, hm5⟩ : ∃ m5, m5 = ((js.take k).map encI ++ [encI x]).length := ⟨_, rfl⟩
          rw [← hm5] at e5
          subst e5
          have hsz5 : Hid (w1.heap.size + 1 ≤ w5.heap.size) := Nat.le_trans hsz3.out r2.size
          have H5 : Hid (Rows kLog (fun _ => True) w5 (w1.heap.size + 1) 39 (.slice a5 m5 c5) ((js.take k).map encI ++ [encI x]) ∧ Below w1.heap.size w1 w5) := ⟨r1, below_grown H3.out.2 H3.out.2.size r2 (fun r e => by have := (rows_lt H3.out.1 r e).1; omega)⟩
          have hS5 := HSV.out _ H5.out.2
          have HM5 : Hid (m5 = k + 1) := by rw [hm5, List.length_append, ← HMK.out]; exact rfl
          refine hK _ _ (fun _ => hS5) ?_
          clear hK K r1 r2 r3 hm5 hS4
          try simp only [Act.put]
          try simp only [Act.put, List.setIfInBounds_toArray, List.set_cons_zero, List.set_cons_succ]
          refine U_one (i := 13) (listed' := #[true, true, true, true, true, true, true, true, true, true, true, true, true, true, false]) (by kernel_rfl) rfl (by kernel_rfl) rfl (fun K hK => ?_)
          refine wp_of_list rfl (by rintro ⟨_, _, hh⟩; exact HO.out _ hh) (wpList_append_rowsB (K := kLog) (ok := fun _ => True) (ok2 := fun b => b < w1.heap.size) eltLg rfl (.tmp 54) (.tmp 57) rfl (w1.heap.size + 1) (.slice a5 m5 c5) ((js.take k).map encI ++ [encI x]) rfl H5.out.1 _ _ _ ((js.drop k).map encI) rfl HMD.out (HLT.out.2.later H5.out.2) (fun _ _ _ _ => trivial) (fun b _ hb e => by have := (rows_lt H5.out.1 b e).1; omega) (by rw [List.length_append, ← HMK.out, HMD.out, List.length_map, List.length_drop]; have h9 := HJ.out.2; simp only [List.length_cons, List.length_nil]; try omega) (by decide) hsz5.out (fun v6 w6 r1 r2 r3 => list_end ?_))
          obtain ⟨a6, c6, e6⟩ := rows_form r1
          obtain ⟨m6, hm6⟩ : ∃ m6, m6 = ((js.take k).map encI ++ [encI x] ++ (js.drop k).map encI).length := ⟨_, rfl⟩
          rw [← hm6] at e6
          subst e6
          have H6 : Hid (m6 = k + 1 ∧ Lies kLog (fun _ => True) w6 a6 c6 ((js.take k).map encI ++ [encI x] ++ (js.drop k).map encI) ∧ Below w1.heap.size w1 w6) := ⟨by rw [hm6, List.length_append, List.length_append, ← HMK.out, ← HMD.out]; simp only [List.length_cons, List.length_nil]; try omega, (rows_lies r1 (fun _ _ => trivial)).2.1, below_grown H5.out.2 H5.out.2.size r2 (fun r e => by have := (rows_lt H5.out.1 r e).1; omega)⟩
          have hS6 := HSV.out _ H6.out.2.2
          refine hK _ _ (fun _ => hS6) ?_
          clear hK K r1 r2 r3 hm6 hS5
          try simp only [Act.put]
          try simp only [Act.put, List.setIfInBounds_toArray, List.set_cons_zero, List.set_cons_succ]
          refine U_one (i := 14) (listed' := #[true, true, true, true, true, true, true, true, true, true, true, true, true, true, true]) (by kernel_rfl) rfl (by kernel_rfl) rfl (fun K hK => ?_)
          go_simp
          refine hK _ _ (fun hh => by cases (show true = false from hh)) ?_
          clear hK K
          try simp only [Act.put, List.setIfInBounds_toArray, List.set_cons_zero, List.set_cons_succ]
          refine U_done (by kernel_rfl) ?_ _
          go_wp2
          go_meet
          exact ⟨a6, m6, c6, rfl, H6.out⟩
      · have hlt : k < oc := by omega
        have HLT : Hid (Lies kLog (fun b => b < w1.heap.size) w1 (some ⟨b, off, none⟩) oc ((js.take k).map encI) ∧ Lies kLog (fun b => b < w1.heap.size) w1 (some ⟨b, off + k, none⟩) (oc - k) ((js.drop k).map encI)) := ⟨log_take h2 k, by have h3 := h2.drop k; rw [← List.map_drop, Nat.mul_one] at h3; exact h3⟩
        clear h2 z0 HLG HPL
        refine region_plain (fun V : World => V.cell? ⟨b, off + i, none⟩ = some (.slice xa xl xc)) 14 (by kernel_rfl) ?_
        change wpAnyU _ _ _ _ _ 15 #[false, false, false, false, false, false, false, false, false, false, false, false, false, false, false] _ w1.drew
        refine V_takeS [14] 45 (k := 0) (v := .slice (some ⟨b, off, none⟩) on oc) rfl rfl (by kernel_rfl) (by kernel_rfl) (by kernel_rfl) (by kernel_rfl) (by kernel_rfl) (by kernel_rfl) (fun _ _ _ h => h) (Or.inl ⟨by rfl, fun V hV => ?_⟩) hS ?_
        · have z0 := hV; go_simp
        try simp only [Act.put, List.setIfInBounds_toArray, List.set_cons_zero, List.set_cons_succ]
        refine V_takeS [14] 46 (k := 1) (v := .int .i64 (k : Int)) rfl rfl (by kernel_rfl) (by kernel_rfl) (by kernel_rfl) (by kernel_rfl) (by kernel_rfl) (by kernel_rfl) (fun _ _ _ h => h) (Or.inl ⟨by rfl, fun V hV => ?_⟩) hS ?_
        · have z0 := hV; go_simp
        try simp only [Act.put, List.setIfInBounds_toArray, List.set_cons_zero, List.set_cons_succ]
        refine V_takeS [14] 47 (k := 2) (v := .slice (some ⟨b, off, none⟩) k oc) rfl rfl (by kernel_rfl) (by kernel_rfl) (by kernel_rfl) (by kernel_rfl) (by kernel_rfl) (by kernel_rfl) (fun _ _ _ h => h) (Or.inl ⟨by rfl, fun V hV => ?_⟩) hS ?_
        · have z0 := hV; go_simp
        try simp only [Act.put, List.setIfInBounds_toArray, List.set_cons_zero, List.set_cons_succ]
        refine V_takeS [14] 49 (k := 4) (v := .slice (some ⟨b, off, none⟩) on oc) rfl rfl (by kernel_rfl) (by kernel_rfl) (by kernel_rfl) (by kernel_rfl) (by kernel_rfl) (by kernel_rfl) (fun _ _ _ h => h) (Or.inl ⟨by rfl, fun V hV => ?_⟩) hS ?_
        · have z0 := hV; go_simp
        try simp only [Act.put, List.setIfInBounds_toArray, List.set_cons_zero, List.set_cons_succ]
        refine V_takeS [14] 50 (k := 5) (v := .int .i64 (i : Int)) rfl rfl (by kernel_rfl) (by kernel_rfl) (by kernel_rfl) (by kernel_rfl) (by kernel_rfl) (by kernel_rfl) (fun _ _ _ h => h) (Or.inl ⟨by rfl, fun V hV => ?_⟩) hS ?_
        · have z0 := hV; go_simp
        try simp only [Act.put, List.setIfInBounds_toArray, List.set_cons_zero, List.set_cons_succ]
        refine V_takeS [14] 51 (k := 6) (v := .pointer (some ⟨b, off + i, none⟩)) rfl rfl (by kernel_rfl) (by kernel_rfl) (by kernel_rfl) (by kernel_rfl) (by kernel_rfl) (by kernel_rfl) (fun _ _ _ h => h) (Or.inl ⟨by rfl, fun V hV => ?_⟩) hS ?_
        · have z0 := hV; go_simp
        try simp only [Act.put, List.setIfInBounds_toArray, List.set_cons_zero, List.set_cons_succ]
        refine V_takeS [14] 52 (k := 7) (v := .slice xa xl xc) rfl rfl (by kernel_rfl) (by kernel_rfl) (by kernel_rfl) (by kernel_rfl) (by kernel_rfl) (by kernel_rfl) (fun _ _ _ h => h) (Or.inl ⟨by rfl, fun V hV => ?_⟩) hS ?_
        · have z0 := hV; go_simp
        try simp only [Act.put, List.setIfInBounds_toArray, List.set_cons_zero, List.set_cons_succ]
        refine V_takeS [14] 55 (k := 10) (v := .slice (some ⟨b, off, none⟩) on oc) rfl rfl (by kernel_rfl) (by kernel_rfl) (by kernel_rfl) (by kernel_rfl) (by kernel_rfl) (by kernel_rfl) (fun _ _ _ h => h) (Or.inl ⟨by rfl, fun V hV => ?_⟩) hS ?_
        · have z0 := hV; go_simp
        try simp only [Act.put, List.setIfInBounds_toArray, List.set_cons_zero, List.set_cons_succ]
        refine V_takeS [14] 56 (k := 11) (v := .int .i64 (k : Int)) rfl rfl (by kernel_rfl) (by kernel_rfl) (by kernel_rfl) (by kernel_rfl) (by kernel_rfl) (by kernel_rfl) (fun _ _ _ h => h) (Or.inl ⟨by rfl, fun V hV => ?_⟩) hS ?_
        · have z0 := hV; go_simp
        try simp only [Act.put, List.setIfInBounds_toArray, List.set_cons_zero, List.set_cons_succ]
        refine V_takeS [14] 57 (k := 12) (v := .slice (some ⟨b, off + k, none⟩) (on - k) (oc - k)) rfl rfl (by kernel_rfl) (by kernel_rfl) (by kernel_rfl) (by kernel_rfl) (by kernel_rfl) (by kernel_rfl) (fun _ _ _ h => h) (Or.inl ⟨by rfl, fun V hV => ?_⟩) hS ?_
        · have z0 := hV; go_simp
        try simp only [Act.put, List.setIfInBounds_toArray, List.set_cons_zero, List.set_cons_succ]
        refine U_two (i := 3) (j := 8) (by kernel_rfl) rfl rfl rfl rfl (fun K hK => ?_) (fun K hK => ?_)
        · refine wp_of_list rfl (by rintro ⟨_, _, hh⟩; exact HO.out _ hh) (wpList_append_rowsB (K := kLog) (ok := fun _ => True) (ok2 := fun b => b < w1.heap.size) eltLg rfl (.const (.slice none 0 0)) (.tmp 47) rfl w1.heap.size (.slice none 0 0) [] rfl (Rows.nil _ _ _ _ _) (some ⟨b, off, none⟩) oc k ((js.take k).map encI) rfl HMK.out (HLT.out.1.later (Below.refl _ _).drew) (fun _ _ _ _ => trivial) (fun _ _ _ e => by cases e) (by simp only [List.length_nil]; omega) (by decide) (Nat.le_refl _) (fun v3 w3 r1 r2 r3 => list_end ?_))
          obtain ⟨a3, c3, e3⟩ := rows_form r1
          obtain ⟨m3, hm3⟩ : ∃ m3, m3 = ([] ++ (js.take k).map encI).length := ⟨_, rfl⟩
          rw [← hm3] at e3
          subst e3
          have H3 : Hid (Rows kLog (fun _ => True) w3 w1.heap.size 39 (.slice a3 m3 c3) ((js.take k).map encI) ∧ Below w1.heap.size w1 w3) := ⟨by simpa using r1, below_grown (Below.refl _ _).drew (Nat.le_refl _) r2 (fun r e => by cases e)⟩
          have hS3 := HSV.out _ H3.out.2
          refine hK _ _ (fun _ => hS3) ?_
          clear hK K r1 r2 r3 hm3 hS
          try simp only [Act.put, List.setIfInBounds_toArray]
          try simp only [List.set_cons_zero, List.set_cons_succ]
          refine U_one (i := 8) (listed' := #[true, true, true, true, true, true, true, true, true, false, true, true, true, false, false]) (by kernel_rfl) rfl (by kernel_rfl) rfl (fun K hK => ?_)
          go_simp
          have hba : Below w3.heap.size w3 (w3.alloc (.cells #[.slice xa xl xc] 39)) := (Below.refl _ _).alloc (Nat.le_refl _) _
          have hS4 := HSV.out _ (H3.out.2.trans (hba.mono H3.out.2.size))
          refine hK _ _ (fun _ => hS4) ?_
          clear hK K hS3 hba
          try simp only [Act.put, List.setIfInBounds_toArray, List.set_cons_zero, List.set_cons_succ]
          refine U_one (i := 9) (listed' := #[true, true, true, true, true, true, true, true, true, true, true, true, true, false, false]) (by kernel_rfl) rfl (by kernel_rfl) rfl (fun K hK => ?_)
          refine wp_of_list rfl (by rintro ⟨_, _, hh⟩; exact HO.out _ hh) (wpList_append_oneB (K := kLog) (ok := fun _ => True) eltLg rfl (.tmp 48) (.tmp 53) rfl w1.heap.size (.slice a3 m3 c3) ((js.take k).map encI) rfl H3.out.1 (encI x) [.slice xa xl xc] _ _ rfl rfl (HEN.out _ H3.out.2 _ (fun b hb => ⟨trivial, fun e => by have := (rows_lt H3.out.1 b e).1; omega⟩)) (fun _ _ => trivial) (by rw [← HMK.out]; omega) (by decide) H3.out.2.size (fun v5 w5 r1 r2 r3 => list_end ?_))
          obtain ⟨a5, c5, e5⟩ := rows_form r1
          obtain ⟨m5, hm5⟩ : ∃ m5, m5 = ((js.take k).map encI ++ [encI x]).length := ⟨_, rfl⟩
          rw [← hm5] at e5
          subst e5
          have H5 : Hid (Rows kLog (fun _ => True) w5 w1.heap.size 39 (.slice a5 m5 c5) ((js.take k).map encI ++ [encI x]) ∧ Below w1.heap.size w1 w5) := ⟨r1, below_grown H3.out.2 H3.out.2.size r2 (fun r e => (rows_lt H3.out.1 r e).1)⟩
          have hS5 := HSV.out _ H5.out.2
          have HM5 : Hid (m5 = k + 1) := by rw [hm5, List.length_append, ← HMK.out]; exact rfl
          refine hK _ _ (fun _ => hS5) ?_
          clear hK K r1 r2 r3 hm5 hS4
          try simp only [Act.put, List.setIfInBounds_toArray]
          try simp only [Act.put, List.setIfInBounds_toArray, List.set_cons_zero, List.set_cons_succ]
          refine U_one (i := 13) (listed' := #[true, true, true, true, true, true, true, true, true, true, true, true, true, true, false]) (by kernel_rfl) rfl (by kernel_rfl) rfl (fun K hK => ?_)
          refine wp_of_list rfl (by rintro ⟨_, _, hh⟩; exact HO.out _ hh) (wpList_append_rowsB (K := kLog) (ok := fun _ => True) (ok2 := fun b => b < w1.heap.size) eltLg rfl (.tmp 54) (.tmp 57) rfl w1.heap.size (.slice a5 m5 c5) ((js.take k).map encI ++ [encI x]) rfl H5.out.1 _ _ _ ((js.drop k).map encI) rfl HMD.out (HLT.out.2.later H5.out.2) (fun _ _ _ _ => trivial) (fun b _ hb e => by have := (rows_lt H5.out.1 b e).1; omega) (by rw [List.length_append, ← HMK.out, HMD.out, List.length_map, List.length_drop]; have h9 := HJ.out.2; simp only [List.length_cons, List.length_nil]; try omega) (by decide) H5.out.2.size (fun v6 w6 r1 r2 r3 => list_end ?_))
          obtain ⟨a6, c6, e6⟩ := rows_form r1
          obtain ⟨m6, hm6⟩ : ∃ m6, m6 = ((js.take k).map encI ++ [encI x] ++ (js.drop k).map encI).length := ⟨_, rfl⟩
          rw [← hm6] at e6
          subst e6
          have H6 : Hid (m6 = on + 1 ∧ Lies kLog (fun _ => True) w6 a6 c6 ((js.take k).map encI ++ [encI x] ++ (js.drop k).map encI) ∧ Below w1.heap.size w1 w6) := ⟨by rw [hm6, List.length_append, List.length_append, ← HMK.out, ← HMD.out]; simp only [List.length_cons, List.length_nil]; try omega, (rows_lies r1 (fun _ _ => trivial)).2.1, below_grown H5.out.2 H5.out.2.size r2 (fun r e => by have := (rows_lt H5.out.1 r e).1; omega)⟩
          have hS6 := HSV.out _ H6.out.2.2
          refine hK _ _ (fun _ => hS6) ?_
          clear hK K r1 r2 r3 hm6 hS5
          try simp only [Act.put]
          try simp only [Act.put, List.setIfInBounds_toArray, List.set_cons_zero, List.set_cons_succ]
          refine U_one (i := 14) (listed' := #[true, true, true, true, true, true, true, true, true, true, true, true, true, true, true]) (by kernel_rfl) rfl (by kernel_rfl) rfl (fun K hK => ?_)
          go_simp
          refine hK _ _ (fun hh => by cases (show true = false from hh)) ?_
          clear hK K
          try simp only [Act.put, List.setIfInBounds_toArray, List.set_cons_zero, List.set_cons_succ]
          refine U_done (by kernel_rfl) ?_ _
          go_wp2
          go_meet
          exact ⟨a6, m6, c6, rfl, H6.out⟩
        · go_simp
          have hba : Below w1.heap.size w1 (w1.alloc (.cells #[.slice xa xl xc] 39)).drew := ((Below.refl _ _).alloc (Nat.le_refl _) _).drew
          have HLO : Hid (Lies kLog (fun b => b ≤ w1.heap.size) (w1.alloc (.cells #[.slice xa xl xc] 39)).drew (some ⟨w1.heap.size, 0, none⟩) 1 [encI x]) := (lies_one (cs := [.slice xa xl xc]) _ rfl _ (HEN.out w1 (Below.refl _ _) (fun b => b ≤ w1.heap.size) (fun b hb => Nat.le_of_lt hb)) (Nat.le_refl _)).later (Below.refl _ _).drew
          have hsz : Hid ((w1.alloc (.cells #[.slice xa xl xc] 39)).drew.heap.size = w1.heap.size + 1) := by simp [Hid]
          have HBA := put_by hba
          have hS3 := HSV.out _ hba
          refine hK _ _ (fun _ => hS3) ?_
          clear hK K hS hba
          try simp only [List.setIfInBounds_toArray, List.set_cons_zero, List.set_cons_succ]
          generalize (w1.alloc (.cells #[.slice xa xl xc] 39)).drew = WB at HLO hsz HBA hS3 ⊢
          refine U_one (i := 3) (listed' := #[true, true, true, true, true, true, true, true, true, false, true, true, true, false, false]) (by kernel_rfl) rfl (by kernel_rfl) rfl (fun K hK => ?_)
          refine wp_of_list rfl (by rintro ⟨_, _, hh⟩; exact HO.out _ hh) (wpList_append_rowsB (K := kLog) (ok := fun _ => True) (ok2 := fun b => b < w1.heap.size) eltLg rfl (.const (.slice none 0 0)) (.tmp 47) rfl (w1.heap.size + 1) (.slice none 0 0) [] rfl (Rows.nil _ _ _ _ _) (some ⟨b, off, none⟩) oc k ((js.take k).map encI) rfl HMK.out (HLT.out.1.later HBA.out) (fun _ _ _ _ => trivial) (fun _ _ _ e => by cases e) (by simp only [List.length_nil]; omega) (by decide) (Nat.le_of_eq hsz.out.symm) (fun v3 w3 r1 r2 r3 => list_end ?_))
          obtain ⟨a3, c3, e3⟩ := rows_form r1
          obtain ⟨m3, hm3⟩ : ∃ m3, m3 = ([] ++ (js.take k).map encI).length := ⟨_, rfl⟩
          rw [← hm3] at e3
          subst e3
          have hb3 : Below WB.heap.size WB w3 := below_grown (Below.refl _ _) (Nat.le_refl _) r2 (fun r e => by cases e)
          have H3 : Hid (Rows kLog (fun _ => True) w3 (w1.heap.size + 1) 39 (.slice a3 m3 c3) ((js.take k).map encI) ∧ Below w1.heap.size w1 w3) := ⟨by simpa using r1, HBA.out.trans (hb3.mono HBA.out.size)⟩
          have HLO3 := put_by (HLO.out.later hb3)
          have hsz3 : Hid (w1.heap.size + 1 ≤ w3.heap.size) := by have h1 := hb3.size; have h2 := hsz.out; show _ ≤ _; omega
          have hS4 := HSV.out _ H3.out.2
          refine hK _ _ (fun _ => hS4) ?_
          clear hK K r1 r2 r3 hm3 hS3 hb3 HLO HBA
          try simp only [Act.put, List.setIfInBounds_toArray]
          try simp only [Act.put, List.setIfInBounds_toArray, List.set_cons_zero, List.set_cons_succ]
          refine U_one (i := 9) (listed' := #[true, true, true, true, true, true, true, true, true, true, true, true, true, false, false]) (by kernel_rfl) rfl (by kernel_rfl) rfl (fun K hK => ?_)
          refine wp_of_list rfl (by rintro ⟨_, _, hh⟩; exact HO.out _ hh) (wpList_append_rowsB (K := kLog) (ok := fun _ => True) (ok2 := fun b => b ≤ w1.heap.size) eltLg rfl (.tmp 48) (.tmp 53) rfl (w1.heap.size + 1) (.slice a3 m3 c3) ((js.take k).map encI) rfl H3.out.1 (some ⟨w1.heap.size, 0, none⟩) 1 1 [encI x] rfl rfl HLO3.out (fun _ _ _ _ => trivial) (fun b _ hb e => by have := (rows_lt H3.out.1 b e).1; omega) (by rw [← HMK.out]; omega) (by decide) hsz3.out (fun v5 w5 r1 r2 r3 => list_end ?_))
          obtain ⟨a5, c5, e5⟩ := rows_form r1
          obtain ⟨m5, hm5⟩ : ∃ m5, m5 = ((js.take k).map encI ++ [encI x]).length := ⟨_, rfl⟩
          rw [← hm5] at e5
          subst e5
          have hsz5 : Hid (w1.heap.size + 1 ≤ w5.heap.size) := Nat.le_trans hsz3.out r2.size
          have H5 : Hid (Rows kLog (fun _ => True) w5 (w1.heap.size + 1) 39 (.slice a5 m5 c5) ((js.take k).map encI ++ [encI x]) ∧ Below w1.heap.size w1 w5) := ⟨r1, below_grown H3.out.2 H3.out.2.size r2 (fun r e => by have := (rows_lt H3.out.1 r e).1; omega)⟩
          have hS5 := HSV.out _ H5.out.2
          have HM5 : Hid (m5 = k + 1) := by rw [hm5, List.length_append, ← HMK.out]; exact rfl
          refine hK _ _ (fun _ => hS5) ?_
          clear hK K r1 r2 r3 hm5 hS4
          try simp only [Act.put]
          try simp only [Act.put, List.setIfInBounds_toArray, List.set_cons_zero, List.set_cons_succ]
          refine U_one (i := 13) (listed' := #[true, true, true, true, true, true, true, true, true, true, true, true, true, true, false]) (by kernel_rfl) rfl (by kernel_rfl) rfl (fun K hK => ?_)
          refine wp_of_list rfl (by rintro ⟨_, _, hh⟩; exact HO.out _ hh) (wpList_append_rowsB (K := kLog) (ok := fun _ => True) (ok2 := fun b => b < w1.heap.size) eltLg rfl (.tmp 54) (.tmp 57) rfl (w1.heap.size + 1) (.slice a5 m5 c5) ((js.take k).map encI ++ [encI x]) rfl H5.out.1 _ _ _ ((js.drop k).map encI) rfl HMD.out (HLT.out.2.later H5.out.2) (fun _ _ _ _ => trivial) (fun b _ hb e => by have := (rows_lt H5.out.1 b e).1; omega) (by rw [List.length_append, ← HMK.out, HMD.out, List.length_map, List.length_drop]; have h9 := HJ.out.2; simp only [List.length_cons, List.length_nil]; try omega) (by decide) hsz5.out (fun v6 w6 r1 r2 r3 => list_end ?_))
          obtain ⟨a6, c6, e6⟩ := rows_form r1
          obtain ⟨m6, hm6⟩ : ∃ m6, m6 = ((js.take k).map encI ++ [encI x] ++ (js.drop k).map encI).length := ⟨_, rfl⟩
          rw [← hm6] at e6
          subst e6
          have H6 : Hid (m6 = on + 1 ∧ Lies kLog (fun _ => True) w6 a6 c6 ((js.take k).map encI ++ [encI x] ++ (js.drop k).map encI) ∧ Below w1.heap.size w1 w6) := ⟨by rw [hm6, List.length_append, List.length_append, ← HMK.out, ← HMD.out]; simp only [List.length_cons, List.length_nil]; try omega, (rows_lies r1 (fun _ _ => trivial)).2.1, below_grown H5.out.2 H5.out.2.size r2 (fun r e => by have := (rows_lt H5.out.1 r e).1; omega)⟩
          have hS6 := HSV.out _ H6.out.2.2
          refine hK _ _ (fun _ => hS6) ?_
          clear hK K r1 r2 r3 hm6 hS5
          try simp only [Act.put]
          try simp only [Act.put, List.setIfInBounds_toArray, List.set_cons_zero, List.set_cons_succ]
          refine U_one (i := 14) (listed' := #[true, true, true, true, true, true, true, true, true, true, true, true, true, true, true]) (by kernel_rfl) rfl (by kernel_rfl) rfl (fun K hK => ?_)
          go_simp
          refine hK _ _ (fun hh => by cases (show true = false from hh)) ?_
          clear hK K
          try simp only [Act.put, List.setIfInBounds_toArray, List.set_cons_zero, List.set_cons_succ]
          refine U_done (by kernel_rfl) ?_ _
          go_wp2
          go_meet
          exact ⟨a6, m6, c6, rfl, H6.out⟩
    case rest =>
      obtain ⟨a6, m6, c6, rfl, H6⟩ := hcut
      obtain ⟨hm6, hL6, hB6⟩ := H6.out
      have h6c := hL6.1
      obtain ⟨k1, hk1⟩ : ∃ k1, k1 = k + 1 := ⟨_, rfl⟩
      have hk16 : k1 ≤ m6 := by omega
      have h6m : m6 ≤ c6 := by rw [hm6, HJ.out.2]; simp only [List.length_append, List.length_cons, List.length_nil, List.length_map, List.length_take, List.length_drop] at h6c; have := HJ.out.2; omega
      have iwk : IntKind.i64.wrap ((k : Int) + 1) = (k1 : Int) := by rw [IntKind.wrap_i64]; omega
      have HK1 : Hid (k1 = k + 1 ∧ k ≤ 16) := ⟨hk1, by omega⟩
      have HM := put_by (fun y (hy : y ∈ js.take k) => HJ.out.1.2.1 y (List.mem_of_mem_take hy))
      have HXM : Hid (Mild x) := by rw [HX.out]; exact HJ.out.1.2.1 _ (List.getElem_mem _)
      have HTW := put_by (twice_js (js := js) (i := i) (k := k) (by rw [← HJ.out.2]; exact hkn) hik)
      rw [← HX.out] at HTW
      obtain ⟨E1, hE1⟩ : ∃ E, E = (js.take k).map some := ⟨_, rfl⟩
      have HE1 := put_by hE1
      have HL1 : Hid (E1.length = k) := by rw [hE1, List.length_map, List.length_take, ← HJ.out.2]; show min _ _ = _; omega
      have c9 : Hid (Calls Try.prog 9 #[.agg #[.int .i64 0, .slice none 0 0, .slice none 0 0], .slice (some ⟨b, off, none⟩) k oc] wc fun e w' => ∃ (p : Int) (a : Option Addr) (n c : Nat) (a2 : Option Addr) (n2 c2 : Nat) (a3 : Option Addr) (c3 : Nat), e = .returned (.tuple #[.agg #[.int .i64 p, .slice a n c, .slice a2 n2 c2], .slice a3 k c3, .int .i64 0]) ∧ Hid (PlH noSta E1 p a n c a2 n2 c2 a3 k c3 w' ∧ Below wc.heap.size wc w')) := by
        rw [hE1]
        exact Play_law ((log_take HLG.out k).later hB6) (tells_js HM.out) (by rw [← HMK.out]; omega) HMK.out
      have c10 : Hid (∀ V, Below wc.heap.size wc V → Calls Try.prog 9 #[.agg #[.int .i64 0, .slice none 0 0, .slice none 0 0], .slice a6 k1 c6] V fun e w' => ∃ (p : Int) (a : Option Addr) (n c : Nat) (a2 : Option Addr) (n2 c2 : Nat) (a3 : Option Addr) (c3 : Nat), e = .returned (.tuple #[.agg #[.int .i64 p, .slice a n c, .slice a2 n2 c2], .slice a3 k1 c3, .int .i64 0]) ∧ Hid (PlH noSta (E1 ++ [some x]) p a n c a2 n2 c2 a3 k1 c3 w' ∧ Below V.heap.size V w')) := fun V hV => by
        have h1 : ((js.take k).map encI ++ [encI x]).length = k1 := by rw [List.length_append, ← HMK.out, hk1]; rfl
        have h2 := hL6.take k1
        rw [List.take_append_of_le_length (by rw [h1]; exact Nat.le_refl _), ← h1, List.take_length] at h2
        refine Play_law (h2.later hV) ?_ (by rw [h1]; omega) h1.symm
        rw [hE1]
        exact All2.append (tells_js HM.out) ⟨⟨HXM.out.may, rfl, by have := HXM.out.short; omega⟩, trivial⟩
      have HB6 := put_by (HB1.out.trans (hB6.mono HB1.out.size))
      clear hE1 hm6 hL6 hB6 h6c hk1 H6 HLG HPL HSV HEN HMK HMD z0
      go_upto_region 10 with (first
        | (go_at_call 9; (with_reducible refine c9.out.mono ?_); clear c9; rintro e w9 ⟨p1, ca, cn, cc, da, dn, dc, ta, tc, rfl, H9⟩))
      have hb9 := (Below.refl w9.heap.size w9).alloc (Nat.le_refl _) (.cells #[.int .i64 p1, .slice ca cn cc, .slice da dn dc] 30)
      have HV9 := put_by (Cls.new w9 [.int .i64 p1, .slice ca cn cc, .slice da dn dc] 30)
      have H10 : Hid (PlH noSta E1 p1 ca cn cc da dn dc ta k tc (w9.alloc (.cells #[.int .i64 p1, .slice ca cn cc, .slice da dn dc] 30)) ∧ Below wc.heap.size wc (w9.alloc (.cells #[.int .i64 p1, .slice ca cn cc, .slice da dn dc] 30))) := ⟨H9.out.1.later hb9, H9.out.2.trans (hb9.mono H9.out.2.size)⟩
      clear H9 hb9
      generalize w9.heap.size = A1 at HV9 ⊢
      generalize w9.alloc (.cells #[.int .i64 p1, .slice ca cn cc, .slice da dn dc] _) = W10 at HV9 H10 ⊢
      go_upto_region 11 with (first
        | (go_at_call 9; (with_reducible refine (c10.out _ H10.out.2).mono ?_); clear c10; rintro e w11 ⟨p2, cb, cm, cd, db, dm, dd, tb, td, rfl, H11⟩))
      have hb11 := (Below.refl w11.heap.size w11).alloc (Nat.le_refl _) (.cells #[.int .i64 p2, .slice cb cm cd, .slice db dm dd] 30)
      have HV11 := put_by (Cls.new w11 [.int .i64 p2, .slice cb cm cd, .slice db dm dd] 30)
      have HV9b := put_by ((HV9.out.later H11.out.2).later hb11)
      have H12 : Hid (PlH noSta E1 p1 ca cn cc da dn dc ta k tc (w11.alloc (.cells #[.int .i64 p2, .slice cb cm cd, .slice db dm dd] 30)) ∧ PlH noSta (E1 ++ [some x]) p2 cb cm cd db dm dd tb k1 td (w11.alloc (.cells #[.int .i64 p2, .slice cb cm cd, .slice db dm dd] 30)) ∧ Below wc.heap.size wc (w11.alloc (.cells #[.int .i64 p2, .slice cb cm cd, .slice db dm dd] 30))) := ⟨(H10.out.1.later H11.out.2).later hb11, H11.out.1.later hb11, H10.out.2.trans ((H11.out.2.trans (hb11.mono H11.out.2.size)).mono H10.out.2.size)⟩
      clear H10 H11 HV9 hb11
      generalize w11.heap.size = A2 at HV11 ⊢
      generalize w11.alloc (.cells #[.int .i64 p2, .slice cb cm cd, .slice db dm dd] _) = W12 at HV11 HV9b H12 ⊢
      -- what both came to
      obtain ⟨q1, q2, q3⟩ := H12.out
      have HTE : Hid (playM noSta (E1 ++ [some x]) = (⟨(playM noSta E1).1.pos + 1, (playM noSta E1).1.cells, (playM noSta E1).1.dones⟩, (playM noSta E1).2 ++ [7])) := by rw [HE1.out]; exact HTW.out
      have hlc : (playM noSta E1).2.length = k := by rw [playM_length, HL1.out]
      have e1 : cm = cn := by rw [q2.cn, q1.cn, HTE.out]
      have e2 : dm = dn := by rw [q2.dn, q1.dn, HTE.out]
      have e3 : p2 = p1 + 1 := by rw [q2.pos, q1.pos, HTE.out]
      have e4 : p1 = (k : Int) := by rw [q1.pos, playM_pos, HL1.out]; show (0 : Int) + _ = _; omega
      have ht2 : Lies kNum (fun _ => True) W12 tb td ((playM noSta E1).2 ++ [7]) := by have h := q2.told; rw [HTE.out] at h; exact h
      obtain ⟨tbb, to', rfl, -, h7⟩ := num_at ht2 (k := k) (by rw [List.length_append, hlc]; exact Nat.lt_succ_self _)
      have z7 : W12.cell? ⟨tbb, to' + k, none⟩ = some (.int .i64 7) := by
        have h := h7 W12 (Below.refl _ _)
        rw [List.getElem_append_right (by rw [hlc]; exact Nat.le_refl _)] at h
        simpa [hlc] using h
      have htd : k1 ≤ td := by have := ht2.1; rw [List.length_append, hlc] at this; have := HK1.out.1; simp only [List.length_cons, List.length_nil] at *; omega
      have cD : Hid (Calls Try.prog 16 #[.slice ta k tc, .slice (some ⟨tbb, to', none⟩) k td] W12 fun e w' => e = .returned (.bool true) ∧ Hid (Below W12.heap.size W12 w')) := by
        have h2 := ht2.take k
        rw [List.take_append_of_le_length (by rw [hlc]; exact Nat.le_refl _), ← hlc, List.take_length] at h2
        have h0 := sameCodesK_yes (fun _ => True) (fun _ => True) (playM noSta E1).2 (by rw [hlc]; omega) ta (some ⟨tbb, to', none⟩) tc td W12 q1.told h2
        rw [hlc] at h0
        exact h0
      have cS : Hid (∀ V, Below W12.heap.size W12 V → Calls Try.prog 17 #[.slice ca cn cc, .slice cb cn cd] V fun e w' => e = .returned (.bool true) ∧ Hid (Below V.heap.size V w')) := fun V hV => by
        have hl2 : Lies kCel (fun _ => True) W12 cb cd (playM noSta E1).1.cells := by have h := q2.st.cells; rw [HTE.out] at h; exact h
        have h0 := sameCellsK_yes (fun _ => True) (fun _ => True) (playM noSta E1).1.cells (by have := q1.st.few; omega) ca cb cc cd V (q1.st.cells.later hV) (hl2.later hV)
        rw [← q1.cn] at h0
        exact h0
      have HW12 := put_by (HB6.out.trans (q3.mono HB6.out.size))
      have HV2 : Hid (Cls W12 A2 [.int .i64 (p1 + 1), .slice cb cn cd, .slice db dn dd]) := by have h := HV11.out; rw [e1, e2, e3] at h; exact h
      have iwp : IntKind.i64.wrap (p1 + 1) = p1 + 1 := by rw [IntKind.wrap_i64]; have := HK1.out; omega
      have hkk : (k : Int) < (k1 : Int) := by have := HK1.out; omega
      have hkt : k ≤ k1 := by have := HK1.out; omega
      have hktd : k ≤ td := by omega
      have HVV : Hid (∀ V, Below W12.heap.size W12 V → Cls V A1 [.int .i64 p1, .slice ca cn cc, .slice da dn dc] ∧ Cls V A2 [.int .i64 (p1 + 1), .slice cb cn cd, .slice db dn dd]) := fun V hV => ⟨HV9b.out.later hV, HV2.out.later hV⟩
      clear q1 q2 q3 HTE hlc e1 e2 e3 e4 ht2 h7 HV11 HV9b H12 HV2 HE1 HTW HL1 HX HXM HM HJ hk16 h6m
      go_upto_region 13 with (first
        | (go_at_call 16; (with_reducible refine cD.out.mono ?_); clear cD; rintro e w13 ⟨rfl, H13⟩))
      obtain ⟨hv1, hv2⟩ := HVV.out _ H13.out
      obtain ⟨x0, -⟩ := hv1 0 _ rfl
      obtain ⟨x1, -⟩ := hv1 1 _ rfl
      obtain ⟨x2, -⟩ := hv1 2 _ rfl
      obtain ⟨y0, -⟩ := hv2 0 _ rfl
      obtain ⟨y1, -⟩ := hv2 1 _ rfl
      obtain ⟨y2, -⟩ := hv2 2 _ rfl
      clear hv1 hv2
      go_wp2_with (first
        | (go_at_call 17; (with_reducible refine (cS.out _ H13.out).mono ?_); clear cS; rintro e w14 ⟨rfl, H14⟩; have H15 := put_by (H13.out.trans (H14.out.mono H13.out.size)); obtain ⟨hv1, hv2⟩ := HVV.out _ H15.out; obtain ⟨x2, -⟩ := hv1 2 _ rfl; obtain ⟨y2, -⟩ := hv2 2 _ rfl; clear hv1 hv2))
      exact HP.out _ (HW12.out.trans (H15.out.mono HW12.out.size))

end Go.Proofs.Ytjjdednlddnllab
