/- Package parse: a statement: the contract, at every state. -/
import Derived.Test.YtedinkoapieakaaDoorParseChoose
namespace Go.Proofs.YtedinkoapieakaaDoor
open Go.ChangeShapes Go.WideShapes Go.ChangeAt Go.RowKit

set_option maxRecDepth 100000 in
set_option maxHeartbeats 8000000 in
theorem statement_stm (c : RC) : StmOf 15 c statementP := by
  intro w s h
  have hR := h.lt
  have HH := hide h
  have cO := oneOfk (c := c) [[99, 114, 101, 97, 116, 101], [105, 110, 115, 101, 114, 116], [117, 112, 100, 97, 116, 101], [100, 101, 108, 101, 116, 101], [115, 101, 108, 101, 99, 116]] #[.string ⟨#[99, 114, 101, 97, 116, 101]⟩, .string ⟨#[105, 110, 115, 101, 114, 116]⟩, .string ⟨#[117, 112, 100, 97, 116, 101]⟩, .string ⟨#[100, 101, 108, 101, 116, 101]⟩, .string ⟨#[115, 101, 108, 101, 99, 116]⟩] rfl 5 rfl (by decide) (A := w.heap.size + 1) (KeptBy.triv c) (W := w.alloc zeroStm) (by simp) (hide ⟨(h.alloc zeroStm).here, trivial⟩)
  unfold statementP
  generalize oneOf [[99, 114, 101, 97, 116, 101], [105, 110, 115, 101, 114, 116], [117, 112, 100, 97, 116, 101], [100, 101, 108, 101, 116, 101], [115, 101, 108, 101, 99, 116]] s = p at cO ⊢
  obtain ⟨u, s1⟩ := p
  simp only at cO ⊢
  by_cases ucreate : u = [99, 114, 101, 97, 116, 101]
  · rw [if_pos ucreate]
    subst ucreate
    have cO := show Calls _ _ _ _ (fun e w' => e = .returned (.string ⟨#[99, 114, 101, 97, 116, 101]⟩) ∧ c.R < w'.heap.size ∧ Hid (On c (w.alloc zeroStm) w' s1 ∧ True)) from cO
    have cT := hide (fun W (h : Hid (On c (w.alloc zeroStm) W s1 ∧ True)) => (create_stm c W s1 h.out.1.here).mono (R' := fun e w' => ∃ x : SD, e = .returned (stmval x) ∧ Hid (On c (w.alloc zeroStm) w' (createP s1).2 ∧ IsStm (w.heap.size + 1) w' (createP s1).1 x)) fun e w' ⟨x, h1, h2, h3⟩ => ⟨x, h1, h.out.1.back h2, h3.weak (by have := h.out.1.size; simp at this; omega)⟩)
    generalize createP s1 = p at cT ⊢
    obtain ⟨t, s2⟩ := p
    simp only at cT ⊢
    clear h
    go_enter Tryd.func15, Tryd.ntmps15
    go_wp2_with (first
      | (go_at_call 43; refine cO.mono ?_; rintro e w1 ⟨rfl, hR1, HB⟩)
      | (go_at_call 44; refine (cT.out _ HB).mono ?_; rintro e w2 ⟨x, rfl, HB2⟩)
      | (refine wpList_store_mid rfl 38 (.tmp 2) (.tmp 9) rfl w.heap.size 0 (stmCells x).toArray rfl rfl (res_there HB2.out.1 hR _) (stm_size _) (stm_one _) ?_; obtain ⟨wf, ef, HR, HF⟩ := stm_fin (x := x) (t := t) HH.out HB2.out.1 HB2.out.2; rw [ef]; clear ef))
    exact bodyPost_ret (results_stm rfl rfl HR.out) rfl ⟨_, rfl, HF.out.1, HF.out.2⟩
  rw [if_neg ucreate]
  by_cases uinsert : u = [105, 110, 115, 101, 114, 116]
  · rw [if_pos uinsert]
    subst uinsert
    have cO := show Calls _ _ _ _ (fun e w' => e = .returned (.string ⟨#[105, 110, 115, 101, 114, 116]⟩) ∧ c.R < w'.heap.size ∧ Hid (On c (w.alloc zeroStm) w' s1 ∧ True)) from cO
    have cT := hide (fun W (h : Hid (On c (w.alloc zeroStm) W s1 ∧ True)) => (insert_stm c W s1 h.out.1.here).mono (R' := fun e w' => ∃ x : SD, e = .returned (stmval x) ∧ Hid (On c (w.alloc zeroStm) w' (insertP s1).2 ∧ IsStm (w.heap.size + 1) w' (insertP s1).1 x)) fun e w' ⟨x, h1, h2, h3⟩ => ⟨x, h1, h.out.1.back h2, h3.weak (by have := h.out.1.size; simp at this; omega)⟩)
    generalize insertP s1 = p at cT ⊢
    obtain ⟨t, s2⟩ := p
    simp only at cT ⊢
    clear h
    go_enter Tryd.func15, Tryd.ntmps15
    go_wp2_with (first
      | (go_at_call 43; refine cO.mono ?_; rintro e w1 ⟨rfl, hR1, HB⟩)
      | (go_at_call 45; refine (cT.out _ HB).mono ?_; rintro e w2 ⟨x, rfl, HB2⟩)
      | (refine wpList_store_mid rfl 38 (.tmp 2) (.tmp 13) rfl w.heap.size 0 (stmCells x).toArray rfl rfl (res_there HB2.out.1 hR _) (stm_size _) (stm_one _) ?_; obtain ⟨wf, ef, HR, HF⟩ := stm_fin (x := x) (t := t) HH.out HB2.out.1 HB2.out.2; rw [ef]; clear ef))
    exact bodyPost_ret (results_stm rfl rfl HR.out) rfl ⟨_, rfl, HF.out.1, HF.out.2⟩
  rw [if_neg uinsert]
  by_cases uupdate : u = [117, 112, 100, 97, 116, 101]
  · rw [if_pos uupdate]
    subst uupdate
    have cO := show Calls _ _ _ _ (fun e w' => e = .returned (.string ⟨#[117, 112, 100, 97, 116, 101]⟩) ∧ c.R < w'.heap.size ∧ Hid (On c (w.alloc zeroStm) w' s1 ∧ True)) from cO
    have cT := hide (fun W (h : Hid (On c (w.alloc zeroStm) W s1 ∧ True)) => (update_stm c W s1 h.out.1.here).mono (R' := fun e w' => ∃ x : SD, e = .returned (stmval x) ∧ Hid (On c (w.alloc zeroStm) w' (updateP s1).2 ∧ IsStm (w.heap.size + 1) w' (updateP s1).1 x)) fun e w' ⟨x, h1, h2, h3⟩ => ⟨x, h1, h.out.1.back h2, h3.weak (by have := h.out.1.size; simp at this; omega)⟩)
    generalize updateP s1 = p at cT ⊢
    obtain ⟨t, s2⟩ := p
    simp only at cT ⊢
    clear h
    go_enter Tryd.func15, Tryd.ntmps15
    go_wp2_with (first
      | (go_at_call 43; refine cO.mono ?_; rintro e w1 ⟨rfl, hR1, HB⟩)
      | (go_at_call 46; refine (cT.out _ HB).mono ?_; rintro e w2 ⟨x, rfl, HB2⟩)
      | (refine wpList_store_mid rfl 38 (.tmp 2) (.tmp 17) rfl w.heap.size 0 (stmCells x).toArray rfl rfl (res_there HB2.out.1 hR _) (stm_size _) (stm_one _) ?_; obtain ⟨wf, ef, HR, HF⟩ := stm_fin (x := x) (t := t) HH.out HB2.out.1 HB2.out.2; rw [ef]; clear ef))
    exact bodyPost_ret (results_stm rfl rfl HR.out) rfl ⟨_, rfl, HF.out.1, HF.out.2⟩
  rw [if_neg uupdate]
  by_cases udelete : u = [100, 101, 108, 101, 116, 101]
  · rw [if_pos udelete]
    subst udelete
    have cO := show Calls _ _ _ _ (fun e w' => e = .returned (.string ⟨#[100, 101, 108, 101, 116, 101]⟩) ∧ c.R < w'.heap.size ∧ Hid (On c (w.alloc zeroStm) w' s1 ∧ True)) from cO
    have cT := hide (fun W (h : Hid (On c (w.alloc zeroStm) W s1 ∧ True)) => (delete_stm c W s1 h.out.1.here).mono (R' := fun e w' => ∃ x : SD, e = .returned (stmval x) ∧ Hid (On c (w.alloc zeroStm) w' (deleteP s1).2 ∧ IsStm (w.heap.size + 1) w' (deleteP s1).1 x)) fun e w' ⟨x, h1, h2, h3⟩ => ⟨x, h1, h.out.1.back h2, h3.weak (by have := h.out.1.size; simp at this; omega)⟩)
    generalize deleteP s1 = p at cT ⊢
    obtain ⟨t, s2⟩ := p
    simp only at cT ⊢
    clear h
    go_enter Tryd.func15, Tryd.ntmps15
    go_wp2_with (first
      | (go_at_call 43; refine cO.mono ?_; rintro e w1 ⟨rfl, hR1, HB⟩)
      | (go_at_call 47; refine (cT.out _ HB).mono ?_; rintro e w2 ⟨x, rfl, HB2⟩)
      | (refine wpList_store_mid rfl 38 (.tmp 2) (.tmp 21) rfl w.heap.size 0 (stmCells x).toArray rfl rfl (res_there HB2.out.1 hR _) (stm_size _) (stm_one _) ?_; obtain ⟨wf, ef, HR, HF⟩ := stm_fin (x := x) (t := t) HH.out HB2.out.1 HB2.out.2; rw [ef]; clear ef))
    exact bodyPost_ret (results_stm rfl rfl HR.out) rfl ⟨_, rfl, HF.out.1, HF.out.2⟩
  rw [if_neg udelete]
  by_cases uselect : u = [115, 101, 108, 101, 99, 116]
  · rw [if_pos uselect]
    subst uselect
    have cO := show Calls _ _ _ _ (fun e w' => e = .returned (.string ⟨#[115, 101, 108, 101, 99, 116]⟩) ∧ c.R < w'.heap.size ∧ Hid (On c (w.alloc zeroStm) w' s1 ∧ True)) from cO
    have cT := hide (fun W (h : Hid (On c (w.alloc zeroStm) W s1 ∧ True)) => (choose_stm c W s1 h.out.1.here).mono (R' := fun e w' => ∃ x : SD, e = .returned (stmval x) ∧ Hid (On c (w.alloc zeroStm) w' (chooseP s1).2 ∧ IsStm (w.heap.size + 1) w' (chooseP s1).1 x)) fun e w' ⟨x, h1, h2, h3⟩ => ⟨x, h1, h.out.1.back h2, h3.weak (by have := h.out.1.size; simp at this; omega)⟩)
    generalize chooseP s1 = p at cT ⊢
    obtain ⟨t, s2⟩ := p
    simp only at cT ⊢
    clear h
    go_enter Tryd.func15, Tryd.ntmps15
    go_wp2_with (first
      | (go_at_call 43; refine cO.mono ?_; rintro e w1 ⟨rfl, hR1, HB⟩)
      | (go_at_call 48; refine (cT.out _ HB).mono ?_; rintro e w2 ⟨x, rfl, HB2⟩)
      | (refine wpList_store_mid rfl 38 (.tmp 2) (.tmp 25) rfl w.heap.size 0 (stmCells x).toArray rfl rfl (res_there HB2.out.1 hR _) (stm_size _) (stm_one _) ?_; obtain ⟨wf, ef, HR, HF⟩ := stm_fin (x := x) (t := t) HH.out HB2.out.1 HB2.out.2; rw [ef]; clear ef))
    exact bodyPost_ret (results_stm rfl rfl HR.out) rfl ⟨_, rfl, HF.out.1, HF.out.2⟩
  rw [if_neg uselect]
  have ncreate := list_lit ucreate
  have ninsert := list_lit uinsert
  have nupdate := list_lit uupdate
  have ndelete := list_lit udelete
  have nselect := list_lit uselect
  clear ucreate uinsert uupdate udelete uselect h
  go_enter Tryd.func15, Tryd.ntmps15
  go_wp2_with (first
    | (go_at_call 43; refine cO.mono ?_; rintro e w1 ⟨rfl, hR1, HB⟩)
    | (refine wpList_store_mid rfl 38 (.tmp 2) (.tmp 26) rfl w.heap.size 0 (stmCells noSD).toArray rfl rfl (res_there HB.out.1 hR _) (stm_size _) (stm_one _) ?_; obtain ⟨wf, ef, HR, HF⟩ := stm_fin (x := noSD) (t := noStm) HH.out HB.out.1 (IsStm.none _ _); rw [ef]; clear ef))
  exact bodyPost_ret (results_stm rfl rfl HR.out) rfl ⟨_, rfl, HF.out.1, HF.out.2⟩

end Go.Proofs.YtedinkoapieakaaDoor
