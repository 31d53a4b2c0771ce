/- Package parse: delete: the contract, at every state. -/
import Derived.Test.YtedinkoapieakaaDoorParseStm
namespace Go.Proofs.YtedinkoapieakaaDoor
open Go.ChangeShapes Go.WideShapes Go.ChangeAt Go.RowKit

/-- an expression whose parts lie behind the statement's variable -/
theorem IsEx.low {lo lo' : Nat} {W : World} {e : Ex} {d : ED} (h : IsEx (fun b => lo ≤ b) W e d) (hl : lo' ≤ lo) : IsEx (fun b => lo' ≤ b) W e d := h.weak fun b (hb : lo ≤ b) _ => by show lo' ≤ b; omega

set_option maxRecDepth 100000 in
set_option maxHeartbeats 8000000 in
theorem delete_stm (c : RC) : StmOf 47 c deleteP := by
  intro w s h
  have hR := h.lt
  have HH := hide h
  have cN := need1k [102, 114, 111, 109] ⟨#[102, 114, 111, 109]⟩ rfl (KeptBy.triv c) (A := w.heap.size + 1) (W := w.alloc zeroStm) (by simp) (hide ⟨(h.alloc zeroStm).here, trivial⟩)
  unfold deleteP
  generalize needs [[102, 114, 111, 109]] s = s1 at cN ⊢
  have cM := hide (fun W h => namek (c := c) (KeptBy.triv c) (w0 := w.alloc zeroStm) (W := W) (s := s1) h)
  generalize nameP s1 = p at cM ⊢
  obtain ⟨n1, s2⟩ := p
  simp only at cM ⊢
  have cW := hide (fun T W vs K h => exprss (fun k => where_part c k) (w0 := w.alloc zeroStm) (T := T) (W := W) (s := s2) (vs := vs) (K := K) h)
  generalize whereP s2 = p at cW ⊢
  obtain ⟨a, s3⟩ := p
  simp only at cW ⊢
  clear h
  go_enter Tryd.func47, Tryd.ntmps47
  go_wp2_with (first
    | (go_at_call 69; refine cN.mono ?_; rintro e w1 ⟨rfl, hR1, HB⟩)
    | (go_at_call 70; refine (cM.out _ HB).mono ?_; rintro e w2 ⟨rfl, hR2, HB2⟩)
    | (refine wpList_store_mid rfl 38 (.tmp 3) (.tmp 9) rfl w2.heap.size 0 (stmCells (⟨5, ⟨#[]⟩, str n1, ⟨#[]⟩, noSL, noSL, noSL, noSL, noED, noED, noSL, noSL, false, 0⟩ : SD)).toArray rfl rfl (init_there _ _) (stm_size _) (stm_one _) ?_; obtain ⟨wi, ei, hRi, HI⟩ := SV.init HB2.out.1 (⟨5, ⟨#[]⟩, str n1, ⟨#[]⟩, noSL, noSL, noSL, noSL, noED, noED, noSL, noSL, false, 0⟩ : SD); rw [ei]; clear ei)
    | (go_at_call 75; refine (cW.out _ _ _ _ HI).mono ?_; rintro e w3 ⟨d, rfl, hR3, HB4⟩)
    | (refine wpList_store_mid rfl 35 (.tmp 12) (.tmp 11) rfl w2.heap.size 16 (exCells d).toArray rfl rfl (HB4.out.var.there (show 16 + 8 ≤ 28 by decide)) (ex_size _) (ex_one _) ?_; obtain ⟨wx, ex, hRx, HX⟩ := HB4.out.putEx 16 d (show 16 + 8 ≤ 28 by decide) (us := stmCells (⟨5, ⟨#[]⟩, str n1, ⟨#[]⟩, noSL, noSL, noSL, noSL, noED, d, noSL, noSL, false, 0⟩ : SD)) rfl; rw [ex]; clear ex)
    | (refine wpList_load_mid rfl 38 (.tmp 3) rfl w2.heap.size 0 rfl (stmCells (⟨5, ⟨#[]⟩, str n1, ⟨#[]⟩, noSL, noSL, noSL, noSL, noED, d, noSL, noSL, false, 0⟩ : SD)) _ HX.out.var.range Tryd.underlying38 rfl (stm_length _) ?_)
    | (refine wpList_store_mid rfl 38 (.tmp 2) (.tmp 13) rfl w.heap.size 0 (stmCells (⟨5, ⟨#[]⟩, str n1, ⟨#[]⟩, noSL, noSL, noSL, noSL, noED, d, noSL, noSL, false, 0⟩ : SD)).toArray rfl rfl (res_there HX.out.on hR _) (stm_size _) (stm_one _) ?_; obtain ⟨wf, ef, HR, HF⟩ := stm_fin (x := (⟨5, ⟨#[]⟩, str n1, ⟨#[]⟩, noSL, noSL, noSL, noSL, noED, d, noSL, noSL, false, 0⟩ : SD)) (t := { noStm with kind := 5, table := n1, wher := a }) HH.out HX.out.on (⟨rfl, rfl, rfl, rfl, RowIs.nil _ _ _ _ _, RowIs.nil _ _ _ _ _, RowIs.nil _ _ _ _ _, RowIs.nil _ _ _ _ _, IsEx.none _ _, HX.out.k.2.low (by have := HB2.out.1.size; simp at this; omega), RowIs.nil _ _ _ _ _, RowIs.nil _ _ _ _ _, rfl, rfl⟩); rw [ef]; clear ef))
  exact bodyPost_ret (results_stm rfl rfl HR.out) rfl ⟨_, rfl, HF.out.1, HF.out.2⟩

end Go.Proofs.YtedinkoapieakaaDoor
