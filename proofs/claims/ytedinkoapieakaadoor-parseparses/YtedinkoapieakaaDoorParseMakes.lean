/- Package parse: insert, index, table, set, update: contracts, at every state. -/
import Derived.Test.YtedinkoapieakaaDoorParseDelete
namespace Go.Proofs.YtedinkoapieakaaDoor
open Go.ChangeShapes Go.WideShapes Go.ChangeAt Go.RowKit

set_option maxRecDepth 100000 in
set_option maxHeartbeats 8000000 in
theorem insert_stm (c : RC) : StmOf 45 c insertP := by
  intro w s h
  have hR := h.lt
  have HH := hide h
  have cN := need1k [105, 110, 116, 111] ⟨#[105, 110, 116, 111]⟩ rfl (KeptBy.triv c) (A := w.heap.size + 1) (W := w.alloc zeroStm) (by simp) (hide ⟨(h.alloc zeroStm).here, trivial⟩)
  unfold insertP
  generalize needs [[105, 110, 116, 111]] s = s1 at cN ⊢
  have cM := hide (fun W h => namek (c := c) (KeptBy.triv c) (w0 := w.alloc zeroStm) (W := W) (s := s1) h)
  generalize nameP s1 = p at cM ⊢
  obtain ⟨n1, s2⟩ := p
  simp only at cM ⊢
  have cO := hide (fun T W vs K h => need2s (c := c) [118, 97, 108, 117, 101, 115] [40] ⟨#[118, 97, 108, 117, 101, 115]⟩ ⟨#[40]⟩ rfl rfl (w0 := w.alloc zeroStm) (T := T) (W := W) (s := s2) (vs := vs) (K := K) rfl h)
  generalize needs [[118, 97, 108, 117, 101, 115], [40]] s2 = s3 at cO ⊢
  have cE := hide (fun T W vs K h => (exprs_row c).call (w0 := w.alloc zeroStm) (T := T) (W := W) (s := s3) (vs := vs) (L := K) h)
  generalize exprsP s3 = p at cE ⊢
  obtain ⟨l, s4⟩ := p
  simp only at cE ⊢
  have cQ := hide (fun (A T : Nat) (W : World) vs K (hA : A = W.heap.size) h => need1s (c := c) [41] ⟨#[41]⟩ rfl (w0 := w.alloc zeroStm) (T := T) (W := W) (s := s4) (vs := vs) (K := K) hA h)
  generalize needs [[41]] s4 = s5 at cQ ⊢
  clear h
  go_enter Tryd.func45, Tryd.ntmps45
  go_wp2_with (first
    | (go_at_call 69; (with_reducible refine cN.mono ?_); rintro e w1 ⟨rfl, hR1, HB⟩)
    | (go_at_call 70; refine (cM.out _ HB).mono ?_; rintro e w2 ⟨rfl, hR2, HB2⟩)
    | (refine wpList_store_mid rfl 38 (.tmp 3) (.tmp 9) rfl w2.heap.size 0 (stmCells (⟨3, ⟨#[]⟩, str n1, ⟨#[]⟩, noSL, noSL, noSL, noSL, noED, noED, noSL, noSL, false, 0⟩ : SD)).toArray rfl rfl (init_there _ _) (stm_size _) (stm_one _) ?_; obtain ⟨wi, ei, hRi, HI⟩ := SV.init HB2.out.1 (⟨3, ⟨#[]⟩, str n1, ⟨#[]⟩, noSL, noSL, noSL, noSL, noED, noED, noSL, noSL, false, 0⟩ : SD); rw [ei]; clear ei)
    | (go_at_call 69; (with_reducible refine (cO.out _ _ _ _ HI).mono ?_); rintro e w3 ⟨rfl, hR3, HB3⟩)
    | (go_at_call 71; refine (cE.out _ _ _ _ HB3).mono ?_; rintro e w4 ⟨y, rfl, hR4, HB4⟩; have x6 := HB4.out.var.2.1 6 _ rfl; have xf6 := HB4.out.var.2.2; have HB5 : Hid (SV c (w.alloc zeroStm) w2.heap.size _ _ (stmCells (⟨3, ⟨#[]⟩, str n1, ⟨#[]⟩, noSL, noSL, y, noSL, noED, noED, noSL, noSL, false, 0⟩ : SD)) _) := HB4.out.put (j := 6) (show 6 < 28 by decide) (.slice y.ao y.n y.cap))
    | (go_at_call 69; (with_reducible refine (cQ.out w4.heap.size _ _ _ _ (by simp [World.setCell]) HB5).mono ?_); rintro e w5 ⟨rfl, hR5, HB6⟩)
    | (refine wpList_load_mid rfl 38 (.tmp 3) rfl w2.heap.size 0 rfl (stmCells (⟨3, ⟨#[]⟩, str n1, ⟨#[]⟩, noSL, noSL, y, noSL, noED, noED, noSL, noSL, false, 0⟩ : SD)) _ HB6.out.var.range Tryd.underlying38 rfl (stm_length _) ?_)
    | (refine wpList_store_mid rfl 38 (.tmp 2) (.tmp 19) rfl w.heap.size 0 (stmCells (⟨3, ⟨#[]⟩, str n1, ⟨#[]⟩, noSL, noSL, y, noSL, noED, noED, noSL, noSL, false, 0⟩ : SD)).toArray rfl rfl (res_there HB6.out.on hR _) (stm_size _) (stm_one _) ?_; obtain ⟨wf, ef, HR, HF⟩ := stm_fin (x := (⟨3, ⟨#[]⟩, str n1, ⟨#[]⟩, noSL, noSL, y, noSL, noED, noED, noSL, noSL, false, 0⟩ : SD)) (t := { noStm with kind := 3, table := n1, values := l }) HH.out HB6.out.on (⟨rfl, rfl, rfl, rfl, RowIs.nil _ _ _ _ _, RowIs.nil _ _ _ _ _, HB6.out.k.2.weak (by have := HB2.out.1.size; simp at this; omega), RowIs.nil _ _ _ _ _, IsEx.none _ _, IsEx.none _ _, RowIs.nil _ _ _ _ _, RowIs.nil _ _ _ _ _, rfl, rfl⟩); rw [ef]; clear ef))
  exact bodyPost_ret (results_stm rfl rfl HR.out) rfl ⟨_, rfl, HF.out.1, HF.out.2⟩

set_option maxRecDepth 100000 in
set_option maxHeartbeats 8000000 in
theorem index_stm (c : RC) : StmOf 68 c indexP := by
  intro w s h
  have hR := h.lt
  have HH := hide h
  have cM := namek (c := c) (KeptBy.triv c) (hide ⟨(h.alloc zeroStm).here, trivial⟩)
  unfold indexP
  generalize nameP s = p at cM ⊢
  obtain ⟨n1, s2⟩ := p
  simp only at cM ⊢
  have cO := hide (fun T W vs K h => need1s (c := c) [111, 110] ⟨#[111, 110]⟩ rfl (w0 := w.alloc zeroStm) (T := T) (W := W) (s := s2) (vs := vs) (K := K) rfl h)
  generalize needs [[111, 110]] s2 = s3 at cO ⊢
  have cE := hide (fun T W vs K h => Go.Proofs.YtedinkoapieakaaDoor.names (c := c) (w0 := w.alloc zeroStm) (T := T) (W := W) (s := s3) (vs := vs) (K := K) h)
  generalize nameP s3 = p at cE ⊢
  obtain ⟨n2, s4⟩ := p
  simp only at cE ⊢
  have cQ := hide (fun T W vs K h => (names_row c).call (w0 := w.alloc zeroStm) (T := T) (W := W) (s := s4) (vs := vs) (L := K) h)
  generalize namesP s4 = p at cQ ⊢
  obtain ⟨l, s5⟩ := p
  simp only at cQ ⊢
  clear h
  go_enter Tryd.func68, Tryd.ntmps68
  go_wp2_with (first
    | (go_at_call 70; (with_reducible refine cM.mono ?_); rintro e w1 ⟨rfl, hR1, HB⟩)
    | (refine wpList_store_mid rfl 38 (.tmp 3) (.tmp 6) rfl w1.heap.size 0 (stmCells (⟨2, str n1, ⟨#[]⟩, ⟨#[]⟩, noSL, noSL, noSL, noSL, noED, noED, noSL, noSL, false, 0⟩ : SD)).toArray rfl rfl (init_there _ _) (stm_size _) (stm_one _) ?_; obtain ⟨wi, ei, hRi, HI⟩ := SV.init HB.out.1 (⟨2, str n1, ⟨#[]⟩, ⟨#[]⟩, noSL, noSL, noSL, noSL, noED, noED, noSL, noSL, false, 0⟩ : SD); rw [ei]; clear ei)
    | (go_at_call 69; refine (cO.out _ _ _ _ HI).mono ?_; rintro e w3 ⟨rfl, hR3, HB3⟩)
    | (go_at_call 70; (with_reducible refine (cE.out _ _ _ _ HB3).mono ?_); rintro e w4 ⟨rfl, hR4, HB4⟩; have x2 := HB4.out.var.2.1 2 _ rfl; have xf2 := HB4.out.var.2.2; have HB5 : Hid (SV c (w.alloc zeroStm) w1.heap.size _ _ (stmCells (⟨2, str n1, str n2, ⟨#[]⟩, noSL, noSL, noSL, noSL, noED, noED, noSL, noSL, false, 0⟩ : SD)) _) := HB4.out.put (j := 2) (show 2 < 28 by decide) (.string (str n2)))
    | (go_at_call 98; refine (cQ.out _ _ _ _ HB5).mono ?_; rintro e w5 ⟨y, rfl, hR5, HB6⟩; clear x2 xf2; have x5 := HB6.out.var.2.1 5 _ rfl; have xf5 := HB6.out.var.2.2; have HB7 : Hid (SV c (w.alloc zeroStm) w1.heap.size _ _ (stmCells (⟨2, str n1, str n2, ⟨#[]⟩, noSL, y, noSL, noSL, noED, noED, noSL, noSL, false, 0⟩ : SD)) _) := HB6.out.put (j := 5) (show 5 < 28 by decide) (.slice y.ao y.n y.cap))
    | (refine wpList_load_mid rfl 38 (.tmp 3) rfl w1.heap.size 0 rfl (stmCells (⟨2, str n1, str n2, ⟨#[]⟩, noSL, y, noSL, noSL, noED, noED, noSL, noSL, false, 0⟩ : SD)) _ HB7.out.var.range Tryd.underlying38 rfl (stm_length _) ?_)
    | (refine wpList_store_mid rfl 38 (.tmp 2) (.tmp 16) rfl w.heap.size 0 (stmCells (⟨2, str n1, str n2, ⟨#[]⟩, noSL, y, noSL, noSL, noED, noED, noSL, noSL, false, 0⟩ : SD)).toArray rfl rfl (res_there HB7.out.on hR _) (stm_size _) (stm_one _) ?_; obtain ⟨wf, ef, HR, HF⟩ := stm_fin (x := (⟨2, str n1, str n2, ⟨#[]⟩, noSL, y, noSL, noSL, noED, noED, noSL, noSL, false, 0⟩ : SD)) (t := { noStm with kind := 2, name := n1, table := n2, names := l }) HH.out HB7.out.on (⟨rfl, rfl, rfl, rfl, RowIs.nil _ _ _ _ _, HB7.out.k.2.weak (by have := HB.out.1.size; simp at this; omega), RowIs.nil _ _ _ _ _, RowIs.nil _ _ _ _ _, IsEx.none _ _, IsEx.none _ _, RowIs.nil _ _ _ _ _, RowIs.nil _ _ _ _ _, rfl, rfl⟩); rw [ef]; clear ef))
  exact bodyPost_ret (results_stm rfl rfl HR.out) rfl ⟨_, rfl, HF.out.1, HF.out.2⟩

set_option maxRecDepth 100000 in
set_option maxHeartbeats 8000000 in
theorem table_stm (c : RC) : StmOf 67 c tableP := by
  intro w s h
  have hmf : ∀ (fn : Fn) (first cap : Array Value) (w : World), (Instr.makeFunc fn first cap).run Tryd.prog w = .ok (.func fn first cap) w := fun _ _ _ _ => rfl
  have hR := h.lt
  have HH := hide h
  have cM := namek (c := c) (KeptBy.triv c) (hide ⟨(h.alloc zeroStm).here, trivial⟩)
  unfold tableP
  generalize nameP s = p at cM ⊢
  obtain ⟨n1, s2⟩ := p
  simp only at cM ⊢
  have cO := hide (fun T W vs K h => need1s (c := c) [40] ⟨#[40]⟩ rfl (w0 := w.alloc zeroStm) (T := T) (W := W) (s := s2) (vs := vs) (K := K) rfl h)
  generalize needs [[40]] s2 = s3 at cO ⊢
  have cE := hide (fun T W vs K h => (listCol_row c).call (w0 := w.alloc zeroStm) (T := T) (W := W) (s := s3) (vs := vs) (L := K) h)
  generalize listP columnP moreColumns s3 = p at cE ⊢
  obtain ⟨l, s4⟩ := p
  simp only at cE ⊢
  have cK := hide (fun (A T : Nat) (W : World) vs K (hA : A = W.heap.size) h => need2s (c := c) [112, 114, 105, 109, 97, 114, 121] [107, 101, 121] ⟨#[112, 114, 105, 109, 97, 114, 121]⟩ ⟨#[107, 101, 121]⟩ rfl rfl (w0 := w.alloc zeroStm) (T := T) (W := W) (s := s4) (vs := vs) (K := K) hA h)
  generalize needs [[112, 114, 105, 109, 97, 114, 121], [107, 101, 121]] s4 = s5 at cK ⊢
  have cQ := hide (fun T W vs K h => (names_row c).call (w0 := w.alloc zeroStm) (T := T) (W := W) (s := s5) (vs := vs) (L := K) h)
  generalize namesP s5 = p at cQ ⊢
  obtain ⟨l2, s6⟩ := p
  simp only at cQ ⊢
  have cX := hide (fun (A T : Nat) (W : World) vs K (hA : A = W.heap.size) h => need1s (c := c) [41] ⟨#[41]⟩ rfl (w0 := w.alloc zeroStm) (T := T) (W := W) (s := s6) (vs := vs) (K := K) hA h)
  generalize needs [[41]] s6 = s7 at cX ⊢
  clear h
  go_enter Tryd.func67, Tryd.ntmps67
  go_wp2_with (first
    | (go_at_call 70; refine cM.mono ?_; rintro e w1 ⟨rfl, hR1, HB⟩)
    | (refine wpList_store_mid rfl 38 (.tmp 3) (.tmp 6) rfl w1.heap.size 0 (stmCells (⟨1, ⟨#[]⟩, str n1, ⟨#[]⟩, noSL, noSL, noSL, noSL, noED, noED, noSL, noSL, false, 0⟩ : SD)).toArray rfl rfl (init_there _ _) (stm_size _) (stm_one _) ?_; obtain ⟨wi, ei, hRi, HI⟩ := SV.init HB.out.1 (⟨1, ⟨#[]⟩, str n1, ⟨#[]⟩, noSL, noSL, noSL, noSL, noED, noED, noSL, noSL, false, 0⟩ : SD); rw [ei]; clear ei)
    | (go_at_call 69; (with_reducible refine (cO.out _ _ _ _ HI).mono ?_); rintro e w3 ⟨rfl, hR3, HB3⟩)
    | (go_at_call 95; refine (cE.out _ _ _ _ HB3).mono ?_; rintro e w4 ⟨y, rfl, hR4, HB4⟩; have x4 := HB4.out.var.2.1 4 _ rfl; have xf4 := HB4.out.var.2.2; have HB5 : Hid (SV c (w.alloc zeroStm) w1.heap.size _ _ (stmCells (⟨1, ⟨#[]⟩, str n1, ⟨#[]⟩, y, noSL, noSL, noSL, noED, noED, noSL, noSL, false, 0⟩ : SD)) _) := HB4.out.put (j := 4) (show 4 < 28 by decide) (.slice y.ao y.n y.cap))
    | (go_at_call 69; (with_reducible refine (cK.out w4.heap.size _ _ _ _ (by simp [World.setCell]) HB5).mono ?_); rintro e w5 ⟨rfl, hR5, HB6⟩)
    | (go_at_call 98; refine (cQ.out _ _ _ _ HB6).mono ?_; rintro e w6 ⟨z, rfl, hR6, HB7⟩; clear x4 xf4; have x5 := HB7.out.var.2.1 5 _ rfl; have xf5 := HB7.out.var.2.2; have HB9 : Hid (SV c (w.alloc zeroStm) w1.heap.size _ _ (stmCells (⟨1, ⟨#[]⟩, str n1, ⟨#[]⟩, y, z, noSL, noSL, noED, noED, noSL, noSL, false, 0⟩ : SD)) _) := HB7.out.put (j := 5) (show 5 < 28 by decide) (.slice z.ao z.n z.cap))
    | (go_at_call 69; (with_reducible refine (cX.out w6.heap.size _ _ _ _ (by simp [World.setCell]) HB9).mono ?_); rintro e w7 ⟨rfl, hR7, HB8⟩)
    | (refine wpList_load_mid rfl 38 (.tmp 3) rfl w1.heap.size 0 rfl (stmCells (⟨1, ⟨#[]⟩, str n1, ⟨#[]⟩, y, z, noSL, noSL, noED, noED, noSL, noSL, false, 0⟩ : SD)) _ HB8.out.var.range Tryd.underlying38 rfl (stm_length _) ?_)
    | (refine wpList_store_mid rfl 38 (.tmp 2) (.tmp 25) rfl w.heap.size 0 (stmCells (⟨1, ⟨#[]⟩, str n1, ⟨#[]⟩, y, z, noSL, noSL, noED, noED, noSL, noSL, false, 0⟩ : SD)).toArray rfl rfl (res_there HB8.out.on hR _) (stm_size _) (stm_one _) ?_; obtain ⟨wf, ef, HR, HF⟩ := stm_fin (x := (⟨1, ⟨#[]⟩, str n1, ⟨#[]⟩, y, z, noSL, noSL, noED, noED, noSL, noSL, false, 0⟩ : SD)) (t := { noStm with kind := 1, table := n1, columns := l, names := l2 }) HH.out HB8.out.on (⟨rfl, rfl, rfl, rfl, HB8.out.k.1.2.weak (by have := HB.out.1.size; simp at this; omega), HB8.out.k.2.weak (by have := HB.out.1.size; simp at this; omega), RowIs.nil _ _ _ _ _, RowIs.nil _ _ _ _ _, IsEx.none _ _, IsEx.none _ _, RowIs.nil _ _ _ _ _, RowIs.nil _ _ _ _ _, rfl, rfl⟩); rw [ef]; clear ef))
  exact bodyPost_ret (results_stm rfl rfl HR.out) rfl ⟨_, rfl, HF.out.1, HF.out.2⟩

end Go.Proofs.YtedinkoapieakaaDoor
