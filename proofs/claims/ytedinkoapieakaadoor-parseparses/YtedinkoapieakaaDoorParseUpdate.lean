/- Package parse: set, update, create: contracts, at every state. -/
import Derived.Test.YtedinkoapieakaaDoorParseMakes
namespace Go.Proofs.YtedinkoapieakaaDoor
open Go.ChangeShapes Go.WideShapes Go.ChangeAt Go.RowKit

def setCells9 (d : List UInt8 × ED) : List Value := .string (str d.1) :: exCells d.2
theorem Tryd.infoSet : (Tryd.prog.info? 71).map (·.size) = some 9 := by kernel_rfl
theorem set9_size (d : List UInt8 × ED) : (Tryd.prog.info? 71).map (·.size) = some (setCells9 d).toArray.size := Tryd.infoSet
theorem set9_length (d : List UInt8 × ED) : (Tryd.prog.info? 71).map (·.size) = some (setCells9 d).length := Tryd.infoSet
theorem set9_one (d : List UInt8 × ED) : (setCells9 d).toArray.all (·.oneCell') = true := all_oneCell_toArray (kSet.one d)
abbrev zeroSet : Obj := .cells #[.string ⟨#[]⟩, .int .i64 0, .int .i64 0, .int .i64 0, .string ⟨#[]⟩, .string ⟨#[]⟩, .string ⟨#[]⟩, .int .i64 0, .slice none 0 0] 71

set_option maxRecDepth 100000 in
theorem results_set {fn : Func} {p : Tmp} (h : fn.results = #[.cell p 71]) {tmps : Array Value} {w : World} {B : Nat} {d : List UInt8 × ED} (hp : tmps.getD p undef = .pointer (some ⟨B, 0, none⟩)) (hr : w.rangeAt B 0 (setCells9 d)) :
    (results fn tmps).run Tryd.prog w = .ok (setval d) w := by
  rw [results_cell h, hp]
  simp only [asAddr, Sem.run_pure, Result.andThen_ok]
  exact run_loadVar_mid w B 0 71 (setCells9 d) _ hr Tryd.underlying71 rfl (set9_length d)

/-- the result's cells, stored -/
theorem set_fin {c : RC} {w W : World} {s s0 : St} {e : Ex} {d : List UInt8 × ED} (h0 : On c w w s0) (h : On c (w.alloc zeroSet) W s) (hI : IsEx (fun b => w.heap.size + 1 ≤ b) W e d.2) :
    ∃ W', W.setCells w.heap.size 0 (setCells9 d).toArray.toList = W' ∧ Hid (W'.rangeAt w.heap.size 0 (setCells9 d)) ∧ Hid (On c w W' s ∧ IsEx (fun b => w.heap.size ≤ b) W' e d.2) :=
  ⟨_, rfl, ((VarB.res h h0.lt).all (setCells9 d) rfl).range, setFrom_on (Nat.le_refl _) _ _ _ ((h0.alloc zeroSet).back h), (hI.keep (setFrom_keeps _ _ _ _) (by show ¬ w.heap.size + 1 ≤ w.heap.size; omega)).low (Nat.le_succ _)⟩

set_option maxRecDepth 100000 in
set_option maxHeartbeats 8000000 in
theorem set_one (c : RC) : OneOf' kSet setval 73 c setP := by
  intro w s h
  have hR := h.lt
  have HH := hide h
  have cN := name_on c (hide (h.alloc zeroSet).here)
  unfold setP
  generalize nameP s = p at cN ⊢
  obtain ⟨n1, s1⟩ := p
  simp only at cN ⊢
  have cM := hide (fun (A T : Nat) (W : World) vs K (hA : A = W.heap.size) h => need1s (c := c) [61] ⟨#[61]⟩ rfl (w0 := w.alloc zeroSet) (T := T) (W := W) (s := s1) (vs := vs) (K := K) hA h)
  generalize needs [[61]] s1 = s2 at cM ⊢
  have cE := hide (fun T W vs K h => exprss (fun k => expr_is c k) (w0 := w.alloc zeroSet) (T := T) (W := W) (s := s2) (vs := vs) (K := K) h)
  generalize exprP s2 = p at cE ⊢
  obtain ⟨a, s3⟩ := p
  simp only at cE ⊢
  clear h
  go_enter Tryd.func73, Tryd.ntmps73
  go_wp2_with (first
    | (go_at_call 70; refine cN.mono ?_; rintro e w1 ⟨rfl, hR1, HB⟩; have HB1 := hide (SV.start HB.out #[.string (str n1), .int .i64 0, .int .i64 0, .int .i64 0, .string ⟨#[]⟩, .string ⟨#[]⟩, .string ⟨#[]⟩, .int .i64 0, .slice none 0 0] 71))
    | (go_at_call 69; refine (cM.out (w1.heap.size + 1) _ _ _ _ (by simp) HB1).mono ?_; rintro e w2 ⟨rfl, hR2, HB2⟩)
    | (go_at_call 77; refine (cE.out _ _ _ _ HB2).mono ?_; rintro e w3 ⟨d, rfl, hR3, HB3⟩)
    | (refine wpList_store_mid rfl 35 (.tmp 12) (.tmp 11) rfl w1.heap.size 1 (exCells d).toArray rfl rfl (HB3.out.var.there (show 1 + 8 ≤ 9 by decide)) (ex_size _) (ex_one _) ?_; obtain ⟨wx, ex, hRx, HX⟩ := HB3.out.putEx 1 d (show 1 + 8 ≤ 9 by decide) (us := setCells9 (n1, d)) rfl; rw [ex]; clear ex)
    | (refine wpList_load_mid rfl 71 (.tmp 3) rfl w1.heap.size 0 rfl (setCells9 (n1, d)) _ HX.out.var.range Tryd.underlying71 rfl (set9_length _) ?_)
    | (refine wpList_store_mid rfl 71 (.tmp 2) (.tmp 13) rfl w.heap.size 0 (setCells9 (n1, d)).toArray rfl rfl ((VarB.res HX.out.on hR).there (show 0 + 9 ≤ 9 by decide)) (set9_size _) (set9_one _) ?_; obtain ⟨wf, ef, HR, HF⟩ := set_fin (d := (n1, d)) (e := a) HH.out HX.out.on (HX.out.k.2.low (by have := HB.out.size; simp at this; omega)); rw [ef]; clear ef))
  exact bodyPost_ret (results_set rfl rfl HR.out) rfl ⟨n1, d, rfl, HF.out.1, rfl, HF.out.2⟩

set_option maxRecDepth 100000 in
theorem listSet_row (c : RC) : RowAt kSet 71 9 72 #[.func (.func 73) #[.pointer (some ⟨c.R, 0, none⟩)] #[], .func (.func 74) #[.pointer (some ⟨c.R, 0, none⟩)] #[]] c (listP setP comma) :=
  fun w s h => (listSet_any 73 74 (fun _ _ => rfl) (fun _ _ => rfl) (set_one c) (comma_more c) setP_shrinks comma_takes w s h).mono fun _ _ ⟨ao, n, cap, ds, h1, h2, h3, h4, h5⟩ => ⟨⟨ao, n, cap⟩, h1, h2, ds, h3, h4, h5⟩

set_option maxRecDepth 100000 in
set_option maxHeartbeats 8000000 in
theorem update_stm (c : RC) : StmOf 46 c updateP := by
  intro w s h
  have hmf : ∀ (fn : Fn) (first cap : Array Value) (w : World), (Instr.makeFunc fn first cap).run Tryd.prog w = .ok (.func fn first cap) w := fun _ _ _ _ => rfl
  have hR := h.lt
  have HH := hide h
  have cM := namek (c := c) (KeptBy.triv c) (hide ⟨(h.alloc zeroStm).here, trivial⟩)
  unfold updateP
  generalize nameP s = p at cM ⊢
  obtain ⟨n1, s2⟩ := p
  simp only at cM ⊢
  have cO := hide (fun T W vs K h => need1s (c := c) [115, 101, 116] ⟨#[115, 101, 116]⟩ rfl (w0 := w.alloc zeroStm) (T := T) (W := W) (s := s2) (vs := vs) (K := K) rfl h)
  generalize needs [[115, 101, 116]] s2 = s3 at cO ⊢
  have cE := hide (fun T W vs K h => (listSet_row c).call (w0 := w.alloc zeroStm) (T := T) (W := W) (s := s3) (vs := vs) (L := K) h)
  generalize listP setP comma s3 = p at cE ⊢
  obtain ⟨l, s4⟩ := p
  simp only at cE ⊢
  have cW := hide (fun T W vs K h => exprss (fun k => where_part c k) (w0 := w.alloc zeroStm) (T := T) (W := W) (s := s4) (vs := vs) (K := K) h)
  generalize whereP s4 = p at cW ⊢
  obtain ⟨a, s5⟩ := p
  simp only at cW ⊢
  clear h
  go_enter Tryd.func46, Tryd.ntmps46
  go_wp2_with (first
    | (go_at_call 70; refine cM.mono ?_; rintro e w1 ⟨rfl, hR1, HB⟩)
    | (refine wpList_store_mid rfl 38 (.tmp 3) (.tmp 6) rfl w1.heap.size 0 (stmCells (⟨4, ⟨#[]⟩, str n1, ⟨#[]⟩, noSL, noSL, noSL, noSL, noED, noED, noSL, noSL, false, 0⟩ : SD)).toArray rfl rfl (init_there _ _) (stm_size _) (stm_one _) ?_; obtain ⟨wi, ei, hRi, HI⟩ := SV.init HB.out.1 (⟨4, ⟨#[]⟩, str n1, ⟨#[]⟩, noSL, noSL, noSL, noSL, noED, noED, noSL, noSL, false, 0⟩ : SD); rw [ei]; clear ei)
    | (go_at_call 69; refine (cO.out _ _ _ _ HI).mono ?_; rintro e w3 ⟨rfl, hR3, HB3⟩)
    | (go_at_call 72; refine (cE.out _ _ _ _ HB3).mono ?_; rintro e w4 ⟨y, rfl, hR4, HB4⟩; have x7 := HB4.out.var.2.1 7 _ rfl; have xf7 := HB4.out.var.2.2; have HB5 : Hid (SV c (w.alloc zeroStm) w1.heap.size _ _ (stmCells (⟨4, ⟨#[]⟩, str n1, ⟨#[]⟩, noSL, noSL, noSL, y, noED, noED, noSL, noSL, false, 0⟩ : SD)) _) := HB4.out.put (j := 7) (show 7 < 28 by decide) (.slice y.ao y.n y.cap))
    | (go_at_call 75; refine (cW.out _ _ _ _ HB5).mono ?_; rintro e w5 ⟨d, rfl, hR5, HB6⟩)
    | (refine wpList_store_mid rfl 35 (.tmp 18) (.tmp 17) rfl w1.heap.size 16 (exCells d).toArray rfl rfl (HB6.out.var.there (show 16 + 8 ≤ 28 by decide)) (ex_size _) (ex_one _) ?_; obtain ⟨wx, ex, hRx, HX⟩ := HB6.out.putEx 16 d (show 16 + 8 ≤ 28 by decide) (us := stmCells (⟨4, ⟨#[]⟩, str n1, ⟨#[]⟩, noSL, noSL, noSL, y, noED, d, noSL, noSL, false, 0⟩ : SD)) rfl; rw [ex]; clear ex)
    | (refine wpList_load_mid rfl 38 (.tmp 3) rfl w1.heap.size 0 rfl (stmCells (⟨4, ⟨#[]⟩, str n1, ⟨#[]⟩, noSL, noSL, noSL, y, noED, d, noSL, noSL, false, 0⟩ : SD)) _ HX.out.var.range Tryd.underlying38 rfl (stm_length _) ?_)
    | (refine wpList_store_mid rfl 38 (.tmp 2) (.tmp 19) rfl w.heap.size 0 (stmCells (⟨4, ⟨#[]⟩, str n1, ⟨#[]⟩, noSL, noSL, noSL, y, noED, d, noSL, noSL, false, 0⟩ : SD)).toArray rfl rfl (res_there HX.out.on hR _) (stm_size _) (stm_one _) ?_; obtain ⟨wf, ef, HR, HF⟩ := stm_fin (x := (⟨4, ⟨#[]⟩, str n1, ⟨#[]⟩, noSL, noSL, noSL, y, noED, d, noSL, noSL, false, 0⟩ : SD)) (t := { noStm with kind := 4, table := n1, sets := l, wher := a }) HH.out HX.out.on (⟨rfl, rfl, rfl, rfl, RowIs.nil _ _ _ _ _, RowIs.nil _ _ _ _ _, RowIs.nil _ _ _ _ _, HX.out.k.1.2.weak (by have := HB.out.1.size; simp at this; omega), IsEx.none _ _, HX.out.k.2.low (by have := HB.out.1.size; simp at this; omega), RowIs.nil _ _ _ _ _, RowIs.nil _ _ _ _ _, rfl, rfl⟩); rw [ef]; clear ef))
  exact bodyPost_ret (results_stm rfl rfl HR.out) rfl ⟨_, rfl, HF.out.1, HF.out.2⟩

set_option maxRecDepth 100000 in
set_option maxHeartbeats 8000000 in
theorem create_stm (c : RC) : StmOf 44 c createP := by
  intro w s h
  have hR := h.lt
  have HH := hide h
  have cO := oneOfk (c := c) [[116, 97, 98, 108, 101], [105, 110, 100, 101, 120]] #[.string ⟨#[116, 97, 98, 108, 101]⟩, .string ⟨#[105, 110, 100, 101, 120]⟩] rfl 2 rfl (by decide) (A := w.heap.size + 1) (KeptBy.triv c) (W := w.alloc zeroStm) (by simp) (hide ⟨(h.alloc zeroStm).here, trivial⟩)
  unfold createP
  generalize oneOf [[116, 97, 98, 108, 101], [105, 110, 100, 101, 120]] s = p at cO ⊢
  obtain ⟨u, s1⟩ := p
  simp only at cO ⊢
  by_cases utable : u = [116, 97, 98, 108, 101]
  · rw [if_pos utable]
    subst utable
    have cO := show Calls _ _ _ _ (fun e w' => e = .returned (.string ⟨#[116, 97, 98, 108, 101]⟩) ∧ c.R < w'.heap.size ∧ Hid (On c (w.alloc zeroStm) w' s1 ∧ True)) from cO
    have cT := hide (fun W (h : Hid (On c (w.alloc zeroStm) W s1 ∧ True)) => (table_stm c W s1 h.out.1.here).mono (R' := fun e w' => ∃ x : SD, e = .returned (stmval x) ∧ Hid (On c (w.alloc zeroStm) w' (tableP s1).2 ∧ IsStm (w.heap.size + 1) w' (tableP s1).1 x)) fun e w' ⟨x, h1, h2, h3⟩ => ⟨x, h1, h.out.1.back h2, h3.weak (by have := h.out.1.size; simp at this; omega)⟩)
    generalize tableP s1 = p at cT ⊢
    obtain ⟨t, s2⟩ := p
    simp only at cT ⊢
    clear h
    go_enter Tryd.func44, Tryd.ntmps44
    go_wp2_with (first
      | (go_at_call 43; refine cO.mono ?_; rintro e w1 ⟨rfl, hR1, HB⟩)
      | (go_at_call 67; refine (cT.out _ HB).mono ?_; rintro e w2 ⟨x, rfl, HB2⟩)
      | (refine wpList_store_mid rfl 38 (.tmp 2) (.tmp 9) rfl w.heap.size 0 (stmCells x).toArray rfl rfl (res_there HB2.out.1 hR _) (stm_size _) (stm_one _) ?_; obtain ⟨wf, ef, HR, HF⟩ := stm_fin (x := x) (t := t) HH.out HB2.out.1 HB2.out.2; rw [ef]; clear ef))
    exact bodyPost_ret (results_stm rfl rfl HR.out) rfl ⟨_, rfl, HF.out.1, HF.out.2⟩
  rw [if_neg utable]
  by_cases uindex : u = [105, 110, 100, 101, 120]
  · rw [if_pos uindex]
    subst uindex
    have cO := show Calls _ _ _ _ (fun e w' => e = .returned (.string ⟨#[105, 110, 100, 101, 120]⟩) ∧ c.R < w'.heap.size ∧ Hid (On c (w.alloc zeroStm) w' s1 ∧ True)) from cO
    have cT := hide (fun W (h : Hid (On c (w.alloc zeroStm) W s1 ∧ True)) => (index_stm c W s1 h.out.1.here).mono (R' := fun e w' => ∃ x : SD, e = .returned (stmval x) ∧ Hid (On c (w.alloc zeroStm) w' (indexP s1).2 ∧ IsStm (w.heap.size + 1) w' (indexP s1).1 x)) fun e w' ⟨x, h1, h2, h3⟩ => ⟨x, h1, h.out.1.back h2, h3.weak (by have := h.out.1.size; simp at this; omega)⟩)
    generalize indexP s1 = p at cT ⊢
    obtain ⟨t, s2⟩ := p
    simp only at cT ⊢
    clear h
    go_enter Tryd.func44, Tryd.ntmps44
    go_wp2_with (first
      | (go_at_call 43; refine cO.mono ?_; rintro e w1 ⟨rfl, hR1, HB⟩)
      | (go_at_call 68; refine (cT.out _ HB).mono ?_; rintro e w2 ⟨x, rfl, HB2⟩)
      | (refine wpList_store_mid rfl 38 (.tmp 2) (.tmp 13) rfl w.heap.size 0 (stmCells x).toArray rfl rfl (res_there HB2.out.1 hR _) (stm_size _) (stm_one _) ?_; obtain ⟨wf, ef, HR, HF⟩ := stm_fin (x := x) (t := t) HH.out HB2.out.1 HB2.out.2; rw [ef]; clear ef))
    exact bodyPost_ret (results_stm rfl rfl HR.out) rfl ⟨_, rfl, HF.out.1, HF.out.2⟩
  rw [if_neg uindex]
  have ntable := list_lit utable
  have nindex := list_lit uindex
  clear utable uindex h
  go_enter Tryd.func44, Tryd.ntmps44
  go_wp2_with (first
    | (go_at_call 43; refine cO.mono ?_; rintro e w1 ⟨rfl, hR1, HB⟩)
    | (refine wpList_store_mid rfl 38 (.tmp 2) (.tmp 14) rfl w.heap.size 0 (stmCells noSD).toArray rfl rfl (res_there HB.out.1 hR _) (stm_size _) (stm_one _) ?_; obtain ⟨wf, ef, HR, HF⟩ := stm_fin (x := noSD) (t := noStm) HH.out HB.out.1 (IsStm.none _ _); rw [ef]; clear ef))
  exact bodyPost_ret (results_stm rfl rfl HR.out) rfl ⟨_, rfl, HF.out.1, HF.out.2⟩

end Go.Proofs.YtedinkoapieakaaDoor
