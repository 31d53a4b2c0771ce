/- Package parse: columns, names, sets, orders, conditions: contracts, at every state. -/
import Derived.Test.YtedinkoapieakaaDoorParseVar
namespace Go.Proofs.YtedinkoapieakaaDoor
open Go.ChangeShapes Go.WideShapes Go.ChangeAt Go.RowKit

theorem comma_more (c : RC) : MoreOf 74 c comma := fun _ _ h => (comma_on c (hide h)).mono fun _ _ ⟨h1, h2⟩ => ⟨h1, h2.out⟩
theorem name_one (c : RC) : OneOf' kStr strval 70 c nameP := fun _ _ h => (name_on c (hide h)).mono fun _ _ ⟨h1, _, h3⟩ => ⟨_, h1, h3.out, rfl⟩
theorem expr_one (c : RC) : OneOf' kEx exval 77 c exprP := fun w s h => expr_is c (s.len + 1) w s (Nat.lt_succ_self _) h
theorem columnOf_one (c : RC) : OneOf' kEx exval 79 c columnOfP := fun w s h => columnOf_part c (s.len + 1) w s (Nat.lt_succ_self _) h

set_option maxRecDepth 100000 in
set_option maxHeartbeats 4000000 in
theorem more_columns (c : RC) : MoreOf 97 c moreColumns := by
  intro w s h
  have cN := need1 c [44] ⟨#[44]⟩ rfl (hide h)
  unfold moreColumns
  generalize needs [[44]] s = s1 at cN ⊢
  have cX := hide (fun W (h : Hid (On c w W s1)) => next_on h.out)
  have cI := isName_any s1.next
  generalize s1.next = t at cX cI ⊢
  clear h
  go_enter Tryd.func97, Tryd.ntmps97
  go_wp2_with (first
    | (go_at_call 69; refine cN.mono ?_; rintro e w1 ⟨rfl, hR1, HB⟩)
    | (go_at_call 93; refine (cX.out _ HB).mono ?_; rintro e w2 ⟨rfl, HB2⟩)
    | (go_at_call 99; refine (cI _).mono ?_; rintro e w3 ⟨rfl, hb3⟩))
  go_ret
  exact ⟨rfl, HB2.out.later hb3⟩

set_option maxRecDepth 100000 in
set_option maxHeartbeats 4000000 in
theorem columnType_on (c : RC) {w0 W : World} {s : St} (h : Hid (On c w0 W s)) :
    Calls Tryd.prog 109 #[.pointer (some ⟨c.R, 0, none⟩)] W fun e w' => e = .returned (.int .i64 (typeP s).1) ∧ c.R < w'.heap.size ∧ Hid (On c w0 w' (typeP s).2) := by
  have cO := oneOfk (c := c) [[116, 114, 117, 116, 104], [105, 110, 116], [116, 101, 120, 116]] #[.string ⟨#[116, 114, 117, 116, 104]⟩, .string ⟨#[105, 110, 116]⟩, .string ⟨#[116, 101, 120, 116]⟩] rfl 3 rfl (by decide) (A := W.heap.size) (KeptBy.triv c) (w0 := w0) (W := W) (s := s) rfl (hide ⟨h.out, trivial⟩)
  unfold typeP
  generalize oneOf [[116, 114, 117, 116, 104], [105, 110, 116], [116, 101, 120, 116]] s = p at cO ⊢
  obtain ⟨u, s1⟩ := p
  simp only at cO ⊢
  unfold typeOf
  by_cases utruth : u = [116, 114, 117, 116, 104]
  · rw [if_pos utruth]
    subst utruth
    have cO := show Calls _ _ _ _ (fun e w' => e = .returned (.string ⟨#[116, 114, 117, 116, 104]⟩) ∧ c.R < w'.heap.size ∧ Hid (On c w0 w' s1 ∧ True)) from cO
    go_enter Tryd.func109, Tryd.ntmps109
    go_wp2_with (go_at_call 43; refine cO.mono ?_; rintro e w1 ⟨rfl, hR1, HB⟩)
    go_ret
    exact ⟨rfl, hR1, HB.out.1⟩
  rw [if_neg utruth]
  by_cases uint : u = [105, 110, 116]
  · rw [if_pos uint]
    subst uint
    have cO := show Calls _ _ _ _ (fun e w' => e = .returned (.string ⟨#[105, 110, 116]⟩) ∧ c.R < w'.heap.size ∧ Hid (On c w0 w' s1 ∧ True)) from cO
    go_enter Tryd.func109, Tryd.ntmps109
    go_wp2_with (go_at_call 43; refine cO.mono ?_; rintro e w1 ⟨rfl, hR1, HB⟩)
    go_ret
    exact ⟨rfl, hR1, HB.out.1⟩
  rw [if_neg uint]
  by_cases utext : u = [116, 101, 120, 116]
  · rw [if_pos utext]
    subst utext
    have cO := show Calls _ _ _ _ (fun e w' => e = .returned (.string ⟨#[116, 101, 120, 116]⟩) ∧ c.R < w'.heap.size ∧ Hid (On c w0 w' s1 ∧ True)) from cO
    go_enter Tryd.func109, Tryd.ntmps109
    go_wp2_with (go_at_call 43; refine cO.mono ?_; rintro e w1 ⟨rfl, hR1, HB⟩)
    go_ret
    exact ⟨rfl, hR1, HB.out.1⟩
  rw [if_neg utext]
  have n0 := list_lit utruth
  have n1 := list_lit uint
  have n2 := list_lit utext
  clear utruth uint utext
  go_enter Tryd.func109, Tryd.ntmps109
  go_wp2_with (go_at_call 43; refine cO.mono ?_; rintro e w1 ⟨rfl, hR1, HB⟩)
  go_ret
  exact ⟨rfl, hR1, HB.out.1⟩

set_option maxRecDepth 100000 in
set_option maxHeartbeats 4000000 in
theorem column_one (c : RC) : OneOf' kCol colval 96 c columnP := by
  intro w s h
  have hR := h.lt
  have HH := hide h
  have cN := name_on c (hide (h.alloc (.cells #[.string ⟨#[]⟩, .int .i64 0, .bool false] 74)).here)
  unfold columnP
  generalize nameP s = p at cN ⊢
  obtain ⟨n1, s1⟩ := p
  simp only at cN ⊢
  have cT := hide (fun (W : World) (h : Hid (SV c (w.alloc (.cells #[.string ⟨#[]⟩, .int .i64 0, .bool false] 74)) W.heap.size (W.alloc (.cells #[.string (str n1), .int .i64 0, .bool false] 74)) s1 [.string (str n1), .int .i64 0, .bool false] (fun _ => True))) => (columnType_on c (hide h.out.on.here)).mono (R' := fun e w' => e = .returned (.int .i64 (typeP s1).1) ∧ c.R < w'.heap.size ∧ Hid (SV c (w.alloc (.cells #[.string ⟨#[]⟩, .int .i64 0, .bool false] 74)) W.heap.size w' (typeP s1).2 [.string (str n1), .int .i64 0, .bool false] (fun _ => True))) fun e w' ⟨h1, h2, h3⟩ => ⟨h1, h2, h.out.go h3.out⟩)
  generalize typeP s1 = p at cT ⊢
  obtain ⟨ty, s2⟩ := p
  simp only at cT ⊢
  have cM := hide (fun (T : Nat) (W : World) h => may1s (c := c) [110, 111, 116] [110, 117, 108, 108] ⟨#[110, 111, 116]⟩ ⟨#[110, 117, 108, 108]⟩ rfl rfl (A := W.heap.size) (w0 := w.alloc (.cells #[.string ⟨#[]⟩, .int .i64 0, .bool false] 74)) (T := T) (W := W.setCell ⟨T, 1, none⟩ (.int .i64 ty)) (s := s2) (vs := [.string (str n1), .int .i64 ty, .bool false]) (K := fun _ => True) (by simp [World.setCell]) h)
  generalize mayBe [110, 111, 116] [[110, 117, 108, 108]] s2 = p at cM ⊢
  obtain ⟨b, s3⟩ := p
  simp only at cM ⊢
  clear h
  go_enter Tryd.func96, Tryd.ntmps96
  go_wp2_with (first
    | (go_at_call 70; refine cN.mono ?_; rintro e w1 ⟨rfl, hR1, HB⟩; have hne1 : ¬ w1.heap.size = w.heap.size := (by have := HB.out.size; simp at this; omega); have hne2 : ¬ w.heap.size = w1.heap.size := fun e => hne1 e.symm; have HB1 := hide (SV.start HB.out #[.string (str n1), .int .i64 0, .bool false] 74))
    | (go_at_call 109; refine (cT.out _ HB1).mono ?_; rintro e w2 ⟨rfl, hR2, HB2⟩; have x0 := HB2.out.var.2.1 0 _ rfl; have x1 := HB2.out.var.2.1 1 _ rfl; have x2 := HB2.out.var.2.1 2 _ rfl; have xf := HB2.out.var.2.2; have HB3 := hide (HB2.out.put (j := 1) (by simp) (.int .i64 ty)))
    | (go_at_call 76; refine (cM.out _ _ HB3).mono ?_; rintro e w3 ⟨rfl, hR3, HB4⟩; clear x0 x1 x2 xf; have y0 := HB4.out.var.2.1 0 _ rfl; have y1 := HB4.out.var.2.1 1 _ rfl; have y2 := HB4.out.var.2.1 2 _ rfl; have yf := HB4.out.var.2.2; have rv := VarB.res HB4.out.on hR; have rf := rv.2.2; have k0 := rv.2.1 0 _ rfl; have k1 := rv.2.1 1 _ rfl; have k2 := rv.2.1 2 _ rfl))
  have h5 := HB4.out.put (j := 2) (by simp) (.bool b)
  have h6 := (VarB.res h5.on hR).all [.string (str n1), .int .i64 ty, .bool b] rfl
  have hO := setFrom_on (w0 := w) (Nat.le_refl _) [.string (str n1), .int .i64 ty, .bool b] _ 0 ((HH.out.alloc _).back h5.on)
  have c0 := h6.2.1 0 _ rfl
  have c1 := h6.2.1 1 _ rfl
  have c2 := h6.2.1 2 _ rfl
  simp only [World.setCells] at c0 c1 c2 hO
  refine bodyPost_ret (v := colval ⟨n1, ty, b⟩) (by simp [results, Tryd.results96, go_sem, asAddr, c0, c1, c2]) rfl ⟨⟨n1, ty, b⟩, rfl, hO, rfl⟩

set_option maxRecDepth 100000 in
set_option maxHeartbeats 4000000 in
theorem order_one (c : RC) : OneOf' kOrd ordval 81 c orderP := by
  intro w s h
  have hR := h.lt
  have HH := hide h
  have cN := number_on c (hide (h.alloc (.cells #[.int .i64 0, .bool false] 76)).here)
  unfold orderP
  generalize numberP s = p at cN ⊢
  obtain ⟨n1, s1⟩ := p
  simp only at cN ⊢
  have cM := hide (fun T W h => may0s (c := c) [100, 101, 115, 99] ⟨#[100, 101, 115, 99]⟩ rfl (w0 := w.alloc (.cells #[.int .i64 0, .bool false] 76)) (T := T) (W := W) (s := s1) (vs := [.int .i64 n1, .bool false]) (K := fun _ => True) h)
  generalize mayBe [100, 101, 115, 99] [] s1 = p at cM ⊢
  obtain ⟨b, s3⟩ := p
  simp only at cM ⊢
  clear h
  go_enter Tryd.func81, Tryd.ntmps81
  go_wp2_with (first
    | (go_at_call 82; refine cN.mono ?_; rintro e w1 ⟨rfl, hR1, HB⟩; have hne1 : ¬ w1.heap.size = w.heap.size := (by have := HB.out.size; simp at this; omega); have hne2 : ¬ w.heap.size = w1.heap.size := fun e => hne1 e.symm; have HB1 := hide (SV.start HB.out #[.int .i64 n1, .bool false] 76))
    | (go_at_call 76; refine (cM.out _ _ HB1).mono ?_; rintro e w3 ⟨rfl, hR3, HB4⟩; have y0 := HB4.out.var.2.1 0 _ rfl; have y1 := HB4.out.var.2.1 1 _ rfl; have yf := HB4.out.var.2.2; have rv := VarB.res HB4.out.on hR; have rf := rv.2.2; have k0 := rv.2.1 0 _ rfl; have k1 := rv.2.1 1 _ rfl))
  have h5 := HB4.out.put (j := 1) (by simp) (.bool b)
  have h6 := (VarB.res h5.on hR).all [.int .i64 n1, .bool b] rfl
  have hO := setFrom_on (w0 := w) (Nat.le_refl _) [.int .i64 n1, .bool b] _ 0 ((HH.out.alloc _).back h5.on)
  have c0 := h6.2.1 0 _ rfl
  have c1 := h6.2.1 1 _ rfl
  simp only [World.setCells] at c0 c1 hO
  refine bodyPost_ret (v := ordval (n1, b)) (by simp [results, Tryd.results81, go_sem, asAddr, c0, c1]) rfl ⟨(n1, b), rfl, hO, rfl⟩

set_option maxRecDepth 100000 in
set_option maxHeartbeats 4000000 in
theorem where_part (c : RC) (k : Nat) : Part 75 c whereP k := by
  intro w s _ h
  have hR := h.lt
  have HH := hide h
  have cM := may0k (c := c) [119, 104, 101, 114, 101] ⟨#[119, 104, 101, 114, 101]⟩ rfl (KeptBy.triv c) (hide ⟨(h.alloc zeroEx).here, trivial⟩)
  unfold whereP
  cases hb : (mayBe [119, 104, 101, 114, 101] [] s).1 with
  | true =>
    rw [hb] at cM
    generalize (mayBe [119, 104, 101, 114, 101] [] s).2 = s1 at cM ⊢
    have cS := hide (fun W h => (expr_is c (s1.len + 1)).callk (KeptBy.triv c) (w0 := w.alloc zeroEx) (W := W) (s := s1) (Nat.lt_succ_self _) (lo := w.heap.size + 1) (by simp) h)
    simp only [if_true]
    generalize exprP s1 = p at cS ⊢
    obtain ⟨a, s2⟩ := p
    simp only at cS ⊢
    clear h hb
    go_enter Tryd.func75, Tryd.ntmps75
    go_wp2_with (first
      | (go_at_call 76; refine cM.mono ?_; rintro e w1 ⟨rfl, hR1, HB⟩)
      | (go_at_call 77; refine (cS.out _ HB).mono ?_; rintro e w2 ⟨d, rfl, hR2, HB2⟩; obtain ⟨⟨k0, k1, k2, k3, k4, k5, k6, k7⟩, f⟩ := res_cells HB2.out.1 hR))
    obtain ⟨W3, e3, ⟨c0, c1, c2, c3, c4, c5, c6, c7⟩, hO3, hI3⟩ := res8 HB2.out.1 hR HH.out d HB2.out.2.1
    rw [e3]
    exact bodyPost_ret (v := exval d) (by simp [results, Tryd.results75, go_sem, asAddr, c0, c1, c2, c3, c4, c5, c6, c7]) rfl ⟨d, rfl, hO3, hI3⟩
  | false =>
    rw [hb] at cM
    simp only [Bool.false_eq_true, if_false]
    generalize (mayBe [119, 104, 101, 114, 101] [] s).2 = s1 at cM ⊢
    clear h hb
    go_enter Tryd.func75, Tryd.ntmps75
    go_wp2_with (go_at_call 76; refine cM.mono ?_; rintro e w1 ⟨rfl, hR1, HB⟩; obtain ⟨⟨k0, k1, k2, k3, k4, k5, k6, k7⟩, f⟩ := res_cells HB.out.1 hR)
    obtain ⟨d, hd⟩ : ∃ d : ED, d = ⟨0, 0, 0, ⟨#[]⟩, ⟨#[]⟩, ⟨#[]⟩, none, 0, 0⟩ := ⟨_, rfl⟩
    obtain ⟨W3, e3, ⟨c0, c1, c2, c3, c4, c5, c6, c7⟩, hO3, hI3⟩ := res8 (e := noEx) HB.out.1 hR HH.out d (by subst hd; exact ⟨rfl, rfl, rfl, rfl, rfl, rfl, rfl⟩)
    subst hd
    rw [e3]
    exact bodyPost_ret (v := exval _) (by simp [results, Tryd.results75, go_sem, asAddr, c0, c1, c2, c3, c4, c5, c6, c7]) rfl ⟨_, rfl, hO3, hI3⟩

end Go.Proofs.YtedinkoapieakaaDoor
