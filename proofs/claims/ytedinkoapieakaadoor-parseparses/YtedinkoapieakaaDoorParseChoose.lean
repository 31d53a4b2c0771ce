/- Package parse: select: the contract, at every state. -/
import Derived.Test.YtedinkoapieakaaDoorParseUpdate
import Derived.Deep.Cut
namespace Go.Proofs.YtedinkoapieakaaDoor
open Go.ChangeShapes Go.WideShapes Go.ChangeAt Go.RowKit

theorem SV.conv {c : RC} {w0 : World} {T : Nat} {W : World} {s : St} {vs : List Value} {K L : World → Prop} (h : SV c w0 T W s vs K) (l : L W) (f : Firm (T + 1) L) : SV c w0 T W s vs L := ⟨h.on, h.var, l, f, h.lo⟩
theorem Firm.row {α D : Type} {K : Kind α D} {lo : Nat} {e : TypeId} {size : Nat} {x : SL} {l : List α} : Firm lo (fun W => RowIs K lo e size W x l) := fun _ _ _ r k h => h.keep k r

set_option maxRecDepth 100000 in
set_option maxHeartbeats 16000000 in
theorem choose_stm (c : RC) : StmOf 48 c chooseP := by
  intro w s h
  have hmf : ∀ (fn : Fn) (first cap : Array Value) (w : World), (Instr.makeFunc fn first cap).run Tryd.prog w = .ok (.func fn first cap) w := fun _ _ _ _ => rfl
  have hR := h.lt
  have HH := hide h
  have e1 : (w.alloc zeroStm).heap.size = w.heap.size + 1 := by simp
  have hT := init_there (w.alloc zeroStm) (⟨6, ⟨#[]⟩, ⟨#[]⟩, ⟨#[]⟩, noSL, noSL, noSL, noSL, noED, noED, noSL, noSL, false, 0⟩ : SD)
  have hI := SV.init (h.alloc zeroStm).here (⟨6, ⟨#[]⟩, ⟨#[]⟩, ⟨#[]⟩, noSL, noSL, noSL, noSL, noED, noED, noSL, noSL, false, 0⟩ : SD)
  rw [e1] at hT hI
  obtain ⟨wi, ei, hRi, HI⟩ := hI
  have Hei := hide ei
  have HT := hide hT
  clear e1 ei hT
  have cS := hide (fun W vs K h => may0s (c := c) [42] ⟨#[42]⟩ rfl (w0 := w.alloc zeroStm) (T := w.heap.size + 1) (W := W) (s := s) (vs := vs) (K := K) h)
  unfold chooseP
  have hi1 : itemsP s = if (mayBe [42] [] s).1 then ([], (mayBe [42] [] s).2) else exprsP (mayBe [42] [] s).2 := rfl
  generalize itemsP s = p at hi1 ⊢
  obtain ⟨l1, s1⟩ := p
  have H1 := hide hi1
  clear hi1
  generalize mayBe [42] [] s = p at cS H1
  obtain ⟨b1, t1⟩ := p
  simp only at cS H1 ⊢
  have cE := hide (fun W vs K h => (exprs_row c).call (w0 := w.alloc zeroStm) (T := w.heap.size + 1) (W := W) (s := t1) (vs := vs) (L := K) h)
  generalize exprsP t1 = p at cE H1
  clear h
  have cN_2 := hide (fun W vs K h => need1s (c := c) [102, 114, 111, 109] ⟨#[102, 114, 111, 109]⟩ rfl (w0 := w.alloc zeroStm) (T := w.heap.size + 1) (W := W) (s := s1) (vs := vs) (K := K) rfl h)
  generalize needs [[102, 114, 111, 109]] s1 = s2 at cN_2 ⊢
  have cM_2 := hide (fun W vs K h => Go.Proofs.YtedinkoapieakaaDoor.names (c := c) (w0 := w.alloc zeroStm) (T := w.heap.size + 1) (W := W) (s := s2) (vs := vs) (K := K) h)
  generalize nameP s2 = p_2 at cM_2 ⊢
  obtain ⟨n1, s3⟩ := p_2
  simp only at cM_2 ⊢
  have cJ_2 := hide (fun W vs K h => may0s (c := c) [106, 111, 105, 110] ⟨#[106, 111, 105, 110]⟩ rfl (w0 := w.alloc zeroStm) (T := w.heap.size + 1) (W := W) (s := s3) (vs := vs) (K := K) h)
  have hi1 : joinP s3 = if (mayBe [106, 111, 105, 110] [] s3).1 then (((nameP (mayBe [106, 111, 105, 110] [] s3).2).1, (exprP (needs [[111, 110]] (nameP (mayBe [106, 111, 105, 110] [] s3).2).2)).1), (exprP (needs [[111, 110]] (nameP (mayBe [106, 111, 105, 110] [] s3).2).2)).2) else (([], noEx), (mayBe [106, 111, 105, 110] [] s3).2) := rfl
  generalize joinP s3 = p_2 at hi1 ⊢
  obtain ⟨⟨n2, a1⟩, s4⟩ := p_2
  have H1_2 := hide hi1
  clear hi1
  generalize mayBe [106, 111, 105, 110] [] s3 = p_2 at cJ_2 H1_2
  obtain ⟨b1_2, t1_2⟩ := p_2
  simp only at cJ_2 H1_2 ⊢
  have cM2_2 := hide (fun W vs K h => Go.Proofs.YtedinkoapieakaaDoor.names (c := c) (w0 := w.alloc zeroStm) (T := w.heap.size + 1) (W := W) (s := t1_2) (vs := vs) (K := K) h)
  generalize nameP t1_2 = p_2 at cM2_2 H1_2
  obtain ⟨m2_2, t2_2⟩ := p_2
  have cN2_2 := hide (fun (A : Nat) (W : World) vs K (hA : A = W.heap.size) h => need1s (c := c) [111, 110] ⟨#[111, 110]⟩ rfl (w0 := w.alloc zeroStm) (T := w.heap.size + 1) (W := W) (s := t2_2) (vs := vs) (K := K) hA h)
  simp only at cM2_2 H1_2
  generalize needs [[111, 110]] t2_2 = t3_2 at cN2_2 H1_2
  have cX_2 := hide (fun W vs K h => exprss (fun k => expr_is c k) (w0 := w.alloc zeroStm) (T := w.heap.size + 1) (W := W) (s := t3_2) (vs := vs) (K := K) h)
  generalize exprP t3_2 = p_2 at cX_2 H1_2
  obtain ⟨a0_2, t4_2⟩ := p_2
  simp only at cX_2 H1_2
  have cW_3 := hide (fun W vs K h => exprss (fun k => where_part c k) (w0 := w.alloc zeroStm) (T := w.heap.size + 1) (W := W) (s := s4) (vs := vs) (K := K) h)
  generalize whereP s4 = p_3 at cW_3 ⊢
  obtain ⟨a2, s5⟩ := p_3
  simp only at cW_3 ⊢
  have cG_3 := hide (fun W vs K h => may1s (c := c) [103, 114, 111, 117, 112] [98, 121] ⟨#[103, 114, 111, 117, 112]⟩ ⟨#[98, 121]⟩ rfl rfl (w0 := w.alloc zeroStm) (T := w.heap.size + 1) (W := W) (s := s5) (vs := vs) (K := K) rfl h)
  have hi1 : groupsP s5 = if (mayBe [103, 114, 111, 117, 112] [[98, 121]] s5).1 then listP columnOfP comma (mayBe [103, 114, 111, 117, 112] [[98, 121]] s5).2 else ([], (mayBe [103, 114, 111, 117, 112] [[98, 121]] s5).2) := rfl
  generalize groupsP s5 = p_3 at hi1 ⊢
  obtain ⟨l2, s6⟩ := p_3
  have H1_3 := hide hi1
  clear hi1
  generalize mayBe [103, 114, 111, 117, 112] [[98, 121]] s5 = p_3 at cG_3 H1_3
  obtain ⟨b1_3, t1_3⟩ := p_3
  simp only at cG_3 H1_3 ⊢
  have cL_3 := hide (fun W vs K h => (listEx_row c).call (w0 := w.alloc zeroStm) (T := w.heap.size + 1) (W := W) (s := t1_3) (vs := vs) (L := K) h)
  generalize listP columnOfP comma t1_3 = p_3 at cL_3 H1_3
  have cG_4 := hide (fun W vs K h => may1s (c := c) [111, 114, 100, 101, 114] [98, 121] ⟨#[111, 114, 100, 101, 114]⟩ ⟨#[98, 121]⟩ rfl rfl (w0 := w.alloc zeroStm) (T := w.heap.size + 1) (W := W) (s := s6) (vs := vs) (K := K) rfl h)
  have hi1 : ordersP s6 = if (mayBe [111, 114, 100, 101, 114] [[98, 121]] s6).1 then listP orderP comma (mayBe [111, 114, 100, 101, 114] [[98, 121]] s6).2 else ([], (mayBe [111, 114, 100, 101, 114] [[98, 121]] s6).2) := rfl
  generalize ordersP s6 = p_4 at hi1 ⊢
  obtain ⟨l3, s7⟩ := p_4
  have H1_4 := hide hi1
  clear hi1
  generalize mayBe [111, 114, 100, 101, 114] [[98, 121]] s6 = p_4 at cG_4 H1_4
  obtain ⟨b1_4, t1_4⟩ := p_4
  simp only at cG_4 H1_4 ⊢
  have cL_4 := hide (fun W vs K h => (listOrd_row c).call (w0 := w.alloc zeroStm) (T := w.heap.size + 1) (W := W) (s := t1_4) (vs := vs) (L := K) h)
  generalize listP orderP comma t1_4 = p_4 at cL_4 H1_4
  have cG_5 := hide (fun W vs K h => may0s (c := c) [108, 105, 109, 105, 116] ⟨#[108, 105, 109, 105, 116]⟩ rfl (w0 := w.alloc zeroStm) (T := w.heap.size + 1) (W := W) (s := s7) (vs := vs) (K := K) h)
  have hi1 : limitP s7 = if (mayBe [108, 105, 109, 105, 116] [] s7).1 then ((true, (numberP (mayBe [108, 105, 109, 105, 116] [] s7).2).1), (numberP (mayBe [108, 105, 109, 105, 116] [] s7).2).2) else ((false, 0), (mayBe [108, 105, 109, 105, 116] [] s7).2) := rfl
  generalize limitP s7 = p_5 at hi1 ⊢
  obtain ⟨⟨lb, ln⟩, s8⟩ := p_5
  have H1_5 := hide hi1
  clear hi1
  generalize mayBe [108, 105, 109, 105, 116] [] s7 = p_5 at cG_5 H1_5
  obtain ⟨b1_5, t1_5⟩ := p_5
  simp only at cG_5 H1_5 ⊢
  have cL_5 := hide (fun W vs K h => numbers (c := c) (w0 := w.alloc zeroStm) (T := w.heap.size + 1) (W := W) (s := t1_5) (vs := vs) (K := K) h)
  generalize numberP t1_5 = p_5 at cL_5 H1_5
  obtain ⟨m1_5, t2_5⟩ := p_5
  simp only at cL_5 H1_5
  go_enter Tryd.func48, Tryd.ntmps48
  go_upto_if 7 with (first
    | (refine wpList_store_mid rfl 38 (.tmp 3) (.tmp 4) rfl (w.heap.size + 1) 0 (stmCells (⟨6, ⟨#[]⟩, ⟨#[]⟩, ⟨#[]⟩, noSL, noSL, noSL, noSL, noED, noED, noSL, noSL, false, 0⟩ : SD)).toArray rfl rfl HT.out (stm_size _) (stm_one _) ?_; rw [Hei.out])
    | (go_at_call 76; refine (cS.out _ _ _ HI).mono ?_; rintro e w1 ⟨rfl, hR1, HB⟩))
  go_cut [] from 4 (fun wc => c.R < wc.heap.size ∧ Hid (∃ y, SV c (w.alloc zeroStm) (w.heap.size + 1) wc s1 (stmCells (⟨6, ⟨#[]⟩, ⟨#[]⟩, ⟨#[]⟩, noSL, noSL, y, noSL, noED, noED, noSL, noSL, false, 0⟩ : SD)) (fun W => RowIs kEx (w.heap.size + 1 + 1) 35 8 W y l1)))
  case first =>
    cases b1 with
    | true =>
      have HE : Hid (l1 = [] ∧ s1 = t1) := by have := H1.out; simp only [if_true] at this; cases this; exact ⟨rfl, rfl⟩
      go_wp2
      go_meet
      obtain ⟨rfl, rfl⟩ := HE.out
      exact ⟨hR1, noSL, HB.out.conv (RowIs.nil _ _ _ _ _) Firm.row⟩
    | false =>
      have HE : Hid ((l1, s1) = p) := by have := H1.out; simp only [Bool.false_eq_true, if_false] at this; exact this
      go_wp2_with (go_at_call 71; refine (cE.out _ _ _ HB).mono ?_; rintro e w2 ⟨y, rfl, hR2, HB2⟩; have x6 := HB2.out.var.2.1 6 _ rfl; have xf6 := HB2.out.var.2.2; have HB3 : Hid (SV c (w.alloc zeroStm) (w.heap.size + 1) _ _ (stmCells (⟨6, ⟨#[]⟩, ⟨#[]⟩, ⟨#[]⟩, noSL, noSL, y, noSL, noED, noED, noSL, noSL, false, 0⟩ : SD)) _) := HB2.out.put (j := 6) (show 6 < 28 by decide) (.slice y.ao y.n y.cap))
      go_meet
      refine ⟨by simp [World.setCell]; exact hR2, y, ?_⟩
      obtain ⟨l, s2⟩ := p
      cases HE.out
      exact HB3.out.conv HB3.out.k.2 Firm.row
  case rest =>
    obtain ⟨hRc, HC⟩ := hcut
    obtain ⟨y, hC⟩ := HC.out
    have HA := hide hC
    clear HC hC cS cE H1 HB HI Hei HT hRi hR1
    go_upto_if 18 with (first
      | (go_at_call 69; refine (cN_2.out _ _ _ HA).mono ?_; rintro e w1 ⟨rfl, hR1, HB⟩)
      | (go_at_call 70; refine (cM_2.out _ _ _ HB).mono ?_; rintro e w2 ⟨rfl, hR2, HB2⟩; have x2 := HB2.out.var.2.1 2 _ rfl; have xf2 := HB2.out.var.2.2; have HB3 : Hid (SV c (w.alloc zeroStm) (w.heap.size + 1) _ _ (stmCells (⟨6, ⟨#[]⟩, str n1, ⟨#[]⟩, noSL, noSL, y, noSL, noED, noED, noSL, noSL, false, 0⟩ : SD)) _) := HB2.out.put (j := 2) (show 2 < 28 by decide) (.string (str n1)))
      | (go_at_call 76; refine (cJ_2.out _ _ _ HB3).mono ?_; rintro e w3 ⟨rfl, hR3, HB4⟩))
    go_cut [] from 4 (fun wc => c.R < wc.heap.size ∧ Hid (∃ d, SV c (w.alloc zeroStm) (w.heap.size + 1) wc s4 (stmCells (⟨6, ⟨#[]⟩, str n1, str n2, noSL, noSL, y, noSL, d, noED, noSL, noSL, false, 0⟩ : SD)) (fun W => RowIs kEx (w.heap.size + 1 + 1) 35 8 W y l1 ∧ IsEx (fun b => w.heap.size + 1 + 1 ≤ b) W a1 d)))
    case first =>
      cases b1_2 with
      | false =>
        have HE : Hid (n2 = [] ∧ a1 = noEx ∧ s4 = t1_2) := by have := H1_2.out; simp only [Bool.false_eq_true, if_false] at this; cases this; exact ⟨rfl, rfl, rfl⟩
        go_wp2
        go_meet
        obtain ⟨rfl, rfl, rfl⟩ := HE.out
        exact ⟨hR3, noED, HB4.out.conv ⟨HB4.out.k, IsEx.none _ _⟩ (Firm.row.and Firm.ex)⟩
      | true =>
        have HE : Hid (n2 = m2_2 ∧ a1 = a0_2 ∧ s4 = t4_2) := by have := H1_2.out; simp only [if_true] at this; cases this; exact ⟨rfl, rfl, rfl⟩
        obtain ⟨rfl, rfl, rfl⟩ := HE.out
        go_wp2_with (first
          | (go_at_call 70; refine (cM2_2.out _ _ _ HB4).mono ?_; rintro e w4 ⟨rfl, hR4, HB5⟩; have x3 := HB5.out.var.2.1 3 _ rfl; have xf3 := HB5.out.var.2.2; have HB6 : Hid (SV c (w.alloc zeroStm) (w.heap.size + 1) _ _ (stmCells (⟨6, ⟨#[]⟩, str n1, str n2, noSL, noSL, y, noSL, noED, noED, noSL, noSL, false, 0⟩ : SD)) _) := HB5.out.put (j := 3) (show 3 < 28 by decide) (.string (str n2)))
          | (go_at_call 69; refine (cN2_2.out w4.heap.size _ _ _ (by simp [World.setCell]) HB6).mono ?_; rintro e w5 ⟨rfl, hR5, HB7⟩)
          | (go_at_call 77; refine (cX_2.out _ _ _ HB7).mono ?_; rintro e w6 ⟨d, rfl, hR6, HB8⟩)
          | (refine wpList_store_mid rfl 35 (.tmp 27) (.tmp 26) rfl (w.heap.size + 1) 8 (exCells d).toArray rfl rfl (HB8.out.var.there (show 8 + 8 ≤ 28 by decide)) (ex_size _) (ex_one _) ?_; obtain ⟨w7, ex, hRx, HB9⟩ := HB8.out.putEx 8 d (show 8 + 8 ≤ 28 by decide) (us := stmCells (⟨6, ⟨#[]⟩, str n1, str n2, noSL, noSL, y, noSL, d, noED, noSL, noSL, false, 0⟩ : SD)) rfl; rw [ex]; clear ex))
        go_meet
        exact ⟨hRx, d, HB9.out.conv HB9.out.k (Firm.row.and Firm.ex)⟩
    case rest =>
      obtain ⟨hRc2, HC⟩ := hcut
      obtain ⟨d, hC⟩ := HC.out
      have HA2 := hide hC
      clear HC hC cN_2 cM_2 cJ_2 cM2_2 cN2_2 cX_2 H1_2 HA HB HB2 HB3 HB4 hRc hR1 hR2 hR3 x2 xf2
      go_upto_if 33 with (first
        | (go_at_call 75; refine (cW_3.out _ _ _ HA2).mono ?_; rintro e w1 ⟨d2, rfl, hR1, HB⟩)
        | (refine wpList_store_mid rfl 35 (.tmp 30) (.tmp 29) rfl (w.heap.size + 1) 16 (exCells d2).toArray rfl rfl (HB.out.var.there (show 16 + 8 ≤ 28 by decide)) (ex_size _) (ex_one _) ?_; obtain ⟨w2, ex, hRx, HB2⟩ := HB.out.putEx 16 d2 (show 16 + 8 ≤ 28 by decide) (us := stmCells (⟨6, ⟨#[]⟩, str n1, str n2, noSL, noSL, y, noSL, d, d2, noSL, noSL, false, 0⟩ : SD)) rfl; rw [ex]; clear ex)
        | (go_at_call 76; refine (cG_3.out _ _ _ HB2).mono ?_; rintro e w3 ⟨rfl, hR3, HB3⟩))
      go_cut [] from 4 (fun wc => c.R < wc.heap.size ∧ Hid (∃ g, SV c (w.alloc zeroStm) (w.heap.size + 1) wc s6 (stmCells (⟨6, ⟨#[]⟩, str n1, str n2, noSL, noSL, y, noSL, d, d2, g, noSL, false, 0⟩ : SD)) (fun W => ((RowIs kEx (w.heap.size + 1 + 1) 35 8 W y l1 ∧ IsEx (fun b => w.heap.size + 1 + 1 ≤ b) W a1 d) ∧ IsEx (fun b => w.heap.size + 1 + 1 ≤ b) W a2 d2) ∧ RowIs kEx (w.heap.size + 1 + 1) 35 8 W g l2)))
      case first =>
        cases b1_3 with
        | false =>
          have HE : Hid (l2 = [] ∧ s6 = t1_3) := by have := H1_3.out; simp only [Bool.false_eq_true, if_false] at this; cases this; exact ⟨rfl, rfl⟩
          go_wp2
          go_meet
          obtain ⟨rfl, rfl⟩ := HE.out
          exact ⟨hR3, noSL, HB3.out.conv ⟨HB3.out.k, RowIs.nil _ _ _ _ _⟩ (((Firm.row.and Firm.ex).and Firm.ex).and Firm.row)⟩
        | true =>
          have HE : Hid ((l2, s6) = p_3) := by have := H1_3.out; simp only [if_true] at this; exact this
          go_wp2_with (go_at_call 78; refine (cL_3.out _ _ _ HB3).mono ?_; rintro e w4 ⟨g, rfl, hR4, HB4⟩; have x24 := HB4.out.var.2.1 24 _ rfl; have xf24 := HB4.out.var.2.2; have HB5 : Hid (SV c (w.alloc zeroStm) (w.heap.size + 1) _ _ (stmCells (⟨6, ⟨#[]⟩, str n1, str n2, noSL, noSL, y, noSL, d, d2, g, noSL, false, 0⟩ : SD)) _) := HB4.out.put (j := 24) (show 24 < 28 by decide) (.slice g.ao g.n g.cap))
          go_meet
          refine ⟨by simp [World.setCell]; exact hR4, g, ?_⟩
          obtain ⟨l, s2⟩ := p_3
          cases HE.out
          exact HB5.out.conv HB5.out.k (((Firm.row.and Firm.ex).and Firm.ex).and Firm.row)
      case rest =>
        obtain ⟨hRc3, HC⟩ := hcut
        obtain ⟨g, hC⟩ := HC.out
        have HA3 := hide hC
        clear HC hC cW_3 cG_3 cL_3 H1_3 HA2 HB HB2 HB3 hRc2 hR1 hRx hR3
        go_upto_if 42 with (go_at_call 76; refine (cG_4.out _ _ _ HA3).mono ?_; rintro e w3 ⟨rfl, hR3, HB3⟩)
        go_cut [] from 4 (fun wc => c.R < wc.heap.size ∧ Hid (∃ o, SV c (w.alloc zeroStm) (w.heap.size + 1) wc s7 (stmCells (⟨6, ⟨#[]⟩, str n1, str n2, noSL, noSL, y, noSL, d, d2, g, o, false, 0⟩ : SD)) (fun W => (((RowIs kEx (w.heap.size + 1 + 1) 35 8 W y l1 ∧ IsEx (fun b => w.heap.size + 1 + 1 ≤ b) W a1 d) ∧ IsEx (fun b => w.heap.size + 1 + 1 ≤ b) W a2 d2) ∧ RowIs kEx (w.heap.size + 1 + 1) 35 8 W g l2) ∧ RowIs kOrd (w.heap.size + 1 + 1) 76 2 W o l3)))
        case first =>
          cases b1_4 with
          | false =>
            have HE : Hid (l3 = [] ∧ s7 = t1_4) := by have := H1_4.out; simp only [Bool.false_eq_true, if_false] at this; cases this; exact ⟨rfl, rfl⟩
            go_wp2
            go_meet
            obtain ⟨rfl, rfl⟩ := HE.out
            exact ⟨hR3, noSL, HB3.out.conv ⟨HB3.out.k, RowIs.nil _ _ _ _ _⟩ ((((Firm.row.and Firm.ex).and Firm.ex).and Firm.row).and Firm.row)⟩
          | true =>
            have HE : Hid ((l3, s7) = p_4) := by have := H1_4.out; simp only [if_true] at this; exact this
            go_wp2_with (go_at_call 80; refine (cL_4.out _ _ _ HB3).mono ?_; rintro e w4 ⟨o, rfl, hR4, HB4⟩; have x25 := HB4.out.var.2.1 25 _ rfl; have xf25 := HB4.out.var.2.2; have HB5 : Hid (SV c (w.alloc zeroStm) (w.heap.size + 1) _ _ (stmCells (⟨6, ⟨#[]⟩, str n1, str n2, noSL, noSL, y, noSL, d, d2, g, o, false, 0⟩ : SD)) _) := HB4.out.put (j := 25) (show 25 < 28 by decide) (.slice o.ao o.n o.cap))
            go_meet
            refine ⟨by simp [World.setCell]; exact hR4, o, ?_⟩
            obtain ⟨l, s2⟩ := p_4
            cases HE.out
            exact HB5.out.conv HB5.out.k ((((Firm.row.and Firm.ex).and Firm.ex).and Firm.row).and Firm.row)
        case rest =>
          obtain ⟨hRc4, HC⟩ := hcut
          obtain ⟨o, hC⟩ := HC.out
          have HA4 := hide hC
          clear HC hC cG_4 cL_4 H1_4 HA3 HB3 hRc3 hR3
          go_upto_if 50 with (go_at_call 76; refine (cG_5.out _ _ _ HA4).mono ?_; rintro e w3 ⟨rfl, hR3, HB3⟩; have x26 := HB3.out.var.2.1 26 _ rfl; have xf26 := HB3.out.var.2.2; have HB4 : Hid (SV c (w.alloc zeroStm) (w.heap.size + 1) _ _ (stmCells (⟨6, ⟨#[]⟩, str n1, str n2, noSL, noSL, y, noSL, d, d2, g, o, true, 0⟩ : SD)) _) := HB3.out.put (j := 26) (show 26 < 28 by decide) (.bool true))
          go_cut [] from 4 (fun wc => c.R < wc.heap.size ∧ Hid (SV c (w.alloc zeroStm) (w.heap.size + 1) wc s8 (stmCells (⟨6, ⟨#[]⟩, str n1, str n2, noSL, noSL, y, noSL, d, d2, g, o, lb, ln⟩ : SD)) (fun W => (((RowIs kEx (w.heap.size + 1 + 1) 35 8 W y l1 ∧ IsEx (fun b => w.heap.size + 1 + 1 ≤ b) W a1 d) ∧ IsEx (fun b => w.heap.size + 1 + 1 ≤ b) W a2 d2) ∧ RowIs kEx (w.heap.size + 1 + 1) 35 8 W g l2) ∧ RowIs kOrd (w.heap.size + 1 + 1) 76 2 W o l3)))
          case first =>
            cases b1_5 with
            | false =>
              have HE : Hid (lb = false ∧ ln = 0 ∧ s8 = t1_5) := by have := H1_5.out; simp only [Bool.false_eq_true, if_false] at this; cases this; exact ⟨rfl, rfl, rfl⟩
              go_wp2
              go_meet
              obtain ⟨rfl, rfl, rfl⟩ := HE.out
              exact ⟨hR3, HB3⟩
            | true =>
              have HE : Hid (lb = true ∧ ln = m1_5 ∧ s8 = t2_5) := by have := H1_5.out; simp only [if_true] at this; cases this; exact ⟨rfl, rfl, rfl⟩
              obtain ⟨rfl, rfl, rfl⟩ := HE.out
              go_wp2_with (go_at_call 82; refine (cL_5.out _ _ _ HB4).mono ?_; rintro e w4 ⟨rfl, hR4, HB5⟩; have x27 := HB5.out.var.2.1 27 _ rfl; have xf27 := HB5.out.var.2.2; have HB6 : Hid (SV c (w.alloc zeroStm) (w.heap.size + 1) _ _ (stmCells (⟨6, ⟨#[]⟩, str n1, str n2, noSL, noSL, y, noSL, d, d2, g, o, true, ln⟩ : SD)) _) := HB5.out.put (j := 27) (show 27 < 28 by decide) (.int .i64 ln))
              go_meet
              exact ⟨by simp [World.setCell]; exact hR4, HB6⟩
          case rest =>
            obtain ⟨hRc5, HL⟩ := hcut
            clear cG_5 cL_5 H1_5 HA4 HB3 HB4 hRc4 hR3 x26 xf26
            go_wp2_with (first
              | (refine wpList_load_mid rfl 38 (.tmp 3) rfl (w.heap.size + 1) 0 rfl (stmCells (⟨6, ⟨#[]⟩, str n1, str n2, noSL, noSL, y, noSL, d, d2, g, o, lb, ln⟩ : SD)) _ HL.out.var.range Tryd.underlying38 rfl (stm_length _) ?_)
              | (refine wpList_store_mid rfl 38 (.tmp 2) (.tmp 55) rfl w.heap.size 0 (stmCells (⟨6, ⟨#[]⟩, str n1, str n2, noSL, noSL, y, noSL, d, d2, g, o, lb, ln⟩ : SD)).toArray rfl rfl (res_there HL.out.on hR _) (stm_size _) (stm_one _) ?_; obtain ⟨wf, ef, HR, HF⟩ := stm_fin (x := (⟨6, ⟨#[]⟩, str n1, str n2, noSL, noSL, y, noSL, d, d2, g, o, lb, ln⟩ : SD)) (t := ⟨6, [], n1, n2, [], [], l1, [], a1, a2, l2, l3, lb, ln⟩) HH.out HL.out.on (⟨rfl, rfl, rfl, rfl, RowIs.nil _ _ _ _ _, RowIs.nil _ _ _ _ _, HL.out.k.1.1.1.1.weak (Nat.le_succ _), RowIs.nil _ _ _ _ _, HL.out.k.1.1.1.2.low (Nat.le_succ _), HL.out.k.1.1.2.low (Nat.le_succ _), HL.out.k.1.2.weak (Nat.le_succ _), HL.out.k.2.weak (Nat.le_succ _), rfl, rfl⟩); rw [ef]; clear ef))
            exact bodyPost_ret (results_stm rfl rfl HR.out) rfl ⟨_, rfl, HF.out.1, HF.out.2⟩

end Go.Proofs.YtedinkoapieakaaDoor
