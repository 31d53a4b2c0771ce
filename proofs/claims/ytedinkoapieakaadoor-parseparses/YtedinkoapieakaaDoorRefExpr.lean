/- The document's own parser: parts with signs between them, from the left: contracts, at every state. -/
import Derived.Test.YtedinkoapieakaaDoorRefMade
import Derived.Deep.RegionWith
import Derived.Deep.Cut
namespace Go.Proofs.YtedinkoapieakaaDoor
open Go.ChangeShapes Go.WideShapes Go.ChangeAt Go.RowKit

set_option maxRecDepth 100000 in
set_option maxHeartbeats 4000000 in
theorem orHere_part {c : RC} {k : Nat} {ex : St → Ex × St} (hx : Shrinks ex) (hp : Partr 86 c (bothP ex) k) : Partr 55 c (orP ex) k := by
  intro w s hs h
  have hR := h.lt
  have HH := hide h
  have HS := hide (bothP_shrinks hx)
  have HP := hide hp
  have cP : Calls Tryd.prog 86 #[.pointer (some ⟨c.R, 0, none⟩)] (w.alloc zeroEx) fun e w1 => ∃ d : ED, e = .returned (exval d) ∧ c.R < w1.heap.size ∧ Hid (LR c w w1.heap.size (w1.alloc (.cells #[.int .i64 d.op, .int .i64 d.vk, .int .i64 d.vi, .string d.vt, .string d.tb, .string d.nm, .int .i64 0, .slice d.ao d.n d.cap] 35)) (bothP ex s).1 d (bothP ex s).2 ∧ (bothP ex s).2.len < k) :=
    (hp (w.alloc zeroEx) s hs (h.alloc zeroEx).here).mono fun e w1 ⟨d, h1, h2, h3⟩ => ⟨d, h1, h2.lt, LR.new h2 (h3.weak (fun b hb _ => by simp at hb; omega)) hR, Nat.lt_of_le_of_lt (HS.out s) hs⟩
  have HL : Hid (leftLoop (bothP ex) [[111, 114]] ((bothP ex s).2.len + 1) (bothP ex s).1 (bothP ex s).2 = orP ex s) := rfl
  generalize orP ex s = N at HL ⊢
  generalize bothP ex = P at cP HL HS HP
  clear h hp
  generalize P s = p at cP HL
  obtain ⟨a0, s0⟩ := p
  simp only at cP HL
  go_enter Tryd.func55, Tryd.ntmps55
  go_wp2_with (go_at_call 86; refine cP.mono ?_; rintro e w1 ⟨d1, rfl, hR1, HB⟩)
  go_loopw [7] (fun _ wr => ∃ a d s1, c.R < wr.heap.size ∧ Hid (LR c w w1.heap.size wr a d s1 ∧ s1.len < k ∧ leftLoop P [[111, 114]] (s1.len + 1) a s1 = N)) (fun _ wr => lenOfr c wr)
  case atStart => exact ⟨a0, d1, s0, by simp; omega, HB.out.1, HB.out.2, HL.out⟩
  case round =>
    obtain ⟨a, d, s1, hRr, HQ⟩ := hrel
    have hsr := HQ.out.2.1
    have HM := hide HQ.out.1.on.lenOf
    cases b0 : isOne [[111, 114]] s1.next with
    | true =>
      have HE : Hid (leftLoop P [[111, 114]] ((P s1.adv).2.len + 1) (.bi 20 a (P s1.adv).1) (P s1.adv).2 = N) := by
        have h1 := HQ.out.2.2
        rw [left_yes HS.out (v := [111, 114]) (by decide) b0 (by decide)] at h1
        exact h1
      have cT0 := hide (fun (W : World) (h : Hid (LR c w w1.heap.size W a d s1)) => LR.takes (c := c) [111, 114] ⟨#[111, 114]⟩ rfl (by decide) h)
      rw [may_yes (b := []) (by decide) b0] at cT0
      have hm1 := adv_len (isOne_kind b0)
      have hm2 := HS.out s1.adv
      have cQ := hide (fun W h => LR.part (w := w) (T := w1.heap.size) HP.out (W := W) (a := a) (d := d) (s := s1.adv) (by omega) h)
      generalize P s1.adv = r at cQ HE hm2
      obtain ⟨a2, s3⟩ := r
      simp only at cQ HE hm2
      have hm3 : s3.len < s1.len := by omega
      have hm4 : s3.len < k := by omega
      have H0 : Hid (LR c w w1.heap.size wr a d s1) := HQ.out.1
      clear HQ hm1 hm2 hsr b0
      go_wp2_with (first
        | (go_at_call 50; (with_reducible refine (cT0.out _ H0).mono ?_); rintro e v0 ⟨rfl, hV0, H1⟩; obtain ⟨v0, v1, v2, v3, v4, v5, v6, v7⟩ := H1.out.var.cells; have HD := hide H1.out.drew))
      go_region_with (first
        | (go_at_call 86; (with_reducible refine (cQ.out _ ?_).mono ?_); assumption; rintro e w4 ⟨d2, rfl, hR4, HB4⟩; obtain ⟨u0, u1, u2, u3, u4, u5, u6, u7⟩ := HB4.out.1.var.cells)
        | (go_at_call 87; (with_reducible refine (LR.made _ HB4).mono ?_); rintro e w5 ⟨d3, rfl, hR5, HB5⟩; obtain ⟨x0, x1, x2, x3, x4, x5, x6, x7⟩ := HB5.out.1.var.cells; have f5 := HB5.out.1.var.2.2))
      all_goals
        obtain ⟨W8, e8, h8⟩ := LR.stored HB5.out.1 HB5.out.2
        rw [e8]
        go_roundw
        case rel => exact ⟨_, _, _, _, _, _, ⟨_, d3, s3, h8.on.lt, h8, hm4, HE.out⟩, rfl⟩
        case measure => rw [h8.on.lenOf, HM.out]; exact hm3
    | false =>
      have HE : Hid (N = (a, s1)) := by
        have h1 := HQ.out.2.2
        rw [left_no (by intro v hv; simp only [List.mem_cons, List.not_mem_nil, or_false] at hv; subst hv; all_goals assumption)] at h1
        exact h1.symm
      have cT0 := hide (fun (W : World) (h : Hid (LR c w w1.heap.size W a d s1)) => LR.takes (c := c) [111, 114] ⟨#[111, 114]⟩ rfl (by decide) h)
      rw [may_no b0] at cT0
      have H0 : Hid (LR c w w1.heap.size wr a d s1) := HQ.out.1
      clear HQ hsr b0
      go_wp2_with (first
        | (go_at_call 50; (with_reducible refine (cT0.out _ H0).mono ?_); rintro e v0 ⟨rfl, hV0, H1⟩; obtain ⟨v0, v1, v2, v3, v4, v5, v6, v7⟩ := H1.out.var.cells; obtain ⟨⟨k0, k1, k2, k3, k4, k5, k6, k7⟩, f⟩ := resr_cells H1.out.on hR))
      obtain ⟨W3, e3, ⟨c0, c1, c2, c3, c4, c5, c6, c7⟩, hO3, hI3⟩ := resr8 H1.out.on hR HH.out d (H1.out.ex.weak (fun b hb _ => hb.1))
      rw [e3, HE.out]
      exact bodyPost_ret (v := exval d) (by simp [results, Tryd.results55, go_sem, asAddr, c0, c1, c2, c3, c4, c5, c6, c7]) rfl ⟨d, rfl, hO3, hI3⟩

set_option maxRecDepth 100000 in
set_option maxHeartbeats 4000000 in
theorem andHere_part {c : RC} {k : Nat} {ex : St → Ex × St} (hx : Shrinks ex) (hp : Partr 102 c (noP ex) k) : Partr 86 c (bothP ex) k := by
  intro w s hs h
  have hR := h.lt
  have HH := hide h
  have HS := hide (noP_shrinks hx)
  have HP := hide hp
  have cP : Calls Tryd.prog 102 #[.pointer (some ⟨c.R, 0, none⟩)] (w.alloc zeroEx) fun e w1 => ∃ d : ED, e = .returned (exval d) ∧ c.R < w1.heap.size ∧ Hid (LR c w w1.heap.size (w1.alloc (.cells #[.int .i64 d.op, .int .i64 d.vk, .int .i64 d.vi, .string d.vt, .string d.tb, .string d.nm, .int .i64 0, .slice d.ao d.n d.cap] 35)) (noP ex s).1 d (noP ex s).2 ∧ (noP ex s).2.len < k) :=
    (hp (w.alloc zeroEx) s hs (h.alloc zeroEx).here).mono fun e w1 ⟨d, h1, h2, h3⟩ => ⟨d, h1, h2.lt, LR.new h2 (h3.weak (fun b hb _ => by simp at hb; omega)) hR, Nat.lt_of_le_of_lt (HS.out s) hs⟩
  have HL : Hid (leftLoop (noP ex) [[97, 110, 100]] ((noP ex s).2.len + 1) (noP ex s).1 (noP ex s).2 = bothP ex s) := rfl
  generalize bothP ex s = N at HL ⊢
  generalize noP ex = P at cP HL HS HP
  clear h hp
  generalize P s = p at cP HL
  obtain ⟨a0, s0⟩ := p
  simp only at cP HL
  go_enter Tryd.func86, Tryd.ntmps86
  go_wp2_with (go_at_call 102; refine cP.mono ?_; rintro e w1 ⟨d1, rfl, hR1, HB⟩)
  go_loopw [7] (fun _ wr => ∃ a d s1, c.R < wr.heap.size ∧ Hid (LR c w w1.heap.size wr a d s1 ∧ s1.len < k ∧ leftLoop P [[97, 110, 100]] (s1.len + 1) a s1 = N)) (fun _ wr => lenOfr c wr)
  case atStart => exact ⟨a0, d1, s0, by simp; omega, HB.out.1, HB.out.2, HL.out⟩
  case round =>
    obtain ⟨a, d, s1, hRr, HQ⟩ := hrel
    have hsr := HQ.out.2.1
    have HM := hide HQ.out.1.on.lenOf
    cases b0 : isOne [[97, 110, 100]] s1.next with
    | true =>
      have HE : Hid (leftLoop P [[97, 110, 100]] ((P s1.adv).2.len + 1) (.bi 19 a (P s1.adv).1) (P s1.adv).2 = N) := by
        have h1 := HQ.out.2.2
        rw [left_yes HS.out (v := [97, 110, 100]) (by decide) b0 (by decide)] at h1
        exact h1
      have cT0 := hide (fun (W : World) (h : Hid (LR c w w1.heap.size W a d s1)) => LR.takes (c := c) [97, 110, 100] ⟨#[97, 110, 100]⟩ rfl (by decide) h)
      rw [may_yes (b := []) (by decide) b0] at cT0
      have hm1 := adv_len (isOne_kind b0)
      have hm2 := HS.out s1.adv
      have cQ := hide (fun W h => LR.part (w := w) (T := w1.heap.size) HP.out (W := W) (a := a) (d := d) (s := s1.adv) (by omega) h)
      generalize P s1.adv = r at cQ HE hm2
      obtain ⟨a2, s3⟩ := r
      simp only at cQ HE hm2
      have hm3 : s3.len < s1.len := by omega
      have hm4 : s3.len < k := by omega
      have H0 : Hid (LR c w w1.heap.size wr a d s1) := HQ.out.1
      clear HQ hm1 hm2 hsr b0
      go_wp2_with (first
        | (go_at_call 50; (with_reducible refine (cT0.out _ H0).mono ?_); rintro e v0 ⟨rfl, hV0, H1⟩; obtain ⟨v0, v1, v2, v3, v4, v5, v6, v7⟩ := H1.out.var.cells; have HD := hide H1.out.drew))
      go_region_with (first
        | (go_at_call 102; (with_reducible refine (cQ.out _ ?_).mono ?_); assumption; rintro e w4 ⟨d2, rfl, hR4, HB4⟩; obtain ⟨u0, u1, u2, u3, u4, u5, u6, u7⟩ := HB4.out.1.var.cells)
        | (go_at_call 87; (with_reducible refine (LR.made _ HB4).mono ?_); rintro e w5 ⟨d3, rfl, hR5, HB5⟩; obtain ⟨x0, x1, x2, x3, x4, x5, x6, x7⟩ := HB5.out.1.var.cells; have f5 := HB5.out.1.var.2.2))
      all_goals
        obtain ⟨W8, e8, h8⟩ := LR.stored HB5.out.1 HB5.out.2
        rw [e8]
        go_roundw
        case rel => exact ⟨_, _, _, _, _, _, ⟨_, d3, s3, h8.on.lt, h8, hm4, HE.out⟩, rfl⟩
        case measure => rw [h8.on.lenOf, HM.out]; exact hm3
    | false =>
      have HE : Hid (N = (a, s1)) := by
        have h1 := HQ.out.2.2
        rw [left_no (by intro v hv; simp only [List.mem_cons, List.not_mem_nil, or_false] at hv; subst hv; all_goals assumption)] at h1
        exact h1.symm
      have cT0 := hide (fun (W : World) (h : Hid (LR c w w1.heap.size W a d s1)) => LR.takes (c := c) [97, 110, 100] ⟨#[97, 110, 100]⟩ rfl (by decide) h)
      rw [may_no b0] at cT0
      have H0 : Hid (LR c w w1.heap.size wr a d s1) := HQ.out.1
      clear HQ hsr b0
      go_wp2_with (first
        | (go_at_call 50; (with_reducible refine (cT0.out _ H0).mono ?_); rintro e v0 ⟨rfl, hV0, H1⟩; obtain ⟨v0, v1, v2, v3, v4, v5, v6, v7⟩ := H1.out.var.cells; obtain ⟨⟨k0, k1, k2, k3, k4, k5, k6, k7⟩, f⟩ := resr_cells H1.out.on hR))
      obtain ⟨W3, e3, ⟨c0, c1, c2, c3, c4, c5, c6, c7⟩, hO3, hI3⟩ := resr8 H1.out.on hR HH.out d (H1.out.ex.weak (fun b hb _ => hb.1))
      rw [e3, HE.out]
      exact bodyPost_ret (v := exval d) (by simp [results, Tryd.results86, go_sem, asAddr, c0, c1, c2, c3, c4, c5, c6, c7]) rfl ⟨d, rfl, hO3, hI3⟩

set_option maxRecDepth 100000 in
set_option maxHeartbeats 4000000 in
theorem sumHere_part {c : RC} {k : Nat} {ex : St → Ex × St} (hx : Shrinks ex) (hp : Partr 126 c (timesP ex) k) : Partr 123 c (sumP ex) k := by
  intro w s hs h
  have hR := h.lt
  have HH := hide h
  have HS := hide (timesP_shrinks hx)
  have HP := hide hp
  have cP : Calls Tryd.prog 126 #[.pointer (some ⟨c.R, 0, none⟩)] (w.alloc zeroEx) fun e w1 => ∃ d : ED, e = .returned (exval d) ∧ c.R < w1.heap.size ∧ Hid (LR c w w1.heap.size (w1.alloc (.cells #[.int .i64 d.op, .int .i64 d.vk, .int .i64 d.vi, .string d.vt, .string d.tb, .string d.nm, .int .i64 0, .slice d.ao d.n d.cap] 35)) (timesP ex s).1 d (timesP ex s).2 ∧ (timesP ex s).2.len < k) :=
    (hp (w.alloc zeroEx) s hs (h.alloc zeroEx).here).mono fun e w1 ⟨d, h1, h2, h3⟩ => ⟨d, h1, h2.lt, LR.new h2 (h3.weak (fun b hb _ => by simp at hb; omega)) hR, Nat.lt_of_le_of_lt (HS.out s) hs⟩
  have HL : Hid (leftLoop (timesP ex) [[43], [45]] ((timesP ex s).2.len + 1) (timesP ex s).1 (timesP ex s).2 = sumP ex s) := rfl
  generalize sumP ex s = N at HL ⊢
  generalize timesP ex = P at cP HL HS HP
  clear h hp
  generalize P s = p at cP HL
  obtain ⟨a0, s0⟩ := p
  simp only at cP HL
  go_enter Tryd.func123, Tryd.ntmps123
  go_wp2_with (go_at_call 126; refine cP.mono ?_; rintro e w1 ⟨d1, rfl, hR1, HB⟩)
  go_loopw [7] (fun _ wr => ∃ a d s1, c.R < wr.heap.size ∧ Hid (LR c w w1.heap.size wr a d s1 ∧ s1.len < k ∧ leftLoop P [[43], [45]] (s1.len + 1) a s1 = N)) (fun _ wr => lenOfr c wr)
  case atStart => exact ⟨a0, d1, s0, by simp; omega, HB.out.1, HB.out.2, HL.out⟩
  case round =>
    obtain ⟨a, d, s1, hRr, HQ⟩ := hrel
    have hsr := HQ.out.2.1
    have HM := hide HQ.out.1.on.lenOf
    cases b0 : isOne [[43]] s1.next with
    | true =>
      have HE : Hid (leftLoop P [[43], [45]] ((P s1.adv).2.len + 1) (.bi 8 a (P s1.adv).1) (P s1.adv).2 = N) := by
        have h1 := HQ.out.2.2
        rw [left_yes HS.out (v := [43]) (by decide) b0 (by decide)] at h1
        exact h1
      have cT0 := hide (fun (W : World) (h : Hid (LR c w w1.heap.size W a d s1)) => LR.takes (c := c) [43] ⟨#[43]⟩ rfl (by decide) h)
      rw [may_yes (b := []) (by decide) b0] at cT0
      have hm1 := adv_len (isOne_kind b0)
      have hm2 := HS.out s1.adv
      have cQ := hide (fun W h => LR.part (w := w) (T := w1.heap.size) HP.out (W := W) (a := a) (d := d) (s := s1.adv) (by omega) h)
      generalize P s1.adv = r at cQ HE hm2
      obtain ⟨a2, s3⟩ := r
      simp only at cQ HE hm2
      have hm3 : s3.len < s1.len := by omega
      have hm4 : s3.len < k := by omega
      have H0 : Hid (LR c w w1.heap.size wr a d s1) := HQ.out.1
      clear HQ hm1 hm2 hsr b0
      go_wp2_with (first
        | (go_at_call 50; (with_reducible refine (cT0.out _ H0).mono ?_); rintro e v0 ⟨rfl, hV0, H1⟩; obtain ⟨v0, v1, v2, v3, v4, v5, v6, v7⟩ := H1.out.var.cells; have HD := hide H1.out.drew))
      go_region_with (first
        | (go_at_call 126; (with_reducible refine (cQ.out _ ?_).mono ?_); assumption; rintro e w4 ⟨d2, rfl, hR4, HB4⟩; obtain ⟨u0, u1, u2, u3, u4, u5, u6, u7⟩ := HB4.out.1.var.cells)
        | (go_at_call 87; (with_reducible refine (LR.made _ HB4).mono ?_); rintro e w5 ⟨d3, rfl, hR5, HB5⟩; obtain ⟨x0, x1, x2, x3, x4, x5, x6, x7⟩ := HB5.out.1.var.cells; have f5 := HB5.out.1.var.2.2))
      all_goals
        obtain ⟨W8, e8, h8⟩ := LR.stored HB5.out.1 HB5.out.2
        rw [e8]
        go_roundw
        case rel => exact ⟨_, _, _, _, _, _, _, _, _, _, _, _, _, ⟨_, d3, s3, h8.on.lt, h8, hm4, HE.out⟩, rfl⟩
        case measure => rw [h8.on.lenOf, HM.out]; exact hm3
    | false =>
      cases b1 : isOne [[45]] s1.next with
      | true =>
        have HE : Hid (leftLoop P [[43], [45]] ((P s1.adv).2.len + 1) (.bi 9 a (P s1.adv).1) (P s1.adv).2 = N) := by
          have h1 := HQ.out.2.2
          rw [left_yes HS.out (v := [45]) (by decide) b1 (by decide)] at h1
          exact h1
        have cT0 := hide (fun (W : World) (h : Hid (LR c w w1.heap.size W a d s1)) => LR.takes (c := c) [43] ⟨#[43]⟩ rfl (by decide) h)
        rw [may_no b0] at cT0
        have cT1 := hide (fun (W : World) (h : Hid (LR c w w1.heap.size W a d s1)) => LR.takes (c := c) [45] ⟨#[45]⟩ rfl (by decide) h)
        rw [may_yes (b := []) (by decide) b1] at cT1
        have hm1 := adv_len (isOne_kind b1)
        have hm2 := HS.out s1.adv
        have cQ := hide (fun W h => LR.part (w := w) (T := w1.heap.size) HP.out (W := W) (a := a) (d := d) (s := s1.adv) (by omega) h)
        generalize P s1.adv = r at cQ HE hm2
        obtain ⟨a2, s3⟩ := r
        simp only at cQ HE hm2
        have hm3 : s3.len < s1.len := by omega
        have hm4 : s3.len < k := by omega
        have H0 : Hid (LR c w w1.heap.size wr a d s1) := HQ.out.1
        clear HQ hm1 hm2 hsr b0 b1
        go_wp2_with (first
          | (go_at_call 50; (with_reducible refine (cT0.out _ H0).mono ?_); rintro e v0 ⟨rfl, hV0, H1⟩)
          | (go_at_call 50; (with_reducible refine (cT1.out _ H1).mono ?_); rintro e v1 ⟨rfl, hV1, H2⟩; obtain ⟨v0, v1, v2, v3, v4, v5, v6, v7⟩ := H2.out.var.cells; have HD := hide H2.out.drew))
        go_region_with (first
          | (go_at_call 126; (with_reducible refine (cQ.out _ ?_).mono ?_); assumption; rintro e w4 ⟨d2, rfl, hR4, HB4⟩; obtain ⟨u0, u1, u2, u3, u4, u5, u6, u7⟩ := HB4.out.1.var.cells)
          | (go_at_call 87; (with_reducible refine (LR.made _ HB4).mono ?_); rintro e w5 ⟨d3, rfl, hR5, HB5⟩; obtain ⟨x0, x1, x2, x3, x4, x5, x6, x7⟩ := HB5.out.1.var.cells; have f5 := HB5.out.1.var.2.2))
        all_goals
          obtain ⟨W8, e8, h8⟩ := LR.stored HB5.out.1 HB5.out.2
          rw [e8]
          go_roundw
          case rel => exact ⟨_, _, _, _, _, _, _, _, _, _, _, _, _, ⟨_, d3, s3, h8.on.lt, h8, hm4, HE.out⟩, rfl⟩
          case measure => rw [h8.on.lenOf, HM.out]; exact hm3
      | false =>
        have HE : Hid (N = (a, s1)) := by
          have h1 := HQ.out.2.2
          rw [left_no (by intro v hv; simp only [List.mem_cons, List.not_mem_nil, or_false] at hv; rcases hv with rfl | rfl; all_goals assumption)] at h1
          exact h1.symm
        have cT0 := hide (fun (W : World) (h : Hid (LR c w w1.heap.size W a d s1)) => LR.takes (c := c) [43] ⟨#[43]⟩ rfl (by decide) h)
        rw [may_no b0] at cT0
        have cT1 := hide (fun (W : World) (h : Hid (LR c w w1.heap.size W a d s1)) => LR.takes (c := c) [45] ⟨#[45]⟩ rfl (by decide) h)
        rw [may_no b1] at cT1
        have H0 : Hid (LR c w w1.heap.size wr a d s1) := HQ.out.1
        clear HQ hsr b0 b1
        go_wp2_with (first
          | (go_at_call 50; (with_reducible refine (cT0.out _ H0).mono ?_); rintro e v0 ⟨rfl, hV0, H1⟩)
          | (go_at_call 50; (with_reducible refine (cT1.out _ H1).mono ?_); rintro e v1 ⟨rfl, hV1, H2⟩; obtain ⟨v0, v1, v2, v3, v4, v5, v6, v7⟩ := H2.out.var.cells; obtain ⟨⟨k0, k1, k2, k3, k4, k5, k6, k7⟩, f⟩ := resr_cells H2.out.on hR))
        obtain ⟨W3, e3, ⟨c0, c1, c2, c3, c4, c5, c6, c7⟩, hO3, hI3⟩ := resr8 H2.out.on hR HH.out d (H2.out.ex.weak (fun b hb _ => hb.1))
        rw [e3, HE.out]
        exact bodyPost_ret (v := exval d) (by simp [results, Tryd.results123, go_sem, asAddr, c0, c1, c2, c3, c4, c5, c6, c7]) rfl ⟨d, rfl, hO3, hI3⟩

set_option maxRecDepth 100000 in
set_option maxHeartbeats 4000000 in
theorem timesHere_part {c : RC} {k : Nat} {ex : St → Ex × St} (hx : Shrinks ex) (hp : Partr 129 c (minusP ex) k) : Partr 126 c (timesP ex) k := by
  intro w s hs h
  have hR := h.lt
  have HH := hide h
  have HS := hide (minusP_shrinks hx)
  have HP := hide hp
  have cP : Calls Tryd.prog 129 #[.pointer (some ⟨c.R, 0, none⟩)] (w.alloc zeroEx) fun e w1 => ∃ d : ED, e = .returned (exval d) ∧ c.R < w1.heap.size ∧ Hid (LR c w w1.heap.size (w1.alloc (.cells #[.int .i64 d.op, .int .i64 d.vk, .int .i64 d.vi, .string d.vt, .string d.tb, .string d.nm, .int .i64 0, .slice d.ao d.n d.cap] 35)) (minusP ex s).1 d (minusP ex s).2 ∧ (minusP ex s).2.len < k) :=
    (hp (w.alloc zeroEx) s hs (h.alloc zeroEx).here).mono fun e w1 ⟨d, h1, h2, h3⟩ => ⟨d, h1, h2.lt, LR.new h2 (h3.weak (fun b hb _ => by simp at hb; omega)) hR, Nat.lt_of_le_of_lt (HS.out s) hs⟩
  have HL : Hid (leftLoop (minusP ex) [[42], [47], [37]] ((minusP ex s).2.len + 1) (minusP ex s).1 (minusP ex s).2 = timesP ex s) := rfl
  generalize timesP ex s = N at HL ⊢
  generalize minusP ex = P at cP HL HS HP
  clear h hp
  generalize P s = p at cP HL
  obtain ⟨a0, s0⟩ := p
  simp only at cP HL
  go_enter Tryd.func126, Tryd.ntmps126
  go_wp2_with (go_at_call 129; refine cP.mono ?_; rintro e w1 ⟨d1, rfl, hR1, HB⟩)
  go_loopw [7] (fun _ wr => ∃ a d s1, c.R < wr.heap.size ∧ Hid (LR c w w1.heap.size wr a d s1 ∧ s1.len < k ∧ leftLoop P [[42], [47], [37]] (s1.len + 1) a s1 = N)) (fun _ wr => lenOfr c wr)
  case atStart => exact ⟨a0, d1, s0, by simp; omega, HB.out.1, HB.out.2, HL.out⟩
  case round =>
    obtain ⟨a, d, s1, hRr, HQ⟩ := hrel
    have hsr := HQ.out.2.1
    have HM := hide HQ.out.1.on.lenOf
    cases b0 : isOne [[42]] s1.next with
    | true =>
      have HE : Hid (leftLoop P [[42], [47], [37]] ((P s1.adv).2.len + 1) (.bi 10 a (P s1.adv).1) (P s1.adv).2 = N) := by
        have h1 := HQ.out.2.2
        rw [left_yes HS.out (v := [42]) (by decide) b0 (by decide)] at h1
        exact h1
      have cT0 := hide (fun (W : World) (h : Hid (LR c w w1.heap.size W a d s1)) => LR.takes (c := c) [42] ⟨#[42]⟩ rfl (by decide) h)
      rw [may_yes (b := []) (by decide) b0] at cT0
      have hm1 := adv_len (isOne_kind b0)
      have hm2 := HS.out s1.adv
      have cQ := hide (fun W h => LR.part (w := w) (T := w1.heap.size) HP.out (W := W) (a := a) (d := d) (s := s1.adv) (by omega) h)
      generalize P s1.adv = r at cQ HE hm2
      obtain ⟨a2, s3⟩ := r
      simp only at cQ HE hm2
      have hm3 : s3.len < s1.len := by omega
      have hm4 : s3.len < k := by omega
      have H0 : Hid (LR c w w1.heap.size wr a d s1) := HQ.out.1
      clear HQ hm1 hm2 hsr b0
      go_wp2_with (first
        | (go_at_call 50; (with_reducible refine (cT0.out _ H0).mono ?_); rintro e v0 ⟨rfl, hV0, H1⟩; obtain ⟨v0, v1, v2, v3, v4, v5, v6, v7⟩ := H1.out.var.cells; have HD := hide H1.out.drew))
      go_region_with (first
        | (go_at_call 129; (with_reducible refine (cQ.out _ ?_).mono ?_); assumption; rintro e w4 ⟨d2, rfl, hR4, HB4⟩; obtain ⟨u0, u1, u2, u3, u4, u5, u6, u7⟩ := HB4.out.1.var.cells)
        | (go_at_call 87; (with_reducible refine (LR.made _ HB4).mono ?_); rintro e w5 ⟨d3, rfl, hR5, HB5⟩; obtain ⟨x0, x1, x2, x3, x4, x5, x6, x7⟩ := HB5.out.1.var.cells; have f5 := HB5.out.1.var.2.2))
      all_goals
        obtain ⟨W8, e8, h8⟩ := LR.stored HB5.out.1 HB5.out.2
        rw [e8]
        go_roundw
        case rel => exact ⟨_, _, _, _, _, _, _, _, _, _, _, _, _, _, _, _, _, _, _, ⟨_, d3, s3, h8.on.lt, h8, hm4, HE.out⟩, rfl⟩
        case measure => rw [h8.on.lenOf, HM.out]; exact hm3
    | false =>
      cases b1 : isOne [[47]] s1.next with
      | true =>
        have HE : Hid (leftLoop P [[42], [47], [37]] ((P s1.adv).2.len + 1) (.bi 11 a (P s1.adv).1) (P s1.adv).2 = N) := by
          have h1 := HQ.out.2.2
          rw [left_yes HS.out (v := [47]) (by decide) b1 (by decide)] at h1
          exact h1
        have cT0 := hide (fun (W : World) (h : Hid (LR c w w1.heap.size W a d s1)) => LR.takes (c := c) [42] ⟨#[42]⟩ rfl (by decide) h)
        rw [may_no b0] at cT0
        have cT1 := hide (fun (W : World) (h : Hid (LR c w w1.heap.size W a d s1)) => LR.takes (c := c) [47] ⟨#[47]⟩ rfl (by decide) h)
        rw [may_yes (b := []) (by decide) b1] at cT1
        have hm1 := adv_len (isOne_kind b1)
        have hm2 := HS.out s1.adv
        have cQ := hide (fun W h => LR.part (w := w) (T := w1.heap.size) HP.out (W := W) (a := a) (d := d) (s := s1.adv) (by omega) h)
        generalize P s1.adv = r at cQ HE hm2
        obtain ⟨a2, s3⟩ := r
        simp only at cQ HE hm2
        have hm3 : s3.len < s1.len := by omega
        have hm4 : s3.len < k := by omega
        have H0 : Hid (LR c w w1.heap.size wr a d s1) := HQ.out.1
        clear HQ hm1 hm2 hsr b0 b1
        go_wp2_with (first
          | (go_at_call 50; (with_reducible refine (cT0.out _ H0).mono ?_); rintro e v0 ⟨rfl, hV0, H1⟩)
          | (go_at_call 50; (with_reducible refine (cT1.out _ H1).mono ?_); rintro e v1 ⟨rfl, hV1, H2⟩; obtain ⟨v0, v1, v2, v3, v4, v5, v6, v7⟩ := H2.out.var.cells; have HD := hide H2.out.drew))
        go_region_with (first
          | (go_at_call 129; (with_reducible refine (cQ.out _ ?_).mono ?_); assumption; rintro e w4 ⟨d2, rfl, hR4, HB4⟩; obtain ⟨u0, u1, u2, u3, u4, u5, u6, u7⟩ := HB4.out.1.var.cells)
          | (go_at_call 87; (with_reducible refine (LR.made _ HB4).mono ?_); rintro e w5 ⟨d3, rfl, hR5, HB5⟩; obtain ⟨x0, x1, x2, x3, x4, x5, x6, x7⟩ := HB5.out.1.var.cells; have f5 := HB5.out.1.var.2.2))
        all_goals
          obtain ⟨W8, e8, h8⟩ := LR.stored HB5.out.1 HB5.out.2
          rw [e8]
          go_roundw
          case rel => exact ⟨_, _, _, _, _, _, _, _, _, _, _, _, _, _, _, _, _, _, _, ⟨_, d3, s3, h8.on.lt, h8, hm4, HE.out⟩, rfl⟩
          case measure => rw [h8.on.lenOf, HM.out]; exact hm3
      | false =>
        cases b2 : isOne [[37]] s1.next with
        | true =>
          have HE : Hid (leftLoop P [[42], [47], [37]] ((P s1.adv).2.len + 1) (.bi 12 a (P s1.adv).1) (P s1.adv).2 = N) := by
            have h1 := HQ.out.2.2
            rw [left_yes HS.out (v := [37]) (by decide) b2 (by decide)] at h1
            exact h1
          have cT0 := hide (fun (W : World) (h : Hid (LR c w w1.heap.size W a d s1)) => LR.takes (c := c) [42] ⟨#[42]⟩ rfl (by decide) h)
          rw [may_no b0] at cT0
          have cT1 := hide (fun (W : World) (h : Hid (LR c w w1.heap.size W a d s1)) => LR.takes (c := c) [47] ⟨#[47]⟩ rfl (by decide) h)
          rw [may_no b1] at cT1
          have cT2 := hide (fun (W : World) (h : Hid (LR c w w1.heap.size W a d s1)) => LR.takes (c := c) [37] ⟨#[37]⟩ rfl (by decide) h)
          rw [may_yes (b := []) (by decide) b2] at cT2
          have hm1 := adv_len (isOne_kind b2)
          have hm2 := HS.out s1.adv
          have cQ := hide (fun W h => LR.part (w := w) (T := w1.heap.size) HP.out (W := W) (a := a) (d := d) (s := s1.adv) (by omega) h)
          generalize P s1.adv = r at cQ HE hm2
          obtain ⟨a2, s3⟩ := r
          simp only at cQ HE hm2
          have hm3 : s3.len < s1.len := by omega
          have hm4 : s3.len < k := by omega
          have H0 : Hid (LR c w w1.heap.size wr a d s1) := HQ.out.1
          clear HQ hm1 hm2 hsr b0 b1 b2
          go_wp2_with (first
            | (go_at_call 50; (with_reducible refine (cT0.out _ H0).mono ?_); rintro e v0 ⟨rfl, hV0, H1⟩)
            | (go_at_call 50; (with_reducible refine (cT1.out _ H1).mono ?_); rintro e v1 ⟨rfl, hV1, H2⟩)
            | (go_at_call 50; (with_reducible refine (cT2.out _ H2).mono ?_); rintro e v2 ⟨rfl, hV2, H3⟩; obtain ⟨v0, v1, v2, v3, v4, v5, v6, v7⟩ := H3.out.var.cells; have HD := hide H3.out.drew))
          go_region_with (first
            | (go_at_call 129; (with_reducible refine (cQ.out _ ?_).mono ?_); assumption; rintro e w4 ⟨d2, rfl, hR4, HB4⟩; obtain ⟨u0, u1, u2, u3, u4, u5, u6, u7⟩ := HB4.out.1.var.cells)
            | (go_at_call 87; (with_reducible refine (LR.made _ HB4).mono ?_); rintro e w5 ⟨d3, rfl, hR5, HB5⟩; obtain ⟨x0, x1, x2, x3, x4, x5, x6, x7⟩ := HB5.out.1.var.cells; have f5 := HB5.out.1.var.2.2))
          all_goals
            obtain ⟨W8, e8, h8⟩ := LR.stored HB5.out.1 HB5.out.2
            rw [e8]
            go_roundw
            case rel => exact ⟨_, _, _, _, _, _, _, _, _, _, _, _, _, _, _, _, _, _, _, ⟨_, d3, s3, h8.on.lt, h8, hm4, HE.out⟩, rfl⟩
            case measure => rw [h8.on.lenOf, HM.out]; exact hm3
        | false =>
          have HE : Hid (N = (a, s1)) := by
            have h1 := HQ.out.2.2
            rw [left_no (by intro v hv; simp only [List.mem_cons, List.not_mem_nil, or_false] at hv; rcases hv with rfl | rfl | rfl; all_goals assumption)] at h1
            exact h1.symm
          have cT0 := hide (fun (W : World) (h : Hid (LR c w w1.heap.size W a d s1)) => LR.takes (c := c) [42] ⟨#[42]⟩ rfl (by decide) h)
          rw [may_no b0] at cT0
          have cT1 := hide (fun (W : World) (h : Hid (LR c w w1.heap.size W a d s1)) => LR.takes (c := c) [47] ⟨#[47]⟩ rfl (by decide) h)
          rw [may_no b1] at cT1
          have cT2 := hide (fun (W : World) (h : Hid (LR c w w1.heap.size W a d s1)) => LR.takes (c := c) [37] ⟨#[37]⟩ rfl (by decide) h)
          rw [may_no b2] at cT2
          have H0 : Hid (LR c w w1.heap.size wr a d s1) := HQ.out.1
          clear HQ hsr b0 b1 b2
          go_wp2_with (first
            | (go_at_call 50; (with_reducible refine (cT0.out _ H0).mono ?_); rintro e v0 ⟨rfl, hV0, H1⟩)
            | (go_at_call 50; (with_reducible refine (cT1.out _ H1).mono ?_); rintro e v1 ⟨rfl, hV1, H2⟩)
            | (go_at_call 50; (with_reducible refine (cT2.out _ H2).mono ?_); rintro e v2 ⟨rfl, hV2, H3⟩; obtain ⟨v0, v1, v2, v3, v4, v5, v6, v7⟩ := H3.out.var.cells; obtain ⟨⟨k0, k1, k2, k3, k4, k5, k6, k7⟩, f⟩ := resr_cells H3.out.on hR))
          obtain ⟨W3, e3, ⟨c0, c1, c2, c3, c4, c5, c6, c7⟩, hO3, hI3⟩ := resr8 H3.out.on hR HH.out d (H3.out.ex.weak (fun b hb _ => hb.1))
          rw [e3, HE.out]
          exact bodyPost_ret (v := exval d) (by simp [results, Tryd.results126, go_sem, asAddr, c0, c1, c2, c3, c4, c5, c6, c7]) rfl ⟨d, rfl, hO3, hI3⟩

end Go.Proofs.YtedinkoapieakaaDoor

/- The document's own parser: not, -, a column's name: contracts, at every state. -/
namespace Go.Proofs.YtedinkoapieakaaDoor
open Go.ChangeShapes Go.WideShapes Go.ChangeAt Go.RowKit

theorem alone_on (op : Int) {c : RC} {w W : World} {s : St} {a : Ex} {d : ED} (h : Hid (Onr c (w.alloc zeroEx) W s ∧ IsEx (fun b => w.heap.size + 1 ≤ b) W a d)) :
    Calls Tryd.prog 115 #[.int .i64 op, exval d] W fun e w' => ∃ d3 : ED, e = .returned (exval d3) ∧ c.R < w'.heap.size ∧ Hid (Onr c (w.alloc zeroEx) w' s ∧ IsEx (fun b => w.heap.size + 1 ≤ b) w' (.un op a) d3) := by
  have h4 := h.out.1.size
  simp at h4
  exact (alone1 op (fun b hb => by omega) h.out.2).mono fun e w' ⟨d3, h1, h2, h3⟩ => ⟨d3, h1, (h.out.1.later h2).lt, h.out.1.later h2, h3⟩

set_option maxRecDepth 100000 in
set_option maxHeartbeats 4000000 in
theorem notHere_part {c : RC} {k : Nat} {ex : St → Ex × St} (hi : Partr 116 c (testP ex) k) : Partr 102 c (noP ex) k := by
  intro w s
  obtain ⟨m, hm⟩ : ∃ m, s.len = m := ⟨_, rfl⟩
  induction m using Nat.strongRecOn generalizing w s with
  | _ m ih =>
    intro hs h
    have hR := h.lt
    have HH := hide h
    have cM := takesk (c := c) [110, 111, 116] ⟨#[110, 111, 116]⟩ rfl (by decide) (KeptBy.triv c) (hide ⟨(h.alloc zeroEx).here, trivial⟩)
    cases hb : (mayBe [110, 111, 116] [] s).1 with
    | true =>
      have hl := mayBe_one hb
      rw [noP_on hb]
      rw [hb] at cM
      have IH : Partr 102 c (noP ex) s.len := fun w' s' hs' h' => ih s'.len (by omega) w' s' rfl (by omega) h'
      have cS := hide (fun W h => IH.callk (KeptBy.triv c) (w0 := w.alloc zeroEx) (W := W) (s := (mayBe [110, 111, 116] [] s).2) (by omega) (lo := w.heap.size + 1) (by simp) h)
      clear ih IH h hb hl
      generalize (mayBe [110, 111, 116] [] s).2 = s1 at cM cS ⊢
      generalize noP ex s1 = p at cS ⊢
      obtain ⟨a, s2⟩ := p
      simp only at cM cS ⊢
      have cD := hide (fun (W : World) (d : ED) (h : Hid (Onr c (w.alloc zeroEx) W s2 ∧ IsEx (fun b => w.heap.size + 1 ≤ b) W a d)) => alone_on 5 h)
      go_enter Tryd.func102, Tryd.ntmps102
      go_wp2_with (first
        | (go_at_call 50; refine cM.mono ?_; rintro e w1 ⟨rfl, hR1, HB⟩)
        | (go_at_call 102; refine (cS.out _ HB).mono ?_; rintro e w2 ⟨d1, rfl, hR2, HB2⟩; have HB3 := hide (And.intro HB2.out.1 HB2.out.2.1))
        | (go_at_call 115; refine (cD.out _ _ HB3).mono ?_; rintro e w3 ⟨d, rfl, hR3, HB4⟩; obtain ⟨⟨k0, k1, k2, k3, k4, k5, k6, k7⟩, f⟩ := resr_cells HB4.out.1 hR))
      obtain ⟨W3, e3, ⟨c0, c1, c2, c3, c4, c5, c6, c7⟩, hO3, hI3⟩ := resr8 HB4.out.1 hR HH.out d HB4.out.2
      rw [e3]
      exact bodyPost_ret (v := exval d) (by simp [results, Tryd.results102, go_sem, asAddr, c0, c1, c2, c3, c4, c5, c6, c7]) rfl ⟨d, rfl, hO3, hI3⟩
    | false =>
      have hl := mayBe_len [110, 111, 116] [] s
      rw [noP_end hb]
      rw [hb] at cM
      have cS := hide (fun W h => hi.callk (KeptBy.triv c) (w0 := w.alloc zeroEx) (W := W) (s := (mayBe [110, 111, 116] [] s).2) (by omega) (lo := w.heap.size + 1) (by simp) h)
      clear ih h hb hl
      generalize (mayBe [110, 111, 116] [] s).2 = s1 at cM cS ⊢
      generalize testP ex s1 = p at cS ⊢
      obtain ⟨a, s2⟩ := p
      simp only at cM cS ⊢
      go_enter Tryd.func102, Tryd.ntmps102
      go_wp2_with (first
        | (go_at_call 50; refine cM.mono ?_; rintro e w1 ⟨rfl, hR1, HB⟩)
        | (go_at_call 116; refine (cS.out _ HB).mono ?_; rintro e w2 ⟨d, rfl, hR2, HB2⟩; obtain ⟨⟨k0, k1, k2, k3, k4, k5, k6, k7⟩, f⟩ := resr_cells HB2.out.1 hR))
      obtain ⟨W3, e3, ⟨c0, c1, c2, c3, c4, c5, c6, c7⟩, hO3, hI3⟩ := resr8 HB2.out.1 hR HH.out d HB2.out.2.1
      rw [e3]
      exact bodyPost_ret (v := exval d) (by simp [results, Tryd.results102, go_sem, asAddr, c0, c1, c2, c3, c4, c5, c6, c7]) rfl ⟨d, rfl, hO3, hI3⟩

set_option maxRecDepth 100000 in
set_option maxHeartbeats 4000000 in
theorem minusHere_part {c : RC} {k : Nat} {ex : St → Ex × St} (hi : Partr 135 c (oneP ex) k) : Partr 129 c (minusP ex) k := by
  intro w s
  obtain ⟨m, hm⟩ : ∃ m, s.len = m := ⟨_, rfl⟩
  induction m using Nat.strongRecOn generalizing w s with
  | _ m ih =>
    intro hs h
    have hR := h.lt
    have HH := hide h
    have cM := takesk (c := c) [45] ⟨#[45]⟩ rfl (by decide) (KeptBy.triv c) (hide ⟨(h.alloc zeroEx).here, trivial⟩)
    cases hb : (mayBe [45] [] s).1 with
    | true =>
      have hl := mayBe_one hb
      rw [minusP_on hb]
      rw [hb] at cM
      have IH : Partr 129 c (minusP ex) s.len := fun w' s' hs' h' => ih s'.len (by omega) w' s' rfl (by omega) h'
      have cS := hide (fun W h => IH.callk (KeptBy.triv c) (w0 := w.alloc zeroEx) (W := W) (s := (mayBe [45] [] s).2) (by omega) (lo := w.heap.size + 1) (by simp) h)
      clear ih IH h hb hl
      generalize (mayBe [45] [] s).2 = s1 at cM cS ⊢
      generalize minusP ex s1 = p at cS ⊢
      obtain ⟨a, s2⟩ := p
      simp only at cM cS ⊢
      have cD := hide (fun (W : World) (d : ED) (h : Hid (Onr c (w.alloc zeroEx) W s2 ∧ IsEx (fun b => w.heap.size + 1 ≤ b) W a d)) => alone_on 4 h)
      go_enter Tryd.func129, Tryd.ntmps129
      go_wp2_with (first
        | (go_at_call 50; refine cM.mono ?_; rintro e w1 ⟨rfl, hR1, HB⟩)
        | (go_at_call 129; refine (cS.out _ HB).mono ?_; rintro e w2 ⟨d1, rfl, hR2, HB2⟩; have HB3 := hide (And.intro HB2.out.1 HB2.out.2.1))
        | (go_at_call 115; refine (cD.out _ _ HB3).mono ?_; rintro e w3 ⟨d, rfl, hR3, HB4⟩; obtain ⟨⟨k0, k1, k2, k3, k4, k5, k6, k7⟩, f⟩ := resr_cells HB4.out.1 hR))
      obtain ⟨W3, e3, ⟨c0, c1, c2, c3, c4, c5, c6, c7⟩, hO3, hI3⟩ := resr8 HB4.out.1 hR HH.out d HB4.out.2
      rw [e3]
      exact bodyPost_ret (v := exval d) (by simp [results, Tryd.results129, go_sem, asAddr, c0, c1, c2, c3, c4, c5, c6, c7]) rfl ⟨d, rfl, hO3, hI3⟩
    | false =>
      have hl := mayBe_len [45] [] s
      rw [minusP_end hb]
      rw [hb] at cM
      have cS := hide (fun W h => hi.callk (KeptBy.triv c) (w0 := w.alloc zeroEx) (W := W) (s := (mayBe [45] [] s).2) (by omega) (lo := w.heap.size + 1) (by simp) h)
      clear ih h hb hl
      generalize (mayBe [45] [] s).2 = s1 at cM cS ⊢
      generalize oneP ex s1 = p at cS ⊢
      obtain ⟨a, s2⟩ := p
      simp only at cM cS ⊢
      go_enter Tryd.func129, Tryd.ntmps129
      go_wp2_with (first
        | (go_at_call 50; refine cM.mono ?_; rintro e w1 ⟨rfl, hR1, HB⟩)
        | (go_at_call 135; refine (cS.out _ HB).mono ?_; rintro e w2 ⟨d, rfl, hR2, HB2⟩; obtain ⟨⟨k0, k1, k2, k3, k4, k5, k6, k7⟩, f⟩ := resr_cells HB2.out.1 hR))
      obtain ⟨W3, e3, ⟨c0, c1, c2, c3, c4, c5, c6, c7⟩, hO3, hI3⟩ := resr8 HB2.out.1 hR HH.out d HB2.out.2.1
      rw [e3]
      exact bodyPost_ret (v := exval d) (by simp [results, Tryd.results129, go_sem, asAddr, c0, c1, c2, c3, c4, c5, c6, c7]) rfl ⟨d, rfl, hO3, hI3⟩

set_option maxRecDepth 100000 in
set_option maxHeartbeats 4000000 in
theorem columnHere_part (c : RC) (k : Nat) : Partr 88 c columnOfP k := by
  intro w s hs h
  have hR := h.lt
  have HH := hide h
  have cN := nameHerek (KeptBy.triv c) (hide ⟨(h.alloc zeroEx).here, trivial⟩)
  unfold columnOfP
  clear h
  generalize nameP s = p at cN ⊢
  obtain ⟨n1, s1⟩ := p
  simp only at cN ⊢
  have cM1 := hide (fun (W : World) (h : Hid (Onr c (w.alloc zeroEx) W s1 ∧ True)) => takesk (c := c) [46] ⟨#[46]⟩ rfl (by decide) (KeptBy.triv c) h)
  generalize mayBe [46] [] s1 = p at cM1 ⊢
  obtain ⟨bb, s2⟩ := p
  simp only at cM1 ⊢
  cases bb with
  | false =>
    simp only [Bool.false_eq_true, if_false]
    go_enter Tryd.func88, Tryd.ntmps88
    go_wp2_with (first
      | (go_at_call 53; refine cN.mono ?_; rintro e w1 ⟨rfl, hR1, HB⟩)
      | (go_at_call 50; refine (cM1.out _ HB).mono ?_; rintro e w2 ⟨rfl, hR2, HB2⟩; obtain ⟨⟨k0, k1, k2, k3, k4, k5, k6, k7⟩, f⟩ := resr_cells HB2.out.1 hR))
    obtain ⟨d, hd⟩ : ∃ d : ED, d = ⟨2, 0, 0, ⟨#[]⟩, ⟨#[]⟩, str n1, none, 0, 0⟩ := ⟨_, rfl⟩
    obtain ⟨W3, e3, ⟨c0, c1, c2, c3, c4, c5, c6, c7⟩, hO3, hI3⟩ := resr8 (e := .leaf 2 zeroTok [] n1) HB2.out.1 hR HH.out d (by subst hd; exact ⟨rfl, rfl, rfl, rfl, rfl, rfl, rfl⟩)
    subst hd
    rw [e3]
    exact bodyPost_ret (v := exval _) (by simp [results, Tryd.results88, go_sem, asAddr, c0, c1, c2, c3, c4, c5, c6, c7]) rfl ⟨_, rfl, hO3, hI3⟩
  | true =>
    simp only [if_true]
    have cN2 := hide (fun (W : World) (h : Hid (Onr c (w.alloc zeroEx) W s2 ∧ True)) => nameHerek (KeptBy.triv c) h)
    generalize nameP s2 = p at cN2 ⊢
    obtain ⟨n3, s3⟩ := p
    simp only at cN2 ⊢
    go_enter Tryd.func88, Tryd.ntmps88
    go_wp2_with (first
      | (go_at_call 53; (with_reducible refine cN.mono ?_); rintro e w1 ⟨rfl, hR1, HB⟩)
      | (go_at_call 50; refine (cM1.out _ HB).mono ?_; rintro e w2 ⟨rfl, hR2, HB2⟩)
      | (go_at_call 53; (with_reducible refine (cN2.out _ HB2).mono ?_); rintro e w3 ⟨rfl, hR3, HB3⟩; obtain ⟨⟨k0, k1, k2, k3, k4, k5, k6, k7⟩, f⟩ := resr_cells HB3.out.1 hR))
    obtain ⟨d, hd⟩ : ∃ d : ED, d = ⟨2, 0, 0, ⟨#[]⟩, str n1, str n3, none, 0, 0⟩ := ⟨_, rfl⟩
    obtain ⟨W3, e3, ⟨c0, c1, c2, c3, c4, c5, c6, c7⟩, hO3, hI3⟩ := resr8 (e := .leaf 2 zeroTok n1 n3) HB3.out.1 hR HH.out d (by subst hd; exact ⟨rfl, rfl, rfl, rfl, rfl, rfl, rfl⟩)
    subst hd
    rw [e3]
    exact bodyPost_ret (v := exval _) (by simp [results, Tryd.results88, go_sem, asAddr, c0, c1, c2, c3, c4, c5, c6, c7]) rfl ⟨_, rfl, hO3, hI3⟩

end Go.Proofs.YtedinkoapieakaaDoor

/- The document's own parser: one test: the contract, at every state. -/
namespace Go.Proofs.YtedinkoapieakaaDoor
open Go.ChangeShapes Go.WideShapes Go.ChangeAt Go.RowKit

/-- a row of words that the call has laid -/
def WRow (B : Nat) (ws : List (List UInt8)) (W : World) : Prop := B < W.heap.size ∧ ∀ j (hj : j < ws.length), W.cell? ⟨B, j, none⟩ = some (.string (str ws[j]))
theorem WRow.kept {c : RC} {B : Nat} {ws : List (List UInt8)} (hB : B ≠ c.R) : KeptBy c (WRow B ws) := fun _ _ k h => ⟨Nat.lt_of_lt_of_le h.1 k.size, fun j hj => (k.cell (p := ⟨B, j, none⟩) h.1 hB).trans (h.2 j hj)⟩
theorem WRow.new (W : World) (ws : List (List UInt8)) (zs : Array Value) (hz : zs = (ws.map fun v => Value.string (str v)).toArray) (ty : TypeId) : WRow W.heap.size ws (W.alloc (.cells zs ty)) := by
  refine ⟨by simp, fun j hj => ?_⟩
  subst hz
  have e : (W.alloc (.cells (ws.map fun v => Value.string (str v)).toArray ty)).cell? ⟨W.heap.size, j, none⟩ = (ws.map fun v => Value.string (str v)).toArray[j]? := by simp
  rw [e]
  simp [hj]

theorem LR.takesK {c : RC} {w : World} {T : Nat} (v : List UInt8) (hv : v ≠ []) {K : World → Prop} (hK : KeptBy c K) {W : World} {a : Ex} {d : ED} {s : St} (h : Hid (LR c w T W a d s ∧ K W)) :
    Calls Tryd.prog 50 #[.pointer (some ⟨c.R, 0, none⟩), .string (str v)] W fun e w' => e = .returned (.bool (mayBe v [] s).1) ∧ c.R < w'.heap.size ∧ Hid (LR c w T w' a d (mayBe v [] s).2 ∧ K w') :=
  (takes_on v hv h.out.1.on.here).mono fun _ _ ⟨h1, h2, h3⟩ => ⟨h1, h2, h.out.1.go h3.out, hK _ _ h3.out.keeps h.out.2⟩

theorem cmp_facts : ∀ i (hi : i < 6), cmpSigns[i]'hi ∈ cmpSigns ∧ cmpSigns[i]'hi ≠ [] ∧ opOf (cmpSigns[i]'hi) = 13 + (i : Int) := by decide

theorem wrap13 : ∀ i, i < 6 → IntKind.i64.wrap (13 + ((i : Nat) : Int)) = 13 + (i : Int) := by decide

set_option maxRecDepth 100000 in
set_option maxHeartbeats 8000000 in
theorem testHere_part {c : RC} {k : Nat} {ex : St → Ex × St} (hx : Shrinks ex) (hp : Partr 123 c (sumP ex) k) : Partr 116 c (testP ex) k := by
  intro w s hs h
  have hR := h.lt
  have HH := hide h
  have HS := hide (sumP_shrinks hx)
  have HP := hide hp
  have cP : Calls Tryd.prog 123 #[.pointer (some ⟨c.R, 0, none⟩)] (w.alloc zeroEx) fun e w1 => ∃ d : ED, e = .returned (exval d) ∧ c.R < w1.heap.size ∧ Hid (LR c w w1.heap.size (w1.alloc (.cells #[.int .i64 d.op, .int .i64 d.vk, .int .i64 d.vi, .string d.vt, .string d.tb, .string d.nm, .int .i64 0, .slice d.ao d.n d.cap] 35)) (sumP ex s).1 d (sumP ex s).2) :=
    (hp (w.alloc zeroEx) s hs (h.alloc zeroEx).here).mono fun e w1 ⟨d, h1, h2, h3⟩ => ⟨d, h1, h2.lt, LR.new h2 (h3.weak (fun b hb _ => by simp at hb; omega)) hR⟩
  have hs1 : (sumP ex s).2.len < k := Nat.lt_of_le_of_lt (HS.out s) hs
  unfold testP
  generalize sumP ex = P at cP HS HP hs1 ⊢
  clear h hp
  generalize P s = p at cP hs1 ⊢
  obtain ⟨a, s1⟩ := p
  simp only at cP hs1 ⊢
  cases bi : isOne [[105, 115]] s1.next with
  | true =>
    rw [test_is bi]
    have cI := hide (fun (T : Nat) (W : World) (d : ED) (h : Hid (LR c w T W a d s1)) => LR.takes (c := c) [105, 115] ⟨#[105, 115]⟩ rfl (by decide) h)
    rw [may_yes (b := []) (by decide) bi] at cI
    simp only [needs] at cI
    have cN := hide (fun (T : Nat) (W : World) (d : ED) (h : Hid (LR c w T W a d s1.adv)) => LR.takes (c := c) [110, 111, 116] ⟨#[110, 111, 116]⟩ rfl (by decide) h)
    clear bi
    cases bn : isOne [[110, 111, 116]] s1.adv.next with
    | true =>
      rw [may_yes (b := []) (by decide) bn] at cN
      simp only [needs] at cN
      have cU := hide (fun (T : Nat) (W : World) (d : ED) (h : Hid (LR c w T W a d s1.adv.adv)) => LR.needs (c := c) [110, 117, 108, 108] ⟨#[110, 117, 108, 108]⟩ rfl (by decide) h)
      rw [if_pos rfl]
      clear bn
      generalize Go.Proofs.YtedinkoapieakaaDoor.needs [[110, 117, 108, 108]] s1.adv.adv = s4 at cU ⊢
      go_enter Tryd.func116, Tryd.ntmps116
      go_wp2_with (first
        | (go_at_call 123; refine cP.mono ?_; rintro e w1 ⟨d, rfl, hR1, HB⟩)
        | (go_at_call 50; (with_reducible refine (cI.out _ _ _ HB).mono ?_); rintro e w2 ⟨rfl, hR2, HB2⟩)
        | (go_at_call 50; (with_reducible refine (cN.out _ _ _ HB2).mono ?_); rintro e w3 ⟨rfl, hR3, HB3⟩)
        | (go_at_call 52; refine (cU.out _ _ _ HB3).mono ?_; rintro e w4 ⟨rfl, hR4, HB4⟩; obtain ⟨v0, v1, v2, v3, v4, v5, v6, v7⟩ := HB4.out.var.cells)
        | (go_at_call 115; refine (LR.made1 7 HB4).mono ?_; rintro e w5 ⟨d3, rfl, hR5, HB5⟩; obtain ⟨⟨k0, k1, k2, k3, k4, k5, k6, k7⟩, f⟩ := resr_cells HB5.out.1.on hR))
      obtain ⟨W3, e3, ⟨c0, c1, c2, c3, c4, c5, c6, c7⟩, hO3, hI3⟩ := resr8 HB5.out.1.on hR HH.out d3 (HB5.out.2.weak fun b hb _ => hb.1)
      rw [e3]
      exact bodyPost_ret (v := exval d3) (by simp [results, Tryd.results116, go_sem, asAddr, c0, c1, c2, c3, c4, c5, c6, c7]) rfl ⟨d3, rfl, hO3, hI3⟩
    | false =>
      rw [may_no bn] at cN
      have cU := hide (fun (T : Nat) (W : World) (d : ED) (h : Hid (LR c w T W a d s1.adv)) => LR.needs (c := c) [110, 117, 108, 108] ⟨#[110, 117, 108, 108]⟩ rfl (by decide) h)
      rw [if_neg (by decide)]
      clear bn
      generalize Go.Proofs.YtedinkoapieakaaDoor.needs [[110, 117, 108, 108]] s1.adv = s4 at cU ⊢
      go_enter Tryd.func116, Tryd.ntmps116
      go_wp2_with (first
        | (go_at_call 123; refine cP.mono ?_; rintro e w1 ⟨d, rfl, hR1, HB⟩)
        | (go_at_call 50; (with_reducible refine (cI.out _ _ _ HB).mono ?_); rintro e w2 ⟨rfl, hR2, HB2⟩)
        | (go_at_call 50; (with_reducible refine (cN.out _ _ _ HB2).mono ?_); rintro e w3 ⟨rfl, hR3, HB3⟩)
        | (go_at_call 52; refine (cU.out _ _ _ HB3).mono ?_; rintro e w4 ⟨rfl, hR4, HB4⟩; obtain ⟨v0, v1, v2, v3, v4, v5, v6, v7⟩ := HB4.out.var.cells)
        | (go_at_call 115; refine (LR.made1 6 HB4).mono ?_; rintro e w5 ⟨d3, rfl, hR5, HB5⟩; obtain ⟨⟨k0, k1, k2, k3, k4, k5, k6, k7⟩, f⟩ := resr_cells HB5.out.1.on hR))
      obtain ⟨W3, e3, ⟨c0, c1, c2, c3, c4, c5, c6, c7⟩, hO3, hI3⟩ := resr8 HB5.out.1.on hR HH.out d3 (HB5.out.2.weak fun b hb _ => hb.1)
      rw [e3]
      exact bodyPost_ret (v := exval d3) (by simp [results, Tryd.results116, go_sem, asAddr, c0, c1, c2, c3, c4, c5, c6, c7]) rfl ⟨d3, rfl, hO3, hI3⟩
  | false =>
    have cI := hide (fun (T : Nat) (W : World) (d : ED) (h : Hid (LR c w T W a d s1)) => LR.takes (c := c) [105, 115] ⟨#[105, 115]⟩ rfl (by decide) h)
    rw [may_no bi] at cI
    have HN := hide (fun h => test_no (sm := P) (a := a) bi h)
    clear bi
    go_enter Tryd.func116, Tryd.ntmps116
    go_wp2_with (first
      | (go_at_call 123; refine cP.mono ?_; rintro e w1 ⟨d, rfl, hR1, HB⟩)
      | (go_at_call 50; (with_reducible refine (cI.out _ _ _ HB).mono ?_); rintro e w2 ⟨rfl, hR2, HB2⟩; have HB3 : Hid (LR c w w1.heap.size (w2.alloc (.cells #[.string ⟨#[61]⟩, .string ⟨#[60, 62]⟩, .string ⟨#[60]⟩, .string ⟨#[60, 61]⟩, .string ⟨#[62]⟩, .string ⟨#[62, 61]⟩] 9)) a d s1 ∧ WRow w2.heap.size cmpSigns (w2.alloc (.cells #[.string ⟨#[61]⟩, .string ⟨#[60, 62]⟩, .string ⟨#[60]⟩, .string ⟨#[60, 61]⟩, .string ⟨#[62]⟩, .string ⟨#[62, 61]⟩] 9))) := ⟨HB2.out.go (HB2.out.on.here.alloc _), WRow.new w2 cmpSigns _ rfl _⟩))
    have hKB : KeptBy c (WRow w2.heap.size cmpSigns) := WRow.kept (by omega)
    go_loopw [6] (fun v wr => ∃ i : Nat, i ≤ 6 ∧ v = .int .i64 (i : Int) ∧ c.R < wr.heap.size ∧ Hid ((LR c w w1.heap.size wr a d s1 ∧ WRow w2.heap.size cmpSigns wr) ∧ ∀ j (hj : j < 6), j < i → isOne [cmpSigns[j]'hj] s1.next = false)) (fun v _ => 6 - (intOf v).toNat)
    case atStart => exact ⟨0, by omega, rfl, by simp; omega, HB3.out, fun j _ h => by omega⟩
    case round =>
      obtain ⟨i, hi, rfl, hRr, HQ⟩ := hrel
      by_cases hlt : i < 6
      · have hlt1 : (i : Int) < 6 := by omega
        have hcell : wr.cell? ⟨w2.heap.size, i, none⟩ = some (.string (str (cmpSigns[i]'hlt))) := HQ.out.1.2.2 i hlt
        obtain ⟨hmem, hne, hop⟩ := cmp_facts i hlt
        have cT := LR.takesK (cmpSigns[i]'hlt) hne hKB (hide HQ.out.1)
        cases bb : isOne [cmpSigns[i]'hlt] s1.next with
        | false =>
          have HQ2 : Hid (∀ j (hj : j < 6), j < i + 1 → isOne [cmpSigns[j]'hj] s1.next = false) := fun j hj h => if he : j = i then by subst he; exact bb else HQ.out.2 j hj (by omega)
          rw [may_no bb] at cT
          generalize str (cmpSigns[i]'hlt) = z at cT hcell
          clear HQ hmem hne hop bb
          go_wp2_with (go_at_call 50; refine cT.mono ?_; rintro e w3 ⟨rfl, hR3, HB4⟩)
          go_roundw
          case rel => exact ⟨i + 1, by omega, by go_num, hR3, HB4.out, HQ2.out⟩
          case measure => simp [intOf]; omega
        | true =>
          rw [may_yes (b := []) hne bb] at cT
          simp only [needs] at cT
          have HE : Hid (testOn P a s1 = (.bi (13 + (i : Int)) a (P s1.adv).1, (P s1.adv).2)) := by
            show _ = _
            rw [test_cmp hmem bb, hop]
          have hm1 := adv_len (isOne_kind bb)
          have cQ := hide (fun W h => LR.part (w := w) (T := w1.heap.size) HP.out (W := W) (a := a) (d := d) (s := s1.adv) (by omega) h)
          generalize P s1.adv = r at cQ HE
          obtain ⟨a2, s3⟩ := r
          simp only at cQ HE
          generalize str (cmpSigns[i]'hlt) = z at cT hcell
          clear HQ hmem hne hop bb hm1 HN
          go_wp2_with (go_at_call 50; refine cT.mono ?_; rintro e w3 ⟨rfl, hR3, HB4⟩; obtain ⟨v0, v1, v2, v3, v4, v5, v6, v7⟩ := HB4.out.1.var.cells; have HD := hide HB4.out.1.drew)
          go_region_with (first
            | (go_at_call 123; (with_reducible refine (cQ.out _ ?_).mono ?_); assumption; rintro e w4 ⟨d2, rfl, hR4, HB5⟩; obtain ⟨u0, u1, u2, u3, u4, u5, u6, u7⟩ := HB5.out.1.var.cells)
            | (go_at_call 87; (with_reducible refine (LR.made _ HB5).mono ?_); rintro e w5 ⟨d3, rfl, hR5, HB6⟩; obtain ⟨⟨k0, k1, k2, k3, k4, k5, k6, k7⟩, f⟩ := resr_cells HB6.out.1.on hR))
          all_goals
            go_wp2
            obtain ⟨W3, e3, ⟨c0, c1, c2, c3, c4, c5, c6, c7⟩, hO3, hI3⟩ := resr8 HB6.out.1.on hR HH.out d3 (HB6.out.2.weak fun b hb _ => hb.1)
            rw [wrap13 i hlt] at hI3
            rw [e3, HE.out]
            exact bodyPost_ret (v := exval d3) (by simp [results, Tryd.results116, go_sem, asAddr, c0, c1, c2, c3, c4, c5, c6, c7]) rfl ⟨d3, rfl, hO3, hI3⟩
      · have hlt1 : ¬ (i : Int) < 6 := by omega
        have HE : Hid (testOn P a s1 = (a, s1)) := HN.out fun v hv => by
          obtain ⟨j, hj, rfl⟩ := List.getElem_of_mem hv
          have hj6 : j < 6 := hj
          exact HQ.out.2 j hj6 (by omega)
        obtain ⟨v0, v1, v2, v3, v4, v5, v6, v7⟩ := HQ.out.1.1.var.cells
        obtain ⟨⟨k0, k1, k2, k3, k4, k5, k6, k7⟩, f⟩ := resr_cells HQ.out.1.1.on hR
        go_wp2
        obtain ⟨W3, e3, ⟨c0, c1, c2, c3, c4, c5, c6, c7⟩, hO3, hI3⟩ := resr8 HQ.out.1.1.on hR HH.out d (HQ.out.1.1.ex.weak fun b hb _ => hb.1)
        rw [e3, HE.out]
        exact bodyPost_ret (v := exval d) (by simp [results, Tryd.results116, go_sem, asAddr, c0, c1, c2, c3, c4, c5, c6, c7]) rfl ⟨d, rfl, hO3, hI3⟩

end Go.Proofs.YtedinkoapieakaaDoor

/- The document's own parser: a number, a quote, a word, ( ), a column: the contract, at every state. -/
namespace Go.Proofs.YtedinkoapieakaaDoor
open Go.ChangeShapes Go.WideShapes Go.ChangeAt Go.RowKit

def manyWords : List (List UInt8) := [[99, 111, 117, 110, 116], [115, 117, 109], [109, 105, 110], [109, 97, 120]]
theorem many_facts : ∀ i (hi : i < 4), manyWords[i]'hi ∈ oneWords ∧ manyWords[i]'hi ≠ [] := by decide

/-- another part beside the variable, made the part of an expression -/
theorem LR.alone2 {c : RC} {w : World} {T : Nat} {W : World} {a a' : Ex} {d d2 : ED} {s : St} (op : Int) (h : Hid (LR c w T W a d s ∧ IsEx (fun b => w.heap.size + 1 ≤ b ∧ b ≠ T) W a' d2)) :
    Calls Tryd.prog 115 #[.int .i64 op, exval d2] W fun e w' => ∃ d3 : ED, e = .returned (exval d3) ∧ c.R < w'.heap.size ∧ Hid (LR c w T w' a d s ∧ IsEx (fun b => w.heap.size + 1 ≤ b ∧ b ≠ T) w' (.un op a') d3) := by
  have h4 := h.out.1.on.size
  have h5 := h.out.1.var.1
  simp at h4
  exact (alone1 op (fun b hb => ⟨by omega, by omega⟩) h.out.2).mono fun e w' ⟨d3, h1, h2, h3⟩ => ⟨d3, h1, (h.out.1.on.here.later h2).lt, h.out.1.go (h.out.1.on.here.later h2), h3⟩

theorem word_count_star {ex : St → Ex × St} {s : St} (h : isOne [[42]] (needs [[40]] s).next = true) : wordP ex [99, 111, 117, 110, 116] s = (.leaf 21 zeroTok [] [], needs [[41]] (needs [[40]] s).adv) := by
  have e : mayBe [42] [[41]] (needs [[40]] s) = (true, needs [[41]] (needs [[40]] s).adv) := may_yes (by decide) h
  show countP ex s = _
  unfold countP
  simp only [e, if_true]
theorem word_count {ex : St → Ex × St} {s : St} (h : isOne [[42]] (needs [[40]] s).next = false) : wordP ex [99, 111, 117, 110, 116] s = (.un 22 (ex (needs [[40]] s)).1, needs [[41]] (ex (needs [[40]] s)).2) := by
  have e : mayBe [42] [[41]] (needs [[40]] s) = (false, needs [[40]] s) := may_no h
  show countP ex s = _
  unfold countP closedP
  simp only [e, Bool.false_eq_true, if_false]
theorem word_many {ex : St → Ex × St} {s : St} (i : Nat) (hi : i < 4) (h0 : 0 < i) : wordP ex (manyWords[i]'hi) s = (.un (22 + (i : Int)) (ex (needs [[40]] s)).1, needs [[41]] (ex (needs [[40]] s)).2) := by
  rcases (show i = 1 ∨ i = 2 ∨ i = 3 by omega) with rfl | rfl | rfl <;> rfl

abbrev countED : ED := ⟨21, 0, 0, ⟨#[]⟩, ⟨#[]⟩, ⟨#[]⟩, none, 0, 0⟩

set_option maxRecDepth 100000 in
set_option maxHeartbeats 8000000 in
theorem oneHere_part {c : RC} {k : Nat} {ex : St → Ex × St} (hx : Shrinks ex) (hp : Partr 55 c ex k) : Partr 135 c (oneP ex) (k + 1) := by
  intro w s hs h
  have hR := h.lt
  have HH := hide h
  have HP := hide hp
  have HX := hide hx
  have H1 : Hid (Onr c (w.alloc zeroEx) (w.alloc zeroEx) s) := (h.alloc zeroEx).here
  obtain ⟨w1, hw1⟩ : ∃ w1, w.alloc zeroEx = w1 := ⟨_, rfl⟩
  have HW1 := hide hw1
  have H2 : Hid (Onr c (w.alloc zeroEx) w1 s) := by rw [← hw1]; exact H1.out
  have hR1 := H2.out.lt
  have r0 := H2.out.rdr.tok
  obtain ⟨N, hN⟩ : ∃ N, oneP ex s = N := ⟨_, rfl⟩
  rw [hN]
  have HNN := hide hN
  have hRw : ¬ c.R = w.heap.size := by omega
  clear h hp hx hN H1 hw1
  by_cases htk : s.ref = false ∧ c.ts.length - s.rest.length < c.ts.length
  · obtain ⟨hr, hn⟩ := htk
    obtain ⟨kk, hkl, hl3, hkk, r1⟩ := H2.out.live hr
    rw [hkk] at hn
    obtain ⟨b, off, hao, hbw, q0, q1, q2⟩ := H2.out.here_tok hr hkk hn
    rw [hao] at r0
    have hkk0 : (0 : Int) ≤ (kk : Int) := by omega
    obtain ⟨nn, hnn⟩ : ∃ nn, c.ts.length = nn := ⟨_, rfl⟩
    rw [hnn] at r0 hn hkl hl3
    have hn1 : (kk : Int) < (nn : Int) := by omega
    obtain ⟨t, ht⟩ : ∃ t, s.next = t := ⟨_, rfl⟩
    rw [ht] at q0 q1 q2
    have HTT := hide ht
    clear ht hnn hkk
    go_enter Tryd.func135, Tryd.ntmps135
    go_wp2
    rw [HW1.out]
    go_quiet (fail)
    have H3 := hide (H2.out.drewN nq)
    have r0 : (w1.drewN nq).cell? ⟨c.R, 0, none⟩ = _ := r0
    have r1 : (w1.drewN nq).cell? ⟨c.R, 1, none⟩ = _ := r1
    have q0 : (w1.drewN nq).cell? ⟨b, off + kk * 3, none⟩ = _ := q0
    have q1 : (w1.drewN nq).cell? ⟨b, off + kk * 3 + 1, none⟩ = _ := q1
    have q2 : (w1.drewN nq).cell? ⟨b, off + kk * 3 + 2, none⟩ = _ := q2
    have hR1 : c.R < (w1.drewN nq).heap.size := hR1
    have hbw : b < (w1.drewN nq).heap.size := hbw
    generalize w1.drewN nq = W at r0 r1 q0 q1 q2 hR1 hbw H3 ⊢
    go_upto_region 2 with (fail)
    go_cut [3] from 8 (fun v W' => ∃ T, v = .pointer (some ⟨T, 0, none⟩) ∧ W'.cell? ⟨T, 0, none⟩ = some (.int .i64 t.kind) ∧ W'.cell? ⟨T, 1, none⟩ = some (.int .i64 t.int) ∧ W'.cell? ⟨T, 2, none⟩ = some (.string (str t.text)) ∧ c.R < T ∧ Hid (Onr c (w.alloc zeroEx) W' s))
    case first =>
      go_region
      all_goals
        go_wp2
        go_meet
        exact ⟨W.heap.size, rfl, by simp, by simp, by simp, hR1, (H3.out.drew).alloc _⟩
    case rest =>
      obtain ⟨T, rfl, z0, z1, z2, hTR, HB⟩ := hcut
      have hRc := HB.out.lt
      have hTR1 : ¬ T = c.R := by omega
      have hTR2 : ¬ c.R = T := by omega
      clear r0 r1 q0 q1 q2 H3
      by_cases hk2 : t.kind = 2
      · rw [hk2] at z0
        obtain ⟨k', hk'3, y1, f1, _, HA⟩ := HB.out.count (by rw [HTT.out, hk2]; decide)
        have HE : Hid (N = (.leaf 1 ⟨2, t.int, []⟩ [] [], s.adv)) := by
          have h := HNN.out
          unfold oneP at h
          rw [HTT.out, if_pos hk2] at h
          exact h.symm
        obtain ⟨⟨k0, k1, k2, k3, k4, k5, k6, k7⟩, f⟩ := resr_cells HB.out hR
        clear HNN hk2
        go_wp2
        obtain ⟨W3, e3, ⟨c0, c1, c2, c3, c4, c5, c6, c7⟩, hO3, hI3⟩ := resr8 (e := .leaf 1 ⟨2, t.int, []⟩ [] []) HA.out hR HH.out (⟨1, 2, t.int, ⟨#[]⟩, ⟨#[]⟩, ⟨#[]⟩, none, 0, 0⟩ : ED) ⟨rfl, rfl, rfl, rfl, rfl, rfl, rfl⟩
        rw [e3, HE.out]
        exact bodyPost_ret (v := exval (⟨1, 2, t.int, ⟨#[]⟩, ⟨#[]⟩, ⟨#[]⟩, none, 0, 0⟩ : ED)) (by simp [results, Tryd.results135, go_sem, asAddr, c0, c1, c2, c3, c4, c5, c6, c7]) rfl ⟨_, rfl, hO3, hI3⟩
      by_cases hk3 : t.kind = 3
      · rw [hk3] at z0
        obtain ⟨k', hk'3, y1, f1, _, HA⟩ := HB.out.count (by rw [HTT.out, hk3]; decide)
        have HE : Hid (N = (.leaf 1 ⟨3, 0, t.text⟩ [] [], s.adv)) := by
          have h := HNN.out
          unfold oneP at h
          rw [HTT.out, if_neg (by omega), if_pos hk3] at h
          exact h.symm
        obtain ⟨⟨k0, k1, k2, k3, k4, k5, k6, k7⟩, f⟩ := resr_cells HB.out hR
        clear HNN hk2 hk3
        go_wp2
        obtain ⟨W3, e3, ⟨c0, c1, c2, c3, c4, c5, c6, c7⟩, hO3, hI3⟩ := resr8 (e := .leaf 1 ⟨3, 0, t.text⟩ [] []) HA.out hR HH.out (⟨1, 3, 0, str t.text, ⟨#[]⟩, ⟨#[]⟩, none, 0, 0⟩ : ED) ⟨rfl, rfl, rfl, rfl, rfl, rfl, rfl⟩
        rw [e3, HE.out]
        exact bodyPost_ret (v := exval (⟨1, 3, 0, str t.text, ⟨#[]⟩, ⟨#[]⟩, none, 0, 0⟩ : ED)) (by simp [results, Tryd.results135, go_sem, asAddr, c0, c1, c2, c3, c4, c5, c6, c7]) rfl ⟨_, rfl, hO3, hI3⟩
      have g2 : (t.kind == 2) = false := beq_eq_false_iff_ne.2 hk2
      have g3 : (t.kind == 3) = false := beq_eq_false_iff_ne.2 hk3
      rw [← HTT.out] at hk2 hk3
      have H0 : Hid (Onr c (w.alloc zeroEx) wc s ∧ True) := ⟨HB.out, trivial⟩
      cases b0 : isOne [[110, 117, 108, 108]] s.next with
      | true =>
        have cT0 := hide (fun (W : World) (h : Hid (Onr c (w.alloc zeroEx) W s ∧ True)) => takesk (c := c) [110, 117, 108, 108] ⟨#[110, 117, 108, 108]⟩ rfl (by decide) (KeptBy.triv c) h)
        rw [may_yes (b := []) (by decide) b0] at cT0
        simp only [needs] at cT0
        have HE : Hid (N = (.leaf 1 zeroTok [] [], s.adv)) := by
          have h := HNN.out
          rw [oneP_word (v := [110, 117, 108, 108]) (by decide) b0] at h
          exact h.symm
        clear HNN b0
        go_wp2_with (first
          | (go_at_call 50; (with_reducible refine (cT0.out _ H0).mono ?_); rintro e v0 ⟨rfl, hV0, H1⟩; obtain ⟨⟨k0, k1, k2, k3, k4, k5, k6, k7⟩, f⟩ := resr_cells H1.out.1 hR))
        obtain ⟨W3, e3, ⟨c0, c1, c2, c3, c4, c5, c6, c7⟩, hO3, hI3⟩ := resr8 (e := .leaf 1 zeroTok [] []) H1.out.1 hR HH.out (⟨1, 0, 0, ⟨#[]⟩, ⟨#[]⟩, ⟨#[]⟩, none, 0, 0⟩ : ED) ⟨rfl, rfl, rfl, rfl, rfl, rfl, rfl⟩
        rw [e3, HE.out]
        exact bodyPost_ret (v := exval (⟨1, 0, 0, ⟨#[]⟩, ⟨#[]⟩, ⟨#[]⟩, none, 0, 0⟩ : ED)) (by simp [results, Tryd.results135, go_sem, asAddr, c0, c1, c2, c3, c4, c5, c6, c7]) rfl ⟨_, rfl, hO3, hI3⟩
      | false =>
        cases b1 : isOne [[116, 114, 117, 101]] s.next with
        | true =>
          have cT0 := hide (fun (W : World) (h : Hid (Onr c (w.alloc zeroEx) W s ∧ True)) => takesk (c := c) [110, 117, 108, 108] ⟨#[110, 117, 108, 108]⟩ rfl (by decide) (KeptBy.triv c) h)
          rw [may_no b0] at cT0
          have cT1 := hide (fun (W : World) (h : Hid (Onr c (w.alloc zeroEx) W s ∧ True)) => takesk (c := c) [116, 114, 117, 101] ⟨#[116, 114, 117, 101]⟩ rfl (by decide) (KeptBy.triv c) h)
          rw [may_yes (b := []) (by decide) b1] at cT1
          simp only [needs] at cT1
          have HE : Hid (N = (.leaf 1 ⟨1, 1, []⟩ [] [], s.adv)) := by
            have h := HNN.out
            rw [oneP_word (v := [116, 114, 117, 101]) (by decide) b1] at h
            exact h.symm
          clear HNN b0 b1
          go_wp2_with (first
            | (go_at_call 50; (with_reducible refine (cT0.out _ H0).mono ?_); rintro e v0 ⟨rfl, hV0, H1⟩)
            | (go_at_call 50; (with_reducible refine (cT1.out _ H1).mono ?_); rintro e v1 ⟨rfl, hV1, H2⟩; obtain ⟨⟨k0, k1, k2, k3, k4, k5, k6, k7⟩, f⟩ := resr_cells H2.out.1 hR))
          obtain ⟨W3, e3, ⟨c0, c1, c2, c3, c4, c5, c6, c7⟩, hO3, hI3⟩ := resr8 (e := .leaf 1 ⟨1, 1, []⟩ [] []) H2.out.1 hR HH.out (⟨1, 1, 1, ⟨#[]⟩, ⟨#[]⟩, ⟨#[]⟩, none, 0, 0⟩ : ED) ⟨rfl, rfl, rfl, rfl, rfl, rfl, rfl⟩
          rw [e3, HE.out]
          exact bodyPost_ret (v := exval (⟨1, 1, 1, ⟨#[]⟩, ⟨#[]⟩, ⟨#[]⟩, none, 0, 0⟩ : ED)) (by simp [results, Tryd.results135, go_sem, asAddr, c0, c1, c2, c3, c4, c5, c6, c7]) rfl ⟨_, rfl, hO3, hI3⟩
        | false =>
          cases b2 : isOne [[102, 97, 108, 115, 101]] s.next with
          | true =>
            have cT0 := hide (fun (W : World) (h : Hid (Onr c (w.alloc zeroEx) W s ∧ True)) => takesk (c := c) [110, 117, 108, 108] ⟨#[110, 117, 108, 108]⟩ rfl (by decide) (KeptBy.triv c) h)
            rw [may_no b0] at cT0
            have cT1 := hide (fun (W : World) (h : Hid (Onr c (w.alloc zeroEx) W s ∧ True)) => takesk (c := c) [116, 114, 117, 101] ⟨#[116, 114, 117, 101]⟩ rfl (by decide) (KeptBy.triv c) h)
            rw [may_no b1] at cT1
            have cT2 := hide (fun (W : World) (h : Hid (Onr c (w.alloc zeroEx) W s ∧ True)) => takesk (c := c) [102, 97, 108, 115, 101] ⟨#[102, 97, 108, 115, 101]⟩ rfl (by decide) (KeptBy.triv c) h)
            rw [may_yes (b := []) (by decide) b2] at cT2
            simp only [needs] at cT2
            have HE : Hid (N = (.leaf 1 ⟨1, 0, []⟩ [] [], s.adv)) := by
              have h := HNN.out
              rw [oneP_word (v := [102, 97, 108, 115, 101]) (by decide) b2] at h
              exact h.symm
            clear HNN b0 b1 b2
            go_wp2_with (first
              | (go_at_call 50; (with_reducible refine (cT0.out _ H0).mono ?_); rintro e v0 ⟨rfl, hV0, H1⟩)
              | (go_at_call 50; (with_reducible refine (cT1.out _ H1).mono ?_); rintro e v1 ⟨rfl, hV1, H2⟩)
              | (go_at_call 50; (with_reducible refine (cT2.out _ H2).mono ?_); rintro e v2 ⟨rfl, hV2, H3⟩; obtain ⟨⟨k0, k1, k2, k3, k4, k5, k6, k7⟩, f⟩ := resr_cells H3.out.1 hR))
            obtain ⟨W3, e3, ⟨c0, c1, c2, c3, c4, c5, c6, c7⟩, hO3, hI3⟩ := resr8 (e := .leaf 1 ⟨1, 0, []⟩ [] []) H3.out.1 hR HH.out (⟨1, 1, 0, ⟨#[]⟩, ⟨#[]⟩, ⟨#[]⟩, none, 0, 0⟩ : ED) ⟨rfl, rfl, rfl, rfl, rfl, rfl, rfl⟩
            rw [e3, HE.out]
            exact bodyPost_ret (v := exval (⟨1, 1, 0, ⟨#[]⟩, ⟨#[]⟩, ⟨#[]⟩, none, 0, 0⟩ : ED)) (by simp [results, Tryd.results135, go_sem, asAddr, c0, c1, c2, c3, c4, c5, c6, c7]) rfl ⟨_, rfl, hO3, hI3⟩
          | false =>
            cases b3 : isOne [[40]] s.next with
            | true =>
              have cT0 := hide (fun (W : World) (h : Hid (Onr c (w.alloc zeroEx) W s ∧ True)) => takesk (c := c) [110, 117, 108, 108] ⟨#[110, 117, 108, 108]⟩ rfl (by decide) (KeptBy.triv c) h)
              rw [may_no b0] at cT0
              have cT1 := hide (fun (W : World) (h : Hid (Onr c (w.alloc zeroEx) W s ∧ True)) => takesk (c := c) [116, 114, 117, 101] ⟨#[116, 114, 117, 101]⟩ rfl (by decide) (KeptBy.triv c) h)
              rw [may_no b1] at cT1
              have cT2 := hide (fun (W : World) (h : Hid (Onr c (w.alloc zeroEx) W s ∧ True)) => takesk (c := c) [102, 97, 108, 115, 101] ⟨#[102, 97, 108, 115, 101]⟩ rfl (by decide) (KeptBy.triv c) h)
              rw [may_no b2] at cT2
              have cT3 := hide (fun (W : World) (h : Hid (Onr c (w.alloc zeroEx) W s ∧ True)) => takesk (c := c) [40] ⟨#[40]⟩ rfl (by decide) (KeptBy.triv c) h)
              rw [may_yes (b := []) (by decide) b3] at cT3
              simp only [needs] at cT3
              have HE : Hid (N = ((ex s.adv).1, needs [[41]] (ex s.adv).2)) := by
                have h := HNN.out
                rw [oneP_word (v := [40]) (by decide) b3] at h
                exact h.symm
              have hm1 := adv_len (isOne_kind b3)
              have cX := hide (fun W h => HP.out.callk (KeptBy.triv c) (w0 := w.alloc zeroEx) (W := W) (s := s.adv) (by omega) (lo := w.heap.size + 1) (by simp) h)
              clear HNN hm1 b0 b1 b2 b3
              generalize ex s.adv = r at cX HE
              obtain ⟨a, s1⟩ := r
              simp only at cX HE
              have cN := hide (fun (T : Nat) (W : World) (d : ED) (h : Hid (LR c w T W a d s1)) => LR.needs (c := c) [41] ⟨#[41]⟩ rfl (by decide) h)
              generalize needs [[41]] s1 = s4 at cN HE
              go_wp2_with (first
                | (go_at_call 50; (with_reducible refine (cT0.out _ H0).mono ?_); rintro e v0 ⟨rfl, hV0, H1⟩)
                | (go_at_call 50; (with_reducible refine (cT1.out _ H1).mono ?_); rintro e v1 ⟨rfl, hV1, H2⟩)
                | (go_at_call 50; (with_reducible refine (cT2.out _ H2).mono ?_); rintro e v2 ⟨rfl, hV2, H3⟩)
                | (go_at_call 50; (with_reducible refine (cT3.out _ H3).mono ?_); rintro e v3 ⟨rfl, hV3, H4⟩)
                | (go_at_call 55; refine (cX.out _ H4).mono ?_; rintro e w5 ⟨d, rfl, hR5, HB5⟩; have HB6 : Hid (LR c w w5.heap.size (w5.alloc (.cells #[.int .i64 d.op, .int .i64 d.vk, .int .i64 d.vi, .string d.vt, .string d.tb, .string d.nm, .int .i64 0, .slice d.ao d.n d.cap] 35)) a d s1) := LR.new HB5.out.1 HB5.out.2.1 hR)
                | (go_at_call 52; refine (cN.out _ _ _ HB6).mono ?_; rintro e w6 ⟨rfl, hR6, HB7⟩; obtain ⟨x0, x1, x2, x3, x4, x5, x6, x7⟩ := HB7.out.var.cells; obtain ⟨⟨k0, k1, k2, k3, k4, k5, k6, k7⟩, f⟩ := resr_cells HB7.out.on hR))
              obtain ⟨W3, e3, ⟨c0, c1, c2, c3, c4, c5, c6, c7⟩, hO3, hI3⟩ := resr8 (e := a) HB7.out.on hR HH.out d (HB7.out.ex.weak fun b hb _ => hb.1)
              rw [e3, HE.out]
              exact bodyPost_ret (v := exval d) (by simp [results, Tryd.results135, go_sem, asAddr, c0, c1, c2, c3, c4, c5, c6, c7]) rfl ⟨_, rfl, hO3, hI3⟩
            | false =>
              have cT0 := hide (fun (W : World) (h : Hid (Onr c (w.alloc zeroEx) W s ∧ True)) => takesk (c := c) [110, 117, 108, 108] ⟨#[110, 117, 108, 108]⟩ rfl (by decide) (KeptBy.triv c) h)
              rw [may_no b0] at cT0
              have cT1 := hide (fun (W : World) (h : Hid (Onr c (w.alloc zeroEx) W s ∧ True)) => takesk (c := c) [116, 114, 117, 101] ⟨#[116, 114, 117, 101]⟩ rfl (by decide) (KeptBy.triv c) h)
              rw [may_no b1] at cT1
              have cT2 := hide (fun (W : World) (h : Hid (Onr c (w.alloc zeroEx) W s ∧ True)) => takesk (c := c) [102, 97, 108, 115, 101] ⟨#[102, 97, 108, 115, 101]⟩ rfl (by decide) (KeptBy.triv c) h)
              rw [may_no b2] at cT2
              have cT3 := hide (fun (W : World) (h : Hid (Onr c (w.alloc zeroEx) W s ∧ True)) => takesk (c := c) [40] ⟨#[40]⟩ rfl (by decide) (KeptBy.triv c) h)
              rw [may_no b3] at cT3
              go_wp2_with (first
                | (go_at_call 50; (with_reducible refine (cT0.out _ H0).mono ?_); rintro e v0 ⟨rfl, hV0, H1⟩)
                | (go_at_call 50; (with_reducible refine (cT1.out _ H1).mono ?_); rintro e v1 ⟨rfl, hV1, H2⟩)
                | (go_at_call 50; (with_reducible refine (cT2.out _ H2).mono ?_); rintro e v2 ⟨rfl, hV2, H3⟩)
                | (go_at_call 50; (with_reducible refine (cT3.out _ H3).mono ?_); rintro e v3 ⟨rfl, hV3, H4⟩; have HB3 : Hid (Onr c (w.alloc zeroEx) (v3.alloc (.cells #[.string ⟨#[99, 111, 117, 110, 116]⟩, .string ⟨#[115, 117, 109]⟩, .string ⟨#[109, 105, 110]⟩, .string ⟨#[109, 97, 120]⟩] 9)) s ∧ WRow v3.heap.size manyWords (v3.alloc (.cells #[.string ⟨#[99, 111, 117, 110, 116]⟩, .string ⟨#[115, 117, 109]⟩, .string ⟨#[109, 105, 110]⟩, .string ⟨#[109, 97, 120]⟩] 9))) := ⟨H4.out.1.alloc _, WRow.new v3 manyWords _ rfl _⟩))
              have hKB : KeptBy c (WRow v3.heap.size manyWords) := WRow.kept (by omega)
              go_loopw [6] (fun v wr => ∃ i : Nat, i ≤ 4 ∧ v = .int .i64 (i : Int) ∧ c.R < wr.heap.size ∧ Hid ((Onr c (w.alloc zeroEx) wr s ∧ WRow v3.heap.size manyWords wr) ∧ ∀ j (hj : j < 4), j < i → isOne [manyWords[j]'hj] s.next = false)) (fun v _ => 4 - (intOf v).toNat)
              case atStart => exact ⟨0, by omega, rfl, by simp; omega, HB3.out, fun j _ h => by omega⟩
              case round =>
                obtain ⟨i, hi, rfl, hRr, HQ⟩ := hrel
                by_cases hlt : i < 4
                · have hlt1 : (i : Int) < 4 := by omega
                  have hcell : wr.cell? ⟨v3.heap.size, i, none⟩ = some (.string (str (manyWords[i]'hlt))) := HQ.out.1.2.2 i hlt
                  obtain ⟨hmem, hne⟩ := many_facts i hlt
                  have cT := takesk (c := c) (manyWords[i]'hlt) _ rfl hne hKB (hide HQ.out.1)
                  cases bb : isOne [manyWords[i]'hlt] s.next with
                  | false =>
                    have HQ2 : Hid (∀ j (hj : j < 4), j < i + 1 → isOne [manyWords[j]'hj] s.next = false) := fun j hj h => if he : j = i then by subst he; exact bb else HQ.out.2 j hj (by omega)
                    rw [may_no bb] at cT
                    generalize str (manyWords[i]'hlt) = z at cT hcell
                    clear HQ hmem hne bb
                    go_wp2_with (go_at_call 50; refine cT.mono ?_; rintro e w3 ⟨rfl, hR3, HB4⟩)
                    go_roundw
                    case rel => exact ⟨i + 1, by omega, by go_num, hR3, HB4.out, HQ2.out⟩
                    case measure => simp [intOf]; omega
                  | true =>
                    have HW : Hid (N = wordP ex (manyWords[i]'hlt) s.adv) := by
                      have h := HNN.out
                      rw [oneP_word hmem bb] at h
                      exact h.symm
                    have hm1 := adv_len (isOne_kind bb)
                    rw [may_yes (b := []) hne bb] at cT
                    simp only [needs] at cT
                    have cO := hide (fun (W : World) (h : Hid (Onr c (w.alloc zeroEx) W s.adv ∧ WRow v3.heap.size manyWords W)) => needsk (c := c) [40] ⟨#[40]⟩ rfl (by decide) hKB h)
                    have hm2 := needs_len [[40]] s.adv
                    by_cases h0 : i = 0
                    · subst h0
                      cases bs : isOne [[42]] (needs [[40]] s.adv).next with
                      | true =>
                        have HE : Hid (N = (.leaf 21 zeroTok [] [], needs [[41]] (needs [[40]] s.adv).adv)) := HW.out.trans (word_count_star bs)
                        have cS := hide (fun (T : Nat) (W : World) (h : Hid (LR c w T W (.leaf 21 zeroTok [] []) countED (needs [[40]] s.adv))) => LR.takes (c := c) [42] ⟨#[42]⟩ rfl (by decide) h)
                        rw [may_yes (b := []) (by decide) bs] at cS
                        have cN := hide (fun (T : Nat) (W : World) (h : Hid (LR c w T W (.leaf 21 zeroTok [] []) countED (needs [[40]] s.adv).adv)) => LR.needs (c := c) [41] ⟨#[41]⟩ rfl (by decide) h)
                        generalize str (manyWords[0]'hlt) = z at cT hcell
                        clear HQ hmem hne bb HNN HW bs hm1 hm2
                        generalize needs [[40]] s.adv = s2 at cO cS cN HE
                        generalize needs [[41]] s2.adv = s4 at cN HE
                        go_wp2_with (first
                          | (go_at_call 50; (with_reducible refine cT.mono ?_); rintro e w3 ⟨rfl, hR3, HB4⟩)
                          | (go_at_call 52; (with_reducible refine (cO.out _ HB4).mono ?_); rintro e w4 ⟨rfl, hR4, HB5⟩; have HV : Hid (LR c w w4.heap.size (w4.alloc (.cells #[.int .i64 21, .int .i64 0, .int .i64 0, .string ⟨#[]⟩, .string ⟨#[]⟩, .string ⟨#[]⟩, .int .i64 0, .slice none 0 0] 35)) (.leaf 21 zeroTok [] []) countED s2) := LR.new (d := countED) HB5.out.1 ⟨rfl, rfl, rfl, rfl, rfl, rfl, rfl⟩ hR)
                          | (go_at_call 50; (with_reducible refine (cS.out _ _ HV).mono ?_); rintro e w5 ⟨rfl, hR5, HB6⟩)
                          | (go_at_call 52; (with_reducible refine (cN.out _ _ HB6).mono ?_); rintro e w6 ⟨rfl, hR6, HB7⟩; obtain ⟨x0, x1, x2, x3, x4, x5, x6, x7⟩ := HB7.out.var.cells; obtain ⟨⟨k0, k1, k2, k3, k4, k5, k6, k7⟩, f⟩ := resr_cells HB7.out.on hR))
                        obtain ⟨W3, e3, ⟨c0, c1, c2, c3, c4, c5, c6, c7⟩, hO3, hI3⟩ := resr8 (e := .leaf 21 zeroTok [] []) HB7.out.on hR HH.out countED (HB7.out.ex.weak fun b hb _ => hb.1)
                        rw [e3, HE.out]
                        exact bodyPost_ret (v := exval countED) (by simp [results, Tryd.results135, go_sem, asAddr, c0, c1, c2, c3, c4, c5, c6, c7]) rfl ⟨_, rfl, hO3, hI3⟩
                      | false =>
                        have HE : Hid (N = (.un 22 (ex (needs [[40]] s.adv)).1, needs [[41]] (ex (needs [[40]] s.adv)).2)) := HW.out.trans (word_count bs)
                        have cS := hide (fun (T : Nat) (W : World) (h : Hid (LR c w T W (.leaf 21 zeroTok [] []) countED (needs [[40]] s.adv))) => LR.takes (c := c) [42] ⟨#[42]⟩ rfl (by decide) h)
                        rw [may_no bs] at cS
                        have cX := hide (fun (T : Nat) (W : World) (h : Hid (LR c w T W (.leaf 21 zeroTok [] []) countED (needs [[40]] s.adv))) => LR.part (w := w) (T := T) HP.out (W := W) (s := needs [[40]] s.adv) (by omega) h)
                        generalize str (manyWords[0]'hlt) = z at cT hcell
                        clear HQ hmem hne bb HNN HW hm1 hm2 bs 
                        generalize needs [[40]] s.adv = s2 at cO cS cX HE
                        generalize ex s2 = r at cX HE
                        obtain ⟨a2, s3⟩ := r
                        simp only at cX HE
                        have cN := hide (fun (T : Nat) (W : World) (X : Ex) (d : ED) (h : Hid (LR c w T W X d s3)) => LR.needs (c := c) [41] ⟨#[41]⟩ rfl (by decide) h)
                        generalize needs [[41]] s3 = s4 at cN HE
                        go_wp2_with (first
                          | (go_at_call 50; (with_reducible refine cT.mono ?_); rintro e w3 ⟨rfl, hR3, HB4⟩)
                          | (go_at_call 52; (with_reducible refine (cO.out _ HB4).mono ?_); rintro e w4 ⟨rfl, hR4, HB5⟩; have HV : Hid (LR c w w4.heap.size (w4.alloc (.cells #[.int .i64 21, .int .i64 0, .int .i64 0, .string ⟨#[]⟩, .string ⟨#[]⟩, .string ⟨#[]⟩, .int .i64 0, .slice none 0 0] 35)) (.leaf 21 zeroTok [] []) countED s2) := LR.new (d := countED) HB5.out.1 ⟨rfl, rfl, rfl, rfl, rfl, rfl, rfl⟩ hR)
                          | (go_at_call 50; (with_reducible refine (cS.out _ _ HV).mono ?_); rintro e w5 ⟨rfl, hR5, HB6⟩)
                          | (go_at_call 55; (with_reducible refine (cX.out _ _ HB6).mono ?_); rintro e w7 ⟨d2, rfl, hR7, HB8⟩)
                          | (go_at_call 115; (with_reducible refine (LR.alone2 _ HB8).mono ?_); rintro e w8 ⟨d3, rfl, hR8, HB9⟩; obtain ⟨y0, y1, y2, y3, y4, y5, y6, y7⟩ := HB9.out.1.var.cells; have f9 := HB9.out.1.var.2.2))
                        obtain ⟨W8, e8, h8⟩ := LR.stored HB9.out.1 HB9.out.2
                        rw [e8]
                        refine (cN.out _ _ _ _ (hide h8)).mono ?_
                        rintro e w9 ⟨rfl, hR9, HB10⟩
                        obtain ⟨x0, x1, x2, x3, x4, x5, x6, x7⟩ := HB10.out.var.cells
                        obtain ⟨⟨k0, k1, k2, k3, k4, k5, k6, k7⟩, f⟩ := resr_cells HB10.out.on hR
                        go_wp2
                        obtain ⟨W3, e3, ⟨c0, c1, c2, c3, c4, c5, c6, c7⟩, hO3, hI3⟩ := resr8 HB10.out.on hR HH.out d3 (HB10.out.ex.weak fun b hb _ => hb.1)
                        rw [e3, HE.out]
                        exact bodyPost_ret (v := exval d3) (by simp [results, Tryd.results135, go_sem, asAddr, c0, c1, c2, c3, c4, c5, c6, c7]) rfl ⟨_, rfl, hO3, hI3⟩
                    · have h1 : (0 : Int) < (i : Int) := by omega
                      have HE : Hid (N = (.un (22 + (i : Int)) (ex (needs [[40]] s.adv)).1, needs [[41]] (ex (needs [[40]] s.adv)).2)) := HW.out.trans (word_many i hlt (by omega))
                      have cX := hide (fun (T : Nat) (W : World) (h : Hid (LR c w T W (.leaf 21 zeroTok [] []) countED (needs [[40]] s.adv))) => LR.part (w := w) (T := T) HP.out (W := W) (s := needs [[40]] s.adv) (by omega) h)
                      generalize str (manyWords[i]'hlt) = z at cT hcell
                      clear HQ hmem hne bb HNN HW hm1 hm2 
                      generalize needs [[40]] s.adv = s2 at cO cX HE
                      generalize ex s2 = r at cX HE
                      obtain ⟨a2, s3⟩ := r
                      simp only at cX HE
                      have cN := hide (fun (T : Nat) (W : World) (X : Ex) (d : ED) (h : Hid (LR c w T W X d s3)) => LR.needs (c := c) [41] ⟨#[41]⟩ rfl (by decide) h)
                      generalize needs [[41]] s3 = s4 at cN HE
                      go_wp2_with (first
                        | (go_at_call 50; (with_reducible refine cT.mono ?_); rintro e w3 ⟨rfl, hR3, HB4⟩)
                        | (go_at_call 52; (with_reducible refine (cO.out _ HB4).mono ?_); rintro e w4 ⟨rfl, hR4, HB5⟩; have HV : Hid (LR c w w4.heap.size (w4.alloc (.cells #[.int .i64 21, .int .i64 0, .int .i64 0, .string ⟨#[]⟩, .string ⟨#[]⟩, .string ⟨#[]⟩, .int .i64 0, .slice none 0 0] 35)) (.leaf 21 zeroTok [] []) countED s2) := LR.new (d := countED) HB5.out.1 ⟨rfl, rfl, rfl, rfl, rfl, rfl, rfl⟩ hR)
                        | (go_at_call 55; (with_reducible refine (cX.out _ _ HV).mono ?_); rintro e w7 ⟨d2, rfl, hR7, HB8⟩)
                        | (go_at_call 115; (with_reducible refine (LR.alone2 _ HB8).mono ?_); rintro e w8 ⟨d3, rfl, hR8, HB9⟩; obtain ⟨y0, y1, y2, y3, y4, y5, y6, y7⟩ := HB9.out.1.var.cells; have f9 := HB9.out.1.var.2.2))
                      obtain ⟨W8, e8, h8⟩ := LR.stored HB9.out.1 HB9.out.2
                      rw [e8]
                      refine (cN.out _ _ _ _ (hide h8)).mono ?_
                      rintro e w9 ⟨rfl, hR9, HB10⟩
                      obtain ⟨x0, x1, x2, x3, x4, x5, x6, x7⟩ := HB10.out.var.cells
                      obtain ⟨⟨k0, k1, k2, k3, k4, k5, k6, k7⟩, f⟩ := resr_cells HB10.out.on hR
                      go_wp2
                      obtain ⟨W3, e3, ⟨c0, c1, c2, c3, c4, c5, c6, c7⟩, hO3, hI3⟩ := resr8 HB10.out.on hR HH.out d3 (HB10.out.ex.weak fun b hb _ => hb.1)
                      rw [e3, HE.out]
                      exact bodyPost_ret (v := exval d3) (by simp [results, Tryd.results135, go_sem, asAddr, c0, c1, c2, c3, c4, c5, c6, c7]) rfl ⟨_, rfl, hO3, hI3⟩
                · have hlt1 : ¬ (i : Int) < 4 := by omega
                  have HE : Hid (N = columnOfP s) := by
                    have h := HNN.out
                    rw [oneP_col hk2 hk3 ?_] at h
                    · exact h.symm
                    · intro v hv
                      simp only [oneWords, List.mem_cons, List.not_mem_nil, or_false] at hv
                      rcases hv with rfl | rfl | rfl | rfl | rfl | rfl | rfl | rfl
                      · exact b0
                      · exact b1
                      · exact b2
                      · exact b3
                      · exact HQ.out.2 0 (by omega) (by omega)
                      · exact HQ.out.2 1 (by omega) (by omega)
                      · exact HQ.out.2 2 (by omega) (by omega)
                      · exact HQ.out.2 3 (by omega) (by omega)
                  have cC := (columnHere_part c (k + 1)).callk (KeptBy.triv c) hs (lo := w.heap.size + 1) (by simp) (hide (And.intro HQ.out.1.1 trivial))
                  clear HNN HQ
                  generalize columnOfP s = r at cC HE
                  obtain ⟨a, s1⟩ := r
                  simp only at cC
                  go_wp2_with (go_at_call 88; refine cC.mono ?_; rintro e w5 ⟨d, rfl, hR5, HB5⟩; obtain ⟨⟨k0, k1, k2, k3, k4, k5, k6, k7⟩, f⟩ := resr_cells HB5.out.1 hR)
                  obtain ⟨W3, e3, ⟨c0, c1, c2, c3, c4, c5, c6, c7⟩, hO3, hI3⟩ := resr8 (e := a) HB5.out.1 hR HH.out d HB5.out.2.1
                  rw [e3, HE.out]
                  exact bodyPost_ret (v := exval d) (by simp [results, Tryd.results135, go_sem, asAddr, c0, c1, c2, c3, c4, c5, c6, c7]) rfl ⟨_, rfl, hO3, hI3⟩
  · have e0 : s.next = zeroTok := by
      by_cases hr : s.ref = true
      · simp [St.next, hr]
      · exact next_end H2.out rfl (fun h => htk ⟨by simpa using hr, h⟩)
    have hat : w1.cell? ⟨c.R, 1, none⟩ = some (.int .i64 (-1)) ∨ ∃ kk : Nat, w1.cell? ⟨c.R, 1, none⟩ = some (.int .i64 (kk : Int)) ∧ (c.ts.length : Int) ≤ (kk : Int) := by
      cases hr : s.ref with
      | true => exact .inl (H2.out.dead hr)
      | false =>
        obtain ⟨kk, hkl, _, hkk, r1⟩ := H2.out.live hr
        refine .inr ⟨kk, r1, ?_⟩
        have : ¬ kk < c.ts.length := fun h => htk ⟨hr, by rw [hkk]; exact h⟩
        omega
    clear htk
    have hl3 := c.hl
    generalize c.ts.length = nn at hat r0 hl3
    go_enter Tryd.func135, Tryd.ntmps135
    go_wp2
    rw [HW1.out]
    go_upto_region 1 with (fail)
    go_cut [24] from 8 (fun v W' => v = .bool false ∧ Hid (Onr c (w.alloc zeroEx) W' s))
    case first =>
      rcases hat with r1 | ⟨kk, r1, hge⟩
      · go_quiet (fail)
        go_wp2
        go_meet
        exact ⟨rfl, H2.out.drewN _⟩
      · have hkk0 : (0 : Int) ≤ (kk : Int) := by omega
        have hkk1 : ¬ (kk : Int) < (nn : Int) := by omega
        go_quiet (fail)
        go_wp2
        go_meet
        exact ⟨rfl, H2.out.drewN _⟩
    case rest =>
      obtain ⟨rfl, HB⟩ := hcut
      have hRc := HB.out.lt
      have H0 : Hid (Onr c (w.alloc zeroEx) wc s ∧ True) := ⟨HB.out, trivial⟩
      clear r0 hat
      have b0 : isOne [[110, 117, 108, 108]] s.next = false := by rw [e0]; exact isOne_zero _
      have b1 : isOne [[116, 114, 117, 101]] s.next = false := by rw [e0]; exact isOne_zero _
      have b2 : isOne [[102, 97, 108, 115, 101]] s.next = false := by rw [e0]; exact isOne_zero _
      have b3 : isOne [[40]] s.next = false := by rw [e0]; exact isOne_zero _
      have cT0 := hide (fun (W : World) (h : Hid (Onr c (w.alloc zeroEx) W s ∧ True)) => takesk (c := c) [110, 117, 108, 108] ⟨#[110, 117, 108, 108]⟩ rfl (by decide) (KeptBy.triv c) h)
      rw [may_no b0] at cT0
      have cT1 := hide (fun (W : World) (h : Hid (Onr c (w.alloc zeroEx) W s ∧ True)) => takesk (c := c) [116, 114, 117, 101] ⟨#[116, 114, 117, 101]⟩ rfl (by decide) (KeptBy.triv c) h)
      rw [may_no b1] at cT1
      have cT2 := hide (fun (W : World) (h : Hid (Onr c (w.alloc zeroEx) W s ∧ True)) => takesk (c := c) [102, 97, 108, 115, 101] ⟨#[102, 97, 108, 115, 101]⟩ rfl (by decide) (KeptBy.triv c) h)
      rw [may_no b2] at cT2
      have cT3 := hide (fun (W : World) (h : Hid (Onr c (w.alloc zeroEx) W s ∧ True)) => takesk (c := c) [40] ⟨#[40]⟩ rfl (by decide) (KeptBy.triv c) h)
      rw [may_no b3] at cT3
      go_wp2_with (first
        | (go_at_call 50; (with_reducible refine (cT0.out _ H0).mono ?_); rintro e v0 ⟨rfl, hV0, H1⟩)
        | (go_at_call 50; (with_reducible refine (cT1.out _ H1).mono ?_); rintro e v1 ⟨rfl, hV1, H2⟩)
        | (go_at_call 50; (with_reducible refine (cT2.out _ H2).mono ?_); rintro e v2 ⟨rfl, hV2, H3⟩)
        | (go_at_call 50; (with_reducible refine (cT3.out _ H3).mono ?_); rintro e v3 ⟨rfl, hV3, H4⟩; have HB3 : Hid (Onr c (w.alloc zeroEx) (v3.alloc (.cells #[.string ⟨#[99, 111, 117, 110, 116]⟩, .string ⟨#[115, 117, 109]⟩, .string ⟨#[109, 105, 110]⟩, .string ⟨#[109, 97, 120]⟩] 9)) s ∧ WRow v3.heap.size manyWords (v3.alloc (.cells #[.string ⟨#[99, 111, 117, 110, 116]⟩, .string ⟨#[115, 117, 109]⟩, .string ⟨#[109, 105, 110]⟩, .string ⟨#[109, 97, 120]⟩] 9))) := ⟨H4.out.1.alloc _, WRow.new v3 manyWords _ rfl _⟩))
      have hKB : KeptBy c (WRow v3.heap.size manyWords) := WRow.kept (by omega)
      go_loopw [6] (fun v wr => ∃ i : Nat, i ≤ 4 ∧ v = .int .i64 (i : Int) ∧ c.R < wr.heap.size ∧ Hid ((Onr c (w.alloc zeroEx) wr s ∧ WRow v3.heap.size manyWords wr) ∧ ∀ j (hj : j < 4), j < i → isOne [manyWords[j]'hj] s.next = false)) (fun v _ => 4 - (intOf v).toNat)
      case atStart => exact ⟨0, by omega, rfl, by simp; omega, HB3.out, fun j _ h => by omega⟩
      case round =>
        obtain ⟨i, hi, rfl, hRr, HQ⟩ := hrel
        by_cases hlt : i < 4
        · have hlt1 : (i : Int) < 4 := by omega
          have hcell : wr.cell? ⟨v3.heap.size, i, none⟩ = some (.string (str (manyWords[i]'hlt))) := HQ.out.1.2.2 i hlt
          obtain ⟨hmem, hne⟩ := many_facts i hlt
          have cT := takesk (c := c) (manyWords[i]'hlt) _ rfl hne hKB (hide HQ.out.1)
          cases bb : isOne [manyWords[i]'hlt] s.next with
          | false =>
            have HQ2 : Hid (∀ j (hj : j < 4), j < i + 1 → isOne [manyWords[j]'hj] s.next = false) := fun j hj h => if he : j = i then by subst he; exact bb else HQ.out.2 j hj (by omega)
            rw [may_no bb] at cT
            generalize str (manyWords[i]'hlt) = z at cT hcell
            clear HQ hmem hne bb
            go_wp2_with (go_at_call 50; refine cT.mono ?_; rintro e w3 ⟨rfl, hR3, HB4⟩)
            go_roundw
            case rel => exact ⟨i + 1, by omega, by go_num, hR3, HB4.out, HQ2.out⟩
            case measure => simp [intOf]; omega
          | true =>
            rw [e0, isOne_zero] at bb
            cases bb
        · have hlt1 : ¬ (i : Int) < 4 := by omega
          have HE : Hid (N = columnOfP s) := by
            have h := HNN.out
            rw [oneP_col (by rw [e0]; decide) (by rw [e0]; decide) (fun v _ => by rw [e0]; exact isOne_zero v)] at h
            exact h.symm
          have cC := (columnHere_part c (k + 1)).callk (KeptBy.triv c) hs (lo := w.heap.size + 1) (by simp) (hide (And.intro HQ.out.1.1 trivial))
          clear HNN HQ
          generalize columnOfP s = r at cC HE
          obtain ⟨a, s1⟩ := r
          simp only at cC
          go_wp2_with (go_at_call 88; refine cC.mono ?_; rintro e w5 ⟨d, rfl, hR5, HB5⟩; obtain ⟨⟨k0, k1, k2, k3, k4, k5, k6, k7⟩, f⟩ := resr_cells HB5.out.1 hR)
          obtain ⟨W3, e3, ⟨c0, c1, c2, c3, c4, c5, c6, c7⟩, hO3, hI3⟩ := resr8 (e := a) HB5.out.1 hR HH.out d HB5.out.2.1
          rw [e3, HE.out]
          exact bodyPost_ret (v := exval d) (by simp [results, Tryd.results135, go_sem, asAddr, c0, c1, c2, c3, c4, c5, c6, c7]) rfl ⟨_, rfl, hO3, hI3⟩

end Go.Proofs.YtedinkoapieakaaDoor

/- The document's own parser: expressions, whole: the contract, at every state. -/
namespace Go.Proofs.YtedinkoapieakaaDoor
open Go.ChangeShapes Go.WideShapes Go.ChangeAt Go.RowKit

theorem orHere_all (c : RC) (k : Nat) : Partr 55 c (exprN k) k := by
  induction k with
  | zero => exact fun w s hs _ => absurd hs (Nat.not_lt_zero _)
  | succ k ih =>
    have hx := exprN_shrinks k
    have h1 : Partr 135 c (oneP (exprN k)) (k + 1) := oneHere_part hx ih
    have h2 := minusHere_part h1
    have h3 := timesHere_part hx h2
    have h4 := sumHere_part hx h3
    have h5 := testHere_part hx h4
    have h6 := notHere_part h5
    have h7 := andHere_part hx h6
    exact orHere_part hx h7

theorem orHere_is (c : RC) (k : Nat) : Partr 55 c exprP k := fun w s _ h => orHere_all c (s.len + 1) w s (Nat.lt_succ_self _) h

end Go.Proofs.YtedinkoapieakaaDoor
