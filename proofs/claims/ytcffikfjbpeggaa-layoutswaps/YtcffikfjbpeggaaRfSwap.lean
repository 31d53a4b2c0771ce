/- The reference's swap: the walk. -/
import Derived.Test.YtcffikfjbpeggaaRfSwapI
namespace Go.Proofs.Ytcffikfjbpeggaa
open Go.ChangeShapes Go.WideShapes Go.ChangeAt Go.RowKit

set_option maxHeartbeats 8000000 in
theorem Swapped_any (ep old next : Int) (a : Option Addr) (cap n : Nat) (cs : List (List Int)) (hn : n = cs.length) (hf : LyFew cs) (w : World) (hL : Lies (kRow kInt) (fun b => b < w.heap.size) w a cap cs) :
    Calls Try.prog 18 #[.agg #[.int .i64 ep, .slice a n cap], .int .i64 old, .int .i64 next] w fun e w' => SwPost w ep cs old next e w' := by
  obtain ⟨W0, hW0⟩ : ∃ W0, W0 = (w.alloc (.cells #[.int .i64 ep, .slice a n cap] 24)).alloc (.cells #[.int .i64 0, .slice none 0 0] 24) := ⟨_, rfl⟩
  have hb1 : Below w.heap.size w W0 := by rw [hW0]; exact ((Below.refl _ w).alloc (Nat.le_refl _) _).alloc (by simp) _
  have hd0 : Duo W0 w.heap.size (.int .i64 ep) (.slice a n cap) := by rw [hW0]; exact (Duo.new w _ _ _).later ((Below.refl _ _).alloc (Nat.le_refl _) _)
  have hd1 : Duo W0 (w.heap.size + 1) (.int .i64 0) (.slice none 0 0) := by
    rw [hW0]
    have := Duo.new (w.alloc (.cells #[.int .i64 ep, .slice a n cap] 24)) (.int .i64 0) (.slice none 0 0) 24
    rwa [World.size_alloc] at this
  have HM := put_by (LayoutMay_any ep a cap cs hf W0 (hL.move (ok' := fun b => b < W0.heap.size) (Kept.of_below hb1) (fun b hb _ => Nat.lt_of_lt_of_le hb hb1.size)))
  have HD := put_by (fun V (hV : Below W0.heap.size W0 V) => And.intro (hd0.later hV) (hd1.later hV))
  have HB := put_by hb1
  rw [← hn] at HM
  have HN := put_by hn
  have HL := put_by hL
  have HSZ : Hid (W0.heap.size = w.heap.size + 2) := put_by (by rw [hW0]; simp)
  have HE : Hid (swE ep cs old next = if mayL ep cs = false then 4 else if ¬ (0 ≤ next ∧ next ≤ 5) then 2 else if old ∉ cs.flatten then 6 else if next ∈ cs.flatten then 7 else if ep = 1000000 then 10 else 0) := put_by rfl
  clear hL hf hb1 hd0 hd1 hn
  cases g0 : mayL ep cs with
  | false =>
    rw [g0] at HM HE
    rw [if_pos rfl] at HE
    go_enter Try.func18, Try.ntmps18
    go_upto_region 1 with (fail)
    rw [← hW0]
    clear hW0
    obtain ⟨⟨k0, k1, -, -⟩, -⟩ := HD.out W0 (Below.refl _ _)
    go_wp2_with (go_at_call 10; refine (HM.out).mono ?_; clear HM; rintro e V1 ⟨rfl, h1⟩; have H1 := put_by h1; clear h1; refine hidGoal ?_)
    unfold Hid
    have dE := (HD.out _ H1.out).2.set2 (.int .i64 0) (.slice none 0 0)
    have HZ := put_by (SwPost.no (w := w) (ep := ep) (cs := cs) (old := old) (next := next) (x := 4) HE.out (by decide) (below_set2 (B := w.heap.size + 1) (HB.out.trans (H1.out.mono HB.out.size)) (by omega) (.int .i64 0) (.slice none 0 0)))
    unfold set2 at dE HZ
    obtain ⟨e0, e1, -, -⟩ := dE
    obtain ⟨⟨k0, k1, -, -⟩, ⟨r0, r1, s0, s1⟩⟩ := HD.out _ H1.out
    go_wp2
    exact bodyPost_ret (v := .tuple #[.agg #[.int .i64 0, .slice none 0 0], .int .i64 4]) (by simp [results, Try.results18, go_sem, asAddr, e0, e1]) rfl HZ.out
  | true =>
    rw [g0] at HM HE
    rw [if_neg (by simp)] at HE
    by_cases g1 : 0 ≤ next ∧ next ≤ 5
    · rw [if_neg (not_not_intro g1)] at HE
      obtain ⟨q0, q5⟩ := g1
      have h9 := mayL_iff.1 g0
      obtain ⟨b0, b1⟩ := h9.1
      have l6 : n ≤ 6 := by have := HN.out; have := h9.2.1.2.1; omega
      have H3 := put_by h9.2.1.2.2
      clear h9 g0
      go_enter Try.func18, Try.ntmps18
      go_upto_region 1 with (fail)
      rw [← hW0]
      clear hW0
      obtain ⟨⟨k0, k1, -, -⟩, -⟩ := HD.out W0 (Below.refl _ _)
      go_wp2_with (go_at_call 10; refine (HM.out).mono ?_; clear HM; rintro e V1 ⟨rfl, h1⟩; have H1 := put_by h1; clear h1; refine hidGoal ?_)
      unfold Hid
      obtain ⟨⟨k0, k1, -, -⟩, -⟩ := HD.out _ H1.out
      have HI0 : Hid (RsI w (ep + 1) (.int .i64 ep) (.slice a n cap) (swU old next) cs V1.heap.size (V1.heap.size + 1) 0 none 0 0 (V1.alloc (.cells #[.int .i64 (ep + 1), .slice none 0 0] 24))) := put_by (by
        have hbA : Below V1.heap.size V1 (V1.alloc (.cells #[.int .i64 (ep + 1), .slice none 0 0] 24)) := (Below.refl _ _).alloc (Nat.le_refl _) _
        have hs := H1.out.size
        have hz := HSZ.out
        obtain ⟨d0, d1⟩ := HD.out _ (H1.out.trans (hbA.mono hs))
        exact ⟨Rows.nil _ _ _ _ _, Duo.new _ _ _ _, d0, d1, HB.out.trans ((H1.out.trans (hbA.mono hs)).mono HB.out.size), ⟨by omega, by omega⟩, by simp⟩)
      go_upto_region 6 with (fail)
      generalize hV2 : V1.alloc (.cells #[.int .i64 (ep + 1), .slice none 0 0] 24) = V2 at HI0 ⊢
      clear hV2
      obtain ⟨k0, k1, -, -⟩ := HI0.out.box
      go_wp2
      go_loopw [9, 10, 34] (fun hv tv iv wr => ∃ (k : Nat) (b : Option Addr) (m c : Nat) (x1 x2 : Bool), k ≤ n ∧ iv = .int .i64 k ∧ hv = .bool x1 ∧ tv = .bool x2 ∧ Hid (x1 = decide (old ∈ (cs.take k).flatten)) ∧ Hid (x2 = decide (next ∈ (cs.take k).flatten)) ∧ Hid (RsI w (ep + 1) (.int .i64 ep) (.slice a n cap) (swU old next) cs V1.heap.size (V1.heap.size + 1) k b m c wr)) (fun _ _ iv _ => n - (intOf iv).toNat)
      case atStart => exact ⟨0, none, 0, 0, false, false, Nat.zero_le _, rfl, rfl, rfl, put_by (by simp), put_by (by simp), HI0⟩
      case round =>
        obtain ⟨k, b, m, c, x1, x2, hk, rfl, rfl, rfl, HB1, HB2, HI⟩ := hrel
        by_cases hlt : k < n
        · have hkc : k < cs.length := by have := HN.out; omega
          obtain ⟨bb, off, a9, c9, rfl, hb, hbo, hc, hL2⟩ := row_at HL.out hkc
          have hc1 : wr.cell? ⟨bb, off + k, none⟩ = some (.slice a9 cs[k].length c9) := (HI.out.below.cell (p := ⟨bb, off + k, none⟩) hbo).trans hc
          have hm3 : cs[k].length ≤ 3 := (H3.out _ (List.getElem_mem _)).2
          have HC := put_by hL2
          have HTF := put_by (take_flatten hkc)
          obtain ⟨ch, hch⟩ : ∃ ch, ch = cs[k] := ⟨_, rfl⟩
          rw [← hch] at hc1 hm3 HC HTF
          have HCH := put_by hch
          obtain ⟨pre, hpre⟩ : ∃ pre, pre = (cs.take k).flatten := ⟨_, rfl⟩
          rw [← hpre] at HTF HB1 HB2
          obtain ⟨z, hz⟩ : ∃ z, z = ch.length := ⟨_, rfl⟩
          rw [← hz] at hc1 hm3
          have HZL := put_by hz
          clear hc hb hbo hL2 hch hpre hz
          go_wp2
          rename World => V0
          go_loopw [9, 10, 13, 40] (fun hv tv v jv ws => ∃ (i : Nat) (a2 : Option Addr) (n2 c2 : Nat) (x1 x2 : Bool), i ≤ z ∧ jv = .int .i64 i ∧ hv = .bool x1 ∧ tv = .bool x2 ∧ v = .slice a2 n2 c2 ∧ Hid (x1 = decide (old ∈ pre ++ ch.take i)) ∧ Hid (x2 = decide (next ∈ pre ++ ch.take i)) ∧ Hid (Rows kInt (fun b => V0.heap.size ≤ b) ws V0.heap.size 3 (.slice a2 n2 c2) ((ch.take i).map (swU old next)) ∧ Below V0.heap.size V0 ws)) (fun _ _ _ jv _ => z - (intOf jv).toNat)
          case atStart => exact ⟨0, none, 0, 0, x1, x2, Nat.zero_le _, rfl, rfl, rfl, rfl, put_by (by rw [HB1.out]; simp), put_by (by rw [HB2.out]; simp), put_by ⟨Rows.nil _ _ _ _ _, Below.refl _ _⟩⟩
          case round =>
            clear HB1 HB2
            obtain ⟨i, a2, n2, c2, x1, x2, hi, rfl, rfl, rfl, rfl, HB1, HB2, HJ⟩ := hrel
            by_cases hit : i < z
            · have hic : i < ch.length := by have := HZL.out; omega
              obtain ⟨b3, off3, rfl, -, hbo3, hc3⟩ := int_at HC.out hic
              have hc4 : wr.cell? ⟨b3, off3 + i, none⟩ = some (.int .i64 ch[i]) := ((HI.out.below.trans (HJ.out.2.mono (by have := HI.out.size; have := HI.out.ord; omega))).cell (p := ⟨b3, off3 + i, none⟩) hbo3).trans hc3
              have HL1 : Hid (((ch.take i).map (swU old next)).length + 1 ≤ 100000) := put_by (by rw [List.length_map, List.length_take]; omega)
              have HS0 : Hid (∀ y, y = swU old next ch[i] → (ch.take i).map (swU old next) ++ [y] = (ch.take (i + 1)).map (swU old next)) := put_by (fun y hy => by
                rw [List.take_succ_eq_append_getElem hic, List.map_append, hy]
                rfl)
              have HH : Hid (decide (old ∈ pre ++ ch.take (i + 1)) = (decide (old ∈ pre ++ ch.take i) || (ch[i] == old))) := put_by (by rw [List.take_succ_eq_append_getElem hic, ← List.append_assoc, mem_snoc])
              have HT : Hid (decide (next ∈ pre ++ ch.take (i + 1)) = (decide (next ∈ pre ++ ch.take i) || (ch[i] == next))) := put_by (by rw [List.take_succ_eq_append_getElem hic, ← List.append_assoc, mem_snoc])
              generalize ch[i] = u at hc4 HS0 HH HT
              clear hc3 hbo3 hic
              cases x2 with
              | true =>
                by_cases eo : u = old
                · have eo2 : old = u := eo.symm
                  clear eo
                  subst eo2
                  have HS := put_by (HS0.out next (by rw [swU, if_pos rfl]))
                  have HH2 := put_by (show true = decide (old ∈ pre ++ ch.take (i + 1)) by rw [HH.out, ← HB1.out] <;> simp)
                  have HT2 := put_by (show true = decide (next ∈ pre ++ ch.take (i + 1)) by rw [HT.out, ← HB2.out] <;> simp)
                  clear HH HT HB1 HB2
                  go_wp2_with (at_builtin; refine wpList_append_one (K := kInt) (ok := fun b => V0.heap.size ≤ b) eltI rfl (.tmp 53) (.tmp 55) rfl V0.heap.size (.slice a2 n2 c2) _ rfl HJ.out.1 next [.int .i64 next] _ _ rfl rfl rfl (fun b hb => Nat.le_trans HJ.out.2.size hb) HL1.out (by decide) HJ.out.2.size ?_; intro v' w5 r1 r2 r3; refine hidGoal ?_)
                  obtain ⟨a3, c3, e3⟩ := rows_form r1
                  subst e3
                  obtain ⟨n3, hn3⟩ : ∃ n3, n3 = ((ch.take i).map (swU old next) ++ [next]).length := ⟨_, rfl⟩
                  rw [← hn3] at r1 ⊢
                  rw [HS.out] at r1
                  have HJ2 := put_by (And.intro r1 (HJ.out.2.grown r2 HJ.out.2.size (fun g hg => (rows_lt HJ.out.1 g hg).1)))
                  clear r1 r2 r3 hn3
                  unfold Hid
                  go_wp2
                  go_roundw
                  case rel => exact ⟨i + 1, a3, n3, c3, true, true, by omega, by simp, rfl, rfl, rfl, HH2, HT2, HJ2⟩
                  case measure => simp [intOf]; omega

                · have zo : (u == old) = false := by simpa using eo
                  have HS := put_by (HS0.out u (by rw [swU, if_neg eo]))
                  rw [zo, Bool.or_false] at HH
                  have HH2 := put_by (show x1 = decide (old ∈ pre ++ ch.take (i + 1)) by rw [HH.out, ← HB1.out] <;> simp)
                  have HT2 := put_by (show true = decide (next ∈ pre ++ ch.take (i + 1)) by rw [HT.out, ← HB2.out] <;> simp)
                  clear HH HT HB1 HB2
                  go_wp2_with (at_builtin; refine wpList_append_one (K := kInt) (ok := fun b => V0.heap.size ≤ b) eltI rfl (.tmp 57) (.tmp 59) rfl V0.heap.size (.slice a2 n2 c2) _ rfl HJ.out.1 u [.int .i64 u] _ _ rfl rfl rfl (fun b hb => Nat.le_trans HJ.out.2.size hb) HL1.out (by decide) HJ.out.2.size ?_; intro v' w5 r1 r2 r3; refine hidGoal ?_)
                  obtain ⟨a3, c3, e3⟩ := rows_form r1
                  subst e3
                  obtain ⟨n3, hn3⟩ : ∃ n3, n3 = ((ch.take i).map (swU old next) ++ [u]).length := ⟨_, rfl⟩
                  rw [← hn3] at r1 ⊢
                  rw [HS.out] at r1
                  have HJ2 := put_by (And.intro r1 (HJ.out.2.grown r2 HJ.out.2.size (fun g hg => (rows_lt HJ.out.1 g hg).1)))
                  clear r1 r2 r3 hn3
                  unfold Hid
                  go_wp2
                  go_roundw
                  case rel => exact ⟨i + 1, a3, n3, c3, x1, true, by omega, by simp, rfl, rfl, rfl, HH2, HT2, HJ2⟩
                  case measure => simp [intOf]; omega

              | false =>
                by_cases en : u = next
                · have en2 : next = u := en.symm
                  clear en
                  subst en2
                  by_cases eo : next = old
                  · subst eo
                    have HS := put_by (HS0.out next (by rw [swU, if_pos rfl]))
                    have HH2 := put_by (show true = decide (next ∈ pre ++ ch.take (i + 1)) by rw [HH.out, ← HB1.out] <;> simp)
                    have HT2 := put_by (show true = decide (next ∈ pre ++ ch.take (i + 1)) by rw [HT.out, ← HB2.out] <;> simp)
                    clear HH HT HB1 HB2
                    go_wp2_with (at_builtin; refine wpList_append_one (K := kInt) (ok := fun b => V0.heap.size ≤ b) eltI rfl (.tmp 53) (.tmp 55) rfl V0.heap.size (.slice a2 n2 c2) _ rfl HJ.out.1 next [.int .i64 next] _ _ rfl rfl rfl (fun b hb => Nat.le_trans HJ.out.2.size hb) HL1.out (by decide) HJ.out.2.size ?_; intro v' w5 r1 r2 r3; refine hidGoal ?_)
                    obtain ⟨a3, c3, e3⟩ := rows_form r1
                    subst e3
                    obtain ⟨n3, hn3⟩ : ∃ n3, n3 = ((ch.take i).map (swU next next) ++ [next]).length := ⟨_, rfl⟩
                    rw [← hn3] at r1 ⊢
                    rw [HS.out] at r1
                    have HJ2 := put_by (And.intro r1 (HJ.out.2.grown r2 HJ.out.2.size (fun g hg => (rows_lt HJ.out.1 g hg).1)))
                    clear r1 r2 r3 hn3
                    unfold Hid
                    go_wp2
                    go_roundw
                    case rel => exact ⟨i + 1, a3, n3, c3, true, true, by omega, by simp, rfl, rfl, rfl, HH2, HT2, HJ2⟩
                    case measure => simp [intOf]; omega

                  · have zo : (next == old) = false := by simpa using eo
                    have HS := put_by (HS0.out next (by rw [swU, if_neg eo]))
                    rw [zo, Bool.or_false] at HH
                    have HH2 := put_by (show x1 = decide (old ∈ pre ++ ch.take (i + 1)) by rw [HH.out, ← HB1.out] <;> simp)
                    have HT2 := put_by (show true = decide (next ∈ pre ++ ch.take (i + 1)) by rw [HT.out, ← HB2.out] <;> simp)
                    clear HH HT HB1 HB2
                    go_wp2_with (at_builtin; refine wpList_append_one (K := kInt) (ok := fun b => V0.heap.size ≤ b) eltI rfl (.tmp 57) (.tmp 59) rfl V0.heap.size (.slice a2 n2 c2) _ rfl HJ.out.1 next [.int .i64 next] _ _ rfl rfl rfl (fun b hb => Nat.le_trans HJ.out.2.size hb) HL1.out (by decide) HJ.out.2.size ?_; intro v' w5 r1 r2 r3; refine hidGoal ?_)
                    obtain ⟨a3, c3, e3⟩ := rows_form r1
                    subst e3
                    obtain ⟨n3, hn3⟩ : ∃ n3, n3 = ((ch.take i).map (swU old next) ++ [next]).length := ⟨_, rfl⟩
                    rw [← hn3] at r1 ⊢
                    rw [HS.out] at r1
                    have HJ2 := put_by (And.intro r1 (HJ.out.2.grown r2 HJ.out.2.size (fun g hg => (rows_lt HJ.out.1 g hg).1)))
                    clear r1 r2 r3 hn3
                    unfold Hid
                    go_wp2
                    go_roundw
                    case rel => exact ⟨i + 1, a3, n3, c3, x1, true, by omega, by simp, rfl, rfl, rfl, HH2, HT2, HJ2⟩
                    case measure => simp [intOf]; omega

                · have zn : (u == next) = false := by simpa using en
                  rw [zn, Bool.or_false] at HT
                  by_cases eo : u = old
                  · have eo2 : old = u := eo.symm
                    clear eo
                    subst eo2
                    have HS := put_by (HS0.out next (by rw [swU, if_pos rfl]))
                    have HH2 := put_by (show true = decide (old ∈ pre ++ ch.take (i + 1)) by rw [HH.out, ← HB1.out] <;> simp)
                    have HT2 := put_by (show false = decide (next ∈ pre ++ ch.take (i + 1)) by rw [HT.out, ← HB2.out] <;> simp)
                    clear HH HT HB1 HB2
                    go_wp2_with (at_builtin; refine wpList_append_one (K := kInt) (ok := fun b => V0.heap.size ≤ b) eltI rfl (.tmp 53) (.tmp 55) rfl V0.heap.size (.slice a2 n2 c2) _ rfl HJ.out.1 next [.int .i64 next] _ _ rfl rfl rfl (fun b hb => Nat.le_trans HJ.out.2.size hb) HL1.out (by decide) HJ.out.2.size ?_; intro v' w5 r1 r2 r3; refine hidGoal ?_)
                    obtain ⟨a3, c3, e3⟩ := rows_form r1
                    subst e3
                    obtain ⟨n3, hn3⟩ : ∃ n3, n3 = ((ch.take i).map (swU old next) ++ [next]).length := ⟨_, rfl⟩
                    rw [← hn3] at r1 ⊢
                    rw [HS.out] at r1
                    have HJ2 := put_by (And.intro r1 (HJ.out.2.grown r2 HJ.out.2.size (fun g hg => (rows_lt HJ.out.1 g hg).1)))
                    clear r1 r2 r3 hn3
                    unfold Hid
                    go_wp2
                    go_roundw
                    case rel => exact ⟨i + 1, a3, n3, c3, true, false, by omega, by simp, rfl, rfl, rfl, HH2, HT2, HJ2⟩
                    case measure => simp [intOf]; omega

                  · have zo : (u == old) = false := by simpa using eo
                    have HS := put_by (HS0.out u (by rw [swU, if_neg eo]))
                    rw [zo, Bool.or_false] at HH
                    have HH2 := put_by (show x1 = decide (old ∈ pre ++ ch.take (i + 1)) by rw [HH.out, ← HB1.out] <;> simp)
                    have HT2 := put_by (show false = decide (next ∈ pre ++ ch.take (i + 1)) by rw [HT.out, ← HB2.out] <;> simp)
                    clear HH HT HB1 HB2
                    go_wp2_with (at_builtin; refine wpList_append_one (K := kInt) (ok := fun b => V0.heap.size ≤ b) eltI rfl (.tmp 57) (.tmp 59) rfl V0.heap.size (.slice a2 n2 c2) _ rfl HJ.out.1 u [.int .i64 u] _ _ rfl rfl rfl (fun b hb => Nat.le_trans HJ.out.2.size hb) HL1.out (by decide) HJ.out.2.size ?_; intro v' w5 r1 r2 r3; refine hidGoal ?_)
                    obtain ⟨a3, c3, e3⟩ := rows_form r1
                    subst e3
                    obtain ⟨n3, hn3⟩ : ∃ n3, n3 = ((ch.take i).map (swU old next) ++ [u]).length := ⟨_, rfl⟩
                    rw [← hn3] at r1 ⊢
                    rw [HS.out] at r1
                    have HJ2 := put_by (And.intro r1 (HJ.out.2.grown r2 HJ.out.2.size (fun g hg => (rows_lt HJ.out.1 g hg).1)))
                    clear r1 r2 r3 hn3
                    unfold Hid
                    go_wp2
                    go_roundw
                    case rel => exact ⟨i + 1, a3, n3, c3, x1, false, by omega, by simp, rfl, rfl, rfl, HH2, HT2, HJ2⟩
                    case measure => simp [intOf]; omega


            · obtain rfl : i = z := by omega
              have HX : Hid ((ch.take i).map (swU old next) = cs[k].map (swU old next)) := put_by (by rw [HZL.out, List.take_length, HCH.out])
              have HF : Hid (pre ++ ch.take i = (cs.take (k + 1)).flatten) := put_by (by rw [HTF.out, HZL.out, List.take_length])
              rw [HF.out] at HB1 HB2
              obtain ⟨q1, qL, -, qb⟩ := rows_lies HJ.out.1 (fun _ h => h)
              have HN2 : Hid (n2 = ((ch.take i).map (swU old next)).length) := put_by q1
              have HLX : Hid (Lies kInt (fun b9 => (V1.heap.size + 1 ≤ b9) ∧ (Value.slice b m c).ownBlock ≠ some b9) wr a2 c2 ((ch.take i).map (swU old next))) := put_by (qL.move (Kept.of_below (Below.refl _ _)) (fun b9 _ hb => ⟨by have := HI.out.size; omega, fun e => by have := (HI.out.own _ e).2; omega⟩))
              have HRW : Hid (Rows (kRow kInt) (fun b => V1.heap.size + 1 ≤ b) wr (V1.heap.size + 1) 33 (.slice b m c) ((cs.take k).map (fun c => c.map (swU old next)))) := put_by (HI.out.rows.later HJ.out.2)
              have HL9 : Hid (((cs.take k).map (fun c => c.map (swU old next))).length + 1 ≤ 100000) := put_by (by rw [List.length_map, List.length_take]; omega)
              have HSZ2 : Hid (V1.heap.size + 1 ≤ wr.heap.size) := put_by (by have := HI.out.size; have := HJ.out.2.size; omega)
              obtain ⟨v0, v1, y0, y1⟩ := HI.out.var.later HJ.out.2
              clear q1 qL qb
              go_wp2_with (at_builtin; refine wpList_append_one (K := kRow kInt) (ok := fun b => V1.heap.size + 1 ≤ b) eltR rfl (.tmp 63) (.tmp 65) rfl (V1.heap.size + 1) (.slice b m c) _ rfl HRW.out ((ch.take i).map (swU old next)) [.slice a2 n2 c2] _ _ rfl rfl ⟨a2, c2, by rw [HN2.out], HLX.out⟩ (fun b hb => Nat.le_trans HSZ2.out hb) HL9.out (by decide) HSZ2.out ?_; intro v' w5 r1 r2 r3; refine hidGoal ?_)
              obtain ⟨a3, c3, e3⟩ := rows_form r1
              subst e3
              obtain ⟨n3, hn3⟩ : ∃ n3, n3 = ((cs.take k).map (fun c => c.map (swU old next)) ++ [(ch.take i).map (swU old next)]).length := ⟨_, rfl⟩
              rw [← hn3] at r1 ⊢
              rw [HX.out] at r1
              obtain ⟨⟨z0, z1, z2, z3⟩, -, -, -⟩ := HI.out.vars HJ.out.2 r2
              have HI2 := put_by (HI.out.more hkc HJ.out.2 r2 r1)
              clear r1 r2 r3 hn3
              unfold Hid
              go_wp2
              go_roundw
              case rel => exact ⟨k + 1, a3, n3, c3, x1, x2, by omega, by simp, rfl, rfl, HB1, HB2, HI2⟩
              case measure => simp [intOf]; omega
        · obtain rfl : k = n := by omega
          have HTK : Hid (cs.take k = cs) := put_by (by rw [HN.out, List.take_length])
          rw [HTK.out] at HB1 HB2
          by_cases go : old ∈ cs.flatten
          · rw [if_neg (not_not_intro go)] at HE
            rw [decide_eq_true go] at HB1
            obtain rfl := HB1.out
            by_cases gn : next ∈ cs.flatten
            · rw [if_pos gn] at HE
              rw [decide_eq_true gn] at HB2
              obtain rfl := HB2.out
              have HR := HE
              have dE := HI.out.res.set2 (.int .i64 0) (.slice none 0 0)
              have HZ := put_by (SwPost.no (w := w) (ep := ep) (cs := cs) (old := old) (next := next) (x := 7) HR.out (by decide) (below_set2 (B := w.heap.size + 1) HI.out.below (by omega) (.int .i64 0) (.slice none 0 0)))
              unfold set2 at dE HZ
              obtain ⟨e0, e1, -, -⟩ := dE
              obtain ⟨k0, k1, -, -⟩ := HI.out.box
              obtain ⟨r0, r1, s0, s1⟩ := HI.out.res
              go_wp2
              exact bodyPost_ret (v := .tuple #[.agg #[.int .i64 0, .slice none 0 0], .int .i64 7]) (by simp [results, Try.results18, go_sem, asAddr, e0, e1]) rfl HZ.out

            · rw [if_neg gn] at HE
              rw [decide_eq_false gn] at HB2
              obtain rfl := HB2.out
              by_cases ge : ep = 1000000
              · rw [if_pos ge] at HE
                have HR := HE
                have ge2 : 1000000 ≤ ep := by omega
                clear ge
                have dE := HI.out.res.set2 (.int .i64 0) (.slice none 0 0)
                have HZ := put_by (SwPost.no (w := w) (ep := ep) (cs := cs) (old := old) (next := next) (x := 10) HR.out (by decide) (below_set2 (B := w.heap.size + 1) HI.out.below (by omega) (.int .i64 0) (.slice none 0 0)))
                unfold set2 at dE HZ
                obtain ⟨e0, e1, -, -⟩ := dE
                obtain ⟨k0, k1, -, -⟩ := HI.out.box
                obtain ⟨r0, r1, s0, s1⟩ := HI.out.res
                go_wp2
                exact bodyPost_ret (v := .tuple #[.agg #[.int .i64 0, .slice none 0 0], .int .i64 10]) (by simp [results, Try.results18, go_sem, asAddr, e0, e1]) rfl HZ.out

              · rw [if_neg ge] at HE
                have ge2 : ep < 1000000 := by omega
                have HLn : Hid (m = cs.length ∧ Lies (kRow kInt) (fun b => V1.heap.size + 1 ≤ b) wr b c (swC old next cs)) := put_by (by
                  have h1 := HI.out.rows
                  rw [HTK.out] at h1
                  obtain ⟨h2, h3, -, -⟩ := rows_lies h1 (fun _ h => h)
                  exact ⟨by rw [h2, List.length_map], h3⟩)
                have dE := HI.out.res.set2 (.int .i64 (ep + 1)) (.slice b m c)
                have HZ := put_by (SwPost.yes (w := w) (ep := ep) (cs := cs) (old := old) (next := next) HE.out HLn.out.1 (((HLn.out.2).move (kept_set2 (B := w.heap.size + 1) (by have := HI.out.ord; omega) (.int .i64 (ep + 1)) (.slice b m c)) (fun _ _ h => h)).move (Kept.of_below (Below.refl _ _)) (fun b _ hb => by have := HI.out.ord; have h : V1.heap.size + 1 ≤ b := hb; omega)) (below_set2 HI.out.below (by omega) _ _))
                unfold set2 at dE HZ
                obtain ⟨e0, e1, -, -⟩ := dE
                obtain ⟨k0, k1, -, -⟩ := HI.out.box
                obtain ⟨v0, v1, -, -⟩ := HI.out.var
                obtain ⟨r0, r1, s0, s1⟩ := HI.out.res
                go_wp2
                exact bodyPost_ret (v := .tuple #[.agg #[.int .i64 (ep + 1), .slice b m c], .int .i64 0]) (by simp [results, Try.results18, go_sem, asAddr, e0, e1]) rfl HZ.out
          · rw [if_pos go] at HE
            rw [decide_eq_false go] at HB1
            obtain rfl := HB1.out
            have HR := HE
            have dE := HI.out.res.set2 (.int .i64 0) (.slice none 0 0)
            have HZ := put_by (SwPost.no (w := w) (ep := ep) (cs := cs) (old := old) (next := next) (x := 6) HR.out (by decide) (below_set2 (B := w.heap.size + 1) HI.out.below (by omega) (.int .i64 0) (.slice none 0 0)))
            unfold set2 at dE HZ
            obtain ⟨e0, e1, -, -⟩ := dE
            obtain ⟨k0, k1, -, -⟩ := HI.out.box
            obtain ⟨r0, r1, s0, s1⟩ := HI.out.res
            go_wp2
            exact bodyPost_ret (v := .tuple #[.agg #[.int .i64 0, .slice none 0 0], .int .i64 6]) (by simp [results, Try.results18, go_sem, asAddr, e0, e1]) rfl HZ.out

    · rw [if_pos g1] at HE
      go_enter Try.func18, Try.ntmps18
      go_upto_region 1 with (fail)
      rw [← hW0]
      clear hW0
      obtain ⟨⟨k0, k1, -, -⟩, -⟩ := HD.out W0 (Below.refl _ _)
      go_wp2_with (go_at_call 10; refine (HM.out).mono ?_; clear HM; rintro e V1 ⟨rfl, h1⟩; have H1 := put_by h1; clear h1; refine hidGoal ?_)
      unfold Hid
      have dE := (HD.out _ H1.out).2.set2 (.int .i64 0) (.slice none 0 0)
      have HZ := put_by (SwPost.no (w := w) (ep := ep) (cs := cs) (old := old) (next := next) (x := 2) HE.out (by decide) (below_set2 (B := w.heap.size + 1) (HB.out.trans (H1.out.mono HB.out.size)) (by omega) (.int .i64 0) (.slice none 0 0)))
      unfold set2 at dE HZ
      obtain ⟨e0, e1, -, -⟩ := dE
      obtain ⟨⟨k0, k1, -, -⟩, ⟨r0, r1, s0, s1⟩⟩ := HD.out _ H1.out
      by_cases g2 : next < 0
      · go_wp2
        exact bodyPost_ret (v := .tuple #[.agg #[.int .i64 0, .slice none 0 0], .int .i64 2]) (by simp [results, Try.results18, go_sem, asAddr, e0, e1]) rfl HZ.out
      · have g3 : 5 < next := by omega
        go_wp2
        exact bodyPost_ret (v := .tuple #[.agg #[.int .i64 0, .slice none 0 0], .int .i64 2]) (by simp [results, Try.results18, go_sem, asAddr, e0, e1]) rfl HZ.out

end Go.Proofs.Ytcffikfjbpeggaa
