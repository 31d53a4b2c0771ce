/- The document's own parser, whole: the contract, at every list of tokens. -/
import Derived.Test.YtedinkoapieakaaDoorRefUpd
import Derived.Test.YtedinkoapieakaaDoorParseParse
import Derived.Test.YtedinkoapieakaaDoorLexRefTok
namespace Go.Proofs.YtedinkoapieakaaDoor
open Go.ChangeShapes Go.WideShapes Go.ChangeAt Go.RowKit

theorem Onr.start {W : World} {ao : Option Addr} {cap : Nat} {ts : List Tok} (hl : ts.length ≤ 300) (ht : Toks W ao cap ts) (ho : ∀ a, ao = some a → a.block < W.heap.size) :
    Onr ⟨W.heap.size, ao, cap, ts, hl⟩ (W.alloc (.cells #[.slice ao ts.length cap, .int .i64 0, .int .i64 0] 53)) (W.alloc (.cells #[.slice ao ts.length cap, .int .i64 0, .int .i64 0] 53)) ⟨ts, false⟩ := by
  have hb : Below W.heap.size W (W.alloc (.cells #[.slice ao ts.length cap, .int .i64 0, .int .i64 0] 53)) := (Below.refl _ W).alloc (Nat.le_refl _) _
  refine ⟨⟨by simp, by simp, by simp [atv], by simp [stv], fun i => by simp, ⟨[], rfl⟩, ht.later hb, fun a ha => ?_⟩, .refl _ _, by simp, fun a ha => ?_⟩
  · have := ho a ha
    show a.block ≠ W.heap.size
    omega
  · have := ho a ha
    simp
    omega

/-- what is known behind the reading -/
structure Readr (c : RC) (w Wb : World) (T : Nat) (W : World) (s : St) (t : Stm) (x : SD) : Prop where
  on : Onr c Wb W s
  var : VarB W T (stmCells x)
  stm : IsStm Wb.heap.size W t x
  lo : Wb.heap.size ≤ T
  base : Below (w.alloc zeroStm).heap.size (w.alloc zeroStm) W
theorem Readr.go {c : RC} {w Wb : World} {T : Nat} {W W' : World} {s s' : St} {t : Stm} {x : SD} (h : Readr c w Wb T W s t x) (hc : (w.alloc zeroStm).heap.size ≤ c.R) (k : Onr c W W' s') : Readr c w Wb T W' s' t x :=
  ⟨h.on.back k, h.var.move k.keeps (by have := h.on.oldR; have := h.lo; omega), h.stm.keep k.keeps h.on.oldR, h.lo, h.base.trans (k.keeps.below hc (Nat.le_trans h.base.size (Nat.le_refl _)))⟩
theorem Readr.start {c : RC} {w Wb W : World} {s : St} {t : Stm} {x : SD} (h : Onr c Wb W s) (hI : IsStm Wb.heap.size W t x) (hc : (w.alloc zeroStm).heap.size ≤ c.R) (hb : Below (w.alloc zeroStm).heap.size (w.alloc zeroStm) Wb) :
    ∃ W', (W.alloc zeroStm).setCells W.heap.size 0 (stmCells x).toArray.toList = W' ∧ c.R < W'.heap.size ∧ Hid (Readr c w Wb W.heap.size W' s t x) := by
  obtain ⟨W', e, hR, H⟩ := SVr.init h x
  have hbl : Below W.heap.size W W' := by
    rw [← e]
    have h1 : Below W.heap.size W (W.alloc zeroStm) := (Below.refl _ W).alloc (Nat.le_refl _) _
    exact h1.trans ((setFrom_keeps W.heap.size (stmCells x) (W.alloc zeroStm) 0).below (Nat.le_refl _) h1.size)
  refine ⟨W', e, hR, H.out.on, H.out.var, hI.keep (R := c.R) (.of_below hbl) h.oldR, h.size, ?_⟩
  have h2 : Below (w.alloc zeroStm).heap.size (w.alloc zeroStm) W := hb.trans (h.keeps.below hc hb.size)
  exact h2.trans (hbl.mono h2.size)

set_option maxRecDepth 100000 in
set_option maxHeartbeats 16000000 in
theorem Parsed_any (ao : Option Addr) (cap : Nat) (ts : List Tok) (w : World) (hT : Toks w ao cap ts) (ho : ∀ a, ao = some a → a.block < w.heap.size) :
    Calls Tryd.prog 9 #[.slice ao ts.length cap] w fun e w' => ∃ x : SD, e = .returned (.tuple #[stmval x, .int .i64 ((parseP ts).2.1 : Int), .int .i64 (parseP ts).2.2]) ∧ Hid (Below w.heap.size w w' ∧ IsStm w.heap.size w' (parseP ts).1 x) := by
  have bz : Below w.heap.size w (w.alloc zeroStm) := (Below.refl _ w).alloc (Nat.le_refl _) _
  by_cases h0 : 300 < ts.length
  · have e0 : parseP ts = (noStm, 0, 8) := by simp [parseP, h0]
    rw [e0]
    have h01 : (300 : Int) < (ts.length : Int) := by omega
    generalize ts.length = n at h01
    have HZ := hide (Below.refl (w.alloc zeroStm).heap.size (w.alloc zeroStm))
    clear hT ho e0 h0
    go_enter Tryd.func9, Tryd.ntmps9
    go_wp2_with (refine wpList_store_mid rfl 38 (.tmp 2) (.tmp 12) rfl w.heap.size 0 (stmCells noSD).toArray rfl rfl (parse_there HZ.out _) (stm_size _) (stm_one _) ?_; obtain ⟨wf, ef, HR, HF⟩ := parse_fin (x := noSD) (t := noStm) HZ.out (IsStm.none _ _); rw [ef]; clear ef)
    exact bodyPost_ret (results_parse rfl rfl rfl rfl HR.out) rfl ⟨noSD, rfl, HF⟩
  have h01 : ¬ (300 : Int) < (ts.length : Int) := by omega
  have hl : ts.length ≤ 300 := by omega
  have HP : Hid ((∀ i, firstBad ts = some i → parseP ts = (noStm, i, 4)) ∧ (firstBad ts = none → parseP ts = readP ts)) := ⟨fun i h => by simp [parseP, h0, h], fun h => by simp [parseP, h0, h]⟩
  have H0 := hide (And.intro hT ho)
  obtain ⟨n, hn⟩ : ∃ n, ts.length = n := ⟨_, rfl⟩
  have HN := hide hn
  rw [hn] at h01 ⊢
  have hn3 : n ≤ 300 := by omega
  have HZ := hide bz
  clear hT ho h0 hn bz
  generalize parseP ts = N at HP ⊢
  go_enter Tryd.func9, Tryd.ntmps9
  go_wp2
  go_loopw [15] (fun x wr => ∃ k : Nat, k ≤ n ∧ x = .int .i64 (k : Int) ∧ Hid (Below (w.alloc zeroStm).heap.size (w.alloc zeroStm) wr) ∧ Hid (∀ j (hj : j < ts.length), j < k → may ts[j] = true)) (fun x _ => n - (intOf x).toNat)
  case atStart => exact ⟨0, Nat.zero_le _, rfl, Below.refl _ _, fun _ _ h => absurd h (Nat.not_lt_zero _)⟩
  case round =>
    obtain ⟨k, hk, rfl, HB, HM⟩ := hrel
    have hw := HZ.out.trans (HB.out.mono HZ.out.size)
    have tk := H0.out.1.later hw
    by_cases hlt : k < n
    · have hlt1 : (k : Int) < (n : Int) := by omega
      have hlt2 : k < ts.length := by rw [HN.out]; exact hlt
      obtain ⟨b, off, hao, hbw, hcell⟩ : ∃ b off, ao = some ⟨b, off, none⟩ ∧ b < wr.heap.size ∧ ∀ i (hi : i < ts.length), wr.cell? ⟨b, off + i * 3, none⟩ = some (.int .i64 ts[i].kind) ∧ wr.cell? ⟨b, off + i * 3 + 1, none⟩ = some (.int .i64 ts[i].int) ∧ wr.cell? ⟨b, off + i * 3 + 2, none⟩ = some (.string (str ts[i].text)) := by
        rcases tk.2.2 with h | h
        · rw [h] at hlt2
          cases hlt2
        · exact h
      subst hao
      obtain ⟨c0, c1, c2⟩ := hcell k hlt2
      have cM : Calls Tryd.prog 17 #[.agg #[.int .i64 ts[k].kind, .int .i64 ts[k].int, .string (str ts[k].text)]] (wr.alloc (.cells #[.int .i64 ts[k].kind, .int .i64 ts[k].int, .string (str ts[k].text)] 44)) fun e w' => e = .returned (.bool (may ts[k])) ∧ Hid (Below (w.alloc zeroStm).heap.size (w.alloc zeroStm) w') := by
        have ha : Below wr.heap.size wr (wr.alloc (.cells #[.int .i64 ts[k].kind, .int .i64 ts[k].int, .string (str ts[k].text)] 44)) := (Below.refl _ wr).alloc (Nat.le_refl _) _
        have hb := hw.trans (ha.mono hw.size)
        have := TokenMay_any ts[k].kind ts[k].int (str ts[k].text) (wr.alloc (.cells #[.int .i64 ts[k].kind, .int .i64 ts[k].int, .string (str ts[k].text)] 44))
        rw [bts_str] at this
        exact this.mono fun e w' ⟨h1, h2⟩ => ⟨h1, (HB.out.trans (ha.mono HB.out.size)).trans (h2.mono (Nat.le_trans HB.out.size ha.size))⟩
      cases hm : may ts[k] with
      | true =>
        have HM2 : Hid (∀ j (hj : j < ts.length), j < k + 1 → may ts[j] = true) := by
          intro j hj hjk
          by_cases h : j = k
          · subst h
            exact hm
          · exact HM.out j hj (by omega)
        rw [hm] at cM
        clear hcell hm tk hw
        generalize ts[k] = t at c0 c1 c2 cM
        go_wp2_with (go_at_call 17; refine cM.mono ?_; rintro e w1 ⟨rfl, HB1⟩)
        go_roundw
        case rel => exact ⟨k + 1, by omega, by go_num, HB1, HM2⟩
        case measure => simp [intOf]; omega
      | false =>
        have HE : Hid (N = (noStm, k, 4)) := HP.out.1 _ (firstBad_at hlt2 HM.out hm)
        rw [hm] at cM
        clear hcell hm tk hw
        generalize ts[k] = t at c0 c1 c2 cM
        go_wp2_with (first
          | (go_at_call 17; refine cM.mono ?_; rintro e w1 ⟨rfl, HB1⟩)
          | (refine wpList_store_mid rfl 38 (.tmp 2) (.tmp 23) rfl w.heap.size 0 (stmCells noSD).toArray rfl rfl (parse_there HB1.out _) (stm_size _) (stm_one _) ?_; obtain ⟨wf, ef, HR, HF⟩ := parse_fin (x := noSD) (t := noStm) HB1.out (IsStm.none _ _); rw [ef]; clear ef))
        rw [HE.out]
        exact bodyPost_ret (results_parse rfl rfl rfl rfl HR.out) rfl ⟨noSD, rfl, HF⟩
    · have hlt1 : ¬ (k : Int) < (n : Int) := by omega
      have HE : Hid (N = readP ts) := HP.out.2 (firstBad_none (fun j hj => HM.out j hj (by have := HN.out; omega)))
      have hao : ∀ a, ao = some a → a.block < wr.heap.size := fun a ha => Nat.lt_of_lt_of_le (H0.out.2 a ha) hw.size
      have hOn := Onr.start hl tk hao
      have hbW : Below (w.alloc zeroStm).heap.size (w.alloc zeroStm) (wr.alloc (.cells #[.slice ao ts.length cap, .int .i64 0, .int .i64 0] 53)) := HB.out.alloc HB.out.size _
      have cS := anyHere_q ⟨wr.heap.size, ao, cap, ts, hl⟩ _ _ hOn
      rw [HN.out] at cS hOn hbW
      have hcR : (w.alloc zeroStm).heap.size ≤ wr.heap.size := HB.out.size
      obtain ⟨⟨t0, s2⟩, hst⟩ : ∃ p, statementP ⟨ts, false⟩ = p := ⟨_, rfl⟩
      rw [hst] at cS
      have HS := hide hst
      simp only at cS
      have cS := cS.mono (R' := fun e w' => ∃ (x : SD) (t : Stm), e = .returned (stmval x) ∧ Hid (Onr ⟨wr.heap.size, ao, cap, ts, hl⟩ (wr.alloc (.cells #[.slice ao n cap, .int .i64 0, .int .i64 0] 53)) w' s2 ∧ IsStm (wr.alloc (.cells #[.slice ao n cap, .int .i64 0, .int .i64 0] 53)).heap.size w' t x ∧ (s2.ref = false → t = t0))) fun e w' ⟨x, t, h1, h2, h3, h4⟩ => ⟨x, t, h1, h2, h3, h4⟩
      have cX := hide (fun (T : Nat) (W : World) (t : Stm) (x : SD) (h : Hid (Readr ⟨wr.heap.size, ao, cap, ts, hl⟩ w (wr.alloc (.cells #[.slice ao n cap, .int .i64 0, .int .i64 0] 53)) T W s2 t x)) => (fail_on h.out.on.here).mono (R' := fun e w' => e = .returned (.tuple #[]) ∧ Hid (Readr ⟨wr.heap.size, ao, cap, ts, hl⟩ w (wr.alloc (.cells #[.slice ao n cap, .int .i64 0, .int .i64 0] 53)) T w' s2.stop t x)) fun e w' ⟨h1, _, h2⟩ => ⟨h1, h.out.go hcR h2.out⟩)
      have HRS := hide (fun (W : World) (t : Stm) (x : SD) (h : Hid (Onr ⟨wr.heap.size, ao, cap, ts, hl⟩ (wr.alloc (.cells #[.slice ao n cap, .int .i64 0, .int .i64 0] 53)) W s2 ∧ IsStm (wr.alloc (.cells #[.slice ao n cap, .int .i64 0, .int .i64 0] 53)).heap.size W t x ∧ (s2.ref = false → t = t0))) => Readr.start (w := w) h.out.1 h.out.2.1 hcR hbW)
      clear tk hOn hbW hao hw hst
      have hcR1 : w.heap.size < wr.heap.size := by simp at hcR; omega
      have HcR := hide hcR
      clear hcR
      obtain ⟨m, hm⟩ : ∃ m, ts.length - s2.rest.length = m := ⟨_, rfl⟩
      have Hm := hide hm
      have hm0 : (0 : Int) ≤ (m : Int) := by omega
      by_cases hr : s2.rest = []
      · have hmn : m = n := by rw [hr] at hm; have := HN.out; simp at hm; omega
        subst hmn
        have hnn : ¬ (m : Int) < (m : Int) := by omega
        cases hf : s2.ref with
        | false =>
          have HE1 : Hid (N = (t0, 0, 0)) := HE.out.trans (readP_ok HS.out hf hr)
          have Hf := hide hf
          clear hf hr HE hm
          go_wp2_with (first
            | (go_at_call 18; refine cS.mono ?_; rintro e w2 ⟨x, t, rfl, HB2⟩; obtain ⟨w2b, e2b, hR2b, HB3⟩ := HRS.out _ _ _ HB2; have HE2 := hide e2b; clear e2b; have r1 : w2b.cell? ⟨wr.heap.size, 1, none⟩ = some (.int .i64 (m : Int)) := (by have := HB3.out.on.rdr.at_; simp only [atv, Hf.out, Bool.false_eq_true, if_false] at this; rw [Hm.out] at this; exact this))
            | (refine wpList_store_mid rfl 38 (.tmp 8) (.tmp 30) rfl w2.heap.size 0 (stmCells x).toArray rfl rfl (init_there _ _) (stm_size _) (stm_one _) ?_; rw [HE2.out])
            | (refine wpList_load_mid rfl 38 (.tmp 8) rfl w2.heap.size 0 rfl (stmCells x) _ HB3.out.var.range Tryd.underlying38 rfl (stm_length _) ?_)
            | (refine wpList_store_mid rfl 38 (.tmp 2) (.tmp 52) rfl w.heap.size 0 (stmCells x).toArray rfl rfl (parse_there HB3.out.base _) (stm_size _) (stm_one _) ?_; obtain ⟨wf, ef, HR, HF⟩ := parse_fin (x := x) (t := t) HB3.out.base (HB3.out.stm.weak (by simp; omega)); rw [ef]; clear ef))
          rw [HE1.out]
          have ht := HB2.out.2.2 Hf.out
          subst ht
          exact bodyPost_ret (results_parse rfl rfl rfl rfl HR.out) rfl ⟨x, rfl, HF⟩
        | true =>
          have HE1 : Hid (N = (noStm, m, 5)) := by have := HE.out.trans (readP_short HS.out hf hr); rw [HN.out] at this; exact this
          have Hf := hide hf
          clear hf hr HE hm
          go_wp2_with (first
            | (go_at_call 18; refine cS.mono ?_; rintro e w2 ⟨x, t, rfl, HB2⟩; obtain ⟨w2b, e2b, hR2b, HB3⟩ := HRS.out _ _ _ HB2; have HE2 := hide e2b; clear e2b; have r1 : w2b.cell? ⟨wr.heap.size, 1, none⟩ = some (.int .i64 (-1)) := (by have := HB3.out.on.rdr.at_; simp only [atv, Hf.out, if_true] at this; exact this); have r2 : w2b.cell? ⟨wr.heap.size, 2, none⟩ = some (.int .i64 (m : Int)) := (by have := HB3.out.on.rdr.stp; simp only [stv, Hf.out, if_true] at this; rw [Hm.out] at this; exact this))
            | (refine wpList_store_mid rfl 38 (.tmp 8) (.tmp 30) rfl w2.heap.size 0 (stmCells x).toArray rfl rfl (init_there _ _) (stm_size _) (stm_one _) ?_; rw [HE2.out])
            | (refine wpList_store_mid rfl 38 (.tmp 2) (.tmp 60) rfl w.heap.size 0 (stmCells noSD).toArray rfl rfl (parse_there HB3.out.base _) (stm_size _) (stm_one _) ?_; obtain ⟨wf, ef, HR, HF⟩ := parse_fin (x := noSD) (t := noStm) HB3.out.base (IsStm.none _ _); rw [ef]; clear ef))
          rw [HE1.out]
          exact bodyPost_ret (results_parse rfl rfl rfl rfl HR.out) rfl ⟨noSD, rfl, HF⟩
      · have hlen : 0 < s2.rest.length := List.length_pos_iff.2 hr
        have Hlen := hide hlen
        have HE1 : Hid (N = (noStm, m, 4)) := HE.out.trans ((readP_wrong HS.out hr).trans (by rw [hm]))
        cases hf : s2.ref with
        | false =>
          have Hf := hide hf
          clear hf hr HE hm hlen
          go_wp2_with (first
            | (go_at_call 18; refine cS.mono ?_; rintro e w2 ⟨x, t, rfl, HB2⟩; obtain ⟨w2b, e2b, hR2b, HB3⟩ := HRS.out _ _ _ HB2; have HE2 := hide e2b; clear e2b; have r1 : w2b.cell? ⟨wr.heap.size, 1, none⟩ = some (.int .i64 (m : Int)) := (by have := HB3.out.on.rdr.at_; simp only [atv, Hf.out, Bool.false_eq_true, if_false] at this; rw [Hm.out] at this; exact this); have hmn : (m : Int) < (n : Int) := (by have h1 : s2.rest.length ≤ ts.length := HB3.out.on.rdr.len_le; have h2 := Hm.out; have h3 := HN.out; have h4 := Hlen.out; omega); have hmn2 : ¬ (n : Int) ≤ (m : Int) := (by omega))
            | (refine wpList_store_mid rfl 38 (.tmp 8) (.tmp 30) rfl w2.heap.size 0 (stmCells x).toArray rfl rfl (init_there _ _) (stm_size _) (stm_one _) ?_; rw [HE2.out])
            | (go_at_call 19; refine (cX.out _ _ _ _ HB3).mono ?_; rintro e w3 ⟨rfl, HB4⟩; have r1 : w3.cell? ⟨wr.heap.size, 1, none⟩ = some (.int .i64 (-1)) := HB4.out.on.rdr.at_; have r2 : w3.cell? ⟨wr.heap.size, 2, none⟩ = some (.int .i64 (m : Int)) := (by have h := HB4.out.on.rdr.stp; have h2 : stv ts s2.stop = (m : Int) := (by show ((ts.length - s2.rest.length : Nat) : Int) = _; rw [Hm.out]); rw [show stv (RC.ts ⟨wr.heap.size, ao, cap, ts, hl⟩) s2.stop = stv ts s2.stop from rfl, h2] at h; exact h)))
          have HZ3 : Hid (Below (w.alloc zeroStm).heap.size (w.alloc zeroStm) w3.drew) := HB4.out.base.drew
          obtain ⟨wf, ef, HR, HF⟩ := parse_fin (x := noSD) (t := noStm) HZ3.out (IsStm.none _ _)
          have HEf := hide ef
          have q1 : wf.cell? ⟨wr.heap.size, 2, none⟩ = some (.int .i64 (m : Int)) := by
            rw [← ef, World.cell?_setCells_out _ _ _ _ _ (fun h => absurd h (by show ¬ wr.heap.size = w.heap.size; omega))]
            exact r2
          clear ef
          refine wp_region_any (by kernel_rfl) ?_
          change wpAny _ _ _ _ _ _ _ w3.drew
          refine wpAny_take (i := 0) (v := stmval noSD) rfl (by kernel_rfl) (by kernel_rfl) (by kernel_rfl) (fun _ _ _ h => h) (Or.inl ⟨by rfl, ?_⟩) ?_
          · intro wq
            go_simp
            rfl
          refine wpAny_take (i := 1) (v := .pointer (some ⟨wr.heap.size, 0, none⟩)) rfl (by kernel_rfl) (by kernel_rfl) (by kernel_rfl) (fun _ _ _ h => h) (Or.inl ⟨by rfl, ?_⟩) ?_
          · intro wq
            go_simp
          refine wpAny_take (i := 2) (v := .pointer (some ⟨wr.heap.size, 0, none⟩)) rfl (by kernel_rfl) (by kernel_rfl) (by kernel_rfl) (fun _ _ _ h => h) (Or.inl ⟨by rfl, ?_⟩) ?_
          · intro wq
            go_simp
          refine wpAny_take (i := 3) (v := .pointer (some ⟨wr.heap.size, 2, none⟩)) rfl (by kernel_rfl) (by kernel_rfl) (by kernel_rfl) (fun _ _ _ h => h) (Or.inl ⟨by rfl, ?_⟩) ?_
          · intro wq
            go_simp
          refine wpAny_ready (rs := [4, 5]) (by kernel_rfl) (by simp) ?_
          refine AllReady.cons rfl (fun K' hK' => ?_) (AllReady.cons rfl (fun K' hK' => ?_) AllReady.nil)
          · rw [if_pos (by rfl)]
            unfold Oper.wp
            go_simp
            refine hK' _ _ ?_
            refine wpAny_ready (rs := [5]) (by kernel_rfl) (by simp) ?_
            refine AllReady.cons rfl (fun K2 hK2 => ?_) AllReady.nil
            rw [if_pos (by rfl)]
            refine wp_store_mid 38 (.tmp 2) (.tmp 63) rfl w.heap.size 0 (stmCells noSD).toArray (by simp [Act.eval]) (by simp [Act.eval]) (parse_there HZ3.out _) (stm_size _) (stm_one _) (hK2 _ _ ?_)
            rw [show w3.drew.setCells w.heap.size 0 (stmCells noSD).toArray.toList = wf from HEf.out]
            refine wpAny_take (i := 6) (v := .int .i64 (m : Int)) rfl (by kernel_rfl) (by kernel_rfl) (by kernel_rfl) (fun _ _ _ h => h) (Or.inl ⟨by rfl, ?_⟩) ?_
            · intro wq
              go_simp
            refine wpAny_take (i := 7) (v := .int .i64 4) rfl (by kernel_rfl) (by kernel_rfl) (by kernel_rfl) (fun _ _ _ h => h) (Or.inl ⟨by rfl, ?_⟩) ?_
            · intro wq
              go_simp
            refine wpAny_done (by kernel_rfl) ?_ _
            go_wp2
            rw [HE1.out]
            exact bodyPost_ret (results_parse rfl rfl rfl rfl HR.out) rfl ⟨noSD, rfl, HF⟩
          · rw [if_pos (by rfl)]
            refine wp_store_mid 38 (.tmp 2) (.tmp 63) rfl w.heap.size 0 (stmCells noSD).toArray (by simp [Act.eval, Act.put]) (by simp [Act.eval, Act.put]) (parse_there HZ3.out _) (stm_size _) (stm_one _) (hK' _ _ ?_)
            rw [show w3.drew.setCells w.heap.size 0 (stmCells noSD).toArray.toList = wf from HEf.out]
            refine wpAny_ready (rs := [4]) (by kernel_rfl) (by simp) ?_
            refine AllReady.cons rfl (fun K2 hK2 => ?_) AllReady.nil
            rw [if_pos (by rfl)]
            unfold Oper.wp
            go_simp
            refine hK2 _ _ ?_
            refine wpAny_take (i := 6) (v := .int .i64 (m : Int)) rfl (by kernel_rfl) (by kernel_rfl) (by kernel_rfl) (fun _ _ _ h => h) (Or.inl ⟨by rfl, ?_⟩) ?_
            · intro wq
              go_simp
            refine wpAny_take (i := 7) (v := .int .i64 4) rfl (by kernel_rfl) (by kernel_rfl) (by kernel_rfl) (fun _ _ _ h => h) (Or.inl ⟨by rfl, ?_⟩) ?_
            · intro wq
              go_simp
            refine wpAny_done (by kernel_rfl) ?_ _
            go_wp2
            rw [HE1.out]
            exact bodyPost_ret (results_parse rfl rfl rfl rfl HR.out) rfl ⟨noSD, rfl, HF⟩
        | true =>
          have Hf := hide hf
          clear hf hr HE hm hlen cX
          go_wp2_with (first
            | (go_at_call 18; refine cS.mono ?_; rintro e w2 ⟨x, t, rfl, HB2⟩; obtain ⟨w2b, e2b, hR2b, HB3⟩ := HRS.out _ _ _ HB2; have HE2 := hide e2b; clear e2b; have r1 : w2b.cell? ⟨wr.heap.size, 1, none⟩ = some (.int .i64 (-1)) := (by have := HB3.out.on.rdr.at_; simp only [atv, Hf.out, if_true] at this; exact this); have r2 : w2b.cell? ⟨wr.heap.size, 2, none⟩ = some (.int .i64 (m : Int)) := (by have := HB3.out.on.rdr.stp; simp only [stv, Hf.out, if_true] at this; rw [Hm.out] at this; exact this); have hmn : (m : Int) < (n : Int) := (by have h1 : s2.rest.length ≤ ts.length := HB3.out.on.rdr.len_le; have h2 := Hm.out; have h3 := HN.out; have h4 := Hlen.out; omega); have hmn2 : ¬ (n : Int) ≤ (m : Int) := (by omega))
            | (refine wpList_store_mid rfl 38 (.tmp 8) (.tmp 30) rfl w2.heap.size 0 (stmCells x).toArray rfl rfl (init_there _ _) (stm_size _) (stm_one _) ?_; rw [HE2.out]))
          have HZ3 : Hid (Below (w.alloc zeroStm).heap.size (w.alloc zeroStm) w2b.drew) := HB3.out.base.drew
          obtain ⟨wf, ef, HR, HF⟩ := parse_fin (x := noSD) (t := noStm) HZ3.out (IsStm.none _ _)
          have HEf := hide ef
          have q1 : wf.cell? ⟨wr.heap.size, 2, none⟩ = some (.int .i64 (m : Int)) := by
            rw [← ef, World.cell?_setCells_out _ _ _ _ _ (fun h => absurd h (by show ¬ wr.heap.size = w.heap.size; omega))]
            exact r2
          clear ef
          refine wp_region_any (by kernel_rfl) ?_
          change wpAny _ _ _ _ _ _ _ w2b.drew
          refine wpAny_take (i := 0) (v := stmval noSD) rfl (by kernel_rfl) (by kernel_rfl) (by kernel_rfl) (fun _ _ _ h => h) (Or.inl ⟨by rfl, ?_⟩) ?_
          · intro wq
            go_simp
            rfl
          refine wpAny_take (i := 1) (v := .pointer (some ⟨wr.heap.size, 0, none⟩)) rfl (by kernel_rfl) (by kernel_rfl) (by kernel_rfl) (fun _ _ _ h => h) (Or.inl ⟨by rfl, ?_⟩) ?_
          · intro wq
            go_simp
          refine wpAny_take (i := 2) (v := .pointer (some ⟨wr.heap.size, 0, none⟩)) rfl (by kernel_rfl) (by kernel_rfl) (by kernel_rfl) (fun _ _ _ h => h) (Or.inl ⟨by rfl, ?_⟩) ?_
          · intro wq
            go_simp
          refine wpAny_take (i := 3) (v := .pointer (some ⟨wr.heap.size, 2, none⟩)) rfl (by kernel_rfl) (by kernel_rfl) (by kernel_rfl) (fun _ _ _ h => h) (Or.inl ⟨by rfl, ?_⟩) ?_
          · intro wq
            go_simp
          refine wpAny_ready (rs := [4, 5]) (by kernel_rfl) (by simp) ?_
          refine AllReady.cons rfl (fun K' hK' => ?_) (AllReady.cons rfl (fun K' hK' => ?_) AllReady.nil)
          · rw [if_pos (by rfl)]
            unfold Oper.wp
            go_simp
            refine hK' _ _ ?_
            refine wpAny_ready (rs := [5]) (by kernel_rfl) (by simp) ?_
            refine AllReady.cons rfl (fun K2 hK2 => ?_) AllReady.nil
            rw [if_pos (by rfl)]
            refine wp_store_mid 38 (.tmp 2) (.tmp 63) rfl w.heap.size 0 (stmCells noSD).toArray (by simp [Act.eval]) (by simp [Act.eval]) (parse_there HZ3.out _) (stm_size _) (stm_one _) (hK2 _ _ ?_)
            rw [show w2b.drew.setCells w.heap.size 0 (stmCells noSD).toArray.toList = wf from HEf.out]
            refine wpAny_take (i := 6) (v := .int .i64 (m : Int)) rfl (by kernel_rfl) (by kernel_rfl) (by kernel_rfl) (fun _ _ _ h => h) (Or.inl ⟨by rfl, ?_⟩) ?_
            · intro wq
              go_simp
            refine wpAny_take (i := 7) (v := .int .i64 4) rfl (by kernel_rfl) (by kernel_rfl) (by kernel_rfl) (fun _ _ _ h => h) (Or.inl ⟨by rfl, ?_⟩) ?_
            · intro wq
              go_simp
            refine wpAny_done (by kernel_rfl) ?_ _
            go_wp2
            rw [HE1.out]
            exact bodyPost_ret (results_parse rfl rfl rfl rfl HR.out) rfl ⟨noSD, rfl, HF⟩
          · rw [if_pos (by rfl)]
            refine wp_store_mid 38 (.tmp 2) (.tmp 63) rfl w.heap.size 0 (stmCells noSD).toArray (by simp [Act.eval, Act.put]) (by simp [Act.eval, Act.put]) (parse_there HZ3.out _) (stm_size _) (stm_one _) (hK' _ _ ?_)
            rw [show w2b.drew.setCells w.heap.size 0 (stmCells noSD).toArray.toList = wf from HEf.out]
            refine wpAny_ready (rs := [4]) (by kernel_rfl) (by simp) ?_
            refine AllReady.cons rfl (fun K2 hK2 => ?_) AllReady.nil
            rw [if_pos (by rfl)]
            unfold Oper.wp
            go_simp
            refine hK2 _ _ ?_
            refine wpAny_take (i := 6) (v := .int .i64 (m : Int)) rfl (by kernel_rfl) (by kernel_rfl) (by kernel_rfl) (fun _ _ _ h => h) (Or.inl ⟨by rfl, ?_⟩) ?_
            · intro wq
              go_simp
            refine wpAny_take (i := 7) (v := .int .i64 4) rfl (by kernel_rfl) (by kernel_rfl) (by kernel_rfl) (fun _ _ _ h => h) (Or.inl ⟨by rfl, ?_⟩) ?_
            · intro wq
              go_simp
            refine wpAny_done (by kernel_rfl) ?_ _
            go_wp2
            rw [HE1.out]
            exact bodyPost_ret (results_parse rfl rfl rfl rfl HR.out) rfl ⟨noSD, rfl, HF⟩

end Go.Proofs.YtedinkoapieakaaDoor
