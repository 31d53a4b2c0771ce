/- Package parse: Parse: the contract, at every list of tokens. -/
import Derived.Test.YtedinkoapieakaaDoorParseEnd
import Derived.RegionTactic
namespace Go.Proofs.YtedinkoapieakaaDoor
open Go.ChangeShapes Go.WideShapes Go.ChangeAt Go.RowKit

theorem readP_ok {ts : List Tok} {t : Stm} {s : St} (h : statementP ⟨ts, false⟩ = (t, s)) (h1 : s.ref = false) (h2 : s.rest = []) : readP ts = (t, 0, 0) := by simp [readP, h, h1, h2]
theorem readP_short {ts : List Tok} {t : Stm} {s : St} (h : statementP ⟨ts, false⟩ = (t, s)) (h1 : s.ref = true) (h2 : s.rest = []) : readP ts = (noStm, ts.length, 5) := by simp [readP, h, h1, h2]
theorem readP_wrong {ts : List Tok} {t : Stm} {s : St} (h : statementP ⟨ts, false⟩ = (t, s)) (h2 : s.rest ≠ []) : readP ts = (noStm, ts.length - s.rest.length, 4) := by simp [readP, h, h2]

/-- what is known behind the reading -/
structure Read (c : RC) (w Wb : World) (T : Nat) (W : World) (s : St) (t : Stm) (x : SD) : Prop where
  on : On c Wb W s
  var : VarB W T (stmCells x)
  stm : IsStm Wb.heap.size W t x
  lo : Wb.heap.size ≤ T
  base : Below (w.alloc zeroStm).heap.size (w.alloc zeroStm) W

theorem Read.go {c : RC} {w Wb : World} {T : Nat} {W W' : World} {s s' : St} {t : Stm} {x : SD} (h : Read c w Wb T W s t x) (hc : (w.alloc zeroStm).heap.size ≤ c.R) (k : On c W W' s') : Read c w Wb T W' s' t x :=
  ⟨h.on.back k, h.var.move k.keeps (by have := h.on.oldR; have := h.lo; omega), h.stm.keep k.keeps h.on.oldR, h.lo, h.base.trans (k.keeps.below hc (Nat.le_trans h.base.size (Nat.le_refl _)))⟩

theorem Read.start {c : RC} {w Wb W : World} {s : St} {t : Stm} {x : SD} (h : On c Wb W s) (hI : IsStm Wb.heap.size W t x) (hc : (w.alloc zeroStm).heap.size ≤ c.R) (hb : Below (w.alloc zeroStm).heap.size (w.alloc zeroStm) Wb) :
    ∃ W', (W.alloc zeroStm).setCells W.heap.size 0 (stmCells x).toArray.toList = W' ∧ c.R < W'.heap.size ∧ Hid (Read c w Wb W.heap.size W' s t x) := by
  obtain ⟨W', e, hR, H⟩ := SV.init h x
  have hbl : Below W.heap.size W W' := by
    rw [← e]
    have h1 : Below W.heap.size W (W.alloc zeroStm) := (Below.refl _ W).alloc (Nat.le_refl _) _
    exact h1.trans ((setFrom_keeps W.heap.size (stmCells x) (W.alloc zeroStm) 0).below (Nat.le_refl _) h1.size)
  refine ⟨W', e, hR, H.out.on, H.out.var, hI.keep (R := c.R) (.of_below hbl) h.oldR, h.size, ?_⟩
  have h2 : Below (w.alloc zeroStm).heap.size (w.alloc zeroStm) W := hb.trans (h.keeps.below hc hb.size)
  exact h2.trans (hbl.mono h2.size)

set_option maxRecDepth 100000 in
set_option maxHeartbeats 16000000 in
theorem Parse_any (ao : Option Addr) (cap : Nat) (ts : List Tok) (w : World) (hT : Toks w ao cap ts) (ho : ∀ a, ao = some a → a.block < w.heap.size) (mk : Marks w) (u8 : U8 w) (op : Opers w) :
    Calls Tryd.prog 8 #[.slice ao ts.length cap] w fun e w' => ∃ x : SD, e = .returned (.tuple #[stmval x, .int .i64 ((parseP ts).2.1 : Int), .int .i64 (parseP ts).2.2]) ∧ Hid (Below w.heap.size w w' ∧ IsStm w.heap.size w' (parseP ts).1 x) := by
  have bz : Below w.heap.size w (w.alloc zeroStm) := (Below.refl _ w).alloc (Nat.le_refl _) _
  by_cases h0 : 300 < ts.length
  · have e0 : parseP ts = (noStm, 0, 8) := by simp [parseP, h0]
    rw [e0]
    have h01 : (300 : Int) < (ts.length : Int) := by omega
    generalize ts.length = n at h01
    have HZ := hide (Below.refl (w.alloc zeroStm).heap.size (w.alloc zeroStm))
    clear hT ho mk u8 op e0 h0
    go_enter Tryd.func8, Tryd.ntmps8
    go_wp2_with (refine wpList_store_mid rfl 38 (.tmp 2) (.tmp 12) rfl w.heap.size 0 (stmCells noSD).toArray rfl rfl (parse_there HZ.out _) (stm_size _) (stm_one _) ?_; obtain ⟨wf, ef, HR, HF⟩ := parse_fin (x := noSD) (t := noStm) HZ.out (IsStm.none _ _); rw [ef]; clear ef)
    exact bodyPost_ret (results_parse rfl rfl rfl rfl HR.out) rfl ⟨noSD, rfl, HF⟩
  have h01 : ¬ (300 : Int) < (ts.length : Int) := by omega
  have hl : ts.length ≤ 300 := by omega
  have HP : Hid ((∀ i, firstBad ts = some i → parseP ts = (noStm, i, 4)) ∧ (firstBad ts = none → parseP ts = readP ts)) := ⟨fun i h => by simp [parseP, h0, h], fun h => by simp [parseP, h0, h]⟩
  have H0 := hide (And.intro hT (And.intro ho (And.intro mk (And.intro u8 op))))
  obtain ⟨n, hn⟩ : ∃ n, ts.length = n := ⟨_, rfl⟩
  have HN := hide hn
  rw [hn] at h01 ⊢
  have hn3 : n ≤ 300 := by omega
  have HZ := hide bz
  clear hT ho mk u8 op h0 hn bz
  generalize parseP ts = N at HP ⊢
  go_enter Tryd.func8, Tryd.ntmps8
  go_wp2
  go_loopw [15] (fun x wr => ∃ k : Nat, k ≤ n ∧ x = .int .i64 (k : Int) ∧ Hid (Below (w.alloc zeroStm).heap.size (w.alloc zeroStm) wr) ∧ Hid (∀ j (hj : j < ts.length), j < k → may ts[j] = true)) (fun x _ => n - (intOf x).toNat)
  case atStart => exact ⟨0, Nat.zero_le _, rfl, Below.refl _ _, fun _ _ h => absurd h (Nat.not_lt_zero _)⟩
  case round =>
    obtain ⟨k, hk, rfl, HB, HM⟩ := hrel
    have hw := HZ.out.trans (HB.out.mono HZ.out.size)
    have tk := H0.out.1.later hw
    by_cases hlt : k < n
    · have hlt1 : (k : Int) < (n : Int) := by omega
      have hlt2 : k < ts.length := by rw [HN.out]; exact hlt
      obtain ⟨b, off, hao, hbw, hcell⟩ : ∃ b off, ao = some ⟨b, off, none⟩ ∧ b < wr.heap.size ∧ ∀ i (hi : i < ts.length), wr.cell? ⟨b, off + i * 3, none⟩ = some (.int .i64 ts[i].kind) ∧ wr.cell? ⟨b, off + i * 3 + 1, none⟩ = some (.int .i64 ts[i].int) ∧ wr.cell? ⟨b, off + i * 3 + 2, none⟩ = some (.string (str ts[i].text)) := by
        rcases tk.2.2 with h | h
        · rw [h] at hlt2
          cases hlt2
        · exact h
      subst hao
      obtain ⟨c0, c1, c2⟩ := hcell k hlt2
      have cM : Calls Tryd.prog 14 #[.agg #[.int .i64 ts[k].kind, .int .i64 ts[k].int, .string (str ts[k].text)]] (wr.alloc (.cells #[.int .i64 ts[k].kind, .int .i64 ts[k].int, .string (str ts[k].text)] 44)) fun e w' => e = .returned (.bool (may ts[k])) ∧ Hid (Below (w.alloc zeroStm).heap.size (w.alloc zeroStm) w') := by
        have ha : Below wr.heap.size wr (wr.alloc (.cells #[.int .i64 ts[k].kind, .int .i64 ts[k].int, .string (str ts[k].text)] 44)) := (Below.refl _ wr).alloc (Nat.le_refl _) _
        have hb := hw.trans (ha.mono hw.size)
        have := May_any ts[k].kind ts[k].int (str ts[k].text) _ (H0.out.2.2.1.later hb) (H0.out.2.2.2.1.later hb)
        rw [bts_str] at this
        exact this.mono fun e w' ⟨h1, h2⟩ => ⟨h1, (HB.out.trans (ha.mono HB.out.size)).trans (h2.mono (Nat.le_trans HB.out.size ha.size))⟩
      cases hm : may ts[k] with
      | true =>
        have HM2 : Hid (∀ j (hj : j < ts.length), j < k + 1 → may ts[j] = true) := by
          intro j hj hjk
          by_cases h : j = k
          · subst h
            exact hm
          · exact HM.out j hj (by omega)
        rw [hm] at cM
        clear hcell hm tk hw
        generalize ts[k] = t at c0 c1 c2 cM
        go_wp2_with (go_at_call 14; refine cM.mono ?_; rintro e w1 ⟨rfl, HB1⟩)
        go_roundw
        case rel => exact ⟨k + 1, by omega, by go_num, HB1, HM2⟩
        case measure => simp [intOf]; omega
      | false =>
        have HE : Hid (N = (noStm, k, 4)) := HP.out.1 _ (firstBad_at hlt2 HM.out hm)
        rw [hm] at cM
        clear hcell hm tk hw
        generalize ts[k] = t at c0 c1 c2 cM
        go_wp2_with (first
          | (go_at_call 14; refine cM.mono ?_; rintro e w1 ⟨rfl, HB1⟩)
          | (refine wpList_store_mid rfl 38 (.tmp 2) (.tmp 23) rfl w.heap.size 0 (stmCells noSD).toArray rfl rfl (parse_there HB1.out _) (stm_size _) (stm_one _) ?_; obtain ⟨wf, ef, HR, HF⟩ := parse_fin (x := noSD) (t := noStm) HB1.out (IsStm.none _ _); rw [ef]; clear ef))
        rw [HE.out]
        exact bodyPost_ret (results_parse rfl rfl rfl rfl HR.out) rfl ⟨noSD, rfl, HF⟩
    · have hlt1 : ¬ (k : Int) < (n : Int) := by omega
      have HE : Hid (N = readP ts) := HP.out.2 (firstBad_none (fun j hj => HM.out j hj (by have := HN.out; omega)))
      have hao : ∀ a, ao = some a → a.block < wr.heap.size := fun a ha => Nat.lt_of_lt_of_le (H0.out.2.1 a ha) hw.size
      have hOn := On.start hl tk hao (H0.out.2.2.2.2.later hw)
      have hbW : Below (w.alloc zeroStm).heap.size (w.alloc zeroStm) (wr.alloc (.cells #[.slice ao ts.length cap, .int .i64 0, .bool false] 49)) := HB.out.alloc HB.out.size _
      have cS := statement_stm ⟨wr.heap.size, ao, cap, ts, hl⟩ _ _ hOn
      rw [HN.out] at cS hOn hbW
      have hcR : (w.alloc zeroStm).heap.size ≤ wr.heap.size := HB.out.size
      obtain ⟨⟨t, s2⟩, hst⟩ : ∃ p, statementP ⟨ts, false⟩ = p := ⟨_, rfl⟩
      rw [hst] at cS
      have HS := hide hst
      simp only at cS
      have cS := cS.mono (R' := fun e w' => ∃ x : SD, e = .returned (stmval x) ∧ Hid (On ⟨wr.heap.size, ao, cap, ts, hl⟩ (wr.alloc (.cells #[.slice ao n cap, .int .i64 0, .bool false] 49)) w' s2 ∧ IsStm (wr.alloc (.cells #[.slice ao n cap, .int .i64 0, .bool false] 49)).heap.size w' t x)) fun e w' ⟨x, h1, h2, h3⟩ => ⟨x, h1, h2, h3⟩
      have cX := hide (fun (T : Nat) (W : World) (x : SD) (h : Hid (Read ⟨wr.heap.size, ao, cap, ts, hl⟩ w (wr.alloc (.cells #[.slice ao n cap, .int .i64 0, .bool false] 49)) T W s2 t x)) => (end_on ⟨wr.heap.size, ao, cap, ts, hl⟩ (hide h.out.on.here)).mono (R' := fun e w' => e = .returned (.tuple #[]) ∧ Hid (Read ⟨wr.heap.size, ao, cap, ts, hl⟩ w (wr.alloc (.cells #[.slice ao n cap, .int .i64 0, .bool false] 49)) T w' (endP s2) t x)) fun e w' ⟨h1, h2⟩ => ⟨h1, h.out.go hcR h2.out⟩)
      have HRS := hide (fun (W : World) (x : SD) (h : Hid (On ⟨wr.heap.size, ao, cap, ts, hl⟩ (wr.alloc (.cells #[.slice ao n cap, .int .i64 0, .bool false] 49)) W s2 ∧ IsStm (wr.alloc (.cells #[.slice ao n cap, .int .i64 0, .bool false] 49)).heap.size W t x)) => Read.start (w := w) h.out.1 h.out.2 hcR hbW)
      clear tk hOn hbW hao hw hst
      have hcR1 : w.heap.size < wr.heap.size := by simp at hcR; omega
      have HcR := hide hcR
      clear hcR
      by_cases hr : s2.rest = []
      · have hE : endP s2 = s2 := by simp [endP, hr]
        rw [hE] at cX
        cases hf : s2.ref with
        | false =>
          have HE1 : Hid (N = (t, 0, 0)) := HE.out.trans (readP_ok HS.out hf hr)
          have Hf := hide hf
          clear hE hf hr HE
          go_wp2_with (first
            | (go_at_call 15; refine cS.mono ?_; rintro e w2 ⟨x, rfl, HB2⟩; obtain ⟨w2b, e2b, hR2b, HB3⟩ := HRS.out _ _ HB2; have HE2 := hide e2b; clear e2b)
            | (refine wpList_store_mid rfl 38 (.tmp 8) (.tmp 28) rfl w2.heap.size 0 (stmCells x).toArray rfl rfl (init_there _ _) (stm_size _) (stm_one _) ?_; rw [HE2.out])
            | (go_at_call 16; refine (cX.out _ _ _ HB3).mono ?_; rintro e w3 ⟨rfl, HB4⟩; have r2 : w3.cell? ⟨wr.heap.size, 2, none⟩ = some (.bool false) := (by have := HB4.out.on.rdr.ref; rw [Hf.out] at this; exact this))
            | (refine wpList_load_mid rfl 38 (.tmp 8) rfl w2.heap.size 0 rfl (stmCells x) _ HB4.out.var.range Tryd.underlying38 rfl (stm_length _) ?_)
            | (refine wpList_store_mid rfl 38 (.tmp 2) (.tmp 34) rfl w.heap.size 0 (stmCells x).toArray rfl rfl (parse_there HB4.out.base _) (stm_size _) (stm_one _) ?_; obtain ⟨wf, ef, HR, HF⟩ := parse_fin (x := x) (t := t) HB4.out.base (HB4.out.stm.weak (by simp; omega)); rw [ef]; clear ef))
          rw [HE1.out]
          exact bodyPost_ret (results_parse rfl rfl rfl rfl HR.out) rfl ⟨x, rfl, HF⟩
        | true =>
          have HE1 : Hid (N = (noStm, n, 5)) := by have := HE.out.trans (readP_short HS.out hf hr); rw [HN.out] at this; exact this
          have Hf := hide (And.intro hf hr)
          clear hE hf hr HE
          go_wp2_with (first
            | (go_at_call 15; refine cS.mono ?_; rintro e w2 ⟨x, rfl, HB2⟩; obtain ⟨w2b, e2b, hR2b, HB3⟩ := HRS.out _ _ HB2; have HE2 := hide e2b; clear e2b)
            | (refine wpList_store_mid rfl 38 (.tmp 8) (.tmp 28) rfl w2.heap.size 0 (stmCells x).toArray rfl rfl (init_there _ _) (stm_size _) (stm_one _) ?_; rw [HE2.out])
            | (go_at_call 16; refine (cX.out _ _ _ HB3).mono ?_; rintro e w3 ⟨rfl, HB4⟩; have r2 : w3.cell? ⟨wr.heap.size, 2, none⟩ = some (.bool true) := (by have := HB4.out.on.rdr.ref; rw [Hf.out.1] at this; exact this); have r1 : w3.cell? ⟨wr.heap.size, 1, none⟩ = some (.int .i64 (n : Int)) := (by have := HB4.out.on.rdr.at_; simp only [Hf.out.2, List.length_nil, Nat.sub_zero, HN.out] at this; exact this)))
          have HZ3 : Hid (Below (w.alloc zeroStm).heap.size (w.alloc zeroStm) w3.drew) := HB4.out.base.drew
          obtain ⟨wf, ef, HR, HF⟩ := parse_fin (x := noSD) (t := noStm) HZ3.out (IsStm.none _ _)
          have HEf := hide ef
          have q1 : wf.cell? ⟨wr.heap.size, 1, none⟩ = some (.int .i64 (n : Int)) := by
            rw [← ef, World.cell?_setCells_out _ _ _ _ _ (fun h => absurd h (by show ¬ wr.heap.size = w.heap.size; omega))]
            exact r1
          clear ef
          refine wp_region_any (by kernel_rfl) ?_
          change wpAny _ _ _ _ _ _ _ w3.drew
          refine wpAny_take (i := 0) (v := stmval noSD) rfl (by kernel_rfl) (by kernel_rfl) (by kernel_rfl) (fun _ _ _ h => h) (Or.inl ⟨by rfl, ?_⟩) ?_
          · intro wq
            go_simp
            rfl
          refine wpAny_take (i := 1) (v := .pointer (some ⟨wr.heap.size, 1, none⟩)) rfl (by kernel_rfl) (by kernel_rfl) (by kernel_rfl) (fun _ _ _ h => h) (Or.inl ⟨by rfl, ?_⟩) ?_
          · intro wq
            go_simp
          refine wpAny_ready (rs := [2, 3]) (by kernel_rfl) (by simp) ?_
          refine AllReady.cons rfl (fun K' hK' => ?_) (AllReady.cons rfl (fun K' hK' => ?_) AllReady.nil)
          · rw [if_pos (by rfl)]
            unfold Oper.wp
            go_simp
            refine hK' _ _ ?_
            refine wpAny_ready (rs := [3]) (by kernel_rfl) (by simp) ?_
            refine AllReady.cons rfl (fun K2 hK2 => ?_) AllReady.nil
            rw [if_pos (by rfl)]
            refine wp_store_mid 38 (.tmp 2) (.tmp 41) rfl w.heap.size 0 (stmCells noSD).toArray (by simp [Act.eval]) (by simp [Act.eval]) (parse_there HZ3.out _) (stm_size _) (stm_one _) (hK2 _ _ ?_)
            rw [show w3.drew.setCells w.heap.size 0 (stmCells noSD).toArray.toList = wf from HEf.out]
            refine wpAny_take (i := 4) (v := .int .i64 (n : Int)) rfl (by kernel_rfl) (by kernel_rfl) (by kernel_rfl) (fun _ _ _ h => h) (Or.inl ⟨by rfl, ?_⟩) ?_
            · intro wq
              go_simp
            refine wpAny_take (i := 5) (v := .int .i64 5) rfl (by kernel_rfl) (by kernel_rfl) (by kernel_rfl) (fun _ _ _ h => h) (Or.inl ⟨by rfl, ?_⟩) ?_
            · intro wq
              go_simp
            refine wpAny_done (by kernel_rfl) ?_ _
            go_wp2
            rw [HE1.out]
            exact bodyPost_ret (results_parse rfl rfl rfl rfl HR.out) rfl ⟨noSD, rfl, HF⟩
          · rw [if_pos (by rfl)]
            refine wp_store_mid 38 (.tmp 2) (.tmp 41) rfl w.heap.size 0 (stmCells noSD).toArray (by simp [Act.eval, Act.put]) (by simp [Act.eval, Act.put]) (parse_there HZ3.out _) (stm_size _) (stm_one _) (hK' _ _ ?_)
            rw [show w3.drew.setCells w.heap.size 0 (stmCells noSD).toArray.toList = wf from HEf.out]
            refine wpAny_ready (rs := [2]) (by kernel_rfl) (by simp) ?_
            refine AllReady.cons rfl (fun K2 hK2 => ?_) AllReady.nil
            rw [if_pos (by rfl)]
            unfold Oper.wp
            go_simp
            refine hK2 _ _ ?_
            refine wpAny_take (i := 4) (v := .int .i64 (n : Int)) rfl (by kernel_rfl) (by kernel_rfl) (by kernel_rfl) (fun _ _ _ h => h) (Or.inl ⟨by rfl, ?_⟩) ?_
            · intro wq
              go_simp
            refine wpAny_take (i := 5) (v := .int .i64 5) rfl (by kernel_rfl) (by kernel_rfl) (by kernel_rfl) (fun _ _ _ h => h) (Or.inl ⟨by rfl, ?_⟩) ?_
            · intro wq
              go_simp
            refine wpAny_done (by kernel_rfl) ?_ _
            go_wp2
            rw [HE1.out]
            exact bodyPost_ret (results_parse rfl rfl rfl rfl HR.out) rfl ⟨noSD, rfl, HF⟩
      · have hE : endP s2 = s2.stop := by simp [endP, hr]
        rw [hE] at cX
        obtain ⟨m, hm⟩ : ∃ m, ts.length - s2.stop.rest.length = m := ⟨_, rfl⟩
        have Hm := hide hm
        have hlen : 0 < s2.rest.length := List.length_pos_iff.2 hr
        have Hlen := hide hlen
        have HE1 : Hid (N = (noStm, m, 4)) := HE.out.trans ((readP_wrong HS.out hr).trans (by rw [← hm]; rfl))
        clear hE hr HE hm hlen
        go_wp2_with (first
          | (go_at_call 15; refine cS.mono ?_; rintro e w2 ⟨x, rfl, HB2⟩; obtain ⟨w2b, e2b, hR2b, HB3⟩ := HRS.out _ _ HB2; have HE2 := hide e2b; clear e2b)
          | (refine wpList_store_mid rfl 38 (.tmp 8) (.tmp 28) rfl w2.heap.size 0 (stmCells x).toArray rfl rfl (init_there _ _) (stm_size _) (stm_one _) ?_; rw [HE2.out])
          | (go_at_call 16; refine (cX.out _ _ _ HB3).mono ?_; rintro e w3 ⟨rfl, HB4⟩; have r2 : w3.cell? ⟨wr.heap.size, 2, none⟩ = some (.bool true) := (by have := HB4.out.on.rdr.ref; exact this); have r1 : w3.cell? ⟨wr.heap.size, 1, none⟩ = some (.int .i64 (m : Int)) := (by have := HB4.out.on.rdr.at_; rw [Hm.out] at this; exact this); have hmn1 : ¬ (m : Int) = (n : Int) := (by have h1 : s2.rest.length ≤ ts.length := HB4.out.on.rdr.len_le; have h2 : ts.length - s2.rest.length = m := Hm.out; have h3 := HN.out; have h4 := Hlen.out; omega); have hmn2 : ((m : Int) == (n : Int)) = false := beq_eq_false_iff_ne.2 hmn1))
        have HZ3 : Hid (Below (w.alloc zeroStm).heap.size (w.alloc zeroStm) w3.drew) := HB4.out.base.drew
        obtain ⟨wf, ef, HR, HF⟩ := parse_fin (x := noSD) (t := noStm) HZ3.out (IsStm.none _ _)
        have HEf := hide ef
        have q1 : wf.cell? ⟨wr.heap.size, 1, none⟩ = some (.int .i64 (m : Int)) := by
          rw [← ef, World.cell?_setCells_out _ _ _ _ _ (fun h => absurd h (by show ¬ wr.heap.size = w.heap.size; omega))]
          exact r1
        clear ef
        refine wp_region_any (by kernel_rfl) ?_
        change wpAny _ _ _ _ _ _ _ w3.drew
        refine wpAny_take (i := 0) (v := stmval noSD) rfl (by kernel_rfl) (by kernel_rfl) (by kernel_rfl) (fun _ _ _ h => h) (Or.inl ⟨by rfl, ?_⟩) ?_
        · intro wq
          go_simp
          rfl
        refine wpAny_take (i := 1) (v := .pointer (some ⟨wr.heap.size, 1, none⟩)) rfl (by kernel_rfl) (by kernel_rfl) (by kernel_rfl) (fun _ _ _ h => h) (Or.inl ⟨by rfl, ?_⟩) ?_
        · intro wq
          go_simp
        refine wpAny_ready (rs := [2, 3]) (by kernel_rfl) (by simp) ?_
        refine AllReady.cons rfl (fun K' hK' => ?_) (AllReady.cons rfl (fun K' hK' => ?_) AllReady.nil)
        · rw [if_pos (by rfl)]
          unfold Oper.wp
          go_simp
          refine hK' _ _ ?_
          refine wpAny_ready (rs := [3]) (by kernel_rfl) (by simp) ?_
          refine AllReady.cons rfl (fun K2 hK2 => ?_) AllReady.nil
          rw [if_pos (by rfl)]
          refine wp_store_mid 38 (.tmp 2) (.tmp 44) rfl w.heap.size 0 (stmCells noSD).toArray (by simp [Act.eval]) (by simp [Act.eval]) (parse_there HZ3.out _) (stm_size _) (stm_one _) (hK2 _ _ ?_)
          rw [show w3.drew.setCells w.heap.size 0 (stmCells noSD).toArray.toList = wf from HEf.out]
          refine wpAny_take (i := 4) (v := .int .i64 (m : Int)) rfl (by kernel_rfl) (by kernel_rfl) (by kernel_rfl) (fun _ _ _ h => h) (Or.inl ⟨by rfl, ?_⟩) ?_
          · intro wq
            go_simp
          refine wpAny_take (i := 5) (v := .int .i64 4) rfl (by kernel_rfl) (by kernel_rfl) (by kernel_rfl) (fun _ _ _ h => h) (Or.inl ⟨by rfl, ?_⟩) ?_
          · intro wq
            go_simp
          refine wpAny_done (by kernel_rfl) ?_ _
          go_wp2
          rw [HE1.out]
          exact bodyPost_ret (results_parse rfl rfl rfl rfl HR.out) rfl ⟨noSD, rfl, HF⟩
        · rw [if_pos (by rfl)]
          refine wp_store_mid 38 (.tmp 2) (.tmp 44) rfl w.heap.size 0 (stmCells noSD).toArray (by simp [Act.eval, Act.put]) (by simp [Act.eval, Act.put]) (parse_there HZ3.out _) (stm_size _) (stm_one _) (hK' _ _ ?_)
          rw [show w3.drew.setCells w.heap.size 0 (stmCells noSD).toArray.toList = wf from HEf.out]
          refine wpAny_ready (rs := [2]) (by kernel_rfl) (by simp) ?_
          refine AllReady.cons rfl (fun K2 hK2 => ?_) AllReady.nil
          rw [if_pos (by rfl)]
          unfold Oper.wp
          go_simp
          refine hK2 _ _ ?_
          refine wpAny_take (i := 4) (v := .int .i64 (m : Int)) rfl (by kernel_rfl) (by kernel_rfl) (by kernel_rfl) (fun _ _ _ h => h) (Or.inl ⟨by rfl, ?_⟩) ?_
          · intro wq
            go_simp
          refine wpAny_take (i := 5) (v := .int .i64 4) rfl (by kernel_rfl) (by kernel_rfl) (by kernel_rfl) (fun _ _ _ h => h) (Or.inl ⟨by rfl, ?_⟩) ?_
          · intro wq
            go_simp
          refine wpAny_done (by kernel_rfl) ?_ _
          go_wp2
          rw [HE1.out]
          exact bodyPost_ret (results_parse rfl rfl rfl rfl HR.out) rfl ⟨noSD, rfl, HF⟩

end Go.Proofs.YtedinkoapieakaaDoor
