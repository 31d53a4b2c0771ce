/- A tail has all that is written ahead of it. -/
import Derived.Test.YtegmcpcpnjfiaaaUnRows
namespace Go.Proofs.Ytegmcpcpnjfiaaa
open Go.ChangeShapes Go.WideShapes Go.ChangeAt Go.RowKit

/-- what the play of a tail's jobs comes to -/
theorem tail_facts (ts : List Tsk) (n : Nat) (hn : n ≤ 40) : ∃ sl : Nat → Sl, (∀ i, 6 ≤ i → (sl i).kind = 0) ∧
    ∀ (js : List Jb) (q : Int), js = (jobsOf 0 (ts.take n)).1 → q = (jobsOf 0 (ts.take n)).2 →
      (playU unit0 (js ++ [⟨5, q + 1, 0, []⟩] ++ askK (q + 1) 6)).1 = (playU unit0 js).1 ++ [⟨0, false, [], tailTo sl 64⟩] ++ (List.range 6).map (fun a => readSl (sl a)) := by
  have hs := jobs_state ts n (by omega)
  have hq := (jobs_few ts n (by omega)).2.2
  refine ⟨(playU unit0 (jobsOf 0 (ts.take n)).1).2.sl, hs.high, fun js q e1 e2 => ?_⟩
  subst e1 e2
  have hstep : stepU (playU unit0 (jobsOf 0 (ts.take n)).1).2 ⟨5, (jobsOf 0 (ts.take n)).2 + 1, 0, []⟩ = (⟨0, false, [], tailTo (playU unit0 (jobsOf 0 (ts.take n)).1).2.sl 64⟩, ⟨(playU unit0 (jobsOf 0 (ts.take n)).1).2.sl, (jobsOf 0 (ts.take n)).2 + 1, -1⟩) := by
    have e : stepU (playU unit0 (jobsOf 0 (ts.take n)).1).2 ⟨5, (jobsOf 0 (ts.take n)).2 + 1, 0, []⟩ = sealU (playU unit0 (jobsOf 0 (ts.take n)).1).2.calm ((jobsOf 0 (ts.take n)).2 + 1) := by simp [stepU]
    rw [e]
    unfold sealU
    have hc : (playU unit0 (jobsOf 0 (ts.take n)).1).2.calm.ep = (jobsOf 0 (ts.take n)).2 := hs.ep
    rw [if_neg (by rw [hc]; omega), if_neg (by omega)]
    rfl
  rw [playU_append, playU_snoc, hstep]
  have := (play_look ⟨(playU unit0 (jobsOf 0 (ts.take n)).1).2.sl, (jobsOf 0 (ts.take n)).2 + 1, -1⟩ 6 (by decide)).1
  rw [this]

theorem readSl_code (s : Sl) : ((readSl s).code = 17 ∧ s.kind = 0) ∨ ((readSl s).code ≠ 17 ∧ s.kind ≠ 0) := by
  unfold readSl
  by_cases h : s.kind = 0
  · rw [if_pos h]
    exact .inl ⟨rfl, h⟩
  · rw [if_neg h]
    refine .inr ⟨?_, h⟩
    split
    · simp
    · split
      · simp
      · simp [rp]

set_option maxRecDepth 10000 in
set_option maxHeartbeats 1600000 in
theorem UnitTail_any (ts : List Tsk) (ta : Option Addr) (tc len : Nat) (hlen : len = ts.length) (w : World) (hL : Lies kTs (fun _ => True) w ta tc ts) :
    Calls Try.prog 7 #[.slice ta len tc] w fun e w' => e = .returned (.bool true) ∧ Below w.heap.size w w' := by
  obtain ⟨sl, hhi, hf⟩ := tail_facts ts 40 (Nat.le_refl _)
  obtain ⟨js, hjs⟩ : ∃ js, js = (jobsOf 0 (ts.take 40)).1 := ⟨_, rfl⟩
  have hfew := jobs_few ts 40 (by omega)
  have cJ : Hid (Calls Try.prog 12 #[.slice ta len tc, .int .i64 40] w fun e w' => ∃ (a : Option Addr) (m c : Nat) (q : Int), e = .returned (.tuple #[.slice a m c, .int .i64 q]) ∧ 0 ≤ q ∧ q ≤ 120 ∧ m ≤ 40 ∧ Hid (q = (jobsOf 0 (ts.take 40)).2 ∧ m = js.length) ∧ Hid (RowI w js (.slice a m c) w')) := put_by ((Jobs_law ts 40 (by omega) ta tc len hlen w hL).mono fun e w' ⟨a, m, c, q, e1, e2, e3⟩ => ⟨a, m, c, q, e1, by rw [e2.out.1]; exact hfew.2.1, by rw [e2.out.1]; exact hfew.2.2, by rw [e2.out.2]; exact hfew.1, put_by ⟨e2.out.1, by rw [hjs]; exact e2.out.2⟩, put_by (by rw [hjs]; exact ⟨e3.out.rows, e3.out.below⟩)⟩)
  have HF := put_by (fun q (e : q = (jobsOf 0 (ts.take 40)).2) => hf js q hjs e)
  have HLow := put_by (And.intro hhi (tailTo_spec sl 64))
  have hlj : js.length ≤ 40 := by rw [hjs]; exact hfew.1
  have HLJ := put_by hlj
  clear hhi hf hfew hjs hlen hL hlj
  go_enter Try.func7, Try.ntmps7
  obtain ⟨n9, hn9⟩ : ∃ n9, n9 = js.length + 1 := ⟨_, rfl⟩
  have HN9 := put_by hn9
  have hn10 : n9 ≤ 41 := by have := HLJ.out; omega
  clear hn9
  go_upto_region 4 with (first
    | (go_at_call 12; (with_reducible refine cJ.out.mono ?_); clear cJ; rintro e w1 ⟨a, m, c, q, rfl, hq0, hq1, hm, HQ, HR1⟩; have hwq : IntKind.i64.wrap (q + 1) = q + 1 := (by rw [IntKind.wrap_i64]; omega))
    | (at_builtin; refine wpList_append_one eltJb rfl (.tmp 15) (.tmp 19) rfl w.heap.size (.slice a m c) js rfl HR1.out.rows ⟨5, q + 1, 0, []⟩ [.int .i64 5, .int .i64 (q + 1), .int .i64 0, .slice none 0 0] _ _ rfl rfl (bare_job _ _ _ _ _) (fun _ _ => trivial) (by have := HLJ.out; omega) (by decide) HR1.out.below.size ?_; intro v2 w2 r1 r2 r3; have HR2 := put_by (HR1.out.grown r1 r2); clear r1 r2 r3; obtain ⟨a2, c2, e2, -⟩ := rows_slice HR2.out; rw [List.length_append, List.length_singleton, ← HN9.out] at e2; subst e2)
    | (at_builtin; refine wpList_append_rows eltJb rfl (.const (.slice none 0 0)) (.tmp 22) rfl w.heap.size (.slice none 0 0) ([] : List Jb) rfl (Rows.nil kJb (fun _ => True) _ _ _) a2 c2 n9 (js ++ [⟨5, q + 1, 0, []⟩]) rfl (by rw [HN9.out]; simp) (ok2 := fun _ => True) (by obtain ⟨x, y, e, h⟩ := rows_slice HR2.out; simp only [Value.slice.injEq] at e; rw [e.1, e.2.2]; exact h) (fun _ _ _ _ => trivial) (fun _ _ _ e => by cases e) (by simp only [List.length_nil]; omega) (by decide) HR2.out.below.size ?_; intro v3 w3 r1 r2 r3; have HR3 := put_by (RowI.mk (w := w) (v := v3) r1 (below_grown HR2.out.below HR2.out.below.size r2 (fun r hr => by cases hr))); clear r1 r2 r3)
    | (go_at_call 16; (with_reducible refine (look_law _ _).mono ?_); rintro e w4 ⟨a4, c4, rfl, HL4, HB4⟩)
    | (at_builtin; refine wpList_append_rows eltJb rfl (.tmp 23) (.tmp 26) rfl w.heap.size v3 (js ++ [⟨5, q + 1, 0, []⟩]) rfl (by have := (HR3.out.later HB4.out).rows; simpa using this) a4 c4 6 (askK (q + 1) 6) rfl (askK_length _ _).symm HL4.out (fun _ _ _ _ => trivial) (fun b _ hb e => by have := (rows_lt HR3.out.rows b e).2; omega) (by rw [List.length_append, List.length_singleton]; have := HLJ.out; omega) (by decide) (HR3.out.later HB4.out).below.size ?_; intro v5 w5 r1 r2 r3; have HR5 := put_by ((HR3.out.later HB4.out).grown r1 r2); clear r1 r2 r3)
    | (go_at_call 9; (with_reducible refine (Play_law _ (by simp only [List.length_append, List.length_singleton, askK_length]; have := HLJ.out; omega) _ _ (Jbs.of_rows HR5.out.rows)).mono ?_); rintro e w6 ⟨a6, n6, c6, rfl, HP6, HB6⟩))
  have HFQ := HF.out q HQ.out.1
  obtain ⟨p, hp⟩ : ∃ p, p = js.length := ⟨_, rfl⟩
  have hn9 : n9 = p + 1 := by rw [HN9.out, hp]
  have hlen6 : n6 = p + 7 := by rw [HP6.out.1]; simp only [List.length_append, List.length_singleton, askK_length, hp]
  have hR : Rps w6 a6 c6 ((playU unit0 js).1 ++ [(⟨0, false, [], tailTo sl 64⟩ : Rp)] ++ (List.range 6).map (fun a => readSl (sl a))) := by rw [← HFQ]; exact HP6.out.2
  have hpl : (playU unit0 js).1.length = p := by rw [playU_length, hp]
  have hRl : ((playU unit0 js).1 ++ [(⟨0, false, [], tailTo sl 64⟩ : Rp)] ++ (List.range 6).map (fun a => readSl (sl a))).length = p + 7 := by simp [hpl]
  obtain ⟨rb, ro, da, dc, rfl, x0, -, -, x3, -⟩ := hR.cell (k := p) (by rw [hRl]; omega)
  have hat : ((playU unit0 js).1 ++ [(⟨0, false, [], tailTo sl 64⟩ : Rp)] ++ (List.range 6).map (fun a => readSl (sl a)))[p]'(by rw [hRl]; omega) = (⟨0, false, [], tailTo sl 64⟩ : Rp) := by
    rw [List.getElem_append_left (by simp [hpl]), List.getElem_append_right (by omega)]
    simp [hpl]
  rw [hat] at x0 x3
  have HC : Hid (∀ k, k < 6 → w6.cell? ⟨rb, ro + (p + 1 + k) * 4, none⟩ = some (.int .i64 (readSl (sl k)).code)) := put_by (fun k hk => by
    obtain ⟨rb', ro', _, _, e, y0, -⟩ := hR.cell (k := p + 1 + k) (by rw [hRl]; omega)
    cases e
    rw [y0]
    congr 2
    rw [List.getElem_append_right (by simp [hpl])]
    simp [hpl])
  obtain ⟨tl, htl⟩ : ∃ tl : Int, tl = tailTo sl 64 := ⟨_, rfl⟩
  simp only at x0 x3
  rw [← htl] at x3
  have ht0 : 0 ≤ tl := by omega
  have ht6 : tl ≤ 6 := by
    by_cases h : tailTo sl 64 ≤ 6
    · omega
    · exfalso
      obtain ⟨t, ht⟩ : ∃ t, tailTo sl 64 = t + 1 := ⟨tailTo sl 64 - 1, by omega⟩
      exact HLow.out.2.2.2 t ht (HLow.out.1 t (by omega))
  have HT : Hid (∀ k, k < 6 → ((sl k).kind = 0 → ¬ (k : Int) = tl - 1) ∧ ((sl k).kind ≠ 0 → (k : Int) < tl)) := put_by (fun k hk => ⟨fun h e => HLow.out.2.2.2 k (by omega) h, fun h => by
    by_cases hk2 : (k : Int) < tl
    · exact hk2
    · exact absurd (HLow.out.2.1 k (by omega) (by omega)) h⟩)
  have HB := put_by (HR5.out.below.trans (HB6.out.mono HR5.out.below.size))
  subst hn9 hlen6
  have hp40 : (p : Int) ≤ 40 := by omega
  clear HFQ hp hR hpl hRl hat htl HN9 HR1 HR2 HR3 HR5 HL4 HB4 HP6 HB6 HQ HF HLow HLJ hm hq0 hq1 hwq
  go_wp2
  go_loop [8] (fun i => ∃ k : Nat, k ≤ 6 ∧ i = .int .i64 k) (fun i => 6 - (intOf i).toNat)
  case atStart => exact ⟨0, Nat.zero_le _, rfl⟩
  case round =>
    obtain ⟨k, hk, rfl⟩ := hrel
    by_cases hlt : k < 6
    · have ik : (k : Int) < 6 := by omega
      have y0 := HC.out k hlt
      obtain ⟨t1, t2⟩ := HT.out k hlt
      rcases readSl_code (sl k) with ⟨e1, e2⟩ | ⟨e1, e2⟩
      · have h1 : ((k : Int) == tl - 1) = false := by simp only [beq_eq_false_iff_ne]; exact t1 e2
        have hw : IntKind.i64.wrap (tl - 1) = tl - 1 := by rw [IntKind.wrap_i64]; omega
        rw [e1] at y0
        clear t1 t2 e1 e2
        go_wp2
        exact ⟨⟨k + 1, by omega, by simp⟩, by simp [intOf]; omega⟩
      · have h1 : decide (tl ≤ (k : Int)) = false := decide_eq_false (by have := t2 e2; omega)
        have h2 : ((readSl (sl k)).code != 17) = true := by simp [e1]
        clear t1 t2 e1 e2
        generalize (readSl (sl k)).code = cd at *
        go_wp2
        exact ⟨⟨k + 1, by omega, by simp⟩, by simp [intOf]; omega⟩
    · have hk6 : k = 6 := by omega
      subst hk6
      go_wp2
      go_ret
      exact ⟨rfl, HB.out⟩

end Go.Proofs.Ytegmcpcpnjfiaaa
