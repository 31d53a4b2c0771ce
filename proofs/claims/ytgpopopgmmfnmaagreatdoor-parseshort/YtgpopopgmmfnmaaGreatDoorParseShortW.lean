/- ParseShort's walk: what a sample begins with is never wrong. -/
import Derived.Test.YtgpopopgmmfnmaaGreatDoorParseLaws
import Derived.Deep.DeepAppendWide
namespace Go.Proofs.YtgpopopgmmfnmaaGreatDoor
open Go.ChangeShapes Go.WideShapes Go.ChangeAt Go.RowKit

theorem news_take {w : World} {base g cap k : Nat} {ts : List Tok} (h : w.ownsRow base 48 3 (.slice (some ⟨g, 0, none⟩) k cap) k (tokCells ts)) (n : Nat) : ∀ j u, (tokCells (ts.take n))[j]? = some u → w.cell? ((⟨g, 0, none⟩ : Addr).add j) = some u := by
  intro j u hu
  rw [tokCells_take] at hu
  refine h.cells (g := g) rfl j u ?_
  rw [List.getElem?_take] at hu
  split at hu
  · exact hu
  · cases hu

set_option maxRecDepth 100000 in
set_option maxHeartbeats 8000000 in
theorem short_walk (a0 a1 : Int) (w : World) (tab : ParseTabs w) :
    Calls Tryz.prog 5 #[.int .i64 a0, .int .i64 a1] w fun e w' => e = .returned (.bool true) ∧ Below w.heap.size w w' := by
  obtain ⟨m, hm⟩ : ∃ m : Nat, a0 % 8 = (m : Int) := ⟨(a0 % 8).toNat, by omega⟩
  have hm8 : m < 8 := by omega
  have hm8i : (m : Int) < 8 := by omega
  have cP := Picked_any a0 8 (by decide) (by decide)
  rw [hm] at cP
  clear hm
  obtain ⟨hg1, hg2, hg3, _⟩ := samples_good m hm8
  have hsh := samples_short m hm8
  simp only [Bool.and_eq_true, decide_eq_true_eq] at hsh
  obtain ⟨k, hk⟩ : ∃ k, (sampleT m).length = k := ⟨_, rfl⟩
  rw [hk] at hg2 hg3
  have hk4 : ¬ (k : Int) < 4 := by omega
  obtain ⟨n, hn⟩ : ∃ n : Nat, a1 % (k : Int) = (n : Int) := ⟨(a1 % (k : Int)).toNat, by have := Int.emod_nonneg a1 (b := (k : Int)) (by omega); omega⟩
  have hnk : n < k := by have := Int.emod_lt_of_pos a1 (b := (k : Int)) (by omega); omega
  have cQ := Picked_any a1 (k : Int) (by omega) (by omega)
  rw [hn] at cQ
  clear hn
  have hone := List.all_eq_true.1 hsh.1 n (List.mem_range.2 (by omega))
  have cS := samples_any w
  have cC := hide (fun W h => Cut_sample m hm8 k hk (W := W) tab h)
  have cA := hide (fun ao cap W h => Parse_read (sampleT m) hg1 (by omega) k hk.symm (ao := ao) (cap := cap) (W := W) tab h)
  rw [hsh.2] at cA
  have htl : ((sampleT m).take n).length = n := by rw [List.length_take]; omega
  have hgt : AllMay' ((sampleT m).take n) = true := List.all_eq_true.2 fun t ht => List.all_eq_true.1 hg1 t (List.mem_of_mem_take ht)
  have cB := hide (fun ao cap W h => Parse_read ((sampleT m).take n) hgt (by omega) n htl.symm (ao := ao) (cap := cap) (W := W) tab h)
  obtain ⟨i0, hi0, hz0, hz1, hz2⟩ := info_parts Tryz.infoTok
  -- the answer at the beginning: its place, its error, its kind
  obtain ⟨⟨t, p, e⟩, hq⟩ : ∃ q, readP ((sampleT m).take n) = q := ⟨_, rfl⟩
  rw [hq] at cB
  have hone : (e = 0 ∧ p = 0 ∧ t.kind ≠ 0) ∨ (e = 5 ∧ p = n ∧ t.kind = 0) := by
    unfold shortOk at hone
    simp only [hq, Bool.or_eq_true, Bool.and_eq_true, decide_eq_true_eq] at hone
    rcases hone with h | h
    · exact .inl ⟨h.1.1, h.1.2, h.2⟩
    · exact .inr ⟨h.1.1, h.1.2, h.2⟩
  have hlen : (tokCells ((sampleT m).take n)).length = n * 3 := by rw [tokCells_length, htl]
  have HK := hide (And.intro hk (And.intro hg1 (And.intro htl (And.intro hgt hlen))))
  clear tab hsh hq hk hg1 htl hgt hlen
  simp only at cA cB
  rcases hone with ⟨rfl, rfl, hkd⟩ | ⟨rfl, hp, hkd⟩
  · have Hkd := hide hkd
    clear hkd
    go_enter Tryz.func5, Tryz.ntmps5
    go_wp2_with (first
      | (go_at_call 13; refine cS.mono ?_; rintro e w1 ⟨b, rfl, hb1, HB⟩; have hc1 := HB.out.2 m hm8; have HB1 := hide HB.out.1)
      | (go_at_call 7; (with_reducible refine (cP _).mono ?_); rintro e w1 ⟨rfl, rfl⟩)
      | (go_at_call 12; refine (cC.out _ HB1).mono ?_; rintro e w2 ⟨g, cap, rfl, hcap, hg, HB2⟩; have HB3 := hide (And.intro HB2.out.1 (own_toks HK.out.1.symm (AllMay'.int HK.out.2.1) HB2.out.2)))
      | (go_at_call 14; (with_reducible refine (cA.out _ _ _ HB3).mono ?_); rintro e w3 ⟨x, rfl, HB4⟩)
      | (refine wpList_store_mid rfl 34 (.tmp 8) (.tmp 28) rfl w3.heap.size 0 (stmCells x).toArray rfl rfl (init_there _ _) (stm_size _) (stm_one _) ?_; obtain ⟨w4, e4, HB5⟩ := law_var HB4.out.1 x; rw [e4]; clear e4; have HN := hide (news_take (own_later (own_later HB2.out.2 HB4.out.2.1) HB5.out.2.1) n))
      | (go_at_call 7; (with_reducible refine (cQ _).mono ?_); rintro e w5 ⟨rfl, rfl⟩)
      | (at_builtin; refine wpList_append_own _ rfl (.const (.slice none 0 0)) (.tmp 49) 43 rfl w4.heap.size 48 i0 (.agg #[.int .i64 0, .int .i64 0, .string ⟨#[]⟩]) 3 32 Tryz.underlying43 hi0 hz0 hz1 hz2 rfl (by decide) (.slice none 0 0) 0 [] rfl (World.ownsRow_nil _ _ _ _) ⟨g, 0, none⟩ n cap (tokCells ((sampleT m).take n)) rfl HK.out.2.2.2.2 HN.out (tok_cells_one _) (by unfold maxLen; omega) (by omega) (Nat.le_refl _) ?_; intro v2 w5 hown hgrow _; rw [Nat.zero_add, List.nil_append] at hown; obtain ⟨ao2, cap2, rfl⟩ := own_shape hown; have HB6 := hide (And.intro (HB5.out.1.grown hgrow HB5.out.1.size (fun k hk => by cases hk)) (own_toks HK.out.2.2.1.symm (AllMay'.int HK.out.2.2.2.1) hown)); clear hown hgrow)
      | (go_at_call 14; (with_reducible refine (cB.out _ _ _ HB6).mono ?_); rintro e w6 ⟨x2, rfl, HB7⟩)
      | (refine wpList_store_mid rfl 34 (.tmp 12) (.tmp 52) rfl w6.heap.size 0 (stmCells x2).toArray rfl rfl (init_there _ _) (stm_size _) (stm_one _) ?_; obtain ⟨w7, e7, HB8⟩ := law_var HB7.out.1 x2; rw [e7]; clear e7; have hk2 : ¬ x2.kind = 0 := (by rw [HB7.out.2.2.kind]; exact Hkd.out); have hk3 : (x2.kind == 0) = false := beq_eq_false_iff_ne.2 hk2; have z0 : w7.cell? ⟨w6.heap.size, 0, none⟩ = some (.int .i64 x2.kind) := HB8.out.2.2.2.1 0 _ rfl))
    go_ret
    exact ⟨rfl, HB8.out.1⟩
  · obtain rfl := hp.symm
    have Hkd := hide hkd
    clear hkd
    go_enter Tryz.func5, Tryz.ntmps5
    go_wp2_with (first
      | (go_at_call 13; refine cS.mono ?_; rintro e w1 ⟨b, rfl, hb1, HB⟩; have hc1 := HB.out.2 m hm8; have HB1 := hide HB.out.1)
      | (go_at_call 7; (with_reducible refine (cP _).mono ?_); rintro e w1 ⟨rfl, rfl⟩)
      | (go_at_call 12; refine (cC.out _ HB1).mono ?_; rintro e w2 ⟨g, cap, rfl, hcap, hg, HB2⟩; have HB3 := hide (And.intro HB2.out.1 (own_toks HK.out.1.symm (AllMay'.int HK.out.2.1) HB2.out.2)))
      | (go_at_call 14; (with_reducible refine (cA.out _ _ _ HB3).mono ?_); rintro e w3 ⟨x, rfl, HB4⟩)
      | (refine wpList_store_mid rfl 34 (.tmp 8) (.tmp 28) rfl w3.heap.size 0 (stmCells x).toArray rfl rfl (init_there _ _) (stm_size _) (stm_one _) ?_; obtain ⟨w4, e4, HB5⟩ := law_var HB4.out.1 x; rw [e4]; clear e4; have HN := hide (news_take (own_later (own_later HB2.out.2 HB4.out.2.1) HB5.out.2.1) n))
      | (go_at_call 7; (with_reducible refine (cQ _).mono ?_); rintro e w5 ⟨rfl, rfl⟩)
      | (at_builtin; refine wpList_append_own _ rfl (.const (.slice none 0 0)) (.tmp 49) 43 rfl w4.heap.size 48 i0 (.agg #[.int .i64 0, .int .i64 0, .string ⟨#[]⟩]) 3 32 Tryz.underlying43 hi0 hz0 hz1 hz2 rfl (by decide) (.slice none 0 0) 0 [] rfl (World.ownsRow_nil _ _ _ _) ⟨g, 0, none⟩ n cap (tokCells ((sampleT m).take n)) rfl HK.out.2.2.2.2 HN.out (tok_cells_one _) (by unfold maxLen; omega) (by omega) (Nat.le_refl _) ?_; intro v2 w5 hown hgrow _; rw [Nat.zero_add, List.nil_append] at hown; obtain ⟨ao2, cap2, rfl⟩ := own_shape hown; have HB6 := hide (And.intro (HB5.out.1.grown hgrow HB5.out.1.size (fun k hk => by cases hk)) (own_toks HK.out.2.2.1.symm (AllMay'.int HK.out.2.2.2.1) hown)); clear hown hgrow)
      | (go_at_call 14; (with_reducible refine (cB.out _ _ _ HB6).mono ?_); rintro e w6 ⟨x2, rfl, HB7⟩)
      | (refine wpList_store_mid rfl 34 (.tmp 12) (.tmp 52) rfl w6.heap.size 0 (stmCells x2).toArray rfl rfl (init_there _ _) (stm_size _) (stm_one _) ?_; obtain ⟨w7, e7, HB8⟩ := law_var HB7.out.1 x2; rw [e7]; clear e7; have z0 : w7.cell? ⟨w6.heap.size, 0, none⟩ = some (.int .i64 0) := (by have h1 := HB8.out.2.2.2.1 0 _ rfl; have h2 : x2.kind = 0 := HB7.out.2.2.kind.trans Hkd.out; rw [h2] at h1; exact h1)))
    go_ret
    exact ⟨rfl, HB8.out.1⟩

end Go.Proofs.YtgpopopgmmfnmaaGreatDoor
