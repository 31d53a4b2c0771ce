/- slices.Delete of one entry of a row of the call's own. -/
import Derived.Test.YtifagjhblngmmaaApRow
namespace Go.Proofs.Ytifagjhblngmmaa
open Go.ChangeShapes Go.WideShapes Go.ChangeAt Go.RowKit

set_option maxRecDepth 100000 in
set_option maxHeartbeats 4000000 in
theorem delete_any (B : Nat) (l : List Ent) (i : Nat) (hi : i < l.length) (g cap : Nat) (w : World) (hR : Own B w (.slice (some ⟨g, 0, none⟩) l.length cap) l) :
    Calls Try.prog 17 #[.slice (some ⟨g, 0, none⟩) l.length cap, .int .i64 i, .int .i64 (i + 1 : Nat)] w fun e w' => ∃ n c, e = .returned (.slice (some ⟨g, 0, none⟩) n c) ∧ Own B w' (.slice (some ⟨g, 0, none⟩) n c) (l.take i ++ l.drop (i + 1)) ∧ Below B w w' := by
  obtain ⟨css, hO, hE⟩ := hR.open
  rcases hO.2 with ⟨h0, -⟩ | ⟨g', cap', cur0, e, hB, hg, hc, hm, hs, ht⟩
  · cases h0
  · obtain ⟨cur, rfl⟩ : ∃ cur : List Value, cur.toArray = cur0 := ⟨cur0.toList, by simp⟩
    simp only [Value.slice.injEq, Option.some.injEq, Addr.mk.injEq, and_true, true_and] at e
    obtain ⟨rfl, rfl⟩ := e
    simp only [List.size_toArray] at hs ht
    obtain ⟨n, hn⟩ : ∃ n, n = l.length := ⟨_, rfl⟩
    obtain ⟨j, hj⟩ : ∃ j, j = i + 1 := ⟨_, rfl⟩
    have hfl : css.flatten.length = l.length * 2 := hO.1
    obtain ⟨news, hnews⟩ : ∃ news, news = css.flatten.drop (j * 2) := ⟨_, rfl⟩
    have hnl : news.length = (n - j) * 2 := by rw [hnews, List.length_drop, hfl, ← hn, Nat.sub_mul]
    have hcell : ∀ t u, css.flatten[t]? = some u → w.cell? ⟨g, t, none⟩ = some u := fun t u hu => by
      refine row_cell hg ?_
      rw [← ht] at hu
      rw [List.getElem?_take] at hu
      split at hu
      · exact hu
      · cases hu
    obtain ⟨A, hA, hsrc⟩ : ∃ A : Addr, (if cap = j then some (⟨g, 0, none⟩ : Addr) else some ⟨g, j * 2, none⟩) = some A ∧ Hid (∀ t u, news[t]? = some u → w.drew.cell? (A.add t) = some u) := by
      by_cases h : cap = j
      · refine ⟨⟨g, 0, none⟩, by simp [h], fun t u hu => ?_⟩
        have h0 : news.length = 0 := by rw [hnl]; omega
        rw [List.length_eq_zero_iff.1 h0] at hu
        simp at hu
      · refine ⟨⟨g, j * 2, none⟩, by simp [h], fun t u hu => ?_⟩
        rw [Addr.add_lit]
        rw [hnews, List.getElem?_drop] at hu
        exact hcell _ u hu
    have hgd : w.drew.heap[g]? = some (.cells cur.toArray 40 (0, 0)) := hg
    have h1n : ∀ u ∈ news, u.oneCell' = true := fun u hu => rel_one hE u (by rw [hnews] at hu; exact List.mem_of_mem_drop hu)
    have hfit : i * 2 + news.length ≤ cur.length := by rw [hnl, hs]; omega
    have hap : Hid (∀ ty c, (Builtin.append_ #[22, 22] ty #[.slice (some ⟨g, 0, none⟩) i cap, .slice (some A) (n - j) c]).run Try.prog w.drew = .ok (.slice (some ⟨g, 0, none⟩) (i + (n - j)) cap) (w.drew.setRow g (over cur (i * 2) news).toArray)) := fun ty c =>
      run_append_over ty i cap A (n - j) c news hgd hnl hsrc.out h1n (by omega) hfit
    have hg1 := row_heap hgd (over cur (i * 2) news)
    have hlen1 : (over cur (i * 2) news).length = cap * 2 := by rw [over_length hfit, hs]
    obtain ⟨W1, hW1⟩ : ∃ W1, W1 = w.drew.setRow g (over cur (i * 2) news).toArray := ⟨_, rfl⟩
    rw [← hW1] at hap hg1
    have hcl : ∀ ty c, (Builtin.clear_ #[22] ty #[.slice (some ⟨g, (i + (n - j)) * 2, none⟩) 1 c]).run Try.prog W1 = .ok (.tuple #[]) (W1.setRow g (over (over cur (i * 2) news) ((i + (n - j)) * 2) [.slice none 0 0, .slice none 0 0]).toArray) := fun ty c =>
      run_clear_over ty _ c hg1 (by rw [hlen1]; omega)
    have hB1 : Below B w W1 := by rw [hW1]; exact below_row (Below.refl _ _).drew hB _
    have H9 : Hid (Own B (W1.setRow g (over (over cur (i * 2) news) ((i + (n - j)) * 2) [.slice none 0 0, .slice none 0 0]).toArray) (.slice (some ⟨g, 0, none⟩) (i + (n - j)) cap) (l.take i ++ l.drop (i + 1)) ∧ Below B w (W1.setRow g (over (over cur (i * 2) news) ((i + (n - j)) * 2) [.slice none 0 0, .slice none 0 0]).toArray)) := by
      have hb2 := below_row hB1 hB (over (over cur (i * 2) news) ((i + (n - j)) * 2) [.slice none 0 0, .slice none 0 0]).toArray
      refine ⟨?_, hb2⟩
      have hll : (l.take i ++ l.drop (i + 1)).length = i + (n - j) := by
        rw [List.length_append, List.length_take, List.length_drop]
        omega
      have hfit2 : (i + (n - j)) * 2 + [(Value.slice none 0 0), .slice none 0 0].length ≤ (over cur (i * 2) news).length := by
        rw [hlen1]; simp; omega
      have := Own.of (css := css.take i ++ css.drop (i + 1)) (l := l.take i ++ l.drop (i + 1)) (cap := cap) hB (row_heap hg1 (over (over cur (i * 2) news) ((i + (n - j)) * 2) [.slice none 0 0, .slice none 0 0])) (by omega) hm (by rw [over_length hfit2, hlen1]) ?_ (Ents.later ((hE.take i).append (hE.drop (i + 1))) hb2)
      · rw [hll] at this
        exact this
      · rw [hll, over_ahead (Nat.le_refl _) (by rw [hlen1]; omega), over_upto (by rw [hnl]; omega) (by omega), List.flatten_append]
        have hcl2 : ∀ c ∈ css, c.length = 2 := rel_len hE
        rw [flatten_drop hcl2, hnews, hj]
        congr 1
        have e2 : css.flatten = (css.take i).flatten ++ (css.drop i).flatten := by rw [← List.flatten_append, List.take_append_drop]
        have e3 : (css.take i).flatten.length = i * 2 := by
          rw [flatten_len (fun c hc => hcl2 c (List.mem_of_mem_take hc)), List.length_take, ← hE.length]
          congr 1
          omega
        have e4 : cur.take (i * 2) = css.flatten.take (i * 2) := by
          rw [← ht, List.take_take]
          congr 1
          omega
        rw [e4, e2, List.take_append_of_le_length (by omega), List.take_of_length_le (by omega)]
    have i1 : j ≤ n := by omega
    have i2 : n ≤ cap := by omega
    have i3 : cap ≤ 9223372036854775807 := Nat.le_trans hm (by decide)
    have i4 : ¬ i = j := by omega
    have i5 : n - (i + (n - j)) = 1 := by omega
    have i6 : i ≤ j := by omega
    have i7 : i ≤ cap := by omega
    have i8 : j ≤ cap := by omega
    have i9 : i + (n - j) ≤ n := by omega
    have ia : ¬ cap = i + (n - j) := by omega
    generalize l.take i ++ l.drop (i + 1) = l9 at H9 ⊢
    rw [← hj, ← hn]
    generalize hwa : over cur (i * 2) news = oa at hap hcl H9
    clear hW1 hB1 hgd h1n hfit hg1 hlen1 hsrc hcell hfl hnl hnews ht hs hm hc hg hB hO hE hR hi hn hwa hj
    go_enter Try.func17, Try.ntmps17
    go_wp2_with fail
    go_region_law (refine step_append_run rfl (.tmp 22) (.tmp 25) 22 22 rfl (.slice (some ⟨g, 0, none⟩) i cap) (.slice (some A) (n - j) (cap - j)) (by simp [Act.eval, Act.put]) (by simp [Act.eval, Act.put]) (hap.out _ _) ?_)
    go_wp2
    go_ret
    exact ⟨_, _, rfl, H9.out⟩

end Go.Proofs.Ytifagjhblngmmaa
