/- slices.Insert ahead of what stands there: in place. -/
import Derived.Test.YtifagjhblngmmaaApInsert
namespace Go.Proofs.Ytifagjhblngmmaa
open Go.ChangeShapes Go.WideShapes Go.ChangeAt Go.RowKit

/-- the cells of a list, parted -/
theorem flatten_parted {B : Nat} {w : World} {l : List Ent} {css : List (List Value)} (hE : Ents B w l css) {i : Nat} (hi : i ≤ l.length) (cs : List Value) : (css.take i ++ cs :: css.drop i).flatten = css.flatten.take (i * 2) ++ (cs ++ css.flatten.drop (i * 2)) := by
  have hcl2 : ∀ c ∈ css, c.length = 2 := rel_len hE
  have e2 : css.flatten = (css.take i).flatten ++ (css.drop i).flatten := by rw [← List.flatten_append, List.take_append_drop]
  have e3 : (css.take i).flatten.length = i * 2 := by
    rw [flatten_len (fun c hc => hcl2 c (List.mem_of_mem_take hc)), List.length_take, ← hE.length]
    congr 1
    omega
  have e5 : css.flatten.take (i * 2) = (css.take i).flatten := by rw [e2, List.take_append_of_le_length (by omega), List.take_of_length_le (by omega)]
  rw [List.flatten_append, List.flatten_cons, flatten_drop hcl2, e5]

set_option maxRecDepth 100000 in
set_option maxHeartbeats 4000000 in
theorem insert_room (B : Nat) (l : List Ent) (i : Nat) (hi : i < l.length) (g cap vb : Nat) (hroom : l.length + 1 ≤ cap) (u v : Value) (x : Ent) (w : World) (hR : Own B w (.slice (some ⟨g, 0, none⟩) l.length cap) l) (hv : Laid1 B w vb u v x) (hne : vb ≠ g) :
    Calls Try.prog 18 #[.slice (some ⟨g, 0, none⟩) l.length cap, .int .i64 i, .slice (some ⟨vb, 0, none⟩) 1 1] w fun e w' => InsPost B (l.take i ++ x :: l.drop i) w e w' := by
  obtain ⟨css, hO, hE⟩ := hR.open
  rcases hO.2 with ⟨h0, -⟩ | ⟨g', cap', cur0, e, hB, hg, hc, hm, hs, ht⟩
  · cases h0
  · obtain ⟨cur, rfl⟩ : ∃ cur : List Value, cur.toArray = cur0 := ⟨cur0.toList, by simp⟩
    simp only [Value.slice.injEq, Option.some.injEq, Addr.mk.injEq, and_true, true_and] at e
    obtain ⟨rfl, rfl⟩ := e
    simp only [List.size_toArray] at hs ht
    obtain ⟨n, hn⟩ : ∃ n, n = l.length := ⟨_, rfl⟩
    have hfl : css.flatten.length = l.length * 2 := hO.1
    obtain ⟨cs, hcs⟩ : ∃ cs, cs = css.flatten.drop (i * 2) := ⟨_, rfl⟩
    have hcl : cs.length = (n - i) * 2 := by rw [hcs, List.length_drop, hfl, ← hn, Nat.sub_mul]
    have hcell : ∀ t y, cs[t]? = some y → w.drew.cell? ((⟨g, i * 2, none⟩ : Addr).add t) = some y := fun t y hu => by
      rw [Addr.add_lit]
      rw [hcs, List.getElem?_drop, ← ht, List.getElem?_take] at hu
      split at hu
      · exact row_cell hg hu
      · cases hu
    have hgd : w.drew.heap[g]? = some (.cells cur.toArray 40 (0, 0)) := hg
    have h1n : ∀ u ∈ cs, u.oneCell' = true := fun u hu => rel_one hE u (by rw [hcs] at hu; exact List.mem_of_mem_drop hu)
    have hfit : (i + 1) * 2 + cs.length ≤ cur.length := by rw [hcl, hs]; omega
    have hmin1 : Nat.min (n + 1 - i) (n - i) = n - i := by simp only [Nat.min_def]; split <;> omega
    have hmin2 : Nat.min 1 (n + 1 - i) = 1 := by simp only [Nat.min_def]; split <;> omega
    have hov : ∀ lb cb, (callFunc 25 #[.slice (some ⟨vb, 0, none⟩) 1 1, .slice (some ⟨g, (i + 1) * 2, none⟩) lb cb]).run Try.prog w = .ok (.value (.bool false)) w := fun lb cb => by
      have h1 := hv.heap
      rw [run_callFunc_extern Try.func25 (by kernel_rfl) (by kernel_rfl) (by kernel_rfl) (e := Extern.SlicesOverlaps.overlaps #[22, 22] #[4]) (by kernel_rfl),
        Lib.run_overlaps_apart w 22 4 40 eltE.und 2 Try.sizeOf40 ⟨vb, 0, none⟩ ⟨g, (i + 1) * 2, none⟩ 1 1 lb cb hne 40 40 2 (cap * 2) (by simp [World.shape?, h1]) (by simp [World.shape?, hg, hs]) (by omega) (by simp [World.frozen?, h1]) (by simp [World.frozen?, h1])]
      rfl
    have hcp1 : Hid (∀ ty dc sc, (Builtin.copy_ #[22, 22] ty #[.slice (some ⟨g, (i + 1) * 2, none⟩) (n - i) dc, .slice (some ⟨g, i * 2, none⟩) (n + 1 - i) sc]).run Try.prog w.drew = .ok (goInt ((n - i : Nat) : Int)) (w.drew.setRow g (over cur ((i + 1) * 2) cs).toArray)) := fun ty dc sc => by
      have := run_copy_over ty ((i + 1) * 2) (n - i) dc ⟨g, i * 2, none⟩ (n + 1 - i) sc cs hgd (by rw [hmin1, hcl]) hcell h1n hfit
      rwa [hmin1] at this
    have hg1 := row_heap hgd (over cur ((i + 1) * 2) cs)
    have hlen1 : (over cur ((i + 1) * 2) cs).length = cap * 2 := by rw [over_length hfit, hs]
    have hvd : ∀ j y, [u, v][j]? = some y → (w.drew.setRow g (over cur ((i + 1) * 2) cs).toArray).cell? ((⟨vb, 0, none⟩ : Addr).add j) = some y := fun j y hj => by
      have h2 : (w.drew.setRow g (over cur ((i + 1) * 2) cs).toArray).heap[vb]? = w.heap[vb]? := setRow_other _ _ _ _ hne
      rw [← hv.cell j y hj, Addr.add_lit]
      exact World.cell?_of_block h2
    have hB1 : Below B w (w.drew.setRow g (over cur ((i + 1) * 2) cs).toArray) := below_row (Below.refl _ _).drew hB _
    obtain ⟨W1, hW1⟩ : ∃ W1, W1 = w.drew.setRow g (over cur ((i + 1) * 2) cs).toArray := ⟨_, rfl⟩
    rw [← hW1] at hcp1 hg1 hvd hB1
    have hfit2 : i * 2 + [u, v].length ≤ (over cur ((i + 1) * 2) cs).length := by rw [hlen1]; simp; omega
    have hcp2 : Hid (∀ ty dc, (Builtin.copy_ #[22, 22] ty #[.slice (some ⟨g, i * 2, none⟩) (n + 1 - i) dc, .slice (some ⟨vb, 0, none⟩) 1 1]).run Try.prog W1 = .ok (goInt 1) (W1.setRow g (over (over cur ((i + 1) * 2) cs) (i * 2) [u, v]).toArray)) := fun ty dc => by
      have := run_copy_over ty (i * 2) (n + 1 - i) dc ⟨vb, 0, none⟩ 1 1 [u, v] hg1 (by rw [hmin2]; rfl) hvd hv.one hfit2
      rwa [hmin2] at this
    have H9 : Hid (InsPost B (l.take i ++ x :: l.drop i) w (.returned (.slice (some ⟨g, 0, none⟩) (n + 1) cap)) (W1.setRow g (over (over cur ((i + 1) * 2) cs) (i * 2) [u, v]).toArray)) := by
      have hb2 := below_row hB1 hB (over (over cur ((i + 1) * 2) cs) (i * 2) [u, v]).toArray
      refine ⟨_, _, _, rfl, ?_, hb2⟩
      have hll : (l.take i ++ x :: l.drop i).length = n + 1 := by
        simp only [List.length_append, List.length_cons, List.length_take, List.length_drop]
        omega
      have := Own.of (css := css.take i ++ [u, v] :: css.drop i) (l := l.take i ++ x :: l.drop i) (cap := cap) hB (row_heap hg1 (over (over cur ((i + 1) * 2) cs) (i * 2) [u, v])) (by omega) hm (by rw [over_length hfit2, hlen1]) ?_ (Ents.later ((hE.take i).append ⟨hv.rel, hE.drop i⟩) hb2)
      · rw [hll] at this
        exact this
      · rw [hll, flatten_parted hE (by omega), ← hcs]
        have e1 : (n + 1) * 2 = i * 2 + 2 + cs.length := by rw [hcl]; omega
        have e4 : cur.take (i * 2) = css.flatten.take (i * 2) := by
          rw [← ht, List.take_take]
          congr 1
          omega
        rw [e1, show (i + 1) * 2 = i * 2 + 2 by omega, over_two (by rw [hcl, hs]; omega), e4]
    have i1 : i < n := by omega
    have i2 : n + 1 ≤ cap := by omega
    have i3 : cap ≤ 9223372036854775807 := Nat.le_trans hm (by decide)
    have i4 : ¬ cap = i + 1 := by omega
    have i5 : ¬ cap = i := by omega
    have i6 : ¬ ((i : Int) = (n : Int)) := by omega
    have i7 : IntKind.i64.wrap ((i : Int) + 1) = (i : Int) + 1 := by rw [IntKind.wrap_i64]; omega
    have i8 : (0 : Int) ≤ (i : Int) + 1 := by omega
    have i9 : ((i : Int) + 1).toNat = i + 1 := by omega
    have ia : (i : Int) ≤ (n : Int) := by omega
    have ib : (i : Int) ≤ (n : Int) + 1 := by omega
    generalize l.take i ++ x :: l.drop i = l9 at H9 ⊢
    rw [← hn]
    generalize over (over cur ((i + 1) * 2) cs) (i * 2) [u, v] = ob at hcp2 H9
    generalize over cur ((i + 1) * 2) cs = oa at *
    clear hW1 hB1 hgd h1n hfit hg1 hlen1 hcell hfl hcl hcs ht hs hm hc hg hB hO hE hR hi hn hv hvd hfit2 hmin1 hmin2 hroom
    go_enter Try.func18, Try.ntmps18
    go_wp2_with (simp only [hov])
    go_region_law (refine step_copy_run rfl (.tmp 73) (.tmp 76) 22 22 rfl (.slice (some ⟨g, (i + 1) * 2, none⟩) (n - i) (cap - (i + 1))) (.slice (some ⟨g, i * 2, none⟩) (n + 1 - i) (cap - i)) (by simp [Act.eval, Act.put]) (by simp [Act.eval, Act.put]) (hcp1.out _ _ _) ?_)
    go_wp2
    rw [hcp2.out]
    simp only [Result.andThen]
    rw [Oper.upon_value]
    go_wp2
    go_ret
    exact H9.out

end Go.Proofs.Ytifagjhblngmmaa
