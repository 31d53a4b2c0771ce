/- slices.Insert ahead of what stands there, without room: a new row; and all its ways. -/
import Derived.Test.YtifagjhblngmmaaApInsert2
namespace Go.Proofs.Ytifagjhblngmmaa
open Go.ChangeShapes Go.WideShapes Go.ChangeAt Go.RowKit

/-- 'append(s, make([]T, k)...)' without room -/
theorem run_zeros_over (w : World) (ty : TypeId) (g i cap k : Nat) (olds : List Value) (hl : olds.length = i * 2) (ho : ∀ j u, olds[j]? = some u → w.cell? ⟨g, j, none⟩ = some u) (h0 : 0 < k) (hs : i + k ≤ 100000) (hg : cap < i + k) :
    ∃ capN curN, (Builtin.append_ #[22, 3] ty #[.slice (some ⟨g, 0, none⟩) i cap, .int .i64 k]).run Try.prog w = .ok (.slice (some ⟨w.heap.size, 0, none⟩) (i + k) capN) (w.drew.alloc (.cells (List.toArray curN) 40)) ∧ i + k ≤ capN ∧ capN ≤ maxLen ∧ curN.length = capN * 2 ∧ curN.take (i * 2) = olds := by
  obtain ⟨i0, z, hi, hz0, hz1, hz2, hz3⟩ := eltE.info
  have hold : (Builtin.firstCells i0.size i (.slice (some ⟨g, 0, none⟩) i cap)).run Try.prog w.drew = .ok olds.toArray w.drew := by
    rw [hz1]
    exact run_firstCells_some w.drew 2 i ⟨g, 0, none⟩ i cap olds hl (fun j u hj => by rw [Addr.add_lit, Nat.zero_add]; exact ho j u hj)
  have hge := grownCap_ge w (i + k) cap 40
  have hcm : grownCap w (i + k) cap 40 ≤ maxLen := grownCap_le_maxLen w (i + k) cap 40 (by unfold maxLen; omega)
  have hr := Lib.run_append_grow_zeros (P := Try.prog) w 22 3 ty 40 i0 z .i64 .i64 eltE.und Try.underlying3 hi hz0 (some ⟨g, 0, none⟩) i cap olds hold k h0 (by rw [hz1]; decide) hg (by omega) (by rw [hz2]; omega) (by rw [hz2]; exact growslice_fits hg (by omega))
  refine ⟨grownCap w (i + k) cap 40, (olds.toArray ++ Builtin.zeroCells z.cells k ++ Builtin.zeroCells z.cells (grownCap w (i + k) cap 40 - (i + k))).toList, ?_, hge, hcm, ?_, ?_⟩
  · rw [hr]
  · simp only [Array.length_toList, Array.size_append, List.size_toArray, size_zeroCells, hz3, hl, ← Nat.add_mul]
    congr 1
    omega
  · simp only [Array.toList_append, List.append_assoc]
    rw [← hl]
    simp

set_option maxRecDepth 100000 in
set_option maxHeartbeats 4000000 in
theorem insert_grow (B : Nat) (l : List Ent) (hl : l.length ≤ 90000) (i : Nat) (hi : i < l.length) (g cap vb : Nat) (hroom : cap < l.length + 1) (u v : Value) (x : Ent) (w : World) (hBw : B ≤ w.heap.size) (hvb : vb < w.heap.size) (hR : Own B w (.slice (some ⟨g, 0, none⟩) l.length cap) l) (hv : Laid1 B w vb u v x) :
    Calls Try.prog 18 #[.slice (some ⟨g, 0, none⟩) l.length cap, .int .i64 i, .slice (some ⟨vb, 0, none⟩) 1 1] w fun e w' => InsPost B (l.take i ++ x :: l.drop i) w e w' := by
  obtain ⟨css, hO, hE⟩ := hR.open
  rcases hO.2 with ⟨h0, -⟩ | ⟨g', cap', cur0, e, hB, hg, hc, hm, hs, ht⟩
  · cases h0
  · obtain ⟨cur, rfl⟩ : ∃ cur : List Value, cur.toArray = cur0 := ⟨cur0.toList, by simp⟩
    simp only [Value.slice.injEq, Option.some.injEq, Addr.mk.injEq, and_true, true_and] at e
    obtain ⟨rfl, rfl⟩ := e
    simp only [List.size_toArray] at hs ht
    obtain ⟨n, hn⟩ : ∃ n, n = l.length := ⟨_, rfl⟩
    have hgl : g < w.heap.size := (hO.lt g rfl).2
    have hfl : css.flatten.length = l.length * 2 := hO.1
    obtain ⟨cs, hcs⟩ : ∃ cs, cs = css.flatten.drop (i * 2) := ⟨_, rfl⟩
    have hcl : cs.length = (n - i) * 2 := by rw [hcs, List.length_drop, hfl, ← hn, Nat.sub_mul]
    have hcell : ∀ t y, css.flatten[t]? = some y → w.cell? ⟨g, t, none⟩ = some y := fun t y hu => by
      rw [← ht, List.getElem?_take] at hu
      split at hu
      · exact row_cell hg hu
      · cases hu
    have h1n : ∀ u ∈ cs, u.oneCell' = true := fun u hu => rel_one hE u (by rw [hcs] at hu; exact List.mem_of_mem_drop hu)
    have hmin1 : Nat.min (n - i) (n - i) = n - i := Nat.min_self _
    have hmin2 : Nat.min 1 (n + 1 - i) = 1 := by simp only [Nat.min_def]; split <;> omega
    obtain ⟨capN, curN, hapT, hN1, hN2, hN3, hN4⟩ := run_zeros_over w 22 g i cap (n + 1 - i) (css.flatten.take (i * 2)) (by rw [List.length_take, hfl]; omega) (fun j y hj => hcell j y (by
      rw [List.getElem?_take] at hj
      split at hj
      · exact hj
      · cases hj)) (by omega) (by omega) (by omega)
    have hap : Hid ((Builtin.append_ #[22, 3] 22 #[.slice (some ⟨g, 0, none⟩) i cap, .int .i64 ((n : Int) + 1 - (i : Int))]).run Try.prog w = .ok (.slice (some ⟨w.heap.size, 0, none⟩) (n + 1) capN) (w.drew.alloc (.cells (List.toArray curN) 40))) := by
      have e1 : ((n + 1 - i : Nat) : Int) = (n : Int) + 1 - (i : Int) := by omega
      rw [e1, show i + (n + 1 - i) = n + 1 by omega] at hapT
      exact hapT
    obtain ⟨nb, hh⟩ : ∃ nb, nb = w.heap.size := ⟨_, rfl⟩
    obtain ⟨W1, hW1⟩ : ∃ W1, W1 = w.drew.alloc (.cells (List.toArray curN) 40) := ⟨_, rfl⟩
    have hg1 : W1.heap[nb]? = some (.cells (List.toArray curN) 40 (0, 0)) := by rw [hW1, hh]; exact heap_alloc_new w.drew _
    have hb1 : Below w.heap.size w W1 := by rw [hW1]; exact (Below.refl _ w).drew.alloc (Nat.le_refl _) _
    rw [← hW1, ← hh] at hap
    have hfit1 : i * 2 + [u, v].length ≤ curN.length := by rw [hN3]; simp; omega
    have hcp1 : Hid (∀ ty dc, (Builtin.copy_ #[22, 22] ty #[.slice (some ⟨nb, i * 2, none⟩) (n + 1 - i) dc, .slice (some ⟨vb, 0, none⟩) 1 1]).run Try.prog W1 = .ok (goInt 1) (W1.setRow nb (over curN (i * 2) [u, v]).toArray)) := fun ty dc => by
      have := run_copy_over ty (i * 2) (n + 1 - i) dc ⟨vb, 0, none⟩ 1 1 [u, v] hg1 (by rw [hmin2]; rfl) (fun j y hj => by
        rw [← hv.cell j y hj, Addr.add_lit]
        exact hb1.cell (p := ⟨vb, 0 + j, none⟩) hvb) hv.one hfit1
      rwa [hmin2] at this
    have hg2 := row_heap hg1 (over curN (i * 2) [u, v])
    have hb2 : Below w.heap.size w (W1.setRow nb (over curN (i * 2) [u, v]).toArray) := below_row hb1 (by omega) _
    have hlen2 : (over curN (i * 2) [u, v]).length = capN * 2 := by rw [over_length hfit1, hN3]
    obtain ⟨W2, hW2⟩ : ∃ W2, W2 = W1.setRow nb (over curN (i * 2) [u, v]).toArray := ⟨_, rfl⟩
    rw [← hW2] at hcp1 hg2 hb2
    have hg2d : W2.drew.heap[nb]? = some (.cells (over curN (i * 2) [u, v]).toArray 40 (0, 0)) := hg2
    have hfit2 : (i + 1) * 2 + cs.length ≤ (over curN (i * 2) [u, v]).length := by rw [hcl, hlen2]; omega
    have hcp2 : Hid (∀ ty dc sc, (Builtin.copy_ #[22, 22] ty #[.slice (some ⟨nb, (i + 1) * 2, none⟩) (n - i) dc, .slice (some ⟨g, i * 2, none⟩) (n - i) sc]).run Try.prog W2.drew = .ok (goInt ((n - i : Nat) : Int)) (W2.drew.setRow nb (over (over curN (i * 2) [u, v]) ((i + 1) * 2) cs).toArray)) := fun ty dc sc => by
      have := run_copy_over ty ((i + 1) * 2) (n - i) dc ⟨g, i * 2, none⟩ (n - i) sc cs hg2d (by rw [hmin1, hcl]) (fun t y hu => by
        rw [Addr.add_lit]
        rw [hcs, List.getElem?_drop] at hu
        exact (hb2.cell (p := ⟨g, i * 2 + t, none⟩) hgl).trans (hcell _ y hu)) h1n hfit2
      rwa [hmin1] at this
    have H9 : Hid (InsPost B (l.take i ++ x :: l.drop i) w (.returned (.slice (some ⟨nb, 0, none⟩) (n + 1) capN)) (W2.drew.setRow nb (over (over curN (i * 2) [u, v]) ((i + 1) * 2) cs).toArray)) := by
      have hb3 : Below B w (W2.drew.setRow nb (over (over curN (i * 2) [u, v]) ((i + 1) * 2) cs).toArray) := below_row (hb2.mono hBw).drew (by omega) _
      refine ⟨_, _, _, rfl, ?_, hb3⟩
      have hll : (l.take i ++ x :: l.drop i).length = n + 1 := by
        simp only [List.length_append, List.length_cons, List.length_take, List.length_drop]
        omega
      have := Own.of (css := css.take i ++ [u, v] :: css.drop i) (l := l.take i ++ x :: l.drop i) (cap := capN) (by omega) (row_heap hg2d (over (over curN (i * 2) [u, v]) ((i + 1) * 2) cs)) (by omega) hN2 (by rw [over_length hfit2, hlen2]) ?_ (Ents.later ((hE.take i).append ⟨hv.rel, hE.drop i⟩) hb3)
      · rw [hll] at this
        exact this
      · rw [hll, flatten_parted hE (by omega), ← hcs]
        have e1 : (n + 1) * 2 = i * 2 + [u, v].length + cs.length := by rw [hcl]; simp; omega
        rw [e1, show (i + 1) * 2 = i * 2 + [u, v].length by simp; omega, over_next (by rw [hcl, hN3]; simp; omega), hN4]
    have i1 : i < n := by omega
    have i2 : ¬ n + 1 ≤ cap := by omega
    have i3 : cap ≤ 9223372036854775807 := Nat.le_trans hm (by decide)
    have i4 : ¬ capN = i + 1 := by omega
    have i5 : ¬ cap = i := by omega
    have i6 : ¬ ((i : Int) = (n : Int)) := by omega
    have i7 : IntKind.i64.wrap ((i : Int) + 1) = (i : Int) + 1 := by rw [IntKind.wrap_i64]; omega
    have i8 : (0 : Int) ≤ (i : Int) + 1 := by omega
    have i9 : ((i : Int) + 1).toNat = i + 1 := by omega
    have ia : (i : Int) ≤ (n : Int) := by omega
    have ib : (i : Int) ≤ (n : Int) + 1 := by omega
    have ic : (cap : Int) < (n : Int) + 1 := by omega
    have id' : n + 1 ≤ capN := by omega
    have ie : capN ≤ 9223372036854775807 := Nat.le_trans hN2 (by decide)
    have ig : IntKind.i64.wrap ((n : Int) + 1 - (i : Int)) = (n : Int) + 1 - (i : Int) := by rw [IntKind.wrap_i64]; omega
    have ih : ¬ capN = i := by omega
    have ij : n ≤ cap := by omega
    have ik : n ≤ 90000 := by omega
    generalize l.take i ++ x :: l.drop i = l9 at H9 ⊢
    rw [← hn]
    generalize over (over curN (i * 2) [u, v]) ((i + 1) * 2) cs = ob at hcp2 H9
    clear hW1 hW2 hb1 hb2 hg1 hg2 hg2d hfit1 hfit2 hlen2 hcell hfl hcl hcs h1n ht hs hm hc hg hB hO hE hR hi hn hv hmin1 hmin2 hroom hN1 hN2 hN3 hN4 hapT hgl hvb hBw hl hh
    go_enter Try.func18, Try.ntmps18
    go_wp2_with (at_builtin; refine wpList_append_run' rfl (.tmp 34) (.tmp 39) 22 3 rfl (.slice (some ⟨g, 0, none⟩) i cap) (.int .i64 ((n : Int) + 1 - (i : Int))) rfl rfl hap.out ?_)
    rw [hcp1.out]
    simp only [Result.andThen]
    rw [Oper.upon_value]
    go_wp2_with fail
    go_region_law (refine step_copy_run rfl (.tmp 50) (.tmp 53) 22 22 rfl (.slice (some ⟨nb, (i + 1) * 2, none⟩) (n - i) (capN - (i + 1))) (.slice (some ⟨g, i * 2, none⟩) (n - i) (cap - i)) (by simp [Act.eval, Act.put]) (by simp [Act.eval, Act.put]) (hcp2.out _ _ _) ?_)
    go_wp2
    go_ret
    exact H9.out

end Go.Proofs.Ytifagjhblngmmaa
