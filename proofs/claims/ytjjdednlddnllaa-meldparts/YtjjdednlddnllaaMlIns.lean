/- slices.Insert of one done into a row of the call's own. -/
import Derived.Test.YtjjdednlddnllaaMlRow
namespace Go.Proofs.Ytjjdednlddnllaa
open Go.ChangeShapes Go.WideShapes Go.ChangeAt Go.RowKit

/-- what the insertion comes to -/
def DInsPost (B : Nat) (vo : Option Nat) (l : List Dn) (w : World) (e : Ending) (w' : World) : Prop := ∃ (a : Option Addr) (n c : Nat), e = .returned (.slice a n c) ∧ DOwn B w' (.slice a n c) l ∧ w.grownBy w' vo ∧ (∀ g, (Value.slice a n c).ownBlock = some g → vo = some g ∨ w.heap.size ≤ g)

theorem grown_row {w0 w : World} {g : Nat} (h : w0.grownBy w (some g)) (cs : Array Value) : w0.grownBy (w.setRow g cs) (some g) :=
  ⟨h.os, h.tape, h.output, by simp only [World.setRow, Array.size_modify]; exact h.size, fun b hb hne => (setRow_other w g b cs (fun e => hne (by rw [e]))).trans (h.block b hb hne)⟩

theorem grown_new {w w' : World} (h : Below w.heap.size w w') (vo : Option Nat) : w.grownBy w' vo := ⟨h.os, h.tape, h.output, h.size, fun b hb _ => h.block b hb⟩

theorem own_some {g n c : Nat} {x : Nat} (h : (Value.slice (some ⟨g, 0, none⟩) n c).ownBlock = some x) : x = g := (Option.some.inj h).symm

theorem over_two {L cs : List Value} {o : Nat} {u0 u1 u2 u3 : Value} (h : o + 4 + cs.length ≤ L.length) : (over (over L (o + 4) cs) o [u0, u1, u2, u3]).take (o + 4 + cs.length) = L.take o ++ ([u0, u1, u2, u3] ++ cs) := by
  have h1 : (over L (o + 4) cs).take o = L.take o := over_ahead (by omega) (by omega)
  have h2 : (over L (o + 4) cs).drop (o + 4) = cs ++ L.drop (o + 4 + cs.length) := by
    rw [over, List.drop_append_of_le_length (by rw [List.length_take]; omega), List.drop_of_length_le (by rw [List.length_take]; omega), List.nil_append]
  rw [over, h1, show o + [u0, u1, u2, u3].length = o + 4 from rfl, h2]
  have e : L.take o ++ ([u0, u1, u2, u3] ++ (cs ++ L.drop (o + 4 + cs.length))) = (L.take o ++ ([u0, u1, u2, u3] ++ cs)) ++ L.drop (o + 4 + cs.length) := by simp
  have hl : (L.take o ++ ([u0, u1, u2, u3] ++ cs)).length = o + 4 + cs.length := by
    simp only [List.length_append, List.length_take, List.length_cons, List.length_nil]
    omega
  rw [e, List.take_append_of_le_length (by omega), List.take_of_length_le (by omega)]

theorem over_next {L xs cs : List Value} {o : Nat} (h : o + xs.length + cs.length ≤ L.length) : (over (over L o xs) (o + xs.length) cs).take (o + xs.length + cs.length) = L.take o ++ (xs ++ cs) := by
  rw [over_upto rfl (by rw [over_length (by omega)]; omega), over_upto rfl (by omega), List.append_assoc]

/-- an entry that was just laid as a list of one -/
structure Laid1 (B : Nat) (w : World) (vb : Nat) (u0 u1 u2 u3 : Value) (x : Dn) : Prop where
  heap : w.heap[vb]? = some (.cells #[u0, u1, u2, u3] 57 (0, 0))
  rel : kDn.rel (fun b => b < B) w x [u0, u1, u2, u3]

section
variable {B : Nat} {w : World} {vb : Nat} {u0 u1 u2 u3 : Value} {x : Dn}

theorem Laid1.cell (h : Laid1 B w vb u0 u1 u2 u3 x) : ∀ j y, [u0, u1, u2, u3][j]? = some y → w.cell? ((⟨vb, 0, none⟩ : Addr).add j) = some y := fun j y hj => by
  rw [Addr.add_lit, Nat.zero_add]
  have := h.heap
  match j, hj with
  | 0, hj => simp [World.cell?, this]; simpa using hj
  | 1, hj => simp [World.cell?, this]; simpa using hj
  | 2, hj => simp [World.cell?, this]; simpa using hj
  | 3, hj => simp [World.cell?, this]; simpa using hj

theorem Laid1.one (h : Laid1 B w vb u0 u1 u2 u3 x) : ∀ y ∈ [u0, u1, u2, u3], y.oneCell' = true := kDn.one h.rel

end

set_option maxRecDepth 100000 in
set_option maxHeartbeats 4000000 in
theorem insert_end (B : Nat) (l : List Dn) (hl : l.length ≤ 2000000) (a : Option Addr) (cap vb : Nat) (u0 u1 u2 u3 : Value) (x : Dn) (w : World) (hB : B ≤ w.heap.size) (hR : DOwn B w (.slice a l.length cap) l) (hv : Laid1 B w vb u0 u1 u2 u3 x) :
    Calls Try.prog 55 #[.slice a l.length cap, .int .i64 l.length, .slice (some ⟨vb, 0, none⟩) 1 1] w fun e w' => DInsPost B (Value.slice a l.length cap).ownBlock (l ++ [x]) w e w' := by
  obtain ⟨css, hO, hE⟩ := hR.open
  obtain ⟨i0, z, hi, hz0, hz1, hz2, hz3⟩ := eltD.info
  have hcn : l.length ≤ cap := by
    rcases hO.2 with ⟨e, h0⟩ | ⟨g, cap', cur, e, _, _, h1, _⟩
    · omega
    · simp only [Value.slice.injEq] at e
      omega
  have hcm : cap ≤ 9223372036854775807 := by
    rcases hO.2 with ⟨e, h0⟩ | ⟨g, cap', cur, e, _, _, _, h1, _⟩
    · simp only [Value.slice.injEq] at e
      omega
    · simp only [Value.slice.injEq] at e
      obtain ⟨_, _, rfl⟩ := e
      exact Nat.le_trans h1 (by decide)
  have HP : Hid (∀ v' w', w'.ownsRow B 57 4 v' (l.length + 1) (css.flatten ++ [u0, u1, u2, u3]) → w.grownBy w' (Value.slice a l.length cap).ownBlock → (v'.ownBlock = (Value.slice a l.length cap).ownBlock ∨ v'.ownBlock = some w.heap.size) → ∃ (a' : Option Addr) (n' c' : Nat), v' = .slice a' n' c' ∧ DInsPost B (Value.slice a l.length cap).ownBlock (l ++ [x]) w (.returned (.slice a' n' c')) w') := fun v' w' q1 q2 q4 => by
    have hb : Below B w w' := below_grown (Below.refl _ _) hB q2 (fun r e => (hO.lt r e).1)
    have q3 : DOwn B w' v' (l ++ [x]) := DOwn.shut (css := css ++ [[u0, u1, u2, u3]]) (by simpa using q1) (DEnts.later (hE.append ⟨hv.rel, trivial⟩) hb)
    obtain ⟨a', c', e⟩ := rows_form q3
    subst e
    refine ⟨a', _, c', rfl, a', _, c', rfl, q3, q2, fun g hg => ?_⟩
    rcases q4 with e | e
    · exact .inl (e ▸ hg)
    · rw [e] at hg
      exact .inr (Nat.le_of_eq (Option.some.inj hg))
  have hO' := put_by hO
  have hcell := put_by hv.cell
  have hone := put_by hv.one
  clear hE hv hR hO
  generalize hn : l.length = n at *
  clear hn
  cases a with
  | none =>
    have h0 : n = 0 := by
      rcases hO'.out.2 with ⟨e, h0⟩ | ⟨g, cap', cur, e, _⟩
      · exact h0
      · cases e
    have h1 : cap = 0 := by
      rcases hO'.out.2 with ⟨e, h0⟩ | ⟨g, cap', cur, e, _⟩
      · simp only [Value.slice.injEq] at e
        exact e.2.2
      · cases e
    subst h0 h1
    go_enter Try.func55, Try.ntmps55
    go_wp2_with (at_builtin; refine wpList_append_own_at w rfl (.tmp 23) (.tmp 24) 23 rfl B 57 i0 z 4 32 eltD.und hi hz0 hz1 hz2 hz3 eltD.pos (.slice none 0 0) 0 css.flatten rfl hO'.out ⟨vb, 0, none⟩ 1 1 [u0, u1, u2, u3] rfl rfl hcell.out hone.out (by decide) (by decide) hB ?_; intro v' w' q1 q2 q3 q4; obtain ⟨a', n', c', rfl, H9⟩ := HP.out v' w' q1 q2 q4)
    exact bodyPost_ret (v := .slice a' n' c') (by simp [results, Try.results55, go_sem]) rfl H9
  | some ad =>
    obtain ⟨g, rfl⟩ : ∃ g, ad = ⟨g, 0, none⟩ := by
      rcases hO'.out.2 with ⟨e, h0⟩ | ⟨g, cap', cur, e, _⟩
      · cases e
      · simp only [Value.slice.injEq, Option.some.injEq] at e
        exact ⟨g, e.1⟩
    go_enter Try.func55, Try.ntmps55
    go_wp2_with (at_builtin; refine wpList_append_own_at w rfl (.tmp 23) (.tmp 24) 23 rfl B 57 i0 z 4 32 eltD.und hi hz0 hz1 hz2 hz3 eltD.pos (.slice (some ⟨g, 0, none⟩) n cap) n css.flatten rfl hO'.out ⟨vb, 0, none⟩ 1 1 [u0, u1, u2, u3] rfl rfl hcell.out hone.out (by unfold maxLen; omega) (by omega) hB ?_; intro v' w' q1 q2 q3 q4; obtain ⟨a', n', c', rfl, H9⟩ := HP.out v' w' q1 q2 q4)
    all_goals exact bodyPost_ret (v := .slice a' n' c') (by simp [results, Try.results55, go_sem]) rfl H9


/-- the cells of a list, parted -/
theorem flatten_parted {B : Nat} {w : World} {l : List Dn} {css : List (List Value)} (hE : DEnts B w l css) {i : Nat} (hi : i ≤ l.length) (cs : List Value) : (css.take i ++ cs :: css.drop i).flatten = css.flatten.take (i * 4) ++ (cs ++ css.flatten.drop (i * 4)) := by
  have hcl2 : ∀ c ∈ css, c.length = 4 := rel_len hE
  have e2 : css.flatten = (css.take i).flatten ++ (css.drop i).flatten := by rw [← List.flatten_append, List.take_append_drop]
  have e3 : (css.take i).flatten.length = i * 4 := by
    rw [flatten_len (fun c hc => hcl2 c (List.mem_of_mem_take hc)), List.length_take, ← hE.length]
    congr 1
    omega
  have e5 : css.flatten.take (i * 4) = (css.take i).flatten := by rw [e2, List.take_append_of_le_length (by omega), List.take_of_length_le (by omega)]
  rw [List.flatten_append, List.flatten_cons, flatten_drop hcl2, e5]

set_option maxRecDepth 100000 in
set_option maxHeartbeats 4000000 in
theorem insert_room (B : Nat) (l : List Dn) (i : Nat) (hi : i < l.length) (g cap vb : Nat) (hroom : l.length + 1 ≤ cap) (u0 u1 u2 u3 : Value) (x : Dn) (w : World) (hR : DOwn B w (.slice (some ⟨g, 0, none⟩) l.length cap) l) (hv : Laid1 B w vb u0 u1 u2 u3 x) (hne : vb ≠ g) :
    Calls Try.prog 55 #[.slice (some ⟨g, 0, none⟩) l.length cap, .int .i64 i, .slice (some ⟨vb, 0, none⟩) 1 1] w fun e w' => DInsPost B (some g) (l.take i ++ x :: l.drop i) w e w' := by
  obtain ⟨css, hO, hE⟩ := hR.open
  rcases hO.2 with ⟨h0, -⟩ | ⟨g', cap', cur0, e, hB, hg, hc, hm, hs, ht⟩
  · cases h0
  · obtain ⟨cur, rfl⟩ : ∃ cur : List Value, cur.toArray = cur0 := ⟨cur0.toList, by simp⟩
    simp only [Value.slice.injEq, Option.some.injEq, Addr.mk.injEq, and_true, true_and] at e
    obtain ⟨rfl, rfl⟩ := e
    simp only [List.size_toArray] at hs ht
    obtain ⟨n, hn⟩ : ∃ n, n = l.length := ⟨_, rfl⟩
    have hfl : css.flatten.length = l.length * 4 := hO.1
    obtain ⟨cs, hcs⟩ : ∃ cs, cs = css.flatten.drop (i * 4) := ⟨_, rfl⟩
    have hcl : cs.length = (n - i) * 4 := by rw [hcs, List.length_drop, hfl, ← hn, Nat.sub_mul]
    have hcell : ∀ t y, cs[t]? = some y → w.drew.cell? ((⟨g, i * 4, none⟩ : Addr).add t) = some y := fun t y hu => by
      rw [Addr.add_lit]
      rw [hcs, List.getElem?_drop, ← ht, List.getElem?_take] at hu
      split at hu
      · exact row_cell hg hu
      · cases hu
    have hgd : w.drew.heap[g]? = some (.cells cur.toArray 57 (0, 0)) := hg
    have h1n : ∀ u ∈ cs, u.oneCell' = true := fun u hu => rel_one hE u (by rw [hcs] at hu; exact List.mem_of_mem_drop hu)
    have hfit : (i + 1) * 4 + cs.length ≤ cur.length := by rw [hcl, hs]; omega
    have hmin1 : Nat.min (n + 1 - i) (n - i) = n - i := by simp only [Nat.min_def]; split <;> omega
    have hmin2 : Nat.min 1 (n + 1 - i) = 1 := by simp only [Nat.min_def]; split <;> omega
    have hov : ∀ lb cb, (callFunc 79 #[.slice (some ⟨vb, 0, none⟩) 1 1, .slice (some ⟨g, (i + 1) * 4, none⟩) lb cb]).run Try.prog w = .ok (.value (.bool false)) w := fun lb cb => by
      have h1 := hv.heap
      rw [run_callFunc_extern Try.func79 (by kernel_rfl) (by kernel_rfl) (by kernel_rfl) (e := Extern.SlicesOverlaps.overlaps #[23, 23] #[4]) (by kernel_rfl),
        Lib.run_overlaps_apart w 23 4 57 eltD.und 4 Try.sizeOf57 ⟨vb, 0, none⟩ ⟨g, (i + 1) * 4, none⟩ 1 1 lb cb hne 57 57 4 (cap * 4) (by simp [World.shape?, h1]) (by simp [World.shape?, hg, hs]) (by omega) (by simp [World.frozen?, h1]) (by simp [World.frozen?, h1])]
      rfl
    have hcp1 : Hid (∀ ty dc sc, (Builtin.copy_ #[23, 23] ty #[.slice (some ⟨g, (i + 1) * 4, none⟩) (n - i) dc, .slice (some ⟨g, i * 4, none⟩) (n + 1 - i) sc]).run Try.prog w.drew = .ok (goInt ((n - i : Nat) : Int)) (w.drew.setRow g (over cur ((i + 1) * 4) cs).toArray)) := fun ty dc sc => by
      have := run_copy_over ty ((i + 1) * 4) (n - i) dc ⟨g, i * 4, none⟩ (n + 1 - i) sc cs hgd (by rw [hmin1, hcl]) hcell h1n hfit
      rwa [hmin1] at this
    have hg1 := row_heap hgd (over cur ((i + 1) * 4) cs)
    have hlen1 : (over cur ((i + 1) * 4) cs).length = cap * 4 := by rw [over_length hfit, hs]
    have hvd : ∀ j y, [u0, u1, u2, u3][j]? = some y → (w.drew.setRow g (over cur ((i + 1) * 4) cs).toArray).cell? ((⟨vb, 0, none⟩ : Addr).add j) = some y := fun j y hj => by
      have h2 : (w.drew.setRow g (over cur ((i + 1) * 4) cs).toArray).heap[vb]? = w.heap[vb]? := setRow_other _ _ _ _ hne
      rw [← hv.cell j y hj, Addr.add_lit]
      exact World.cell?_of_block h2
    have hB1 : Below B w (w.drew.setRow g (over cur ((i + 1) * 4) cs).toArray) := below_row (Below.refl _ _).drew hB _
    obtain ⟨W1, hW1⟩ : ∃ W1, W1 = w.drew.setRow g (over cur ((i + 1) * 4) cs).toArray := ⟨_, rfl⟩
    rw [← hW1] at hcp1 hg1 hvd hB1
    have hfit2 : i * 4 + [u0, u1, u2, u3].length ≤ (over cur ((i + 1) * 4) cs).length := by rw [hlen1]; simp; omega
    have hcp2 : Hid (∀ ty dc, (Builtin.copy_ #[23, 23] ty #[.slice (some ⟨g, i * 4, none⟩) (n + 1 - i) dc, .slice (some ⟨vb, 0, none⟩) 1 1]).run Try.prog W1 = .ok (goInt 1) (W1.setRow g (over (over cur ((i + 1) * 4) cs) (i * 4) [u0, u1, u2, u3]).toArray)) := fun ty dc => by
      have := run_copy_over ty (i * 4) (n + 1 - i) dc ⟨vb, 0, none⟩ 1 1 [u0, u1, u2, u3] hg1 (by rw [hmin2]; rfl) hvd hv.one hfit2
      rwa [hmin2] at this
    have H9 : Hid (DInsPost B (some g) (l.take i ++ x :: l.drop i) w (.returned (.slice (some ⟨g, 0, none⟩) (n + 1) cap)) (W1.setRow g (over (over cur ((i + 1) * 4) cs) (i * 4) [u0, u1, u2, u3]).toArray)) := by
      have hb2 := below_row hB1 hB (over (over cur ((i + 1) * 4) cs) (i * 4) [u0, u1, u2, u3]).toArray
      refine ⟨_, _, _, rfl, ?_, grown_row (by rw [hW1]; exact grown_row (grown_new (Below.refl _ _).drew _) _) _, fun x hx => .inl (by rw [own_some hx])⟩
      have hll : (l.take i ++ x :: l.drop i).length = n + 1 := by
        simp only [List.length_append, List.length_cons, List.length_take, List.length_drop]
        omega
      have := DOwn.of (css := css.take i ++ [u0, u1, u2, u3] :: css.drop i) (l := l.take i ++ x :: l.drop i) (cap := cap) hB (row_heap hg1 (over (over cur ((i + 1) * 4) cs) (i * 4) [u0, u1, u2, u3])) (by omega) hm (by rw [over_length hfit2, hlen1]) ?_ (DEnts.later ((hE.take i).append ⟨hv.rel, hE.drop i⟩) hb2)
      · rw [hll] at this
        exact this
      · rw [hll, flatten_parted hE (by omega), ← hcs]
        have e1 : (n + 1) * 4 = i * 4 + 4 + cs.length := by rw [hcl]; omega
        have e4 : cur.take (i * 4) = css.flatten.take (i * 4) := by
          rw [← ht, List.take_take]
          congr 1
          omega
        rw [e1, show (i + 1) * 4 = i * 4 + 4 by omega, over_two (by rw [hcl, hs]; omega), e4]
    have i1 : i < n := by omega
    have i2 : n + 1 ≤ cap := by omega
    have i3 : cap ≤ 9223372036854775807 := Nat.le_trans hm (by decide)
    have i4 : ¬ cap = i + 1 := by omega
    have i5 : ¬ cap = i := by omega
    have i6 : ¬ ((i : Int) = (n : Int)) := by omega
    have i7 : IntKind.i64.wrap ((i : Int) + 1) = (i : Int) + 1 := by rw [IntKind.wrap_i64]; omega
    have i8 : (0 : Int) ≤ (i : Int) + 1 := by omega
    have i9 : ((i : Int) + 1).toNat = i + 1 := by omega
    have ia : (i : Int) ≤ (n : Int) := by omega
    have ib : (i : Int) ≤ (n : Int) + 1 := by omega
    generalize l.take i ++ x :: l.drop i = l9 at H9 ⊢
    rw [← hn]
    generalize over (over cur ((i + 1) * 4) cs) (i * 4) [u0, u1, u2, u3] = ob at hcp2 H9
    generalize over cur ((i + 1) * 4) cs = oa at *
    clear hW1 hB1 hgd h1n hfit hg1 hlen1 hcell hfl hcl hcs ht hs hm hc hg hB hO hE hR hi hn hv hvd hfit2 hmin1 hmin2 hroom
    go_enter Try.func55, Try.ntmps55
    go_wp2_with (simp only [hov])
    go_region_law (refine step_copy_run rfl (.tmp 73) (.tmp 76) 23 23 rfl (.slice (some ⟨g, (i + 1) * 4, none⟩) (n - i) (cap - (i + 1))) (.slice (some ⟨g, i * 4, none⟩) (n + 1 - i) (cap - i)) (by simp [Act.eval, Act.put]) (by simp [Act.eval, Act.put]) (hcp1.out _ _ _) ?_)
    go_wp2
    rw [hcp2.out]
    simp only [Result.andThen]
    rw [Oper.upon_value]
    go_wp2
    go_ret
    exact H9.out


/-- 'append(s, make([]T, k)...)' without room -/
theorem run_zeros_over (w : World) (ty : TypeId) (g i cap k : Nat) (olds : List Value) (hl : olds.length = i * 4) (ho : ∀ j u, olds[j]? = some u → w.cell? ⟨g, j, none⟩ = some u) (h0 : 0 < k) (hs : i + k ≤ 2000001) (hg : cap < i + k) :
    ∃ capN curN, (Builtin.append_ #[23, 3] ty #[.slice (some ⟨g, 0, none⟩) i cap, .int .i64 k]).run Try.prog w = .ok (.slice (some ⟨w.heap.size, 0, none⟩) (i + k) capN) (w.drew.alloc (.cells (List.toArray curN) 57)) ∧ i + k ≤ capN ∧ capN ≤ maxLen ∧ curN.length = capN * 4 ∧ curN.take (i * 4) = olds := by
  obtain ⟨i0, z, hi, hz0, hz1, hz2, hz3⟩ := eltD.info
  have hold : (Builtin.firstCells i0.size i (.slice (some ⟨g, 0, none⟩) i cap)).run Try.prog w.drew = .ok olds.toArray w.drew := by
    rw [hz1]
    exact run_firstCells_some w.drew 4 i ⟨g, 0, none⟩ i cap olds hl (fun j u hj => by rw [Addr.add_lit, Nat.zero_add]; exact ho j u hj)
  have hge := grownCap_ge w (i + k) cap 57
  have hcm : grownCap w (i + k) cap 57 ≤ maxLen := grownCap_le_maxLen w (i + k) cap 57 (by unfold maxLen; omega)
  have hr := Lib.run_append_grow_zeros (P := Try.prog) w 23 3 ty 57 i0 z .i64 .i64 eltD.und Try.underlying3 hi hz0 (some ⟨g, 0, none⟩) i cap olds hold k h0 (by rw [hz1]; decide) hg (by omega) (by rw [hz2]; omega) (by rw [hz2]; exact growslice_fits hg (by omega))
  refine ⟨grownCap w (i + k) cap 57, (olds.toArray ++ Builtin.zeroCells z.cells k ++ Builtin.zeroCells z.cells (grownCap w (i + k) cap 57 - (i + k))).toList, ?_, hge, hcm, ?_, ?_⟩
  · rw [hr]
  · simp only [Array.length_toList, Array.size_append, List.size_toArray, size_zeroCells, hz3, hl, ← Nat.add_mul]
    rw [Nat.add_sub_of_le hge]
  · simp only [Array.toList_append, List.append_assoc]
    rw [← hl]
    simp

set_option maxRecDepth 100000 in
set_option maxHeartbeats 4000000 in
theorem insert_grow (B : Nat) (l : List Dn) (hl : l.length ≤ 2000000) (i : Nat) (hi : i < l.length) (g cap vb : Nat) (hroom : cap < l.length + 1) (u0 u1 u2 u3 : Value) (x : Dn) (w : World) (hBw : B ≤ w.heap.size) (hvb : vb < w.heap.size) (hR : DOwn B w (.slice (some ⟨g, 0, none⟩) l.length cap) l) (hv : Laid1 B w vb u0 u1 u2 u3 x) :
    Calls Try.prog 55 #[.slice (some ⟨g, 0, none⟩) l.length cap, .int .i64 i, .slice (some ⟨vb, 0, none⟩) 1 1] w fun e w' => DInsPost B (some g) (l.take i ++ x :: l.drop i) w e w' := by
  obtain ⟨css, hO, hE⟩ := hR.open
  rcases hO.2 with ⟨h0, -⟩ | ⟨g', cap', cur0, e, hB, hg, hc, hm, hs, ht⟩
  · cases h0
  · obtain ⟨cur, rfl⟩ : ∃ cur : List Value, cur.toArray = cur0 := ⟨cur0.toList, by simp⟩
    simp only [Value.slice.injEq, Option.some.injEq, Addr.mk.injEq, and_true, true_and] at e
    obtain ⟨rfl, rfl⟩ := e
    simp only [List.size_toArray] at hs ht
    obtain ⟨n, hn⟩ : ∃ n, n = l.length := ⟨_, rfl⟩
    have hgl : g < w.heap.size := (hO.lt g rfl).2
    have hfl : css.flatten.length = l.length * 4 := hO.1
    obtain ⟨cs, hcs⟩ : ∃ cs, cs = css.flatten.drop (i * 4) := ⟨_, rfl⟩
    have hcl : cs.length = (n - i) * 4 := by rw [hcs, List.length_drop, hfl, ← hn, Nat.sub_mul]
    have hcell : ∀ t y, css.flatten[t]? = some y → w.cell? ⟨g, t, none⟩ = some y := fun t y hu => by
      rw [← ht, List.getElem?_take] at hu
      split at hu
      · exact row_cell hg hu
      · cases hu
    have h1n : ∀ u ∈ cs, u.oneCell' = true := fun u hu => rel_one hE u (by rw [hcs] at hu; exact List.mem_of_mem_drop hu)
    have hmin1 : Nat.min (n - i) (n - i) = n - i := Nat.min_self _
    have hmin2 : Nat.min 1 (n + 1 - i) = 1 := by simp only [Nat.min_def]; split <;> omega
    obtain ⟨capN, curN, hapT, hN1, hN2, hN3, hN4⟩ := run_zeros_over w 23 g i cap (n + 1 - i) (css.flatten.take (i * 4)) (by rw [List.length_take, hfl]; omega) (fun j y hj => hcell j y (by
      rw [List.getElem?_take] at hj
      split at hj
      · exact hj
      · cases hj)) (by omega) (by omega) (by omega)
    have hap : Hid ((Builtin.append_ #[23, 3] 23 #[.slice (some ⟨g, 0, none⟩) i cap, .int .i64 ((n : Int) + 1 - (i : Int))]).run Try.prog w = .ok (.slice (some ⟨w.heap.size, 0, none⟩) (n + 1) capN) (w.drew.alloc (.cells (List.toArray curN) 57))) := by
      have e1 : ((n + 1 - i : Nat) : Int) = (n : Int) + 1 - (i : Int) := by omega
      rw [e1, show i + (n + 1 - i) = n + 1 by omega] at hapT
      exact hapT
    obtain ⟨nb, hh⟩ : ∃ nb, nb = w.heap.size := ⟨_, rfl⟩
    obtain ⟨W1, hW1⟩ : ∃ W1, W1 = w.drew.alloc (.cells (List.toArray curN) 57) := ⟨_, rfl⟩
    have hg1 : W1.heap[nb]? = some (.cells (List.toArray curN) 57 (0, 0)) := by rw [hW1, hh]; exact heap_alloc_new w.drew _
    have hb1 : Below w.heap.size w W1 := by rw [hW1]; exact (Below.refl _ w).drew.alloc (Nat.le_refl _) _
    rw [← hW1, ← hh] at hap
    have hfit1 : i * 4 + [u0, u1, u2, u3].length ≤ curN.length := by rw [hN3]; simp; omega
    have hcp1 : Hid (∀ ty dc, (Builtin.copy_ #[23, 23] ty #[.slice (some ⟨nb, i * 4, none⟩) (n + 1 - i) dc, .slice (some ⟨vb, 0, none⟩) 1 1]).run Try.prog W1 = .ok (goInt 1) (W1.setRow nb (over curN (i * 4) [u0, u1, u2, u3]).toArray)) := fun ty dc => by
      have := run_copy_over ty (i * 4) (n + 1 - i) dc ⟨vb, 0, none⟩ 1 1 [u0, u1, u2, u3] hg1 (by rw [hmin2]; rfl) (fun j y hj => by
        rw [← hv.cell j y hj, Addr.add_lit]
        exact hb1.cell (p := ⟨vb, 0 + j, none⟩) hvb) hv.one hfit1
      rwa [hmin2] at this
    have hg2 := row_heap hg1 (over curN (i * 4) [u0, u1, u2, u3])
    have hb2 : Below w.heap.size w (W1.setRow nb (over curN (i * 4) [u0, u1, u2, u3]).toArray) := below_row hb1 (by omega) _
    have hlen2 : (over curN (i * 4) [u0, u1, u2, u3]).length = capN * 4 := by rw [over_length hfit1, hN3]
    obtain ⟨W2, hW2⟩ : ∃ W2, W2 = W1.setRow nb (over curN (i * 4) [u0, u1, u2, u3]).toArray := ⟨_, rfl⟩
    rw [← hW2] at hcp1 hg2 hb2
    have hg2d : W2.drew.heap[nb]? = some (.cells (over curN (i * 4) [u0, u1, u2, u3]).toArray 57 (0, 0)) := hg2
    have hfit2 : (i + 1) * 4 + cs.length ≤ (over curN (i * 4) [u0, u1, u2, u3]).length := by rw [hcl, hlen2]; omega
    have hcp2 : Hid (∀ ty dc sc, (Builtin.copy_ #[23, 23] ty #[.slice (some ⟨nb, (i + 1) * 4, none⟩) (n - i) dc, .slice (some ⟨g, i * 4, none⟩) (n - i) sc]).run Try.prog W2.drew = .ok (goInt ((n - i : Nat) : Int)) (W2.drew.setRow nb (over (over curN (i * 4) [u0, u1, u2, u3]) ((i + 1) * 4) cs).toArray)) := fun ty dc sc => by
      have := run_copy_over ty ((i + 1) * 4) (n - i) dc ⟨g, i * 4, none⟩ (n - i) sc cs hg2d (by rw [hmin1, hcl]) (fun t y hu => by
        rw [Addr.add_lit]
        rw [hcs, List.getElem?_drop] at hu
        exact (hb2.cell (p := ⟨g, i * 4 + t, none⟩) hgl).trans (hcell _ y hu)) h1n hfit2
      rwa [hmin1] at this
    have H9 : Hid (DInsPost B (some g) (l.take i ++ x :: l.drop i) w (.returned (.slice (some ⟨nb, 0, none⟩) (n + 1) capN)) (W2.drew.setRow nb (over (over curN (i * 4) [u0, u1, u2, u3]) ((i + 1) * 4) cs).toArray)) := by
      have hb3 : Below B w (W2.drew.setRow nb (over (over curN (i * 4) [u0, u1, u2, u3]) ((i + 1) * 4) cs).toArray) := below_row (hb2.mono hBw).drew (by omega) _
      refine ⟨_, _, _, rfl, ?_, grown_new (below_row hb2.drew (by omega) _) _, fun x hx => .inr (by rw [own_some hx]; omega)⟩
      have hll : (l.take i ++ x :: l.drop i).length = n + 1 := by
        simp only [List.length_append, List.length_cons, List.length_take, List.length_drop]
        omega
      have := DOwn.of (css := css.take i ++ [u0, u1, u2, u3] :: css.drop i) (l := l.take i ++ x :: l.drop i) (cap := capN) (by omega) (row_heap hg2d (over (over curN (i * 4) [u0, u1, u2, u3]) ((i + 1) * 4) cs)) (by omega) hN2 (by rw [over_length hfit2, hlen2]) ?_ (DEnts.later ((hE.take i).append ⟨hv.rel, hE.drop i⟩) hb3)
      · rw [hll] at this
        exact this
      · rw [hll, flatten_parted hE (by omega), ← hcs]
        have e1 : (n + 1) * 4 = i * 4 + [u0, u1, u2, u3].length + cs.length := by rw [hcl]; simp; omega
        rw [e1, show (i + 1) * 4 = i * 4 + [u0, u1, u2, u3].length by simp; omega, over_next (by rw [hcl, hN3]; simp; omega), hN4]
    have i1 : i < n := by omega
    have i2 : ¬ n + 1 ≤ cap := by omega
    have i3 : cap ≤ 9223372036854775807 := Nat.le_trans hm (by decide)
    have i4 : ¬ capN = i + 1 := by omega
    have i5 : ¬ cap = i := by omega
    have i6 : ¬ ((i : Int) = (n : Int)) := by omega
    have i7 : IntKind.i64.wrap ((i : Int) + 1) = (i : Int) + 1 := by rw [IntKind.wrap_i64]; omega
    have i8 : (0 : Int) ≤ (i : Int) + 1 := by omega
    have i9 : ((i : Int) + 1).toNat = i + 1 := by omega
    have ia : (i : Int) ≤ (n : Int) := by omega
    have ib : (i : Int) ≤ (n : Int) + 1 := by omega
    have ic : (cap : Int) < (n : Int) + 1 := by omega
    have id' : n + 1 ≤ capN := by omega
    have ie : capN ≤ 9223372036854775807 := Nat.le_trans hN2 (by decide)
    have ig : IntKind.i64.wrap ((n : Int) + 1 - (i : Int)) = (n : Int) + 1 - (i : Int) := by rw [IntKind.wrap_i64]; omega
    have ih : ¬ capN = i := by omega
    have ij : n ≤ cap := by omega
    have ik : n ≤ 2000000 := by omega
    generalize l.take i ++ x :: l.drop i = l9 at H9 ⊢
    rw [← hn]
    generalize over (over curN (i * 4) [u0, u1, u2, u3]) ((i + 1) * 4) cs = ob at hcp2 H9
    clear hW1 hW2 hb1 hb2 hg1 hg2 hg2d hfit1 hfit2 hlen2 hcell hfl hcl hcs h1n ht hs hm hc hg hB hO hE hR hi hn hv hmin1 hmin2 hroom hN1 hN2 hN3 hN4 hapT hgl hvb hBw hl hh
    go_enter Try.func55, Try.ntmps55
    go_wp2_with (at_builtin; refine wpList_append_run' rfl (.tmp 34) (.tmp 39) 23 3 rfl (.slice (some ⟨g, 0, none⟩) i cap) (.int .i64 ((n : Int) + 1 - (i : Int))) rfl rfl hap.out ?_)
    rw [hcp1.out]
    simp only [Result.andThen]
    rw [Oper.upon_value]
    go_wp2_with fail
    go_region_law (refine step_copy_run rfl (.tmp 50) (.tmp 53) 23 23 rfl (.slice (some ⟨nb, (i + 1) * 4, none⟩) (n - i) (capN - (i + 1))) (.slice (some ⟨g, i * 4, none⟩) (n - i) (cap - i)) (by simp [Act.eval, Act.put]) (by simp [Act.eval, Act.put]) (hcp2.out _ _ _) ?_)
    go_wp2
    go_ret
    exact H9.out

/-- slices.Insert of one done, wherever it belongs -/
theorem dinsert_any (B : Nat) (l : List Dn) (hl : l.length ≤ 2000000) (i : Nat) (hi : i ≤ l.length) (a : Option Addr) (cap vb : Nat) (u0 u1 u2 u3 : Value) (x : Dn) (w : World) (hB : B ≤ w.heap.size) (hvb : vb < w.heap.size) (hR : DOwn B w (.slice a l.length cap) l) (hv : Laid1 B w vb u0 u1 u2 u3 x) (hne : ∀ ad, a = some ad → vb ≠ ad.block) :
    Calls Try.prog 55 #[.slice a l.length cap, .int .i64 i, .slice (some ⟨vb, 0, none⟩) 1 1] w fun e w' => DInsPost B (Value.slice a l.length cap).ownBlock (l.take i ++ x :: l.drop i) w e w' := by
  rcases Nat.lt_or_ge i l.length with h | h
  · obtain ⟨g, rfl⟩ : ∃ g, a = some ⟨g, 0, none⟩ := by
      obtain ⟨css, h1, _⟩ := hR
      rcases h1.2 with ⟨e, h0⟩ | ⟨g, cap', cur, e, _⟩
      · omega
      · simp only [Value.slice.injEq] at e
        exact ⟨g, e.1⟩
    by_cases hc : l.length + 1 ≤ cap
    · exact insert_room B l i h g cap vb hc u0 u1 u2 u3 x w hR hv (hne _ rfl)
    · exact insert_grow B l hl i h g cap vb (by omega) u0 u1 u2 u3 x w hB hvb hR hv
  · have e : i = l.length := by omega
    subst e
    rw [List.take_length, List.drop_length]
    exact insert_end B l hl a cap vb u0 u1 u2 u3 x w hB hR hv

end Go.Proofs.Ytjjdednlddnllaa
