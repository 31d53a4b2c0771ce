/- A scan with no limit that may be; a version more. -/
import Derived.Test.YtcegkgobkpakiaaTrBox
import Derived.Test.YtcegkgobkpakiaaTrRound
namespace Go.Proofs.Ytcegkgobkpakiaa
open Go.ChangeShapes Go.WideShapes Go.ChangeAt Go.RowKit

theorem told_four (w : World) (u v p q z : Value) (t0 t1 t2 t3 : TypeId) : Told w (w.heap.size + 1 + 1 + 1) ((((w.alloc (.cells #[u, v] t0)).alloc (.cells #[p, q] t1)).alloc (.cells #[z] t2)).alloc (.cells #[.int .i64 0, .int .i64 0, .slice none 0 0, .slice none 0 0] t3)) := by
  have hb : Below w.heap.size w (((w.alloc (.cells #[u, v] t0)).alloc (.cells #[p, q] t1)).alloc (.cells #[z] t2)) := (((Below.refl _ w).alloc (Nat.le_refl _) _).alloc (by simp) _).alloc (by simp; omega) _
  refine ⟨hb.alloc (by simp; omega) _, ?_⟩
  have := Quad.new (((w.alloc (.cells #[u, v] t0)).alloc (.cells #[p, q] t1)).alloc (.cells #[z] t2)) (.int .i64 0) (.int .i64 0) (.slice none 0 0) (.slice none 0 0) t3
  rwa [alloc_size, alloc_size, alloc_size] at this

set_option maxHeartbeats 8000000 in
theorem scan_bad (a b : Option Addr) (n c m d : Nat) (loo hio : Option Addr) (lm lc hm hc : Nat) (lim : Int) (h0 : lim < 0) (w : World) :
    Calls Try.prog 22 #[.agg #[.slice a n c, .slice b m d], .agg #[.slice loo lm lc, .slice hio hm hc], .int .i64 lim] w fun e w' => FdPost w ⟨2, 0, [], []⟩ e w' ∧ Below w.heap.size w w' := by
  have H0 := put_by (told_four w (.slice a n c) (.slice b m d) (.slice loo lm lc) (.slice hio hm hc) (.int .i64 lim) 53 70 3 50)
  have cR : Hid (∀ W : World, Told w (w.heap.size + 1 + 1 + 1) W → Calls Try.prog 18 #[.int .i64 2] W fun e w' => e = .returned (.agg #[.int .i64 2, .int .i64 0, .slice none 0 0, .slice none 0 0]) ∧ Hid (Told w (w.heap.size + 1 + 1 + 1) w')) := fun W hW =>
    (refused_any 2 W).mono fun e w' hh => ⟨hh.1, hW.later hh.2⟩
  go_enter Try.func22, Try.ntmps22
  go_wp2_with (first
    | (go_at_call 18; refine (cR.out _ H0.out).mono ?_; clear cR; rintro e w5 ⟨rfl, H5⟩; obtain ⟨c0, c1, c2, c3, f0, f1, f2, f3⟩ := id H5.out.quad))
  obtain ⟨hQ, hK, hB⟩ := told_put H5.out (by omega) ⟨2, 0, [], []⟩ _ _ _ _ (fd_bare 2 0)
  generalize (((w5.setCell _ _).setCell _ _).setCell _ _).setCell _ _ = W9 at hQ hK hB ⊢
  exact bodyPost_ret (v := .agg #[.int .i64 2, .int .i64 0, .slice none 0 0, .slice none 0 0]) (by simp [results, Try.results22, go_sem, asAddr, hQ.c0, hQ.c1, hQ.c2, hQ.c3]) rfl ⟨⟨none, 0, 0, none, 0, 0, rfl, hK⟩, hB⟩

theorem U_of_any {P : Program} {ops : Array Oper} {Q : Exit → Act → World → Prop} {S : World → Prop} {m : Nat} : ∀ (fuel : Nat) (listed : Array Bool) (a : Act) (w : World), listed.getD m true = true → wpAny P .any ops Q fuel listed a w → wpAnyU P ops Q S m fuel listed a w
  | 0, _, _, _, _, h => h
  | fuel + 1, listed, a, w, hm, h => ⟨h.1, fun i hi => wpOp_mono (fun a' w' h' => by
    have hm2 : (listed.setIfInBounds i true).getD m true = true := by
      by_cases e : i = m
      · subst e
        rcases Nat.lt_or_ge i listed.size with h' | h'
        · simp [h']
        · simp [Array.getD, Nat.not_lt.2 h']
      · rw [getD_set_ne true e]
        exact hm
    exact ⟨fun q => (by rw [hm2] at q; cases q), U_of_any fuel _ a' w' hm2 h'⟩) (h.2 i hi)⟩

theorem heap_cong {X Y : World} {b : Nat} {a : Addr} {v : Value} (h : X.heap[b]? = Y.heap[b]?) : (X.setCell a v).heap[b]? = (Y.setCell a v).heap[b]? := by
  simp only [World.setCell, Array.getElem?_modify, h]

/-- what adding a version comes to -/
def AddPost (Bv base : Nat) (ok : Nat → Prop) (vs : List (List Ent)) (l : List Ent) (v : Value) (w : World) (e : Ending) (w' : World) : Prop :=
  e = .returned (.agg #[.int .i64 0, .int .i64 vs.length, .slice none 0 0, .slice none 0 0]) ∧ ∃ (g cap : Nat), Box Bv base ok (vs ++ [l]) w' (.slice (some ⟨g, 0, none⟩) (vs.length + 1) cap) ∧ Turn Bv v w w' ∧ (g < w.heap.size → v.ownBlock = some g)

set_option maxRecDepth 100000 in
set_option maxHeartbeats 8000000 in
theorem add_any (ok : Nat → Prop) (vs : List (List Ent)) (l : List Ent) (a b : Option Addr) (n c m d : Nat) (Bv base : Nat) (va : Option Addr) (vc : Nat) (w : World) (hx : Box Bv base ok vs w (.slice va vs.length vc)) (hok : Fresh ok w) (hfew : vs.length ≤ 90000)
    (hl : kVer.rel (fun b => ok b ∧ (Value.slice va vs.length vc).ownBlock ≠ some b) w l [.slice a n c, .slice b m d]) :
    Calls Try.prog 26 #[.pointer (some ⟨Bv, 0, none⟩), .agg #[.slice a n c, .slice b m d]] w fun e w' => AddPost Bv base ok vs l (.slice va vs.length vc) w e w' := by
  have hB : Bv < w.heap.size := World.block_lt_of_cell? _ _ hx.cell
  have HT := put_by (told_two w (.slice a n c) (.slice b m d) 53 50)
  have HX := put_by (And.intro hx (And.intro hok (And.intro hfew hl)))
  have hT2 := ((Two.new w (.slice a n c) (.slice b m d) 53).later ((Below.refl _ _).alloc (Nat.le_refl _) (.cells #[.int .i64 0, .int .i64 0, .slice none 0 0, .slice none 0 0] 50)))
  have hv := (HX.out.1.later HT.out.below).cell
  obtain ⟨k, hk⟩ : ∃ k, k = vs.length := ⟨_, rfl⟩
  have HK := put_by hk
  rw [← hk] at hv
  have hcl : Hid (Bv ≠ w.heap.size ∧ Bv ≠ w.heap.size + 1) := ⟨by omega, by omega⟩
  clear hx hok hfew hl
  generalize hpost : (fun e w' => AddPost Bv base ok vs l (.slice va vs.length vc) w e w') = R
  have HR := put_by hpost
  clear hpost
  clear hk
  go_enter Try.func26, Try.ntmps26
  go_wp2
  obtain ⟨W2, hW2⟩ : ∃ W2, ((w.alloc (.cells #[.slice a n c, .slice b m d] 53)).alloc (.cells #[.int .i64 0, .int .i64 0, .slice none 0 0, .slice none 0 0] 50)) = W2 := ⟨_, rfl⟩
  rw [hW2] at HT hT2 hv ⊢
  clear hW2
  have hnL : ∀ W, ¬ R .outgrown W := fun W hh => by
    rw [← HR.out] at hh
    obtain ⟨e, _⟩ := hh
    cases e
  have hS : (fun V : World => V.cell? ⟨Bv, 0, none⟩ = some (.slice va k vc) ∧ V.cell? ⟨w.heap.size, 0, none⟩ = some (.slice a n c) ∧ V.cell? ⟨w.heap.size, 1, none⟩ = some (.slice b m d)) W2.drew := ⟨by simpa using hv, by simpa using hT2.c0, by simpa using hT2.c1⟩
  refine region_plain (fun V : World => V.cell? ⟨Bv, 0, none⟩ = some (.slice va k vc) ∧ V.cell? ⟨w.heap.size, 0, none⟩ = some (.slice a n c) ∧ V.cell? ⟨w.heap.size, 1, none⟩ = some (.slice b m d)) 6 (by kernel_rfl) ?_
  refine U_take (k := 0) (v := .pointer (some ⟨Bv, 0, none⟩)) rfl rfl (by kernel_rfl) (by kernel_rfl) (by kernel_rfl) (by kernel_rfl) (by kernel_rfl) (fun _ _ _ h => h) (Or.inl ⟨by rfl, fun V hV => ?_⟩) hS ?_
  · obtain ⟨z0, z1, z2⟩ := hV
    go_simp
  simp only [Act.put]
  refine U_take (k := 1) (v := .pointer (some ⟨Bv, 0, none⟩)) rfl rfl (by kernel_rfl) (by kernel_rfl) (by kernel_rfl) (by kernel_rfl) (by kernel_rfl) (fun _ _ _ h => h) (Or.inl ⟨by rfl, fun V hV => ?_⟩) hS ?_
  · obtain ⟨z0, z1, z2⟩ := hV
    go_simp
  simp only [Act.put]
  refine U_take (k := 2) (v := .slice va k vc) rfl rfl (by kernel_rfl) (by kernel_rfl) (by kernel_rfl) (by kernel_rfl) (by kernel_rfl) (fun _ _ _ h => h) (Or.inl ⟨by rfl, fun V hV => ?_⟩) hS ?_
  · obtain ⟨z0, z1, z2⟩ := hV
    go_simp
  simp only [Act.put]
  refine U_take (k := 3) (v := .agg #[.slice a n c, .slice b m d]) rfl rfl (by kernel_rfl) (by kernel_rfl) (by kernel_rfl) (by kernel_rfl) (by kernel_rfl) (fun _ _ _ h => h) (Or.inl ⟨by rfl, fun V hV => ?_⟩) hS ?_
  · obtain ⟨z0, z1, z2⟩ := hV
    go_simp
  simp only [Act.put]
  refine U_take (k := 4) (v := .int .i64 k) rfl rfl (by kernel_rfl) (by kernel_rfl) (by kernel_rfl) (by kernel_rfl) (by kernel_rfl) (fun _ _ _ h => h) (Or.inl ⟨by rfl, fun V hV => ?_⟩) hS ?_
  · obtain ⟨z0, z1, z2⟩ := hV
    go_simp
  simp only [Act.put]
  refine U_one (i := 5) (by kernel_rfl) rfl rfl rfl (fun K hK => ?_)
  go_simp
  refine hK _ _ (fun _ => ?_) ?_
  · exact ⟨(World.cell?_alloc_some _ _ _ (by rw [hv]; rfl)).trans hv, (World.cell?_alloc_some _ _ _ (by rw [hT2.c0]; rfl)).trans hT2.c0, (World.cell?_alloc_some _ _ _ (by rw [hT2.c1]; rfl)).trans hT2.c1⟩
  clear hK K
  refine U_one (i := 6) (by kernel_rfl) rfl rfl rfl (fun K hK => ?_)
  have hbd : Below W2.heap.size W2 W2.drew := (Below.refl _ W2).drew
  have hb2 : Below w.heap.size w W2.drew := HT.out.below.trans (hbd.mono HT.out.below.size)
  have hBX : Box Bv base (fun b => ok b ∧ b ≠ w.heap.size + 1) vs W2.drew (.slice va vs.length vc) := (HX.out.1.turned (ok2 := fun b => ok b ∧ b ≠ w.heap.size + 1) (fun b hb ho => ⟨ho, by omega⟩) (fun q => HX.out.1.not q.1)).later hb2
  have hlX : kVer.rel (fun b => (ok b ∧ b ≠ w.heap.size + 1) ∧ (Value.slice va vs.length vc).ownBlock ≠ some b) W2.drew l [.slice a n c, .slice b m d] := kVer.move (Kept.of_below hb2) (fun b hb ho => ⟨⟨ho.1, by omega⟩, ho.2⟩) HX.out.2.2.2
  have hsz2 : w.heap.size + 1 < W2.heap.size := World.block_lt_of_cell? _ _ HT.out.quad.c0
  refine wp_of_list rfl (by rintro ⟨_, _, hh⟩; exact hnL _ hh) (wpList_append_one (ok := fun b => ok b ∧ b ≠ w.heap.size + 1) eltV rfl (.tmp 7) (.tmp 10) rfl base (.slice va k vc) vs rfl (by rw [HK.out]; exact hBX.rows) [] [.slice none 0 0, .slice none 0 0] _ _ rfl rfl vers_none (fun b hb => ⟨HX.out.2.1 b (Nat.le_trans hb2.size hb), by have : W2.heap.size ≤ b := hb; omega⟩) (by have := HX.out.2.2.1; omega) (by decide) hBX.low (fun v' w5 q1 q2 q3 => ?_))
  obtain ⟨g, cap, n1, hv', hn1⟩ : ∃ g cap n1, v' = .slice (some ⟨g, 0, none⟩) n1 cap ∧ Hid (n1 = k + 1) := by
    obtain ⟨css, h1, -⟩ := q1
    rcases h1.2 with ⟨_, e⟩ | ⟨g, cap, cur, e, _⟩
    · simp at e
    · exact ⟨g, cap, k + 1, by rw [e, HK.out]; simp, rfl⟩
  subst hv'
  obtain ⟨⟨p0, t0⟩, ⟨p1, t1⟩, t2, t3, -, hcap⟩ := rows_last_cells q1
  rw [← HK.out] at t0 t1 t2 t3
  have q3' : (Value.slice va vs.length vc).ownBlock = some g ∨ g = W2.drew.heap.size + 1 := by
    rw [← HK.out]
    rcases q3 with e | e
    · exact .inl e.symm
    · exact .inr (Option.some.inj e)
  have hgB : g ≠ Bv := by
    rcases q3' with e | e
    · exact fun e9 => HX.out.1.apart (by rw [e, e9])
    · have := hb2.size
      omega
  have hq2 : W2.drew.grownBy w5 (Value.slice va vs.length vc).ownBlock := by rw [← HK.out]; exact q2
  have hB5 : w5.heap[Bv]? = W2.drew.heap[Bv]? := hq2.block Bv (by have := hb2.size; omega) (fun e => HX.out.1.apart e.symm)
  have c5 := (World.cell?_of_block (w := W2.drew) hB5).trans hBX.cell
  have f5 := (World.frozen?_of_block (w := W2.drew) hB5).trans hBX.fr
  rw [← HK.out] at c5
  refine hK _ _ (fun hh => by cases (show true = false from hh)) ?_
  clear hK K
  refine U_of_any _ _ _ _ (by kernel_rfl) ?_
  simp only [Act.put]
  have ik : (k : Int) < (n1 : Int) := by have := hn1.out; omega
  have ik0 : (0 : Int) ≤ (k : Int) := by omega
  refine wpAny_take (i := 7) (v := .pointer (some ⟨g, k * 2, none⟩)) rfl (by kernel_rfl) (by kernel_rfl) (by kernel_rfl) (fun _ _ _ h => h) (Or.inl ⟨by rfl, fun V => ?_⟩) ?_
  · go_simp
  simp only [Act.put]
  refine wpAny_take (i := 9) (v := .pointer (some ⟨Bv, 0, none⟩)) rfl (by kernel_rfl) (by kernel_rfl) (by kernel_rfl) (fun _ _ _ h => h) (Or.inl ⟨by rfl, fun V => ?_⟩) ?_
  · go_simp
  simp only [Act.put]
  have far1 : ∀ (X : World) (i j : Nat) (u : Value), (X.setCell ⟨Bv, i, none⟩ u).cell? ⟨g, j, none⟩ = X.cell? ⟨g, j, none⟩ := fun X i j u => World.cell?_setCell_other _ _ _ _ (fun e => hgB (by cases e; rfl))
  have far2 : ∀ (X : World) (i j : Nat) (u : Value), (X.setCell ⟨g, i, none⟩ u).cell? ⟨Bv, j, none⟩ = X.cell? ⟨Bv, j, none⟩ := fun X i j u => World.cell?_setCell_other _ _ _ _ (fun e => hgB (by cases e; rfl))
  have y0 := (far1 w5 0 (k * 2) (.slice (some ⟨g, 0, none⟩) n1 cap)).trans t0
  have y1 := (far1 w5 0 (k * 2 + 1) (.slice (some ⟨g, 0, none⟩) n1 cap)).trans t1
  have c6 := (far2 (w5.setCell ⟨g, k * 2, none⟩ (.slice a n c)) (k * 2 + 1) 0 (.slice b m d)).trans ((far2 w5 (k * 2) 0 (.slice a n c)).trans c5)
  have HX5 : Hid (∀ W8 : World, (∀ b', b' ≠ Bv → W8.heap[b']? = ((w5.setCell ⟨g, k * 2, none⟩ (.slice a n c)).setCell ⟨g, k * 2 + 1, none⟩ (.slice b m d)).heap[b']?) → W8.cell? ⟨Bv, 0, none⟩ = some (.slice (some ⟨g, 0, none⟩) n1 cap) → W8.frozen? ⟨Bv, 0, none⟩ = false → W8.heap.size = w5.heap.size → W8.os = w5.os → W8.tape = w5.tape → W8.output = w5.output →
      (Box Bv base (fun b => ok b ∧ b ≠ w.heap.size + 1) (vs ++ [l]) W8 (.slice (some ⟨g, 0, none⟩) (vs.length + 1) cap) ∧ Turn Bv (.slice va vs.length vc) w W8 ∧ (g < w.heap.size → (Value.slice va vs.length vc).ownBlock = some g)) ∧ g ≠ w.heap.size + 1 ∧ Quad W8 (w.heap.size + 1) (.int .i64 0) (.int .i64 0) (.slice none 0 0) (.slice none 0 0)) := by
    intro W8 e1 e2 e3 e4 e5 e6 e7
    have hk := HK.out
    have hn := hn1.out
    subst hk
    subst hn
    have hgs : g ≠ w.heap.size + 1 := by
      rcases q3' with e | e
      · have := (rows_lt HX.out.1.rows g e).2
        omega
      · have : g = W2.heap.size + 1 := e
        omega
    obtain ⟨r1, r2, r3⟩ := box_put hBX (Below.refl _ _) q1 hq2 q3' hlX e1 e2 e3 e4 e5 e6 e7
    refine ⟨⟨r1, r2.before hb2, fun hg => r3 (Nat.lt_of_lt_of_le hg hb2.size)⟩, hgs, ?_⟩
    refine (HT.out.later hbd).quad.move ((e1 _ (by omega)).trans ((heap_setCell_other _ _ _ _ (Ne.symm hgs)).trans ((heap_setCell_other _ _ _ _ (Ne.symm hgs)).trans ?_)))
    refine hq2.block _ hsz2 (fun e => ?_)
    have := (rows_lt HX.out.1.rows _ e.symm).2
    omega
  have HF : Hid (∀ W8 : World, (Box Bv base (fun b => ok b ∧ b ≠ w.heap.size + 1) (vs ++ [l]) W8 (.slice (some ⟨g, 0, none⟩) (vs.length + 1) cap) ∧ Turn Bv (.slice va vs.length vc) w W8 ∧ (g < w.heap.size → (Value.slice va vs.length vc).ownBlock = some g)) ∧ g ≠ w.heap.size + 1 ∧ Quad W8 (w.heap.size + 1) (.int .i64 0) (.int .i64 0) (.slice none 0 0) (.slice none 0 0) →
      ∀ W9, W9 = ((((W8.setCell ⟨w.heap.size + 1, 0, none⟩ (.int .i64 0)).setCell ⟨w.heap.size + 1, 1, none⟩ (.int .i64 k)).setCell ⟨w.heap.size + 1, 2, none⟩ (.slice none 0 0)).setCell ⟨w.heap.size + 1, 3, none⟩ (.slice none 0 0)) → Quad W9 (w.heap.size + 1) (.int .i64 0) (.int .i64 k) (.slice none 0 0) (.slice none 0 0) ∧ R (.returned (.agg #[.int .i64 0, .int .i64 k, .slice none 0 0, .slice none 0 0])) W9) := by
    rintro W8 ⟨⟨r1, r2, r3⟩, r4, r5⟩ W9 rfl
    refine ⟨r5.set _ _ _ _, ?_⟩
    rw [← HR.out, HK.out]
    exact ⟨rfl, g, cap, (r1.quad (by omega) (fun e => r4 (Option.some.inj e)) (fun q => q.2 rfl) _ _ _ _).turned (fun _ _ q => q.1) HX.out.1.not, r2.quad (Nat.le_succ _) _ _ _ _, r3⟩
  have f6 : ((w5.setCell ⟨g, k * 2, none⟩ (.slice a n c)).setCell ⟨g, k * 2 + 1, none⟩ (.slice b m d)).frozen? ⟨Bv, 0, none⟩ = false := by
    rw [World.frozen?_setCell, World.frozen?_setCell]
    exact f5
  have hwr : IntKind.i64.wrap ((n1 : Int) - 1) = (k : Int) := by
    have := hn1.out
    have := HX.out.2.2.1
    have := HK.out
    rw [IntKind.wrap_i64]
    omega
  have HA := put_by (HX5.out (((w5.setCell ⟨g, k * 2, none⟩ (.slice a n c)).setCell ⟨g, k * 2 + 1, none⟩ (.slice b m d)).setCell ⟨Bv, 0, none⟩ (.slice (some ⟨g, 0, none⟩) n1 cap)) (fun b' hb' => heap_setCell_other _ _ _ _ hb') (World.cell?_setCell_same' _ _ _ (by rw [c6]; rfl)) (by rw [World.frozen?_setCell]; exact f6) (by simp) rfl rfl rfl)
  have HB := put_by (HX5.out (((w5.setCell ⟨Bv, 0, none⟩ (.slice (some ⟨g, 0, none⟩) n1 cap)).setCell ⟨g, k * 2, none⟩ (.slice a n c)).setCell ⟨g, k * 2 + 1, none⟩ (.slice b m d)) (fun b' hb' => heap_cong (heap_cong (heap_setCell_other _ _ _ _ hb'))) (by rw [far2, far2]; exact World.cell?_setCell_same' _ _ _ (by rw [c5]; rfl)) (by rw [World.frozen?_setCell, World.frozen?_setCell, World.frozen?_setCell]; exact f5) (by simp) rfl rfl rfl)
  clear far1 far2
  refine wpAny_ready (rs := [8, 10]) (by kernel_rfl) (by simp) ?_
  refine AllReady.cons rfl (fun K hK => ?_) (AllReady.cons rfl (fun K hK => ?_) AllReady.nil)
  · go_simp
    refine hK _ _ ?_
    clear hK K
    refine wpAny_ready (rs := [10]) (by kernel_rfl) (by simp) ?_
    refine AllReady.cons rfl (fun K hK => ?_) AllReady.nil
    go_simp
    refine hK _ _ ?_
    clear hK K
    have HX9 := HA
    refine wpAny_done (by kernel_rfl) ?_ _
    have HF9 := put_by (HF.out _ HX9.out)
    generalize ((w5.setCell _ _).setCell _ _).setCell _ _ = W8 at HX9 HF9 ⊢
    have z0 := HX9.out.1.1.cell
    rw [← HK.out, ← hn1.out] at z0
    obtain ⟨c0, c1, c2, c3, f0, f1, f2, f3⟩ := HX9.out.2.2
    clear HA HB HF HX5 hS t0 t1 t2 t3 c5 f5 c6 f6 y0 y1 q1 q2 q3 q3' hq2 hB5 hlX hBX hb2 hbd hT2 hv
    go_wp2
    obtain ⟨hQ, hR⟩ := HF9.out _ rfl
    generalize (((W8.setCell _ _).setCell _ _).setCell _ _).setCell _ _ = W9 at hQ hR ⊢
    exact bodyPost_ret (v := .agg #[.int .i64 0, .int .i64 k, .slice none 0 0, .slice none 0 0]) (by simp [results, Try.results26, go_sem, asAddr, hQ.c0, hQ.c1, hQ.c2, hQ.c3]) rfl hR
  · go_simp
    refine hK _ _ ?_
    clear hK K
    refine wpAny_ready (rs := [8]) (by kernel_rfl) (by simp) ?_
    refine AllReady.cons rfl (fun K hK => ?_) AllReady.nil
    go_simp
    refine hK _ _ ?_
    clear hK K
    have HX9 := HB
    refine wpAny_done (by kernel_rfl) ?_ _
    have HF9 := put_by (HF.out _ HX9.out)
    generalize ((w5.setCell _ _).setCell _ _).setCell _ _ = W8 at HX9 HF9 ⊢
    have z0 := HX9.out.1.1.cell
    rw [← HK.out, ← hn1.out] at z0
    obtain ⟨c0, c1, c2, c3, f0, f1, f2, f3⟩ := HX9.out.2.2
    clear HA HB HF HX5 hS t0 t1 t2 t3 c5 f5 c6 f6 y0 y1 q1 q2 q3 q3' hq2 hB5 hlX hBX hb2 hbd hT2 hv
    go_wp2
    obtain ⟨hQ, hR⟩ := HF9.out _ rfl
    generalize (((W8.setCell _ _).setCell _ _).setCell _ _).setCell _ _ = W9 at hQ hR ⊢
    exact bodyPost_ret (v := .agg #[.int .i64 0, .int .i64 k, .slice none 0 0, .slice none 0 0]) (by simp [results, Try.results26, go_sem, asAddr, hQ.c0, hQ.c1, hQ.c2, hQ.c3]) rfl hR

/-- adding a version, where what it comes to is put into the variable B behind -/
theorem add_then (ok : Nat → Prop) (vs : List (List Ent)) (l : List Ent) (a b : Option Addr) (n c m d : Nat) (Bv base B : Nat) (va : Option Addr) (vc : Nat) (w W : World) (hx : Box Bv base ok vs w (.slice va vs.length vc)) (hok : Fresh ok w) (hfew : vs.length ≤ 90000) (hT : Told w B W) (hB : w.heap.size ≤ B)
    (hl : kVer.rel (fun b => (ok b ∧ b ≠ B) ∧ (Value.slice va vs.length vc).ownBlock ≠ some b) W l [.slice a n c, .slice b m d]) :
    Calls Try.prog 26 #[.pointer (some ⟨Bv, 0, none⟩), .agg #[.slice a n c, .slice b m d]] W fun e w' => e = .returned (.agg #[.int .i64 0, .int .i64 vs.length, .slice none 0 0, .slice none 0 0]) ∧ Quad w' B (.int .i64 0) (.int .i64 0) (.slice none 0 0) (.slice none 0 0) ∧
      ∀ W9, W9 = ((((w'.setCell ⟨B, 0, none⟩ (.int .i64 0)).setCell ⟨B, 1, none⟩ (.int .i64 vs.length)).setCell ⟨B, 2, none⟩ (.slice none 0 0)).setCell ⟨B, 3, none⟩ (.slice none 0 0)) → Quad W9 B (.int .i64 0) (.int .i64 vs.length) (.slice none 0 0) (.slice none 0 0) ∧ AddPost Bv base ok vs l (.slice va vs.length vc) w e W9 := by
  have hBv : Bv < w.heap.size := World.block_lt_of_cell? _ _ hx.cell
  have hBW : B < W.heap.size := World.block_lt_of_cell? _ _ hT.quad.c0
  have hsz := hT.below.size
  have hx2 : Box Bv base (fun b => ok b ∧ b ≠ B) vs W (.slice va vs.length vc) := (hx.turned (ok2 := fun b => ok b ∧ b ≠ B) (fun b hb ho => ⟨ho, by omega⟩) (fun q => hx.not q.1)).later hT.below
  refine (add_any _ vs l a b n c m d Bv base va vc W hx2 (fun b hb => ⟨hok b (by omega), by omega⟩) hfew hl).mono ?_
  rintro e w' ⟨rfl, g, cap, r1, r2, r3⟩
  have hgB : g ≠ B := fun e => by
    rw [e] at r3
    have := (rows_lt hx.rows B (r3 hBW)).2
    omega
  have hQ : Quad w' B (.int .i64 0) (.int .i64 0) (.slice none 0 0) (.slice none 0 0) := hT.quad.move (r2.block B hBW (by omega) (fun e => by have := (rows_lt hx.rows B e).2; omega))
  refine ⟨rfl, hQ, ?_⟩
  rintro W9 rfl
  exact ⟨hQ.set _ _ _ _, rfl, g, cap, (r1.quad (by omega) (fun e => hgB (Option.some.inj e)) (fun q => q.2 rfl) _ _ _ _).turned (fun _ _ q => q.1) hx.not, (r2.before hT.below).quad hB _ _ _ _, fun hg => r3 (by omega)⟩

end Go.Proofs.Ytcegkgobkpakiaa
