/- One deed. -/
import Derived.Test.YtcegkgobkpakiaaTrStep
namespace Go.Proofs.Ytcegkgobkpakiaa
open Go.ChangeShapes Go.WideShapes Go.ChangeAt Go.RowKit

/-- the variables that a deed begins with: itself, and what it comes to -/
structure PlayL (w : World) (kd ver : Int) (ku vu : Value) (lim : Int) (W : World) : Prop where
  told : Told w (w.heap.size + 1) W
  c0 : W.cell? ⟨w.heap.size, 0, none⟩ = some (.int .i64 kd)
  c1 : W.cell? ⟨w.heap.size, 1, none⟩ = some (.int .i64 ver)
  c2 : W.cell? ⟨w.heap.size, 2, none⟩ = some ku
  c3 : W.cell? ⟨w.heap.size, 3, none⟩ = some vu
  c4 : W.cell? ⟨w.heap.size, 4, none⟩ = some (.int .i64 lim)

theorem PlayL.later {w W W' : World} {kd ver : Int} {ku vu : Value} {lim : Int} (h : PlayL w kd ver ku vu lim W) (hb : Below W.heap.size W W') : PlayL w kd ver ku vu lim W' := by
  have hB : w.heap.size < W.heap.size := World.block_lt_of_cell? _ _ h.c0
  exact ⟨h.told.later hb, (hb.cell (p := ⟨w.heap.size, 0, none⟩) hB).trans h.c0, (hb.cell (p := ⟨w.heap.size, 1, none⟩) hB).trans h.c1, (hb.cell (p := ⟨w.heap.size, 2, none⟩) hB).trans h.c2, (hb.cell (p := ⟨w.heap.size, 3, none⟩) hB).trans h.c3, (hb.cell (p := ⟨w.heap.size, 4, none⟩) hB).trans h.c4⟩

theorem playL_new (w : World) (kd ver : Int) (ku vu : Value) (lim : Int) (t0 t1 : TypeId) : PlayL w kd ver ku vu lim ((w.alloc (.cells #[.int .i64 kd, .int .i64 ver, ku, vu, .int .i64 lim] t0)).alloc (.cells #[.int .i64 0, .int .i64 0, .slice none 0 0, .slice none 0 0] t1)) := by
  have hb : Below w.heap.size w (w.alloc (.cells #[.int .i64 kd, .int .i64 ver, ku, vu, .int .i64 lim] t0)) := (Below.refl _ w).alloc (Nat.le_refl _) _
  have hQ := Quad.new (w.alloc (.cells #[.int .i64 kd, .int .i64 ver, ku, vu, .int .i64 lim] t0)) (.int .i64 0) (.int .i64 0) (.slice none 0 0) (.slice none 0 0) t1
  rw [alloc_size] at hQ
  have h0 : ((w.alloc (.cells #[.int .i64 kd, .int .i64 ver, ku, vu, .int .i64 lim] t0)).alloc (.cells #[.int .i64 0, .int .i64 0, .slice none 0 0, .slice none 0 0] t1)).heap[w.heap.size]? = some (.cells #[.int .i64 kd, .int .i64 ver, ku, vu, .int .i64 lim] t0) := (Below.heap_alloc _ _ _ (by simp)).trans (heap_alloc_new w _)
  have hb2 := hb.alloc (by simp) (.cells #[.int .i64 0, .int .i64 0, .slice none 0 0, .slice none 0 0] t1)
  generalize (w.alloc (.cells #[.int .i64 kd, .int .i64 ver, ku, vu, .int .i64 lim] t0)).alloc (.cells #[.int .i64 0, .int .i64 0, .slice none 0 0, .slice none 0 0] t1) = W at hQ h0 hb2 ⊢
  refine ⟨⟨hb2, hQ⟩, ?_, ?_, ?_, ?_, ?_⟩ <;> simp [World.cell?, h0]

theorem refused_step {Bv base B : Nat} {ok : Nat → Prop} {vs : List (List Ent)} {v : Value} {w W : World} (c : Int) (hx : Box Bv base ok vs w v) (hT : Told w B W) (hB : w.heap.size ≤ B) :
    Calls Try.prog 18 #[.int .i64 c] W fun e w' => ∃ (a : Option Addr) (n c' : Nat) (b : Option Addr) (m d : Nat), e = .returned (.agg #[.int .i64 c, .int .i64 0, .slice a n c', .slice b m d]) ∧ Hid (Quad w' B (.int .i64 0) (.int .i64 0) (.slice none 0 0) (.slice none 0 0) ∧
      ∀ W9, W9 = ((((w'.setCell ⟨B, 0, none⟩ (.int .i64 c)).setCell ⟨B, 1, none⟩ (.int .i64 0)).setCell ⟨B, 2, none⟩ (.slice a n c')).setCell ⟨B, 3, none⟩ (.slice b m d)) → Quad W9 B (.int .i64 c) (.int .i64 0) (.slice a n c') (.slice b m d) ∧ StepPost Bv base ok vs ⟨c, 0, [], []⟩ v w (.returned (.agg #[.int .i64 c, .int .i64 0, .slice a n c', .slice b m d])) W9) := by
  have hsz := hT.below.size
  have hBW : B < W.heap.size := World.block_lt_of_cell? _ _ hT.quad.c0
  refine (refused_fd c W).mono fun e w' hh => ?_
  have hx2 : Box Bv base (fun b => ok b ∧ b ≠ B) vs W v := (hx.turned (ok2 := fun b => ok b ∧ b ≠ B) (fun b hb ho => ⟨ho, by omega⟩) (fun q => hx.not q.1)).later hT.below
  obtain ⟨a, n, c', b, m, d, e, h1, h2⟩ := step_then hx hT hB (step_kept hx2 hh)
  exact ⟨a, n, c', b, m, d, e, h1, h2⟩

set_option maxHeartbeats 8000000 in
theorem play_kind (ok : Nat → Prop) (vs : List (List Ent)) (kd ver lim : Int) (hkd : kd < 1 ∨ 4 < kd) (ka ea : Option Addr) (kn kc en ec : Nat) (Bv base : Nat) (v : Value) (w : World) (hx : Box Bv base ok vs w v) :
    Calls Try.prog 13 #[.pointer (some ⟨Bv, 0, none⟩), .agg #[.int .i64 kd, .int .i64 ver, .slice ka kn kc, .slice ea en ec, .int .i64 lim]] w fun e w' => StepPost Bv base ok vs ⟨3, 0, [], []⟩ v w e w' := by
  have H0 := put_by (playL_new w kd ver (.slice ka kn kc) (.slice ea en ec) lim 45 50)
  have cR : Hid (∀ W : World, PlayL w kd ver (.slice ka kn kc) (.slice ea en ec) lim W → Calls Try.prog 18 #[.int .i64 3] W fun e w' => ∃ (a : Option Addr) (n c' : Nat) (b : Option Addr) (m d : Nat), e = .returned (.agg #[.int .i64 3, .int .i64 0, .slice a n c', .slice b m d]) ∧ Hid (Quad w' (w.heap.size + 1) (.int .i64 0) (.int .i64 0) (.slice none 0 0) (.slice none 0 0) ∧
      ∀ W9, W9 = ((((w'.setCell ⟨w.heap.size + 1, 0, none⟩ (.int .i64 3)).setCell ⟨w.heap.size + 1, 1, none⟩ (.int .i64 0)).setCell ⟨w.heap.size + 1, 2, none⟩ (.slice a n c')).setCell ⟨w.heap.size + 1, 3, none⟩ (.slice b m d)) → Quad W9 (w.heap.size + 1) (.int .i64 3) (.int .i64 0) (.slice a n c') (.slice b m d) ∧ StepPost Bv base ok vs ⟨3, 0, [], []⟩ v w (.returned (.agg #[.int .i64 3, .int .i64 0, .slice a n c', .slice b m d])) W9)) := fun W hW => refused_step 3 hx hW.told (Nat.le_succ _)
  clear hx
  generalize hpost : (fun e w' => StepPost Bv base ok vs ⟨3, 0, [], []⟩ v w e w') = R
  have HR := put_by hpost
  clear hpost
  rcases hkd with hkd | hkd
  · go_enter Try.func13, Try.ntmps13
    go_wp2_with (first
      | (go_at_call 18; refine (cR.out _ H0.out).mono ?_; clear cR; rintro e w5 ⟨a, n, c, b, m, d, rfl, H5⟩; obtain ⟨c0, c1, c2, c3, f0, f1, f2, f3⟩ := id H5.out.1))
    obtain ⟨hQ, hA⟩ := H5.out.2 _ rfl
    generalize (((w5.setCell _ _).setCell _ _).setCell _ _).setCell _ _ = W9 at hQ hA ⊢
    refine bodyPost_ret (v := .agg #[.int .i64 3, .int .i64 0, .slice a n c, .slice b m d]) (by simp [results, Try.results13, go_sem, asAddr, hQ.c0, hQ.c1, hQ.c2, hQ.c3]) rfl ?_
    rw [← HR.out]
    exact hA
  · have hk1 : ¬ kd < 1 := by omega
    go_enter Try.func13, Try.ntmps13
    go_wp2_with (first
      | (go_at_call 18; refine (cR.out _ H0.out).mono ?_; clear cR; rintro e w5 ⟨a, n, c, b, m, d, rfl, H5⟩; obtain ⟨c0, c1, c2, c3, f0, f1, f2, f3⟩ := id H5.out.1))
    obtain ⟨hQ, hA⟩ := H5.out.2 _ rfl
    generalize (((w5.setCell _ _).setCell _ _).setCell _ _).setCell _ _ = W9 at hQ hA ⊢
    refine bodyPost_ret (v := .agg #[.int .i64 3, .int .i64 0, .slice a n c, .slice b m d]) (by simp [results, Try.results13, go_sem, asAddr, hQ.c0, hQ.c1, hQ.c2, hQ.c3]) rfl ?_
    rw [← HR.out]
    exact hA

set_option maxHeartbeats 8000000 in
theorem play_ver (ok : Nat → Prop) (vs : List (List Ent)) (kd ver lim : Int) (hk1 : 1 ≤ kd) (hk4 : kd ≤ 4) (hver : ver < 0 ∨ (vs.length : Int) ≤ ver) (ka ea : Option Addr) (kn kc en ec : Nat) (Bv base : Nat) (va : Option Addr) (vc : Nat) (w : World) (hx : Box Bv base ok vs w (.slice va vs.length vc)) :
    Calls Try.prog 13 #[.pointer (some ⟨Bv, 0, none⟩), .agg #[.int .i64 kd, .int .i64 ver, .slice ka kn kc, .slice ea en ec, .int .i64 lim]] w fun e w' => StepPost Bv base ok vs ⟨2, 0, [], []⟩ (.slice va vs.length vc) w e w' := by
  have H0 := put_by (playL_new w kd ver (.slice ka kn kc) (.slice ea en ec) lim 45 50)
  have cR : Hid (∀ W : World, PlayL w kd ver (.slice ka kn kc) (.slice ea en ec) lim W → Calls Try.prog 18 #[.int .i64 2] W fun e w' => ∃ (a : Option Addr) (n c' : Nat) (b : Option Addr) (m d : Nat), e = .returned (.agg #[.int .i64 2, .int .i64 0, .slice a n c', .slice b m d]) ∧ Hid (Quad w' (w.heap.size + 1) (.int .i64 0) (.int .i64 0) (.slice none 0 0) (.slice none 0 0) ∧
      ∀ W9, W9 = ((((w'.setCell ⟨w.heap.size + 1, 0, none⟩ (.int .i64 2)).setCell ⟨w.heap.size + 1, 1, none⟩ (.int .i64 0)).setCell ⟨w.heap.size + 1, 2, none⟩ (.slice a n c')).setCell ⟨w.heap.size + 1, 3, none⟩ (.slice b m d)) → Quad W9 (w.heap.size + 1) (.int .i64 2) (.int .i64 0) (.slice a n c') (.slice b m d) ∧ StepPost Bv base ok vs ⟨2, 0, [], []⟩ (.slice va vs.length vc) w (.returned (.agg #[.int .i64 2, .int .i64 0, .slice a n c', .slice b m d])) W9)) := fun W hW => refused_step 2 hx hW.told (Nat.le_succ _)
  have cH : Hid (∀ W : World, Calls Try.prog 14 #[.slice va vs.length vc, .int .i64 ver] W fun e w' => e = .returned (.bool false) ∧ w' = W) := fun W => by
    have e : decide (0 ≤ ver ∧ ver < (vs.length : Int)) = false := decide_eq_false (by omega)
    have := has_any va vs.length vc ver W
    rw [e] at this
    exact this
  have hv := (hx.later H0.out.told.below).cell
  clear hx hver
  generalize hpost : (fun e w' => StepPost Bv base ok vs ⟨2, 0, [], []⟩ (.slice va vs.length vc) w e w') = R
  have HR := put_by hpost
  clear hpost
  generalize vs.length = k at cH hv
  have hk1' : ¬ kd < 1 := by omega
  have hk4' : ¬ 4 < kd := by omega
  go_enter Try.func13, Try.ntmps13
  go_wp2
  obtain ⟨W2, hW2⟩ : ∃ W2, ((w.alloc (.cells #[.int .i64 kd, .int .i64 ver, .slice ka kn kc, .slice ea en ec, .int .i64 lim] 45)).alloc (.cells #[.int .i64 0, .int .i64 0, .slice none 0 0, .slice none 0 0] 50)) = W2 := ⟨_, rfl⟩
  rw [hW2] at H0 hv ⊢
  clear hW2
  have y1 := H0.out.c1
  have H1 := put_by (H0.out.later (Below.refl _ W2).drew)
  go_region_held3 (fun V => V.cell? ⟨Bv, 0, none⟩ = some (.slice va k vc) ∧ V.cell? ⟨w.heap.size, 1, none⟩ = some (.int .i64 ver)) (go_keep) (first | (go_at_call 14; (with_reducible refine (cH.out _).mono ?_); rintro e w2 ⟨rfl, rfl⟩))
  all_goals
    go_wp2_with (first
      | (go_at_call 18; refine (cR.out _ H1.out).mono ?_; clear cR; rintro e w5 ⟨a, n, c, b, m, d, rfl, H5⟩; obtain ⟨c0, c1, c2, c3, f0, f1, f2, f3⟩ := id H5.out.1))
    obtain ⟨hQ, hA⟩ := H5.out.2 _ rfl
    generalize (((w5.setCell _ _).setCell _ _).setCell _ _).setCell _ _ = W9 at hQ hA ⊢
    refine bodyPost_ret (v := .agg #[.int .i64 2, .int .i64 0, .slice a n c, .slice b m d]) (by simp [results, Try.results13, go_sem, asAddr, hQ.c0, hQ.c1, hQ.c2, hQ.c3]) rfl ?_
    rw [← HR.out]
    exact hA

end Go.Proofs.Ytcegkgobkpakiaa

/- One deed on a version that is there: each kind calls what it is for. -/
namespace Go.Proofs.Ytcegkgobkpakiaa
open Go.ChangeShapes Go.WideShapes Go.ChangeAt Go.RowKit

/-- what the call comes to, and behind it the variable B is set -/
def CallPost (Bv base B : Nat) (ok : Nat → Prop) (vs : List (List Ent)) (f : Fd) (v : Value) (w : World) (e : Ending) (w' : World) : Prop :=
  ∃ (a : Option Addr) (n c : Nat) (b : Option Addr) (m d : Nat), e = .returned (.agg #[.int .i64 f.code, .int .i64 f.ver, .slice a n c, .slice b m d]) ∧ Hid (Quad w' B (.int .i64 0) (.int .i64 0) (.slice none 0 0) (.slice none 0 0) ∧
      ∀ W9, W9 = ((((w'.setCell ⟨B, 0, none⟩ (.int .i64 f.code)).setCell ⟨B, 1, none⟩ (.int .i64 f.ver)).setCell ⟨B, 2, none⟩ (.slice a n c)).setCell ⟨B, 3, none⟩ (.slice b m d)) → Quad W9 B (.int .i64 f.code) (.int .i64 f.ver) (.slice a n c) (.slice b m d) ∧ StepPost Bv base ok vs f v w (.returned (.agg #[.int .i64 f.code, .int .i64 f.ver, .slice a n c, .slice b m d])) W9)

theorem call_post {Bv base B : Nat} {ok : Nat → Prop} {vs vs' : List (List Ent)} {f : Fd} {v : Value} {w W w' : World} {e : Ending} (hx : Box Bv base ok vs w v) (hT : Told w B W) (hB : w.heap.size ≤ B) (h : StepPost Bv base (fun b => ok b ∧ b ≠ B) vs' f v W e w') : CallPost Bv base B ok vs' f v w e w' := by
  obtain ⟨a, n, c, b, m, d, e, h1, h2⟩ := step_then hx hT hB h
  exact ⟨a, n, c, b, m, d, e, h1, h2⟩

set_option maxHeartbeats 8000000 in
theorem play_1 (ok : Nat → Prop) (vs vs' : List (List Ent)) (f : Fd) (i : Nat) (hi : i < vs.length) (lim : Int) (ka ea : Option Addr) (kn kc en ec : Nat) (Bv base g cap : Nat) (w : World) (hx : Box Bv base ok vs w (.slice (some ⟨g, 0, none⟩) vs.length cap)) (hcap : vs.length ≤ cap) (a b : Option Addr) (n c m d : Nat)
    (g0 : w.cell? ⟨g, i * 2, none⟩ = some (.slice a n c)) (g1 : w.cell? ⟨g, i * 2 + 1, none⟩ = some (.slice b m d))
    (hc : ∀ W, PlayL w 1 i (.slice ka kn kc) (.slice ea en ec) lim W → Calls Try.prog 19 #[.pointer (some ⟨Bv, 0, none⟩), .agg #[.slice a n c, .slice b m d], .agg #[.slice ka kn kc, .slice ea en ec]] W fun e w' => CallPost Bv base (w.heap.size + 1) ok vs' f (.slice (some ⟨g, 0, none⟩) vs.length cap) w e w') :
    Calls Try.prog 13 #[.pointer (some ⟨Bv, 0, none⟩), .agg #[.int .i64 1, .int .i64 i, .slice ka kn kc, .slice ea en ec, .int .i64 lim]] w fun e w' => StepPost Bv base ok vs' f (.slice (some ⟨g, 0, none⟩) vs.length cap) w e w' := by
  have H0 := put_by (playL_new w 1 i (.slice ka kn kc) (.slice ea en ec) lim 45 50)
  have cX := put_by hc
  clear hc
  have cH : Hid (∀ W : World, Calls Try.prog 14 #[.slice (some ⟨g, 0, none⟩) vs.length cap, .int .i64 i] W fun e w' => e = .returned (.bool true) ∧ w' = W) := fun W => by
    have e : decide ((0 : Int) ≤ i ∧ (i : Int) < (vs.length : Int)) = true := decide_eq_true (by omega)
    have := has_any (some ⟨g, 0, none⟩) vs.length cap i W
    rw [e] at this
    exact this
  have hv := (hx.later H0.out.told.below).cell
  have hg : g < w.heap.size := World.block_lt_of_cell? _ _ g0
  have hBv : Bv < w.heap.size := World.block_lt_of_cell? _ _ hx.cell
  have z0 := (H0.out.told.below.cell (p := ⟨g, i * 2, none⟩) hg).trans g0
  have z1 := (H0.out.told.below.cell (p := ⟨g, i * 2 + 1, none⟩) hg).trans g1
  clear hx g0 g1
  have HT := put_by (And.intro hi hcap)
  have i1 : (i : Int) < (vs.length : Int) := by omega
  generalize hpost : (fun e w' => StepPost Bv base ok vs' f (.slice (some ⟨g, 0, none⟩) vs.length cap) w e w') = R
  have HR := put_by hpost
  clear hpost hi hcap
  obtain ⟨k, hk⟩ : ∃ k, k = vs.length := ⟨_, rfl⟩
  rw [← hk] at cH hv i1
  clear hk
  go_enter Try.func13, Try.ntmps13
  go_wp2
  obtain ⟨W2, hW2⟩ : ∃ W2, ((w.alloc (.cells #[.int .i64 1, .int .i64 i, .slice ka kn kc, .slice ea en ec, .int .i64 lim] 45)).alloc (.cells #[.int .i64 0, .int .i64 0, .slice none 0 0, .slice none 0 0] 50)) = W2 := ⟨_, rfl⟩
  rw [hW2] at H0 hv z0 z1 ⊢
  clear hW2
  have y1 := H0.out.c1
  go_region_held3 (fun V => V.cell? ⟨Bv, 0, none⟩ = some (.slice (some ⟨g, 0, none⟩) k cap) ∧ V.cell? ⟨w.heap.size, 1, none⟩ = some (.int .i64 i) ∧ V.cell? ⟨g, i * 2, none⟩ = some (.slice a n c) ∧ V.cell? ⟨g, i * 2 + 1, none⟩ = some (.slice b m d)) (go_keep) (first | (go_at_call 14; (with_reducible refine (cH.out _).mono ?_); rintro e w2 ⟨rfl, rfl⟩))
  have HL := put_by (H0.out.later (Below.refl _ W2).drew)
  have v3 : W2.drew.cell? ⟨Bv, 0, none⟩ = some (.slice (some ⟨g, 0, none⟩) k cap) := by simpa using hv
  have q0 : W2.drew.cell? ⟨g, i * 2, none⟩ = some (.slice a n c) := by simpa using z0
  have q1 : W2.drew.cell? ⟨g, i * 2 + 1, none⟩ = some (.slice b m d) := by simpa using z1
  generalize W2.drew = W3 at HL v3 q0 q1 ⊢
  clear hv z0 z1 y1 H0
  have y1 := HL.out.c1
  have hs3 := HL.out.told.below.size
  have hs4 : w.heap.size < W3.heap.size := World.block_lt_of_cell? _ _ y1
  have n1 : W3.heap.size ≠ Bv := by omega
  have n2 : W3.heap.size ≠ w.heap.size := by omega
  have n3 : W3.heap.size ≠ g := by omega
  have HC : Hid (PlayL w 1 i (.slice ka kn kc) (.slice ea en ec) lim (W3.alloc (.cells #[.slice a n c, .slice b m d] 53)).drew) := HL.out.later ((Below.refl _ W3).alloc (Nat.le_refl _) _).drew
  have HTW := put_by ((Two.new W3 (.slice a n c) (.slice b m d) 53).later (Below.refl _ _).drew)
  go_wp2
  go_region_held3 (fun V => V.cell? ⟨Bv, 0, none⟩ = some (.slice (some ⟨g, 0, none⟩) k cap) ∧ V.cell? ⟨w.heap.size, 1, none⟩ = some (.int .i64 i) ∧ V.cell? ⟨g, i * 2, none⟩ = some (.slice a n c) ∧ V.cell? ⟨g, i * 2 + 1, none⟩ = some (.slice b m d)) (go_keep) (fail)
  generalize (W3.alloc (.cells #[.slice a n c, .slice b m d] 53)).drew = W5 at HC HTW ⊢
  clear HL v3 q0 q1 y1 n1 n2 n3 hs3 hs4 cH
  obtain ⟨p0, p1, -, -⟩ := id HTW.out
  obtain ⟨-, d0, d1, d2, d3, d4⟩ := id HC.out
  go_wp2_with (first
    | (go_at_call 19; refine (cX.out _ HC.out).mono ?_; clear cX; rintro e w6 ⟨a', n', c', b', m', d', rfl, H6⟩; obtain ⟨c0, c1, c2, c3, f0, f1, f2, f3⟩ := id H6.out.1))
  obtain ⟨hQ, hA⟩ := H6.out.2 _ rfl
  generalize (((w6.setCell _ _).setCell _ _).setCell _ _).setCell _ _ = W9 at hQ hA ⊢
  refine bodyPost_ret (v := .agg #[.int .i64 f.code, .int .i64 f.ver, .slice a' n' c', .slice b' m' d']) (by simp [results, Try.results13, go_sem, asAddr, hQ.c0, hQ.c1, hQ.c2, hQ.c3]) rfl ?_
  rw [← HR.out]
  exact hA

set_option maxHeartbeats 8000000 in
theorem play_2 (ok : Nat → Prop) (vs vs' : List (List Ent)) (f : Fd) (i : Nat) (hi : i < vs.length) (lim : Int) (ka ea : Option Addr) (kn kc en ec : Nat) (Bv base g cap : Nat) (w : World) (hx : Box Bv base ok vs w (.slice (some ⟨g, 0, none⟩) vs.length cap)) (hcap : vs.length ≤ cap) (a b : Option Addr) (n c m d : Nat)
    (g0 : w.cell? ⟨g, i * 2, none⟩ = some (.slice a n c)) (g1 : w.cell? ⟨g, i * 2 + 1, none⟩ = some (.slice b m d))
    (hc : ∀ W, PlayL w 2 i (.slice ka kn kc) (.slice ea en ec) lim W → Calls Try.prog 20 #[.pointer (some ⟨Bv, 0, none⟩), .agg #[.slice a n c, .slice b m d], .slice ka kn kc] W fun e w' => CallPost Bv base (w.heap.size + 1) ok vs' f (.slice (some ⟨g, 0, none⟩) vs.length cap) w e w') :
    Calls Try.prog 13 #[.pointer (some ⟨Bv, 0, none⟩), .agg #[.int .i64 2, .int .i64 i, .slice ka kn kc, .slice ea en ec, .int .i64 lim]] w fun e w' => StepPost Bv base ok vs' f (.slice (some ⟨g, 0, none⟩) vs.length cap) w e w' := by
  have H0 := put_by (playL_new w 2 i (.slice ka kn kc) (.slice ea en ec) lim 45 50)
  have cX := put_by hc
  clear hc
  have cH : Hid (∀ W : World, Calls Try.prog 14 #[.slice (some ⟨g, 0, none⟩) vs.length cap, .int .i64 i] W fun e w' => e = .returned (.bool true) ∧ w' = W) := fun W => by
    have e : decide ((0 : Int) ≤ i ∧ (i : Int) < (vs.length : Int)) = true := decide_eq_true (by omega)
    have := has_any (some ⟨g, 0, none⟩) vs.length cap i W
    rw [e] at this
    exact this
  have hv := (hx.later H0.out.told.below).cell
  have hg : g < w.heap.size := World.block_lt_of_cell? _ _ g0
  have hBv : Bv < w.heap.size := World.block_lt_of_cell? _ _ hx.cell
  have z0 := (H0.out.told.below.cell (p := ⟨g, i * 2, none⟩) hg).trans g0
  have z1 := (H0.out.told.below.cell (p := ⟨g, i * 2 + 1, none⟩) hg).trans g1
  clear hx g0 g1
  have HT := put_by (And.intro hi hcap)
  have i1 : (i : Int) < (vs.length : Int) := by omega
  generalize hpost : (fun e w' => StepPost Bv base ok vs' f (.slice (some ⟨g, 0, none⟩) vs.length cap) w e w') = R
  have HR := put_by hpost
  clear hpost hi hcap
  obtain ⟨k, hk⟩ : ∃ k, k = vs.length := ⟨_, rfl⟩
  rw [← hk] at cH hv i1
  clear hk
  go_enter Try.func13, Try.ntmps13
  go_wp2
  obtain ⟨W2, hW2⟩ : ∃ W2, ((w.alloc (.cells #[.int .i64 2, .int .i64 i, .slice ka kn kc, .slice ea en ec, .int .i64 lim] 45)).alloc (.cells #[.int .i64 0, .int .i64 0, .slice none 0 0, .slice none 0 0] 50)) = W2 := ⟨_, rfl⟩
  rw [hW2] at H0 hv z0 z1 ⊢
  clear hW2
  have y1 := H0.out.c1
  go_region_held3 (fun V => V.cell? ⟨Bv, 0, none⟩ = some (.slice (some ⟨g, 0, none⟩) k cap) ∧ V.cell? ⟨w.heap.size, 1, none⟩ = some (.int .i64 i) ∧ V.cell? ⟨g, i * 2, none⟩ = some (.slice a n c) ∧ V.cell? ⟨g, i * 2 + 1, none⟩ = some (.slice b m d)) (go_keep) (first | (go_at_call 14; (with_reducible refine (cH.out _).mono ?_); rintro e w2 ⟨rfl, rfl⟩))
  have HL := put_by (H0.out.later (Below.refl _ W2).drew)
  have v3 : W2.drew.cell? ⟨Bv, 0, none⟩ = some (.slice (some ⟨g, 0, none⟩) k cap) := by simpa using hv
  have q0 : W2.drew.cell? ⟨g, i * 2, none⟩ = some (.slice a n c) := by simpa using z0
  have q1 : W2.drew.cell? ⟨g, i * 2 + 1, none⟩ = some (.slice b m d) := by simpa using z1
  generalize W2.drew = W3 at HL v3 q0 q1 ⊢
  clear hv z0 z1 y1 H0
  have y1 := HL.out.c1
  have hs3 := HL.out.told.below.size
  have hs4 : w.heap.size < W3.heap.size := World.block_lt_of_cell? _ _ y1
  have n1 : W3.heap.size ≠ Bv := by omega
  have n2 : W3.heap.size ≠ w.heap.size := by omega
  have n3 : W3.heap.size ≠ g := by omega
  have HC : Hid (PlayL w 2 i (.slice ka kn kc) (.slice ea en ec) lim (W3.alloc (.cells #[.slice a n c, .slice b m d] 53)).drew) := HL.out.later ((Below.refl _ W3).alloc (Nat.le_refl _) _).drew
  have HTW := put_by ((Two.new W3 (.slice a n c) (.slice b m d) 53).later (Below.refl _ _).drew)
  go_wp2
  go_region_held3 (fun V => V.cell? ⟨Bv, 0, none⟩ = some (.slice (some ⟨g, 0, none⟩) k cap) ∧ V.cell? ⟨w.heap.size, 1, none⟩ = some (.int .i64 i) ∧ V.cell? ⟨g, i * 2, none⟩ = some (.slice a n c) ∧ V.cell? ⟨g, i * 2 + 1, none⟩ = some (.slice b m d)) (go_keep) (fail)
  generalize (W3.alloc (.cells #[.slice a n c, .slice b m d] 53)).drew = W5 at HC HTW ⊢
  clear HL v3 q0 q1 y1 n1 n2 n3 hs3 hs4 cH
  obtain ⟨p0, p1, -, -⟩ := id HTW.out
  obtain ⟨-, d0, d1, d2, d3, d4⟩ := id HC.out
  go_wp2_with (first
    | (go_at_call 20; refine (cX.out _ HC.out).mono ?_; clear cX; rintro e w6 ⟨a', n', c', b', m', d', rfl, H6⟩; obtain ⟨c0, c1, c2, c3, f0, f1, f2, f3⟩ := id H6.out.1))
  obtain ⟨hQ, hA⟩ := H6.out.2 _ rfl
  generalize (((w6.setCell _ _).setCell _ _).setCell _ _).setCell _ _ = W9 at hQ hA ⊢
  refine bodyPost_ret (v := .agg #[.int .i64 f.code, .int .i64 f.ver, .slice a' n' c', .slice b' m' d']) (by simp [results, Try.results13, go_sem, asAddr, hQ.c0, hQ.c1, hQ.c2, hQ.c3]) rfl ?_
  rw [← HR.out]
  exact hA

set_option maxHeartbeats 8000000 in
theorem play_3 (ok : Nat → Prop) (vs vs' : List (List Ent)) (f : Fd) (i : Nat) (hi : i < vs.length) (lim : Int) (ka ea : Option Addr) (kn kc en ec : Nat) (Bv base g cap : Nat) (w : World) (hx : Box Bv base ok vs w (.slice (some ⟨g, 0, none⟩) vs.length cap)) (hcap : vs.length ≤ cap) (a b : Option Addr) (n c m d : Nat)
    (g0 : w.cell? ⟨g, i * 2, none⟩ = some (.slice a n c)) (g1 : w.cell? ⟨g, i * 2 + 1, none⟩ = some (.slice b m d))
    (hc : ∀ W, PlayL w 3 i (.slice ka kn kc) (.slice ea en ec) lim W → Calls Try.prog 21 #[.agg #[.slice a n c, .slice b m d], .slice ka kn kc] W fun e w' => CallPost Bv base (w.heap.size + 1) ok vs' f (.slice (some ⟨g, 0, none⟩) vs.length cap) w e w') :
    Calls Try.prog 13 #[.pointer (some ⟨Bv, 0, none⟩), .agg #[.int .i64 3, .int .i64 i, .slice ka kn kc, .slice ea en ec, .int .i64 lim]] w fun e w' => StepPost Bv base ok vs' f (.slice (some ⟨g, 0, none⟩) vs.length cap) w e w' := by
  have H0 := put_by (playL_new w 3 i (.slice ka kn kc) (.slice ea en ec) lim 45 50)
  have cX := put_by hc
  clear hc
  have cH : Hid (∀ W : World, Calls Try.prog 14 #[.slice (some ⟨g, 0, none⟩) vs.length cap, .int .i64 i] W fun e w' => e = .returned (.bool true) ∧ w' = W) := fun W => by
    have e : decide ((0 : Int) ≤ i ∧ (i : Int) < (vs.length : Int)) = true := decide_eq_true (by omega)
    have := has_any (some ⟨g, 0, none⟩) vs.length cap i W
    rw [e] at this
    exact this
  have hv := (hx.later H0.out.told.below).cell
  have hg : g < w.heap.size := World.block_lt_of_cell? _ _ g0
  have hBv : Bv < w.heap.size := World.block_lt_of_cell? _ _ hx.cell
  have z0 := (H0.out.told.below.cell (p := ⟨g, i * 2, none⟩) hg).trans g0
  have z1 := (H0.out.told.below.cell (p := ⟨g, i * 2 + 1, none⟩) hg).trans g1
  clear hx g0 g1
  have HT := put_by (And.intro hi hcap)
  have i1 : (i : Int) < (vs.length : Int) := by omega
  generalize hpost : (fun e w' => StepPost Bv base ok vs' f (.slice (some ⟨g, 0, none⟩) vs.length cap) w e w') = R
  have HR := put_by hpost
  clear hpost hi hcap
  obtain ⟨k, hk⟩ : ∃ k, k = vs.length := ⟨_, rfl⟩
  rw [← hk] at cH hv i1
  clear hk
  go_enter Try.func13, Try.ntmps13
  go_wp2
  obtain ⟨W2, hW2⟩ : ∃ W2, ((w.alloc (.cells #[.int .i64 3, .int .i64 i, .slice ka kn kc, .slice ea en ec, .int .i64 lim] 45)).alloc (.cells #[.int .i64 0, .int .i64 0, .slice none 0 0, .slice none 0 0] 50)) = W2 := ⟨_, rfl⟩
  rw [hW2] at H0 hv z0 z1 ⊢
  clear hW2
  have y1 := H0.out.c1
  go_region_held3 (fun V => V.cell? ⟨Bv, 0, none⟩ = some (.slice (some ⟨g, 0, none⟩) k cap) ∧ V.cell? ⟨w.heap.size, 1, none⟩ = some (.int .i64 i) ∧ V.cell? ⟨g, i * 2, none⟩ = some (.slice a n c) ∧ V.cell? ⟨g, i * 2 + 1, none⟩ = some (.slice b m d)) (go_keep) (first | (go_at_call 14; (with_reducible refine (cH.out _).mono ?_); rintro e w2 ⟨rfl, rfl⟩))
  have HL := put_by (H0.out.later (Below.refl _ W2).drew)
  have v3 : W2.drew.cell? ⟨Bv, 0, none⟩ = some (.slice (some ⟨g, 0, none⟩) k cap) := by simpa using hv
  have q0 : W2.drew.cell? ⟨g, i * 2, none⟩ = some (.slice a n c) := by simpa using z0
  have q1 : W2.drew.cell? ⟨g, i * 2 + 1, none⟩ = some (.slice b m d) := by simpa using z1
  generalize W2.drew = W3 at HL v3 q0 q1 ⊢
  clear hv z0 z1 y1 H0
  have y1 := HL.out.c1
  have hs3 := HL.out.told.below.size
  have hs4 : w.heap.size < W3.heap.size := World.block_lt_of_cell? _ _ y1
  have n1 : W3.heap.size ≠ Bv := by omega
  have n2 : W3.heap.size ≠ w.heap.size := by omega
  have n3 : W3.heap.size ≠ g := by omega
  have HC : Hid (PlayL w 3 i (.slice ka kn kc) (.slice ea en ec) lim (W3.alloc (.cells #[.slice a n c, .slice b m d] 53)).drew) := HL.out.later ((Below.refl _ W3).alloc (Nat.le_refl _) _).drew
  have HTW := put_by ((Two.new W3 (.slice a n c) (.slice b m d) 53).later (Below.refl _ _).drew)
  go_wp2
  go_region_held3 (fun V => V.cell? ⟨Bv, 0, none⟩ = some (.slice (some ⟨g, 0, none⟩) k cap) ∧ V.cell? ⟨w.heap.size, 1, none⟩ = some (.int .i64 i) ∧ V.cell? ⟨g, i * 2, none⟩ = some (.slice a n c) ∧ V.cell? ⟨g, i * 2 + 1, none⟩ = some (.slice b m d)) (go_keep) (fail)
  generalize (W3.alloc (.cells #[.slice a n c, .slice b m d] 53)).drew = W5 at HC HTW ⊢
  clear HL v3 q0 q1 y1 n1 n2 n3 hs3 hs4 cH
  obtain ⟨p0, p1, -, -⟩ := id HTW.out
  obtain ⟨-, d0, d1, d2, d3, d4⟩ := id HC.out
  go_wp2_with (first
    | (go_at_call 21; refine (cX.out _ HC.out).mono ?_; clear cX; rintro e w6 ⟨a', n', c', b', m', d', rfl, H6⟩; obtain ⟨c0, c1, c2, c3, f0, f1, f2, f3⟩ := id H6.out.1))
  obtain ⟨hQ, hA⟩ := H6.out.2 _ rfl
  generalize (((w6.setCell _ _).setCell _ _).setCell _ _).setCell _ _ = W9 at hQ hA ⊢
  refine bodyPost_ret (v := .agg #[.int .i64 f.code, .int .i64 f.ver, .slice a' n' c', .slice b' m' d']) (by simp [results, Try.results13, go_sem, asAddr, hQ.c0, hQ.c1, hQ.c2, hQ.c3]) rfl ?_
  rw [← HR.out]
  exact hA

set_option maxHeartbeats 8000000 in
theorem play_4 (ok : Nat → Prop) (vs vs' : List (List Ent)) (f : Fd) (i : Nat) (hi : i < vs.length) (lim : Int) (ka ea : Option Addr) (kn kc en ec : Nat) (Bv base g cap : Nat) (w : World) (hx : Box Bv base ok vs w (.slice (some ⟨g, 0, none⟩) vs.length cap)) (hcap : vs.length ≤ cap) (a b : Option Addr) (n c m d : Nat)
    (g0 : w.cell? ⟨g, i * 2, none⟩ = some (.slice a n c)) (g1 : w.cell? ⟨g, i * 2 + 1, none⟩ = some (.slice b m d))
    (hc : ∀ W, PlayL w 4 i (.slice ka kn kc) (.slice ea en ec) lim W → Calls Try.prog 22 #[.agg #[.slice a n c, .slice b m d], .agg #[.slice ka kn kc, .slice ea en ec], .int .i64 lim] W fun e w' => CallPost Bv base (w.heap.size + 1) ok vs' f (.slice (some ⟨g, 0, none⟩) vs.length cap) w e w') :
    Calls Try.prog 13 #[.pointer (some ⟨Bv, 0, none⟩), .agg #[.int .i64 4, .int .i64 i, .slice ka kn kc, .slice ea en ec, .int .i64 lim]] w fun e w' => StepPost Bv base ok vs' f (.slice (some ⟨g, 0, none⟩) vs.length cap) w e w' := by
  have H0 := put_by (playL_new w 4 i (.slice ka kn kc) (.slice ea en ec) lim 45 50)
  have cX := put_by hc
  clear hc
  have cH : Hid (∀ W : World, Calls Try.prog 14 #[.slice (some ⟨g, 0, none⟩) vs.length cap, .int .i64 i] W fun e w' => e = .returned (.bool true) ∧ w' = W) := fun W => by
    have e : decide ((0 : Int) ≤ i ∧ (i : Int) < (vs.length : Int)) = true := decide_eq_true (by omega)
    have := has_any (some ⟨g, 0, none⟩) vs.length cap i W
    rw [e] at this
    exact this
  have hv := (hx.later H0.out.told.below).cell
  have hg : g < w.heap.size := World.block_lt_of_cell? _ _ g0
  have hBv : Bv < w.heap.size := World.block_lt_of_cell? _ _ hx.cell
  have z0 := (H0.out.told.below.cell (p := ⟨g, i * 2, none⟩) hg).trans g0
  have z1 := (H0.out.told.below.cell (p := ⟨g, i * 2 + 1, none⟩) hg).trans g1
  clear hx g0 g1
  have HT := put_by (And.intro hi hcap)
  have i1 : (i : Int) < (vs.length : Int) := by omega
  generalize hpost : (fun e w' => StepPost Bv base ok vs' f (.slice (some ⟨g, 0, none⟩) vs.length cap) w e w') = R
  have HR := put_by hpost
  clear hpost hi hcap
  obtain ⟨k, hk⟩ : ∃ k, k = vs.length := ⟨_, rfl⟩
  rw [← hk] at cH hv i1
  clear hk
  go_enter Try.func13, Try.ntmps13
  go_wp2
  obtain ⟨W2, hW2⟩ : ∃ W2, ((w.alloc (.cells #[.int .i64 4, .int .i64 i, .slice ka kn kc, .slice ea en ec, .int .i64 lim] 45)).alloc (.cells #[.int .i64 0, .int .i64 0, .slice none 0 0, .slice none 0 0] 50)) = W2 := ⟨_, rfl⟩
  rw [hW2] at H0 hv z0 z1 ⊢
  clear hW2
  have y1 := H0.out.c1
  go_region_held3 (fun V => V.cell? ⟨Bv, 0, none⟩ = some (.slice (some ⟨g, 0, none⟩) k cap) ∧ V.cell? ⟨w.heap.size, 1, none⟩ = some (.int .i64 i) ∧ V.cell? ⟨g, i * 2, none⟩ = some (.slice a n c) ∧ V.cell? ⟨g, i * 2 + 1, none⟩ = some (.slice b m d)) (go_keep) (first | (go_at_call 14; (with_reducible refine (cH.out _).mono ?_); rintro e w2 ⟨rfl, rfl⟩))
  have HL := put_by (H0.out.later (Below.refl _ W2).drew)
  have v3 : W2.drew.cell? ⟨Bv, 0, none⟩ = some (.slice (some ⟨g, 0, none⟩) k cap) := by simpa using hv
  have q0 : W2.drew.cell? ⟨g, i * 2, none⟩ = some (.slice a n c) := by simpa using z0
  have q1 : W2.drew.cell? ⟨g, i * 2 + 1, none⟩ = some (.slice b m d) := by simpa using z1
  generalize W2.drew = W3 at HL v3 q0 q1 ⊢
  clear hv z0 z1 y1 H0
  have y1 := HL.out.c1
  have hs3 := HL.out.told.below.size
  have hs4 : w.heap.size < W3.heap.size := World.block_lt_of_cell? _ _ y1
  have n1 : W3.heap.size ≠ Bv := by omega
  have n2 : W3.heap.size ≠ w.heap.size := by omega
  have n3 : W3.heap.size ≠ g := by omega
  have HC : Hid (PlayL w 4 i (.slice ka kn kc) (.slice ea en ec) lim (W3.alloc (.cells #[.slice a n c, .slice b m d] 53)).drew) := HL.out.later ((Below.refl _ W3).alloc (Nat.le_refl _) _).drew
  have HTW := put_by ((Two.new W3 (.slice a n c) (.slice b m d) 53).later (Below.refl _ _).drew)
  go_wp2
  go_region_held3 (fun V => V.cell? ⟨Bv, 0, none⟩ = some (.slice (some ⟨g, 0, none⟩) k cap) ∧ V.cell? ⟨w.heap.size, 1, none⟩ = some (.int .i64 i) ∧ V.cell? ⟨g, i * 2, none⟩ = some (.slice a n c) ∧ V.cell? ⟨g, i * 2 + 1, none⟩ = some (.slice b m d)) (go_keep) (fail)
  generalize (W3.alloc (.cells #[.slice a n c, .slice b m d] 53)).drew = W5 at HC HTW ⊢
  clear HL v3 q0 q1 y1 n1 n2 n3 hs3 hs4 cH
  obtain ⟨p0, p1, -, -⟩ := id HTW.out
  obtain ⟨-, d0, d1, d2, d3, d4⟩ := id HC.out
  go_wp2_with (first
    | (go_at_call 22; refine (cX.out _ HC.out).mono ?_; clear cX; rintro e w6 ⟨a', n', c', b', m', d', rfl, H6⟩; obtain ⟨c0, c1, c2, c3, f0, f1, f2, f3⟩ := id H6.out.1))
  obtain ⟨hQ, hA⟩ := H6.out.2 _ rfl
  generalize (((w6.setCell _ _).setCell _ _).setCell _ _).setCell _ _ = W9 at hQ hA ⊢
  refine bodyPost_ret (v := .agg #[.int .i64 f.code, .int .i64 f.ver, .slice a' n' c', .slice b' m' d']) (by simp [results, Try.results13, go_sem, asAddr, hQ.c0, hQ.c1, hQ.c2, hQ.c3]) rfl ?_
  rw [← HR.out]
  exact hA

end Go.Proofs.Ytcegkgobkpakiaa

/- One deed, whichever it is. -/
namespace Go.Proofs.Ytcegkgobkpakiaa
open Go.ChangeShapes Go.WideShapes Go.ChangeAt Go.RowKit

set_option maxHeartbeats 2000000 in
theorem play_there (ok : Nat → Prop) (vs : List (List Ent)) (d : Dd) (hk : d.kind = 1 ∨ d.kind = 2 ∨ d.kind = 3 ∨ d.kind = 4) (i : Nat) (hver : d.ver = i) (hi : i < vs.length) (ka ea : Option Addr) (kc ec : Nat) (Bv base : Nat) (va : Option Addr) (vc : Nat) (w : World)
    (hx : Box Bv base ok vs w (.slice va vs.length vc)) (hok : Fresh ok w) (hfew : vs.length ≤ 90000) (hlens : ∀ l ∈ vs, l.length ≤ 90000)
    (hkey : IsBody w (fun b => ok b ∧ (Value.slice va vs.length vc).ownBlock ≠ some b) (.slice ka d.key.length kc) d.key) (hval : IsBody w (fun b => ok b ∧ (Value.slice va vs.length vc).ownBlock ≠ some b) (.slice ea d.val.length ec) d.val) :
    Calls Try.prog 13 #[.pointer (some ⟨Bv, 0, none⟩), .agg #[.int .i64 d.kind, .int .i64 d.ver, .slice ka d.key.length kc, .slice ea d.val.length ec, .int .i64 d.lim]] w fun e w' => StepPost Bv base ok (deedK vs d).2 (deedK vs d).1 (.slice va vs.length vc) w e w' := by
  obtain ⟨g, cap, p, q, ev, hcap, hrel, hp, hq, hg⟩ := rows_at hx.rows hi
  cases ev
  obtain ⟨h, t, hr, hd, hfl⟩ := id hrel
  obtain ⟨a, n, c, b, m, d', e⟩ := nd_form hr
  simp only [List.cons.injEq, and_true] at e
  obtain ⟨rfl, rfl⟩ := e
  have hnow : vs.getD d.ver.toNat [] = vs[i] := by
    rw [hver, Int.toNat_natCast, List.getD_eq_getElem?_getD, List.getElem?_eq_getElem hi]
    rfl
  obtain ⟨l, hl⟩ : ∃ l, l = vs[i] := ⟨_, rfl⟩
  have hll : l.length ≤ 90000 := by rw [hl]; exact hlens _ (List.getElem_mem hi)
  rw [← hl] at hnow hrel hfl
  -- what the calls are given
  have hok2 : ∀ W, Told w (w.heap.size + 1) W → Box Bv base (fun b => ok b ∧ b ≠ w.heap.size + 1) vs W (.slice (some ⟨g, 0, none⟩) vs.length vc) := fun W hT => (hx.turned (ok2 := fun b => ok b ∧ b ≠ w.heap.size + 1) (fun b hb ho => ⟨ho, by omega⟩) (fun q => hx.not q.1)).later hT.below
  have hfr : ∀ W, Told w (w.heap.size + 1) W → Fresh (fun b => ok b ∧ b ≠ w.heap.size + 1) W := fun W hT b hb => by
    have := World.block_lt_of_cell? _ _ hT.quad.c0
    simp only at this
    have := hT.below.size
    exact ⟨hok b (by omega), by omega⟩
  have hnar : ∀ b, b < w.heap.size → (ok b ∧ (Value.slice (some ⟨g, 0, none⟩) vs.length vc).ownBlock ≠ some b) → ((ok b ∧ b ≠ w.heap.size + 1) ∧ (Value.slice (some ⟨g, 0, none⟩) vs.length vc).ownBlock ≠ some b) := fun b hb ho => ⟨⟨ho.1, by omega⟩, ho.2⟩
  have hrel2 : ∀ W, Told w (w.heap.size + 1) W → kVer.rel (fun b => (ok b ∧ b ≠ w.heap.size + 1) ∧ (Value.slice (some ⟨g, 0, none⟩) vs.length vc).ownBlock ≠ some b) W l [.slice a n c, .slice b m d'] := fun W hT => kVer.move (Kept.of_below hT.below) hnar hrel
  have hkO : Octs w ka kc d.key := by
    obtain ⟨a9, c9, e9, o9, -⟩ := id hkey
    simp only [Value.slice.injEq, true_and] at e9
    rw [e9.1, e9.2]
    exact o9
  have hvO : Octs w ea ec d.val := by
    obtain ⟨a9, c9, e9, o9, -⟩ := id hval
    simp only [Value.slice.injEq, true_and] at e9
    rw [e9.1, e9.2]
    exact o9
  rw [hver]
  rcases hk with hk | hk | hk | hk
  · rw [hk]
    refine play_1 ok vs _ _ i hi d.lim ka ea d.key.length kc d.val.length ec Bv base g vc w hx hcap a b n c m d' hp hq (fun W hW => ?_)
    by_cases hbad : d.key.length < 1 ∨ 1200 < d.key.length ∨ 4000 < d.val.length
    · have e : deedK vs d = (⟨1, 0, [], []⟩, vs) := by simp only [deedK]; rw [if_pos hk, if_pos hbad]
      rw [e]
      exact (put_bad _ a b n c m d' ka ea _ kc _ ec hbad W).mono fun e w' hh => call_post hx hW.told (Nat.le_succ _) (step_kept (hok2 W hW.told) hh)
    · have e : deedK vs d = (⟨0, vs.length, [], []⟩, vs ++ [putK l (d.key, d.val)]) := by simp only [deedK, hk, hbad, if_true, if_false, hnow]
      rw [e]
      exact (put_any _ vs l (d.key, d.val) (by simp only; omega) (by simp only; omega) (by simp only; omega) a b n c m d' ka ea kc ec Bv base _ vc W (hok2 W hW.told) (hfr W hW.told) hfew (hrel2 W hW.told) (hkey.move (Kept.of_below hW.told.below) hnar) (hval.move (Kept.of_below hW.told.below) hnar)).mono fun e w' hh => call_post hx hW.told (Nat.le_succ _) (step_add hh)
  · rw [hk]
    refine play_2 ok vs _ _ i hi d.lim ka ea d.key.length kc d.val.length ec Bv base g vc w hx hcap a b n c m d' hp hq (fun W hW => ?_)
    have hh := hasK_look d.key l
    cases hlk : lookK l d.key with
    | none =>
      rw [hlk] at hh
      have e : deedK vs d = (⟨6, 0, [], []⟩, vs) := by simp only [deedK, hnow]; rw [if_neg (by omega), if_pos hk, if_neg (by rw [hh]; simp)]
      rw [e]
      exact (drop_bad _ _ h t hd.q d.key (by rw [hfl]; exact hlk) a b n c m d' ka kc W ((kNd h).move (Kept.of_below hW.told.below) (fun _ _ q => q) hr) (hkO.later hW.told.below)).mono fun e w' hh => call_post hx hW.told (Nat.le_succ _) (step_kept (hok2 W hW.told) hh)
    | some val =>
      rw [hlk] at hh
      have e : deedK vs d = (⟨0, vs.length, [], []⟩, vs ++ [dropK l d.key]) := by simp only [deedK, hnow]; rw [if_neg (by omega), if_pos hk, if_pos (by rw [hh]; rfl)]
      rw [e]
      exact (drop_any _ vs l d.key val hlk hh a b n c m d' ka kc Bv base _ vc W (hok2 W hW.told) (hfr W hW.told) hfew (hrel2 W hW.told) (hkO.later hW.told.below)).mono fun e w' hh => call_post hx hW.told (Nat.le_succ _) (step_add hh)
  · rw [hk]
    refine play_3 ok vs _ _ i hi d.lim ka ea d.key.length kc d.val.length ec Bv base g vc w hx hcap a b n c m d' hp hq (fun W hW => ?_)
    have e : deedK vs d = (lookF l d.key, vs) := by
      simp only [deedK, hnow, lookF]
      rw [if_neg (by omega), if_neg (by omega), if_pos hk]
      cases lookK l d.key <;> rfl
    rw [e]
    have := look_any _ h t hd.q a b n c m d' ka kc d.key W ((kNd h).move (Kept.of_below hW.told.below) (fun _ _ q => q) hr) (hkO.later hW.told.below)
    rw [hfl] at this
    exact this.mono fun e w' hh => call_post hx hW.told (Nat.le_succ _) (step_kept (hok2 W hW.told) hh)
  · rw [hk]
    refine play_4 ok vs _ _ i hi d.lim ka ea d.key.length kc d.val.length ec Bv base g vc w hx hcap a b n c m d' hp hq (fun W hW => ?_)
    by_cases hlim : d.lim < 0
    · have e : deedK vs d = (⟨2, 0, [], []⟩, vs) := by simp only [deedK]; rw [if_neg (by omega), if_neg (by omega), if_neg (by omega), if_pos hlim]
      rw [e]
      exact (scan_bad a b n c m d' ka ea _ kc _ ec d.lim hlim W).mono fun e w' hh => call_post hx hW.told (Nat.le_succ _) (step_kept (hok2 W hW.told) hh)
    · have e : deedK vs d = (⟨0, 0, [], scanK l d.key d.val d.lim.toNat⟩, vs) := by simp only [deedK, hnow]; rw [if_neg (by omega), if_neg (by omega), if_neg (by omega), if_neg hlim]
      rw [e]
      have := scan_fd _ h t hd.q (by rw [hfl]; exact hll) a b n c m d' d.key d.val ka ea kc ec d.lim (by omega) W ((kNd h).move (Kept.of_below hW.told.below) (fun _ _ q => q) hr) (hkO.later hW.told.below) (hvO.later hW.told.below)
      rw [hfl] at this
      exact this.mono fun e w' hh => call_post hx hW.told (Nat.le_succ _) (step_kept (hok2 W hW.told) hh)

theorem play_any (ok : Nat → Prop) (vs : List (List Ent)) (d : Dd) (ka ea : Option Addr) (kc ec : Nat) (Bv base : Nat) (va : Option Addr) (vc : Nat) (w : World)
    (hx : Box Bv base ok vs w (.slice va vs.length vc)) (hok : Fresh ok w) (hfew : vs.length ≤ 90000) (hlens : ∀ l ∈ vs, l.length ≤ 90000)
    (hkey : IsBody w (fun b => ok b ∧ (Value.slice va vs.length vc).ownBlock ≠ some b) (.slice ka d.key.length kc) d.key) (hval : IsBody w (fun b => ok b ∧ (Value.slice va vs.length vc).ownBlock ≠ some b) (.slice ea d.val.length ec) d.val) :
    Calls Try.prog 13 #[.pointer (some ⟨Bv, 0, none⟩), .agg #[.int .i64 d.kind, .int .i64 d.ver, .slice ka d.key.length kc, .slice ea d.val.length ec, .int .i64 d.lim]] w fun e w' => StepPost Bv base ok (stepK vs d).2 (stepK vs d).1 (.slice va vs.length vc) w e w' := by
  by_cases hk : d.kind ≠ 1 ∧ d.kind ≠ 2 ∧ d.kind ≠ 3 ∧ d.kind ≠ 4
  · have e : stepK vs d = (⟨3, 0, [], []⟩, vs) := by rw [stepK, if_pos hk]
    rw [e]
    exact play_kind ok vs d.kind d.ver d.lim (by omega) ka ea _ kc _ ec Bv base _ w hx
  · by_cases hv : d.ver < 0 ∨ (vs.length : Int) ≤ d.ver
    · have e : stepK vs d = (⟨2, 0, [], []⟩, vs) := by rw [stepK, if_neg hk, if_pos hv]
      rw [e]
      exact play_ver ok vs d.kind d.ver d.lim (by omega) (by omega) hv ka ea _ kc _ ec Bv base va vc w hx
    · have e : stepK vs d = deedK vs d := by rw [stepK, if_neg hk, if_neg hv]
      rw [e]
      exact play_there ok vs d (by omega) d.ver.toNat (by omega) (by omega) ka ea kc ec Bv base va vc w hx hok hfew hlens hkey hval

end Go.Proofs.Ytcegkgobkpakiaa

/- What stands between two deeds. -/
namespace Go.Proofs.Ytcegkgobkpakiaa
open Go.ChangeShapes Go.WideShapes Go.ChangeAt Go.RowKit

theorem eltF : Elt 46 50 4 64 := ⟨Try.underlying46, by
  obtain ⟨i0, hi, hz0, hz1, hz2⟩ := info_parts (show (Try.prog.info? 50).map (fun i => (i.zero, i.size, i.bytes)) = some (some (.agg #[.int .i64 0, .int .i64 0, .slice none 0 0, .slice none 0 0]), 4, 64) by kernel_rfl)
  exact ⟨i0, _, hi, hz0, hz1, hz2, rfl⟩, by decide⟩

/-- between two deeds: the versions in the variable Bv, what the deeds came to in f, all else as it was -/
structure PlayI (w : World) (Bv : Nat) (vs : List (List Ent)) (fs : List Fd) (f v : Value) (W : World) : Prop where
  box : Box Bv w.heap.size (fun b => b ≠ Bv ∧ f.ownBlock ≠ some b) vs W v
  fds : Rows kFd (fun b => b ≠ Bv ∧ v.ownBlock ≠ some b) W w.heap.size 50 f fs
  apart : ∀ g, v.ownBlock = some g → f.ownBlock ≠ some g
  fB : f.ownBlock ≠ some Bv
  below : Below w.heap.size w W
  bv : w.heap.size ≤ Bv

theorem PlayI.later {w W W' : World} {Bv : Nat} {vs : List (List Ent)} {fs : List Fd} {f v : Value} (h : PlayI w Bv vs fs f v W) (hb : Below W.heap.size W W') : PlayI w Bv vs fs f v W' :=
  ⟨h.box.later hb, h.fds.later hb, h.apart, h.fB, h.below.trans (hb.mono h.below.size), h.bv⟩

/-- a deed is done -/
theorem PlayI.step {w W w2 : World} {Bv : Nat} {vs vs' : List (List Ent)} {fs : List Fd} {fd : Fd} {f v : Value} {e : Ending} (h : PlayI w Bv vs fs f v W) (hs : StepPost Bv w.heap.size (fun b => b ≠ Bv ∧ f.ownBlock ≠ some b) vs' fd v W e w2) :
    ∃ (v' : Value) (a : Option Addr) (n c : Nat) (b : Option Addr) (m d : Nat), e = .returned (.agg #[.int .i64 fd.code, .int .i64 fd.ver, .slice a n c, .slice b m d]) ∧ PlayI w Bv vs' fs f v' w2 ∧ kFd.rel (fun b => (b ≠ Bv ∧ v'.ownBlock ≠ some b) ∧ f.ownBlock ≠ some b) w2 fd [.int .i64 fd.code, .int .i64 fd.ver, .slice a n c, .slice b m d] := by
  obtain ⟨v', ⟨a, n, c, b, m, d, rfl, hf⟩, h1, h2, h3⟩ := hs
  have hBv : Bv < W.heap.size := World.block_lt_of_cell? _ _ h.box.cell
  have hfl : ∀ g, f.ownBlock = some g → w.heap.size ≤ g ∧ g < W.heap.size := rows_lt h.fds
  have hvl : ∀ g, v.ownBlock = some g → w.heap.size ≤ g ∧ g < W.heap.size := rows_lt h.box.rows
  refine ⟨v', a, n, c, b, m, d, rfl, ⟨h1, ?_, fun g e1 e2 => ?_, h.fB, ⟨h2.os.trans h.below.os, h2.tape.trans h.below.tape, h2.output.trans h.below.output, Nat.le_trans h.below.size h2.size, fun b hb => ?_⟩, h.bv⟩, kFd.move (Kept.of_below (Below.refl _ _)) (fun b _ ho => ⟨⟨fun e => by omega, ho.2⟩, fun e => by have := (hfl b e).2; omega⟩) hf⟩
  · have r1 : Rows kFd (fun b => (b ≠ Bv ∧ v'.ownBlock ≠ some b) ∧ v.ownBlock ≠ some b) W w.heap.size 50 f fs := h.fds.turned (fun b hb ho => ⟨⟨ho.1, fun e => ho.2 (h3 b e hb)⟩, ho.2⟩)
    have r2 := r1.move (w' := w2) ⟨h2.size, fun b hb ho => h2.block b hb ho.1.1 ho.2⟩ (fun g hg => h2.block g (hfl g hg).2 (fun e => h.fB (by rw [hg, e])) (fun e => h.apart g e hg))
    exact r2.turned (fun b _ ho => ho.1)
  · exact h.apart g (h3 g e1 (hfl g e2).2) e2
  · have hbw := h.below.size
    exact (h2.block b (by omega) (by have := h.bv; omega) (fun e => by have := (hvl b e).1; omega)).trans (h.below.block b hb)

/-- and what it came to is written down -/
theorem PlayI.told {w w2 w5 : World} {Bv : Nat} {vs : List (List Ent)} {fs fs' : List Fd} {f f' v : Value} (h : PlayI w Bv vs fs f v w2) (q1 : Rows kFd (fun b => b ≠ Bv ∧ v.ownBlock ≠ some b) w5 w.heap.size 50 f' fs') (q2 : w2.grownBy w5 f.ownBlock) (q3 : f'.ownBlock = f.ownBlock ∨ f'.ownBlock = some (w2.heap.size + 1)) : PlayI w Bv vs fs' f' v w5 := by
  have hBv : Bv < w2.heap.size := World.block_lt_of_cell? _ _ h.box.cell
  have hfl : ∀ g, f.ownBlock = some g → w.heap.size ≤ g ∧ g < w2.heap.size := rows_lt h.fds
  have hvl : ∀ g, v.ownBlock = some g → w.heap.size ≤ g ∧ g < w2.heap.size := rows_lt h.box.rows
  have hf' : ∀ b, b < w2.heap.size → f.ownBlock ≠ some b → f'.ownBlock ≠ some b := fun b hb hne e => by
    rcases q3 with q | q
    · exact hne (by rw [← q, e])
    · rw [q] at e
      have := Option.some.inj e
      omega
  have hB5 : w5.heap[Bv]? = w2.heap[Bv]? := q2.block Bv hBv (fun e => h.fB e.symm)
  have r1 : Rows kVer (fun b => (b ≠ Bv ∧ f'.ownBlock ≠ some b) ∧ f.ownBlock ≠ some b) w2 w.heap.size 53 v vs := h.box.rows.turned (fun b hb ho => ⟨⟨ho.1, hf' b hb ho.2⟩, ho.2⟩)
  have r2 := r1.move (w' := w5) (Kept.of_grown q2 (fun b ho => ho.2)) (fun g hg => q2.block g (hvl g hg).2 (fun e => h.apart g hg e.symm))
  refine ⟨⟨(World.cell?_of_block (w := w2) hB5).trans h.box.cell, (World.frozen?_of_block (w := w2) hB5).trans h.box.fr, r2.turned (fun b _ ho => ho.1), h.box.apart, Nat.le_trans h.box.low q2.size, fun q => q.1 rfl⟩, q1, fun g hg => hf' g (hvl g hg).2 (h.apart g hg), hf' Bv hBv h.fB, below_grown h.below h.below.size q2 (fun r e => (hfl r e).1), h.bv⟩

end Go.Proofs.Ytcegkgobkpakiaa

/- All deeds, one by one. -/
namespace Go.Proofs.Ytcegkgobkpakiaa
open Go.ChangeShapes Go.WideShapes Go.ChangeAt Go.RowKit

/-- a deed -/
def kDd : Kd Dd 5 where
  rel ok w d cs := ∃ u v, cs = [.int .i64 d.kind, .int .i64 d.ver, u, v, .int .i64 d.lim] ∧ IsBody w ok u d.key ∧ IsBody w ok v d.val
  move hk hok _ _ := by
    rintro ⟨u, v, rfl, h1, h2⟩
    exact ⟨u, v, rfl, h1.move hk hok, h2.move hk hok⟩
  len := by
    rintro _ _ _ _ ⟨u, v, rfl, _, _⟩
    rfl
  one := by
    rintro _ _ _ _ ⟨u, v, rfl, ⟨_, _, rfl, _⟩, ⟨_, _, rfl, _⟩⟩ x hx
    simp only [List.mem_cons, List.not_mem_nil, or_false] at hx
    rcases hx with rfl | rfl | rfl | rfl | rfl <;> rfl

theorem stepK_many (vs : List (List Ent)) (d : Dd) : (stepK vs d).2.length ≤ vs.length + 1 := by
  unfold stepK
  split
  · simp
  · split
    · simp
    · unfold deedK
      simp only
      split
      · split <;> simp
      · split
        · split <;> simp
        · split
          · split <;> simp
          · split <;> simp

theorem playK_many : ∀ (ds : List Dd) (vs : List (List Ent)), (playK vs ds).2.length ≤ vs.length + ds.length
  | [], _ => Nat.le_refl _
  | d :: ds, vs => by
    have h1 := playK_many ds (stepK vs d).2
    have h2 := stepK_many vs d
    simp only [playK, List.length_cons]
    omega

/-- ahead of the first deed -/
theorem playI_new (w : World) (t1 : TypeId) : PlayI w (w.heap.size + 1) [[]] [] (.slice none 0 0) (.slice (some ⟨w.heap.size, 0, none⟩) 1 1) ((w.alloc (.cells #[.slice none 0 0, .slice none 0 0] 53)).alloc (.cells #[.slice (some ⟨w.heap.size, 0, none⟩) 1 1] t1)) := by
  have hb : Below w.heap.size w (w.alloc (.cells #[.slice none 0 0, .slice none 0 0] 53)) := (Below.refl _ w).alloc (Nat.le_refl _) _
  have h0 : ((w.alloc (.cells #[.slice none 0 0, .slice none 0 0] 53)).alloc (.cells #[.slice (some ⟨w.heap.size, 0, none⟩) 1 1] t1)).heap[w.heap.size]? = some (.cells #[.slice none 0 0, .slice none 0 0] 53) := (Below.heap_alloc _ _ _ (by simp)).trans (heap_alloc_new w _)
  have h1 := heap_new (w.alloc (.cells #[.slice none 0 0, .slice none 0 0] 53)) (w.heap.size + 1) (.cells #[.slice (some ⟨w.heap.size, 0, none⟩) 1 1] t1) (by simp)
  have hb2 := hb.alloc (by simp) (.cells #[.slice (some ⟨w.heap.size, 0, none⟩) 1 1] t1)
  generalize (w.alloc (.cells #[.slice none 0 0, .slice none 0 0] 53)).alloc (.cells #[.slice (some ⟨w.heap.size, 0, none⟩) 1 1] t1) = W at h0 h1 hb2 ⊢
  refine ⟨⟨by simp [World.cell?, h1], by simp [World.frozen?, h1], ⟨[[.slice none 0 0, .slice none 0 0]], ⟨rfl, .inr ⟨w.heap.size, 1, _, rfl, Nat.le_refl _, h0, Nat.le_refl _, by decide, rfl, rfl⟩⟩, ⟨vers_none, trivial⟩⟩, (fun e => by have : w.heap.size = w.heap.size + 1 := Option.some.inj e; omega), hb2.size, fun q => q.1 rfl⟩, Rows.nil _ _ _ _ _, (fun _ _ e => by cases e), (fun e => by cases e), hb2, Nat.le_succ _⟩

/-- what all deeds come to -/
def PlayedPost (w : World) (ds : List Dd) (e : Ending) (w' : World) : Prop :=
  ∃ (a : Option Addr) (n c : Nat), e = .returned (.tuple #[.slice a n c, .int .i64 0]) ∧ n = ds.length ∧ Lies kFd (fun _ => True) w' a c (playK [[]] ds).1 ∧ Ples a c ∧ Below w.heap.size w w'

set_option maxHeartbeats 8000000 in
theorem Play_any (ok : Nat → Prop) (ds : List Dd) (hds : ds.length ≤ 400) (da : Option Addr) (dc : Nat) (w : World) (hL : Lies kDd ok w da dc ds) :
    Calls Try.prog 12 #[.slice da ds.length dc] w fun e w' => PlayedPost w ds e w' := by
  obtain ⟨n, hn⟩ : ∃ n, n = ds.length := ⟨_, rfl⟩
  rw [← hn]
  have hn4 : (n : Int) ≤ 400 := by omega
  have HL := put_by hL
  have HN := put_by hn
  have H0 := put_by (playI_new w 54)
  clear hL hn hds
  go_enter Try.func12, Try.ntmps12
  go_wp2
  generalize (w.alloc (.cells #[.slice none 0 0, .slice none 0 0] 53)).alloc (.cells #[.slice (some ⟨w.heap.size, 0, none⟩) 1 1] 54) = W0 at H0 ⊢
  go_loopw [5, 15] (fun s i wr => ∃ (k : Nat) (a : Option Addr) (c : Nat), k ≤ n ∧ i = .int .i64 k ∧ s = .slice a k c ∧ Hid (∃ v, PlayI w (w.heap.size + 1) (playK [[]] (ds.take k)).2 (playK [[]] (ds.take k)).1 (.slice a k c) v wr)) (fun _ i _ => n - (intOf i).toNat)
  case atStart => exact ⟨0, none, 0, Nat.zero_le _, rfl, rfl, _, H0.out⟩
  case round =>
    obtain ⟨k, a, c, hk, rfl, rfl, HR⟩ := hrel
    by_cases hlt : k < n
    · have hx : k < ds.length := by rw [← HN.out]; exact hlt
      obtain ⟨b4, off, rfl, hb4, _, cs, ⟨u, v, rfl, hu, hv⟩, hc⟩ := HL.out.at hx
      obtain ⟨ka, kc, rfl, -, -⟩ := id hu
      obtain ⟨ea, ec, rfl, -, -⟩ := id hv
      obtain ⟨vv, hI⟩ := HR.out
      obtain ⟨va, vc, rfl⟩ := rows_form hI.box.rows
      have hcell : ∀ j x, [Value.int .i64 (ds[k]).kind, .int .i64 (ds[k]).ver, .slice ka (ds[k]).key.length kc, .slice ea (ds[k]).val.length ec, .int .i64 (ds[k]).lim][j]? = some x → wr.cell? ⟨b4, off + k * 5 + j, none⟩ = some x := fun j x hj => (hI.below.cell (p := ⟨b4, off + k * 5 + j, none⟩) hb4).trans (hc j x hj)
      have d0 := hcell 0 _ rfl
      have d1 := hcell 1 _ rfl
      have d2 := hcell 2 _ rfl
      have d3 := hcell 3 _ rfl
      have d4 := hcell 4 _ rfl
      simp only [Nat.add_zero] at d0
      have hsn : ds.take (k + 1) = ds.take k ++ [ds[k]] := List.take_succ_eq_append_getElem hx
      have htl : (ds.take k).length = k := by rw [List.length_take]; omega
      have hfk : (playK [[]] (ds.take k)).1.length = k := by rw [playK_length, htl]
      have hbd : Below wr.heap.size wr (wr.alloc (.cells #[.int .i64 (ds[k]).kind, .int .i64 (ds[k]).ver, .slice ka (ds[k]).key.length kc, .slice ea (ds[k]).val.length ec, .int .i64 (ds[k]).lim] 45)) := (Below.refl _ wr).alloc (Nat.le_refl _) _
      have hI1 := hI.later hbd
      have hk4 : k < 400 := by omega
      have cP : Hid (Calls Try.prog 13 #[.pointer (some ⟨w.heap.size + 1, 0, none⟩), .agg #[.int .i64 (ds[k]).kind, .int .i64 (ds[k]).ver, .slice ka (ds[k]).key.length kc, .slice ea (ds[k]).val.length ec, .int .i64 (ds[k]).lim]] (wr.alloc (.cells #[.int .i64 (ds[k]).kind, .int .i64 (ds[k]).ver, .slice ka (ds[k]).key.length kc, .slice ea (ds[k]).val.length ec, .int .i64 (ds[k]).lim] 45)) fun e w2 => ∃ (p q : Int) (a' : Option Addr) (n' c' : Nat) (b' : Option Addr) (m' d' : Nat), e = .returned (.agg #[.int .i64 p, .int .i64 q, .slice a' n' c', .slice b' m' d']) ∧ Hid (∃ v' fd, playK [[]] (ds.take (k + 1)) = ((playK [[]] (ds.take k)).1 ++ [fd], (playK [[]] (ds.take (k + 1))).2) ∧ PlayI w (w.heap.size + 1) (playK [[]] (ds.take (k + 1))).2 (playK [[]] (ds.take k)).1 (.slice a k c) v' w2 ∧ kFd.rel (fun b => (b ≠ w.heap.size + 1 ∧ v'.ownBlock ≠ some b) ∧ (Value.slice a k c).ownBlock ≠ some b) w2 fd [.int .i64 p, .int .i64 q, .slice a' n' c', .slice b' m' d'])) := by
        have hfl : ∀ g, (Value.slice a k c).ownBlock = some g → w.heap.size ≤ g := fun g e => (rows_lt hI.fds g e).1
        have hvl : ∀ g, (Value.slice va (playK [[]] (ds.take k)).2.length vc).ownBlock = some g → w.heap.size ≤ g := fun g e => (rows_lt hI.box.rows g e).1
        have hokd : ∀ b, b < w.heap.size → ok b → ((b ≠ w.heap.size + 1 ∧ (Value.slice a k c).ownBlock ≠ some b) ∧ (Value.slice va (playK [[]] (ds.take k)).2.length vc).ownBlock ≠ some b) := fun b hb _ => ⟨⟨by omega, fun e => by have := hfl b e; omega⟩, fun e => by have := hvl b e; omega⟩
        have hfr1 : Fresh (fun b => b ≠ w.heap.size + 1 ∧ (Value.slice a k c).ownBlock ≠ some b) (wr.alloc (.cells #[.int .i64 (ds[k]).kind, .int .i64 (ds[k]).ver, .slice ka (ds[k]).key.length kc, .slice ea (ds[k]).val.length ec, .int .i64 (ds[k]).lim] 45)) := fun b hb => by
          have h1 : w.heap.size + 1 < wr.heap.size := World.block_lt_of_cell? _ _ hI.box.cell
          have h2 := hbd.size
          exact ⟨by omega, fun e => by have := (rows_lt hI.fds b e).2; omega⟩
        have hm1 := playK_many (ds.take k) [[]]
        rw [htl] at hm1
        simp only [List.length_cons, List.length_nil] at hm1
        have hm2 : ∀ l ∈ (playK [[]] (ds.take k)).2, l.length ≤ 90000 := fun l hl => by
          have := playK_few (ds.take k) (vs := [[]]) (n := 0) (by simp) l hl
          rw [htl] at this
          omega
        refine (play_any _ _ ds[k] ka ea kc ec _ w.heap.size va vc _ hI1.box hfr1 (by omega) hm2 (hu.move (Kept.of_below hI1.below) hokd) (hv.move (Kept.of_below hI1.below) hokd)).mono ?_
        intro e w2 hs
        obtain ⟨v', a', n', c', b', m', d', rfl, r1, r2⟩ := hI1.step hs
        refine ⟨_, _, a', n', c', b', m', d', rfl, v', _, ?_, ?_, r2⟩
        · rw [hsn, playK_snoc]
        · rw [hsn, playK_snoc]
          exact r1
      have HFK := put_by hfk
      clear hcell hc hu hv hI1 hbd hsn htl hfk hI hk4
      generalize (ds[k]).kind = i1 at d0 cP
      generalize (ds[k]).ver = i2 at d1 cP
      generalize (ds[k]).key.length = i3 at d2 cP
      generalize (ds[k]).val.length = i4 at d3 cP
      generalize (ds[k]).lim = i5 at d4 cP
      have ik : (k : Int) < (n : Int) := by omega
      go_wp2_with (first
        | (go_at_call 13; refine cP.out.mono ?_; clear cP; rintro e w2 ⟨p, q, a', n', c', b', m', d', rfl, H2⟩; obtain ⟨v', fd, e2, hI2, hr2⟩ := H2.out)
        | (at_builtin; refine wpList_append_one eltF rfl (.tmp 19) (.tmp 22) rfl w.heap.size (.slice a k c) (playK [[]] (ds.take k)).1 rfl hI2.fds fd [.int .i64 p, .int .i64 q, .slice a' n' c', .slice b' m' d'] _ _ rfl rfl hr2 ?_ (by rw [HFK.out]; omega) (by decide) hI2.below.size ?_))
      · exact fun b hb => ⟨by have : w.heap.size + 1 < w2.heap.size := World.block_lt_of_cell? _ _ hI2.box.cell; omega, fun e => by have := (rows_lt hI2.box.rows b e).2; omega⟩
      · intro f' w3 hR3 hg3 hat3
        obtain ⟨a6, c6, e6⟩ := rows_form hR3
        have hl6 : ((playK [[]] (ds.take k)).1 ++ [fd]).length = k + 1 := by simp [HFK.out]
        rw [hl6] at e6
        subst e6
        have e21 : (playK [[]] (ds.take (k + 1))).1 = (playK [[]] (ds.take k)).1 ++ [fd] := congrArg Prod.fst e2
        have HI3 : Hid (PlayI w (w.heap.size + 1) (playK [[]] (ds.take (k + 1))).2 (playK [[]] (ds.take (k + 1))).1 (.slice a6 (k + 1) c6) v' w3) := by
          rw [e21]
          exact hI2.told hR3 hg3 hat3
        clear e2 e21 H2 hI2 hr2 hR3 hg3 hat3 hl6 HR HL d0 d1 d2 d3 d4
        go_wp2
        go_roundw
        case rel => exact ⟨k + 1, a6, c6, by omega, by go_num, rfl, v', HI3.out⟩
        case measure => simp [intOf]; omega
    · have hkm : k = n := by omega
      subst hkm
      have H9 : Hid (Lies kFd (fun _ => True) wr a c (playK [[]] ds).1 ∧ Ples a c ∧ Below w.heap.size w wr) := by
        obtain ⟨v, hI⟩ := HR.out
        rw [List.take_of_length_le (by rw [← HN.out]; exact Nat.le_refl _)] at hI
        obtain ⟨ao, cap, e, h1, h2, -, -⟩ := hI.fds.lies (fun b e => ⟨fun e2 => hI.fB (by rw [e, e2]), fun e2 => hI.apart b e2 e⟩)
        simp only [Value.slice.injEq] at e
        obtain ⟨rfl, -, rfl⟩ := e
        exact ⟨h1.move (Kept.of_below (Below.refl _ _)) (fun _ _ _ => trivial), h2, hI.below⟩
      clear HR HL H0
      go_wp2
      exact bodyPost_ret (v := .tuple #[.slice a k c, .int .i64 0]) (by simp [results, Try.results12, go_sem]) rfl ⟨a, k, c, rfl, HN.out, H9.out.1, H9.out.2.1, H9.out.2.2⟩

theorem Play_many (n : Nat) (hn : 400 < n) (da : Option Addr) (dc : Nat) (w : World) :
    Calls Try.prog 12 #[.slice da n dc] w fun e w' => e = .returned (.tuple #[.slice none 0 0, .int .i64 1]) ∧ w' = w := by
  have hn4 : (400 : Int) < (n : Int) := by omega
  clear hn
  go_enter Try.func12, Try.ntmps12
  go_wp2
  exact bodyPost_ret (v := .tuple #[.slice none 0 0, .int .i64 1]) (by simp [results, Try.results12, go_sem]) rfl ⟨rfl, rfl⟩

end Go.Proofs.Ytcegkgobkpakiaa
