/- the writes of an intent that is made of a wish ascend, whatever is wished; with one of them twice it is none: May says no, and Encode refuses it. -/
import Derived.Test.YtjilcljchdmbjaaRows
import Derived.Test.YtjilcljchdmbjaaOrderP
import Derived.WalkKit
import Derived.ProofKit
import Derived.OpenShut
import Derived.ShutString
import Derived.ChangeOld
import Derived.Below
import Derived.SizedLaws
namespace Go.Proofs.Ytjilcljchdmbjaa.intentOrder
open Go.ChangeShapes Go.WideShapes Go.ChangeAt Go.RowKit
open Go.ChangeMaps (open_string shut_string)
set_option linter.unusedVariables false

theorem own : ownKnob Try.prog.godebug = none := by kernel_rfl
theorem laidOut : laidOutB Try.prog = true := by kernel_rfl

/-- WHAT THE WALK IS TOLD OF A SLICE OF INTEGERS THAT CAME IN: it is nil; or it leads to a row of 'cap' cells, the numbers 'zs' (the first 'len' are its elements, the rest its spare room), each fitting its kind. -/
def IsRow (k : IntKind) (w : World) (a : Option Addr) (len cap : Nat) (zs : List Int) : Prop :=
  (a = none ∧ len = 0 ∧ cap = 0 ∧ zs = []) ∨
  ∃ x, a = some x ∧ len ≤ cap ∧ cap ≤ maxLen ∧ zs.length = cap ∧ (∀ i, i < zs.length → w.cell? (x.add i) = some (.int k (zs.getD i 0))) ∧ ∀ n ∈ zs, (Lit.int k n).wf = true

/-! ### STEP 1: THE WALK: the Go text returns true, AND WRITES NOTHING THAT WAS THERE: 'Below w.heap.size w w'' (Derived/Below.lean: '.refl', '.alloc', '.drew', '.setCell' at a new block, '.trans'). Open each 'IsRow' by 'rcases' AHEAD of 'go_enter'; part every test ahead of the walk. -/
set_option maxHeartbeats 4000000 in
theorem walk (v0 : Value) (a1 : Int) (w : World) (w0 : WishArg w v0) (w1 : (Lit.int .i64 a1).wf = true) :
    Calls Try.prog 5 #[v0, .int .i64 a1] w fun e w' => e = .returned (.bool true) ∧ Below w.heap.size w w' := by
  obtain ⟨c, n, s, xs, ys, xa, xc, ya, yc, g, rfl, hx, hy⟩ := w0
  clear w1
  have c0 : Hid (∀ V, Below w.heap.size w V → Calls Try.prog 10 #[.agg #[.int .i64 c, .int .i64 n, .int .i64 s, .slice xa xs.length xc, .slice ya ys.length yc, .bool g]] V fun e w' => ∃ (C N B : Int) (ra : Option Addr) (rn rc : Nat) (wa : Option Addr) (wn wc : Nat), e = .returned (.agg #[.int .i64 C, .int .i64 N, .int .i64 B, .slice ra rn rc, .slice wa wn wc]) ∧ Hid (Below w.heap.size w w' ∧ ∃ (rs : List Ent) (ws : List Wt), rn = rs.length ∧ wn = ws.length ∧ ItIs (fun _ => True) w' rs ws ra rc wa wc ∧ Mild ⟨C, N, B, rs, ws⟩)) := fun V hV => IntentOf_law c n s xs ys xa ya xc yc g w V hV hx hy
  clear hx hy
  generalize xs.length = nx at c0 ⊢
  generalize ys.length = ny at c0 ⊢
  have HA := put_by ((Below.refl w.heap.size w).alloc (Nat.le_refl _) (.cells #[.int .i64 c, .int .i64 n, .int .i64 s, .slice xa nx xc, .slice ya ny yc, .bool g] 35))
  go_enter Try.func5, Try.ntmps5
  go_upto_region 2 with (first
    | (go_at_call 10; (with_reducible refine (c0.out _ HA.out).mono ?_); clear c0; rintro e w1 ⟨C, N, B, ra, rn, rc, wa, wn, wc, rfl, H1⟩))
  clear HA
  obtain ⟨g1, rs, ws, g2, g3, g4, g5⟩ := H1.out
  have H2 := put_by (bk_new (C := C) (N := N) (B := B) g1 g2 g3 g4)
  have HM := put_by g5
  clear H1 g1 g2 g3 g4 g5
  generalize w1.heap.size = X at H2 ⊢
  generalize w1.alloc (.cells #[.int .i64 C, .int .i64 N, .int .i64 B, .slice ra rn rc, .slice wa wn wc] _) = W2 at H2 ⊢
  have hLO : Hid (∀ (P : Prop), (Ending.outgrown = .returned (.bool true) ∧ P) → False) := fun P hh => by cases hh.1
  obtain ⟨x0, -⟩ := H2.out.var 0 _ rfl
  obtain ⟨x1, -⟩ := H2.out.var 1 _ rfl
  obtain ⟨x2, -⟩ := H2.out.var 2 _ rfl
  obtain ⟨x3, -⟩ := H2.out.var 3 _ rfl
  obtain ⟨x4, -⟩ := H2.out.var 4 _ rfl
  have d3 : Hid (Calls Try.prog 12 #[.agg #[.int .i64 C, .int .i64 N, .int .i64 B, .slice ra rn rc, .slice wa wn wc]] W2 fun e w' => e = .returned (.bool true) ∧ Cls w' X [.int .i64 C, .int .i64 N, .int .i64 B, .slice ra rn rc, .slice wa wn wc] ∧ Hid (BkI w X C N B rs ws ra rn rc wa wn wc w' ∧ X < w'.heap.size)) := (May_bk H2.out true ⟨fun _ => HM.out.may, fun _ => rfl⟩).mono (fun e w' h => ⟨h.1, H2.out.var.later h.2, H2.out.later h.2, by have := World.block_lt_of_cell? _ _ ((H2.out.var.later h.2) 0 _ rfl).1; exact this⟩)
  have hwn12 : wn ≤ 12 := by rw [H2.out.wn]; exact HM.out.few.2
  by_cases hw0 : wn = 0
  · subst hw0
    go_wp2_with (first
      | (go_at_call 12; (with_reducible refine d3.out.mono ?_); clear d3; rintro e w3 ⟨rfl, hX, H3⟩; obtain ⟨y4, -⟩ := hX 4 _ rfl; clear hX))
    go_ret
    exact ⟨rfl, H3.out.1.below⟩
  · have iw0 : ((wn : Int) == 0) = false := by simp; omega
    obtain ⟨i, hi⟩ : ∃ i : Nat, (i : Int) = a1 % (wn : Int) := ⟨(a1 % (wn : Int)).toNat, by have := Int.emod_nonneg a1 (b := (wn : Int)) (by omega); omega⟩
    have bi : i < wn := by have := Int.emod_lt_of_pos a1 (b := (wn : Int)) (by omega); omega
    have d5 : Hid (∀ V, Calls Try.prog 14 #[.int .i64 a1, .int .i64 (wn : Int)] V fun e w' => e = .returned (.int .i64 (i : Int)) ∧ V = w') := fun V => by rw [hi]; exact Picked_any a1 (wn : Int) (by omega) (by omega) V
    clear hi H2 hw0
    go_upto_region 7 with (first
      | (go_at_call 12; (with_reducible refine d3.out.mono ?_); clear d3; rintro e w3 ⟨rfl, hX, H3⟩; obtain ⟨y4, -⟩ := hX 4 _ rfl; clear hX)
      | (go_at_call 14; (with_reducible refine (d5.out _).mono ?_); clear d5; rintro e w4 ⟨rfl, rfl⟩))
    clear x0 x1 x2 x3 x4
    obtain ⟨y0, -⟩ := H3.out.1.var 0 _ rfl
    obtain ⟨y1, -⟩ := H3.out.1.var 1 _ rfl
    obtain ⟨y2, -⟩ := H3.out.1.var 2 _ rfl
    obtain ⟨y3, -⟩ := H3.out.1.var 3 _ rfl
    go_upto_region 8 with (fail)
    have HbY := put_by ((Below.refl w3.heap.size w3).alloc (Nat.le_refl _) (.cells #[.int .i64 C, .int .i64 N, .int .i64 B, .slice ra rn rc, .slice wa wn wc] 26))
    have HYv := put_by (Cls.new w3 [.int .i64 C, .int .i64 N, .int .i64 B, .slice ra rn rc, .slice wa wn wc] 26)
    have HYs : Hid ((w3.alloc (.cells #[.int .i64 C, .int .i64 N, .int .i64 B, .slice ra rn rc, .slice wa wn wc] 26)).heap.size = w3.heap.size + 1) := by simp [Hid]
    have H6 := put_by (H3.out.1.later HbY.out)
    have H6r : Hid (Lies kEnt (fun b => b < w3.heap.size) (w3.alloc (.cells #[.int .i64 C, .int .i64 N, .int .i64 B, .slice ra rn rc, .slice wa wn wc] 26)) ra rc rs ∧ Lies kWt (fun b => b < w3.heap.size) (w3.alloc (.cells #[.int .i64 C, .int .i64 N, .int .i64 B, .slice ra rn rc, .slice wa wn wc] 26)) wa wc ws ∧ w.heap.size ≤ w3.heap.size) := ⟨H3.out.1.it.reads.move (Kept.of_below HbY.out) (fun b hb _ => hb), H3.out.1.it.writes.move (Kept.of_below HbY.out) (fun b hb _ => hb), H3.out.1.below.size⟩
    have hXY : X < w3.heap.size := H3.out.2
    clear y0 y1 y2 y3 y4 HbY H3
    generalize hY : w3.heap.size = Y at HYv HYs hXY H6r ⊢
    generalize w3.alloc (.cells #[.int .i64 C, .int .i64 N, .int .i64 B, .slice ra rn rc, .slice wa wn wc] _) = W6 at H6 H6r HYv HYs ⊢
    clear hY
    have hYB : Y < W6.heap.size := by have := HYs.out; omega
    clear HYs
    have hiw : i < ws.length := by rw [← H6.out.wn]; exact bi
    obtain ⟨bw, ow, e1, hbw, _, cs, ⟨u0, u1, rfl, hu, hv⟩, hc⟩ := H6r.out.2.1.at hiw
    subst e1
    obtain ⟨y, hy⟩ : ∃ y, y = ws[i] := ⟨_, rfl⟩
    rw [← hy] at hu hv hc
    obtain ⟨gi, hgi⟩ : ∃ gi, gi = y.gone := ⟨_, rfl⟩
    rw [← hgi] at hc
    have hcap : wn ≤ wc := by rw [H6.out.wn]; exact H6.out.it.writes.1
    have HYr : Hid (∀ W, Below W6.heap.size W6 W → kWt.rel (fun b => b < Y) W y [u0, u1, .bool gi]) := fun W hW => by
      exact kWt.move (Kept.of_below hW) (fun b _ h => h) ⟨u0, u1, by rw [hgi], hu, hv⟩
    have HWr : Hid (∀ W, Below W6.heap.size W6 W → Lies kWt (fun b => b < Y) W (some ⟨bw, ow, none⟩) wc (ws.take (i + 1)) ∧ Lies kWt (fun b => b < Y) W (some ⟨bw, ow + (i + 1) * 3, none⟩) (wc - (i + 1)) (ws.drop (i + 1))) := fun W hW => by
      have hl : Lies kWt (fun b => b < Y) W (some ⟨bw, ow, none⟩) wc ws := H6r.out.2.1.move (Kept.of_below hW) (fun b _ h => h)
      exact ⟨hl.take (i + 1), hl.drop (i + 1)⟩
    have HTk : Hid (i + 1 = (ws.take (i + 1)).length ∧ wn - (i + 1) = (ws.drop (i + 1)).length) := ⟨by rw [List.length_take]; omega, by rw [List.length_drop, H6.out.wn]⟩
    have HSV : Hid (∀ W, Below W6.heap.size W6 W → W.cell? ⟨X, 4, none⟩ = some (.slice (some ⟨bw, ow, none⟩) wn wc) ∧ W.cell? ⟨bw, ow + i * 3, none⟩ = some u0 ∧ W.cell? ⟨bw, ow + i * 3 + 1, none⟩ = some u1 ∧ W.cell? ⟨bw, ow + i * 3 + 2, none⟩ = some (.bool gi)) := fun W hW => by
      exact ⟨((H6.out.var.later hW) 4 _ rfl).1, (hW.cell (p := ⟨bw, ow + i * 3, none⟩) hbw).trans (by simpa using hc 0 _ rfl), (hW.cell (p := ⟨bw, ow + i * 3 + 1, none⟩) hbw).trans (hc 1 _ rfl), (hW.cell (p := ⟨bw, ow + i * 3 + 2, none⟩) hbw).trans (hc 2 _ rfl)⟩
    have HEnd : Hid (∀ (a : Option Addr) (c : Nat) (w18 : World), Rows kWt (fun b => b ≠ Y) w18 W6.heap.size 43 (.slice a (twice ws i y).length c) (twice ws i y) → Below W6.heap.size W6 w18 → BkI w Y C N B rs (twice ws i y) ra rn rc a (twice ws i y).length c (w18.setCell ⟨Y, 4, none⟩ (.slice a (twice ws i y).length c))) := fun a c w18 h1 h2 => by
      have h2' := h2
      have hg6 : w18.grownBy (w18.setCell ⟨Y, 4, none⟩ (.slice a (twice ws i y).length c)) (some Y) := grown_set _
      have hb6 : Below Y w18 (w18.setCell ⟨Y, 4, none⟩ (.slice a (twice ws i y).length c)) := (Below.refl Y w18).setCell (Nat.le_refl Y) _
      have h3 := H6.out.below.trans (h2'.mono H6.out.below.size)
      have hl := (rows_lies h1 (fun b hb => by show b ≠ Y; omega)).2.1
      have hln := twice_len (y := y) hiw
      exact ⟨(HYv.out.later h2').set (k := 4) _, h3.trans (hb6.mono H6r.out.2.2), ⟨(H6r.out.1.later h2').move (kept_old (ok := fun b => b < Y) hg6 (Nat.lt_irrefl Y)) (fun _ _ _ => trivial), hl.move (kept_old hg6 (fun q => q rfl)) (fun _ _ _ => trivial), H6.out.it.few.1, by have := H6.out.wn; omega⟩, H6.out.rn, rfl⟩
    have HNot : Hid (¬ MayI ⟨C, N, B, rs, twice ws i y⟩) := by rw [hy]; exact twice_not hiw
    have hS := HSV.out _ ((Below.refl W6.heap.size W6).drew)
    have ii0 : ¬ ((i : Int) + 1 < 0) := by omega
    have ii5 : (0 : Int) ≤ (i : Int) + 1 := by omega
    have ii6 : (i : Int) + 1 ≤ (wn : Int) := by omega
    have ii1 : (i : Int) < (wn : Int) := by omega
    have ii2 : (i : Int) + 1 ≤ (wc : Int) := by omega
    have iiw : IntKind.i64.wrap ((i : Int) + 1) = (i : Int) + 1 := by rw [IntKind.wrap_i64]; omega
    replace HYv : Hid (Cls W6 Y [.int .i64 C, .int .i64 N, .int .i64 B, .slice ra rn rc, .slice (some ⟨bw, ow, none⟩) wn wc]) := HYv
    clear hu hv hc hgi hy
    go_cut [43] from 25 to 44 (fun v wx => ∃ (a : Option Addr) (m c : Nat), v = .slice a m c ∧ Hid (BkI w Y C N B rs (twice ws i y) ra rn rc a m c wx))
    case first =>
      by_cases hcc : i + 1 = wc
      · have HDr : Hid (ws.drop (i + 1) = []) := List.drop_eq_nil_of_le (by rw [← H6.out.wn]; omega)
        have hwnc : wn = wc := by omega
        subst hwnc
        refine region_plain (fun V => V.cell? ⟨X, 4, none⟩ = some (.slice (some ⟨bw, ow, none⟩) wn wn) ∧ V.cell? ⟨bw, ow + i * 3, none⟩ = some u0 ∧ V.cell? ⟨bw, ow + i * 3 + 1, none⟩ = some u1 ∧ V.cell? ⟨bw, ow + i * 3 + 2, none⟩ = some (.bool gi)) 20 (by kernel_rfl) ?_
        change wpAnyU _ _ _ _ _ 21 #[false, false, false, false, false, false, false, false, false, false, false, false, false, false, false, false, false, false, false, false, false] _ W6.drew
        refine V_takeS [20, 18, 12, 5, 4, 1] 25 (k := 0) (v := .pointer (some ⟨X, 4, none⟩)) rfl rfl (by kernel_rfl) (by kernel_rfl) (by kernel_rfl) (by kernel_rfl) (by kernel_rfl) (by kernel_rfl) (fun _ _ _ h => h) (Or.inl ⟨by rfl, fun V hV => ?_⟩) hS ?_
        · obtain ⟨z0, z1, z2, z3⟩ := hV; go_simp
        try simp only [Act.put, List.setIfInBounds_toArray, List.set_cons_zero, List.set_cons_succ]
        refine V_takeS [20, 18, 12, 5, 4] 26 (k := 1) (v := .slice (some ⟨bw, ow, none⟩) wn wn) rfl rfl (by kernel_rfl) (by kernel_rfl) (by kernel_rfl) (by kernel_rfl) (by kernel_rfl) (by kernel_rfl) (fun _ _ _ h => h) (Or.inl ⟨by rfl, fun V hV => ?_⟩) hS ?_
        · obtain ⟨z0, z1, z2, z3⟩ := hV; go_simp
        try simp only [Act.put, List.setIfInBounds_toArray, List.set_cons_zero, List.set_cons_succ]
        refine V_takeS [20, 18, 12, 5, 4, 3] 27 (k := 2) (v := .int .i64 (i : Int)) rfl rfl (by kernel_rfl) (by kernel_rfl) (by kernel_rfl) (by kernel_rfl) (by kernel_rfl) (by kernel_rfl) (fun _ _ _ h => h) (Or.inl ⟨by rfl, fun V hV => ?_⟩) hS ?_
        · obtain ⟨z0, z1, z2, z3⟩ := hV; go_simp
        try simp only [Act.put, List.setIfInBounds_toArray, List.set_cons_zero, List.set_cons_succ]
        refine V_takeS [20, 18, 12, 5, 4] 28 (k := 3) (v := .int .i64 ((i : Int) + 1)) rfl rfl (by kernel_rfl) (by kernel_rfl) (by kernel_rfl) (by kernel_rfl) (by kernel_rfl) (by kernel_rfl) (fun _ _ _ h => h) (Or.inl ⟨by rfl, fun V hV => ?_⟩) hS ?_
        · obtain ⟨z0, z1, z2, z3⟩ := hV; go_simp
        try simp only [Act.put, List.setIfInBounds_toArray, List.set_cons_zero, List.set_cons_succ]
        refine V_takeS [20, 18, 12, 5] 29 (k := 4) (v := .slice (some ⟨bw, ow, none⟩) (i + 1) wn) rfl rfl (by kernel_rfl) (by kernel_rfl) (by kernel_rfl) (by kernel_rfl) (by kernel_rfl) (by kernel_rfl) (fun _ _ _ h => h) (Or.inl ⟨by rfl, fun V hV => ?_⟩) hS ?_
        · obtain ⟨z0, z1, z2, z3⟩ := hV; go_simp
        try simp only [Act.put, List.setIfInBounds_toArray, List.set_cons_zero, List.set_cons_succ]
        refine V_takeS [20, 18, 12, 11, 10, 9, 7] 31 (k := 6) (v := .pointer (some ⟨X, 4, none⟩)) rfl rfl (by kernel_rfl) (by kernel_rfl) (by kernel_rfl) (by kernel_rfl) (by kernel_rfl) (by kernel_rfl) (fun _ _ _ h => h) (Or.inl ⟨by rfl, fun V hV => ?_⟩) hS ?_
        · obtain ⟨z0, z1, z2, z3⟩ := hV; go_simp
        try simp only [Act.put, List.setIfInBounds_toArray, List.set_cons_zero, List.set_cons_succ]
        refine V_takeS [20, 18, 12, 11, 10, 9] 32 (k := 7) (v := .slice (some ⟨bw, ow, none⟩) wn wn) rfl rfl (by kernel_rfl) (by kernel_rfl) (by kernel_rfl) (by kernel_rfl) (by kernel_rfl) (by kernel_rfl) (fun _ _ _ h => h) (Or.inl ⟨by rfl, fun V hV => ?_⟩) hS ?_
        · obtain ⟨z0, z1, z2, z3⟩ := hV; go_simp
        try simp only [Act.put, List.setIfInBounds_toArray, List.set_cons_zero, List.set_cons_succ]
        refine V_takeS [20, 18, 12, 11, 10, 9] 33 (k := 8) (v := .int .i64 (i : Int)) rfl rfl (by kernel_rfl) (by kernel_rfl) (by kernel_rfl) (by kernel_rfl) (by kernel_rfl) (by kernel_rfl) (fun _ _ _ h => h) (Or.inl ⟨by rfl, fun V hV => ?_⟩) hS ?_
        · obtain ⟨z0, z1, z2, z3⟩ := hV; go_simp
        try simp only [Act.put, List.setIfInBounds_toArray, List.set_cons_zero, List.set_cons_succ]
        refine V_takeS [20, 18, 12, 11, 10] 34 (k := 9) (v := .pointer (some ⟨bw, ow + i * 3, none⟩)) rfl rfl (by kernel_rfl) (by kernel_rfl) (by kernel_rfl) (by kernel_rfl) (by kernel_rfl) (by kernel_rfl) (fun _ _ _ h => h) (Or.inl ⟨by rfl, fun V hV => ?_⟩) hS ?_
        · obtain ⟨z0, z1, z2, z3⟩ := hV; go_simp
        try simp only [Act.put, List.setIfInBounds_toArray, List.set_cons_zero, List.set_cons_succ]
        refine V_takeS [20, 18, 12, 11] 35 (k := 10) (v := .agg #[u0, u1, .bool gi]) rfl rfl (by kernel_rfl) (by kernel_rfl) (by kernel_rfl) (by kernel_rfl) (by kernel_rfl) (by kernel_rfl) (fun _ _ _ h => h) (Or.inl ⟨by rfl, fun V hV => ?_⟩) hS ?_
        · obtain ⟨z0, z1, z2, z3⟩ := hV; go_simp
        try simp only [Act.put, List.setIfInBounds_toArray, List.set_cons_zero, List.set_cons_succ]
        refine V_takeS [20, 18, 17, 14] 38 (k := 13) (v := .pointer (some ⟨X, 4, none⟩)) rfl rfl (by kernel_rfl) (by kernel_rfl) (by kernel_rfl) (by kernel_rfl) (by kernel_rfl) (by kernel_rfl) (fun _ _ _ h => h) (Or.inl ⟨by rfl, fun V hV => ?_⟩) hS ?_
        · obtain ⟨z0, z1, z2, z3⟩ := hV; go_simp
        try simp only [Act.put, List.setIfInBounds_toArray, List.set_cons_zero, List.set_cons_succ]
        refine V_takeS [20, 18, 17] 39 (k := 14) (v := .slice (some ⟨bw, ow, none⟩) wn wn) rfl rfl (by kernel_rfl) (by kernel_rfl) (by kernel_rfl) (by kernel_rfl) (by kernel_rfl) (by kernel_rfl) (fun _ _ _ h => h) (Or.inl ⟨by rfl, fun V hV => ?_⟩) hS ?_
        · obtain ⟨z0, z1, z2, z3⟩ := hV; go_simp
        try simp only [Act.put, List.setIfInBounds_toArray, List.set_cons_zero, List.set_cons_succ]
        refine V_takeS [20, 18, 17, 16] 40 (k := 15) (v := .int .i64 (i : Int)) rfl rfl (by kernel_rfl) (by kernel_rfl) (by kernel_rfl) (by kernel_rfl) (by kernel_rfl) (by kernel_rfl) (fun _ _ _ h => h) (Or.inl ⟨by rfl, fun V hV => ?_⟩) hS ?_
        · obtain ⟨z0, z1, z2, z3⟩ := hV; go_simp
        try simp only [Act.put, List.setIfInBounds_toArray, List.set_cons_zero, List.set_cons_succ]
        refine V_takeS [20, 18, 17] 41 (k := 16) (v := .int .i64 ((i : Int) + 1)) rfl rfl (by kernel_rfl) (by kernel_rfl) (by kernel_rfl) (by kernel_rfl) (by kernel_rfl) (by kernel_rfl) (fun _ _ _ h => h) (Or.inl ⟨by rfl, fun V hV => ?_⟩) hS ?_
        · obtain ⟨z0, z1, z2, z3⟩ := hV; go_simp
        try simp only [Act.put, List.setIfInBounds_toArray, List.set_cons_zero, List.set_cons_succ]
        refine V_takeS [20, 18] 42 (k := 17) (v := .slice (some ⟨bw, ow, none⟩) 0 0) rfl rfl (by kernel_rfl) (by kernel_rfl) (by kernel_rfl) (by kernel_rfl) (by kernel_rfl) (by kernel_rfl) (fun _ _ _ h => h) (Or.inl ⟨by rfl, fun V hV => ?_⟩) hS ?_
        · obtain ⟨z0, z1, z2, z3⟩ := hV; go_simp
        try simp only [Act.put, List.setIfInBounds_toArray, List.set_cons_zero, List.set_cons_succ]
        clear hcc
        refine U_two (i := 5) (j := 11) (by kernel_rfl) rfl rfl rfl rfl (fun K hK => ?_) (fun K hK => ?_)
        · refine wp_of_list rfl (by rintro ⟨_, _, hh⟩; first | exact hh | exact hLO.out _ hh) (wpList_append_rows (K := kWt) (ok := fun b => b ≠ Y) (ok2 := fun b => b < Y) eltW rfl (.const (.slice none 0 0)) (.tmp 29) rfl W6.heap.size (.slice none 0 0) [] rfl (Rows.nil _ _ _ _ _) (some ⟨bw, ow, none⟩) wn (i + 1) (ws.take (i + 1)) rfl HTk.out.1 (HWr.out _ (Below.refl _ _).drew).1 (fun b _ hb _ => Nat.ne_of_lt hb) (fun _ _ _ e => by cases e) (by simp only [List.length_nil]; omega) (by decide) (Nat.le_refl _) (fun v5 w5 r1 r2 r3 => list_end ?_))
          have H5 : Hid (Rows kWt (fun b => b ≠ Y) w5 W6.heap.size 43 v5 (ws.take (i + 1)) ∧ Below W6.heap.size W6 w5) := ⟨r1, below_grown ((Below.refl W6.heap.size W6).drew) (Nat.le_refl _) r2 (fun r e => by cases e)⟩
          have hS5 := HSV.out _ H5.out.2
          refine hK _ _ (fun _ => hS5) ?_
          clear hK K hS r1 r2 r3
          try simp only [Act.put, List.setIfInBounds_toArray, List.set_cons_zero, List.set_cons_succ]
          change wpAnyU _ _ _ _ _ _ #[true, true, true, true, true, true, true, true, true, true, true, false, false, true, true, true, true, true, false, false, false] _ _
          refine U_one (i := 11) (listed' := #[true, true, true, true, true, true, true, true, true, true, true, true, false, true, true, true, true, true, false, false, false]) (by kernel_rfl) rfl (by kernel_rfl) rfl (fun K hK => ?_)
          go_simp
          obtain ⟨bl, hbl⟩ : ∃ bl, bl = w5.heap.size := ⟨_, rfl⟩
          have HOr : Hid (OrI Y W6.heap.size W6 ws i y v5 bl (w5.alloc (.cells #[u0, u1, .bool gi] 43))) := by
            rw [hbl]
            have hba := (Below.refl w5.heap.size w5).alloc (Nat.le_refl _) (.cells #[u0, u1, .bool gi] 43)
            exact ⟨H5.out.1.later hba, (lies_one (K := kWt) (ok := fun b => b < Y ∨ b = w5.heap.size) #[u0, u1, .bool gi] rfl 43 (kWt.move (Kept.of_below (Below.refl _ _)) (fun b _ h => .inl h) (HYr.out w5 H5.out.2)) (.inr rfl)), H5.out.2.size, fun e => by have := (rows_lt H5.out.1 _ e).2; omega, H5.out.2.trans (hba.mono H5.out.2.size)⟩
          rw [← hbl]
          generalize w5.alloc (.cells #[u0, u1, .bool gi] _) = w7 at HOr ⊢
          clear H5 hS5 hbl
          have hS5 := HSV.out _ HOr.out.below
          have hS := hS5
          refine hK _ _ (fun _ => hS5) ?_
          clear hK K hS
          try simp only [Act.put, List.setIfInBounds_toArray, List.set_cons_zero, List.set_cons_succ]
          refine U_one (i := 12) (listed' := #[true, true, true, true, true, true, true, true, true, true, true, true, true, true, true, true, true, true, false, false, false]) (by kernel_rfl) rfl (by kernel_rfl) rfl (fun K hK => ?_)
          refine wp_of_list rfl (by rintro ⟨_, _, hh⟩; first | exact hh | exact hLO.out _ hh) (wpList_append_rows (K := kWt) (ok := fun b => b ≠ Y) (ok2 := fun b => b < Y ∨ b = bl) eltW rfl (.tmp 30) (.tmp 36) rfl W6.heap.size v5 (ws.take (i + 1)) rfl HOr.out.rows (some ⟨bl, 0, none⟩) 1 1 [y] rfl rfl HOr.out.one (fun b _ hb _ => by have := HOr.out.low; rcases hb with hb | hb <;> (show b ≠ Y; omega)) (fun b _ hb e => by rcases hb with hb | rfl; have := (rows_lt HOr.out.rows b e).1; omega; exact HOr.out.ne e) (by rw [← HTk.out.1]; omega) (by decide) HOr.out.below.size (fun v12 w12 r1 r2 r3 => list_end ?_))
          have H12 : Hid (Rows kWt (fun b => b ≠ Y) w12 W6.heap.size 43 v12 (ws.take (i + 1) ++ [y]) ∧ Below W6.heap.size W6 w12) := ⟨r1, below_grown HOr.out.below HOr.out.below.size r2 (fun r e => (rows_lt HOr.out.rows r e).1)⟩
          refine hK _ _ (fun _ => HSV.out _ H12.out.2) ?_
          clear hK K r1 r2 r3 HOr hS5
          try simp only [Act.put, List.setIfInBounds_toArray]
          refine U_one (i := 18) (listed' := #[true, true, true, true, true, true, true, true, true, true, true, true, true, true, true, true, true, true, true, false, false]) (by kernel_rfl) rfl (by kernel_rfl) rfl (fun K hK => ?_)
          refine wp_of_list rfl (by rintro ⟨_, _, hh⟩; first | exact hh | exact hLO.out _ hh) (wpList_append_rows (K := kWt) (ok := fun b => b ≠ Y) (ok2 := fun b => b < Y) eltW rfl (.tmp 37) (.tmp 42) rfl W6.heap.size v12 (ws.take (i + 1) ++ [y]) rfl H12.out.1 (some ⟨bw, ow, none⟩) 0 0 (ws.drop (i + 1)) rfl (by rw [HDr.out]; rfl) (by rw [HDr.out]; exact Lies.nil _ _ _ (fun e => by cases e)) (fun b _ hb _ => Nat.ne_of_lt hb) (fun b _ hb e => by have := (rows_lt H12.out.1 b e).1; omega) (by rw [List.length_append, ← HTk.out.1, List.length_singleton]; omega) (by decide) H12.out.2.size (fun v18 w18 r1 r2 r3 => list_end ?_))
          have H18 : Hid (Rows kWt (fun b => b ≠ Y) w18 W6.heap.size 43 v18 (twice ws i y) ∧ Below W6.heap.size W6 w18) := ⟨r1, below_grown H12.out.2 H12.out.2.size r2 (fun r e => (rows_lt H12.out.1 r e).1)⟩
          obtain ⟨a9, c9, e9⟩ := rows_form H18.out.1
          subst e9
          have hS18 := HSV.out _ H18.out.2
          refine hK _ _ (fun _ => hS18) ?_
          clear hK K r1 r2 r3 H12
          try simp only [Act.put]
          refine V_takeS [20] 44 (k := 19) (v := .pointer (some ⟨Y, 4, none⟩)) rfl rfl (by kernel_rfl) (by kernel_rfl) (by kernel_rfl) (by kernel_rfl) (by kernel_rfl) (by kernel_rfl) (fun _ _ _ h => h) (Or.inl ⟨by rfl, fun V hV => ?_⟩) hS18 ?_
          · skip; go_simp
          try simp only [Act.put, List.setIfInBounds_toArray, List.set_cons_zero, List.set_cons_succ]
          obtain ⟨y4, f4⟩ := (HYv.out.later H18.out.2) 4 _ rfl
          refine U_one (i := 20) (listed' := #[true, true, true, true, true, true, true, true, true, true, true, true, true, true, true, true, true, true, true, true, true]) (by kernel_rfl) rfl (by kernel_rfl) rfl (fun K hK => ?_)
          go_simp
          refine hK _ _ (fun hh => by cases (show true = false from hh)) ?_
          clear hK K
          refine U_done (by kernel_rfl) ?_ _
          have H20 := put_by (HEnd.out _ _ _ H18.out.1 H18.out.2)
          go_wp2
          go_meet
          exact ⟨_, _, _, rfl, H20.out⟩
        · go_simp
          obtain ⟨bl, hbl⟩ : ∃ bl, bl = W6.heap.size := ⟨_, rfl⟩
          have hba := (Below.refl W6.heap.size W6).alloc (Nat.le_refl _) (.cells #[u0, u1, .bool gi] 43)
          have H5 : Hid (Lies kWt (fun b => b < Y ∨ b = bl) (W6.alloc (.cells #[u0, u1, .bool gi] 43)).drew (some ⟨bl, 0, none⟩) 1 [y] ∧ Below W6.heap.size W6 (W6.alloc (.cells #[u0, u1, .bool gi] 43)).drew ∧ bl < (W6.alloc (.cells #[u0, u1, .bool gi] 43)).drew.heap.size) := by
            rw [hbl]
            exact ⟨(lies_one (K := kWt) (W := W6) (ok := fun b => b < Y ∨ b = W6.heap.size) #[u0, u1, .bool gi] rfl 43 (kWt.move (Kept.of_below (Below.refl _ _)) (fun b _ h => .inl h) (HYr.out W6 (Below.refl W6.heap.size W6))) (.inr rfl)).later (Below.refl _ _).drew, hba.drew, by simp⟩
          rw [← hbl]
          generalize (W6.alloc (.cells #[u0, u1, .bool gi] _)).drew = w7 at H5 ⊢
          clear hba
          have hS7 := HSV.out _ H5.out.2.1
          refine hK _ _ (fun _ => hS7) ?_
          clear hK K hS
          try simp only [List.setIfInBounds_toArray, List.set_cons_zero, List.set_cons_succ]
          change wpAnyU _ _ _ _ _ _ #[true, true, true, true, true, false, true, true, true, true, true, true, false, true, true, true, true, true, false, false, false] _ _
          refine U_one (i := 5) (listed' := #[true, true, true, true, true, true, true, true, true, true, true, true, false, true, true, true, true, true, false, false, false]) (by kernel_rfl) rfl (by kernel_rfl) rfl (fun K hK => ?_)
          refine wp_of_list rfl (by rintro ⟨_, _, hh⟩; first | exact hh | exact hLO.out _ hh) (wpList_append_rows (K := kWt) (ok := fun b => b ≠ Y) (ok2 := fun b => b < Y) eltW rfl (.const (.slice none 0 0)) (.tmp 29) rfl W6.heap.size (.slice none 0 0) [] rfl (Rows.nil _ _ _ _ _) (some ⟨bw, ow, none⟩) wn (i + 1) (ws.take (i + 1)) rfl HTk.out.1 (HWr.out _ H5.out.2.1).1 (fun b _ hb _ => Nat.ne_of_lt hb) (fun _ _ _ e => by cases e) (by simp only [List.length_nil]; omega) (by decide) H5.out.2.1.size (fun v5 w5 r1 r2 r3 => list_end ?_))
          have HOr : Hid (OrI Y W6.heap.size W6 ws i y v5 bl w5) := ⟨r1, H5.out.1.move (Kept.of_grown r2 (fun b _ e => by cases e)) (fun _ _ h => h), by rw [hbl]; exact Nat.le_refl _, fun e => by
            rcases r3 with r3 | r3
            · rw [r3] at e; cases e
            · rw [r3] at e; have := Option.some.inj e; have := H5.out.2.2; omega, below_grown H5.out.2.1 H5.out.2.1.size r2 (fun r e => by cases e)⟩
          clear H5 hS7 r1 r2 r3
          have hS5 := HSV.out _ HOr.out.below
          have hS := hS5
          refine hK _ _ (fun _ => hS5) ?_
          clear hK K hS
          try simp only [Act.put, List.setIfInBounds_toArray]
          refine U_one (i := 12) (listed' := #[true, true, true, true, true, true, true, true, true, true, true, true, true, true, true, true, true, true, false, false, false]) (by kernel_rfl) rfl (by kernel_rfl) rfl (fun K hK => ?_)
          refine wp_of_list rfl (by rintro ⟨_, _, hh⟩; first | exact hh | exact hLO.out _ hh) (wpList_append_rows (K := kWt) (ok := fun b => b ≠ Y) (ok2 := fun b => b < Y ∨ b = bl) eltW rfl (.tmp 30) (.tmp 36) rfl W6.heap.size v5 (ws.take (i + 1)) rfl HOr.out.rows (some ⟨bl, 0, none⟩) 1 1 [y] rfl rfl HOr.out.one (fun b _ hb _ => by have := HOr.out.low; rcases hb with hb | hb <;> (show b ≠ Y; omega)) (fun b _ hb e => by rcases hb with hb | rfl; have := (rows_lt HOr.out.rows b e).1; omega; exact HOr.out.ne e) (by rw [← HTk.out.1]; omega) (by decide) HOr.out.below.size (fun v12 w12 r1 r2 r3 => list_end ?_))
          have H12 : Hid (Rows kWt (fun b => b ≠ Y) w12 W6.heap.size 43 v12 (ws.take (i + 1) ++ [y]) ∧ Below W6.heap.size W6 w12) := ⟨r1, below_grown HOr.out.below HOr.out.below.size r2 (fun r e => (rows_lt HOr.out.rows r e).1)⟩
          refine hK _ _ (fun _ => HSV.out _ H12.out.2) ?_
          clear hK K r1 r2 r3 HOr hS5
          try simp only [Act.put]
          refine U_one (i := 18) (listed' := #[true, true, true, true, true, true, true, true, true, true, true, true, true, true, true, true, true, true, true, false, false]) (by kernel_rfl) rfl (by kernel_rfl) rfl (fun K hK => ?_)
          refine wp_of_list rfl (by rintro ⟨_, _, hh⟩; first | exact hh | exact hLO.out _ hh) (wpList_append_rows (K := kWt) (ok := fun b => b ≠ Y) (ok2 := fun b => b < Y) eltW rfl (.tmp 37) (.tmp 42) rfl W6.heap.size v12 (ws.take (i + 1) ++ [y]) rfl H12.out.1 (some ⟨bw, ow, none⟩) 0 0 (ws.drop (i + 1)) rfl (by rw [HDr.out]; rfl) (by rw [HDr.out]; exact Lies.nil _ _ _ (fun e => by cases e)) (fun b _ hb _ => Nat.ne_of_lt hb) (fun b _ hb e => by have := (rows_lt H12.out.1 b e).1; omega) (by rw [List.length_append, ← HTk.out.1, List.length_singleton]; omega) (by decide) H12.out.2.size (fun v18 w18 r1 r2 r3 => list_end ?_))
          have H18 : Hid (Rows kWt (fun b => b ≠ Y) w18 W6.heap.size 43 v18 (twice ws i y) ∧ Below W6.heap.size W6 w18) := ⟨r1, below_grown H12.out.2 H12.out.2.size r2 (fun r e => (rows_lt H12.out.1 r e).1)⟩
          obtain ⟨a9, c9, e9⟩ := rows_form H18.out.1
          subst e9
          have hS18 := HSV.out _ H18.out.2
          refine hK _ _ (fun _ => hS18) ?_
          clear hK K r1 r2 r3 H12
          try simp only [Act.put]
          refine V_takeS [20] 44 (k := 19) (v := .pointer (some ⟨Y, 4, none⟩)) rfl rfl (by kernel_rfl) (by kernel_rfl) (by kernel_rfl) (by kernel_rfl) (by kernel_rfl) (by kernel_rfl) (fun _ _ _ h => h) (Or.inl ⟨by rfl, fun V hV => ?_⟩) hS18 ?_
          · skip; go_simp
          try simp only [Act.put, List.setIfInBounds_toArray, List.set_cons_zero, List.set_cons_succ]
          obtain ⟨y4, f4⟩ := (HYv.out.later H18.out.2) 4 _ rfl
          refine U_one (i := 20) (listed' := #[true, true, true, true, true, true, true, true, true, true, true, true, true, true, true, true, true, true, true, true, true]) (by kernel_rfl) rfl (by kernel_rfl) rfl (fun K hK => ?_)
          go_simp
          refine hK _ _ (fun hh => by cases (show true = false from hh)) ?_
          clear hK K
          refine U_done (by kernel_rfl) ?_ _
          have H20 := put_by (HEnd.out _ _ _ H18.out.1 H18.out.2)
          go_wp2
          go_meet
          exact ⟨_, _, _, rfl, H20.out⟩
      · have hcc2 : ¬ wc = i + 1 := fun e => hcc e.symm
        have ii3 : (wn : Int) ≤ (wc : Int) := by omega
        refine region_plain (fun V => V.cell? ⟨X, 4, none⟩ = some (.slice (some ⟨bw, ow, none⟩) wn wc) ∧ V.cell? ⟨bw, ow + i * 3, none⟩ = some u0 ∧ V.cell? ⟨bw, ow + i * 3 + 1, none⟩ = some u1 ∧ V.cell? ⟨bw, ow + i * 3 + 2, none⟩ = some (.bool gi)) 20 (by kernel_rfl) ?_
        change wpAnyU _ _ _ _ _ 21 #[false, false, false, false, false, false, false, false, false, false, false, false, false, false, false, false, false, false, false, false, false] _ W6.drew
        refine V_takeS [20, 18, 12, 5, 4, 1] 25 (k := 0) (v := .pointer (some ⟨X, 4, none⟩)) rfl rfl (by kernel_rfl) (by kernel_rfl) (by kernel_rfl) (by kernel_rfl) (by kernel_rfl) (by kernel_rfl) (fun _ _ _ h => h) (Or.inl ⟨by rfl, fun V hV => ?_⟩) hS ?_
        · obtain ⟨z0, z1, z2, z3⟩ := hV; go_simp
        try simp only [Act.put, List.setIfInBounds_toArray, List.set_cons_zero, List.set_cons_succ]
        refine V_takeS [20, 18, 12, 5, 4] 26 (k := 1) (v := .slice (some ⟨bw, ow, none⟩) wn wc) rfl rfl (by kernel_rfl) (by kernel_rfl) (by kernel_rfl) (by kernel_rfl) (by kernel_rfl) (by kernel_rfl) (fun _ _ _ h => h) (Or.inl ⟨by rfl, fun V hV => ?_⟩) hS ?_
        · obtain ⟨z0, z1, z2, z3⟩ := hV; go_simp
        try simp only [Act.put, List.setIfInBounds_toArray, List.set_cons_zero, List.set_cons_succ]
        refine V_takeS [20, 18, 12, 5, 4, 3] 27 (k := 2) (v := .int .i64 (i : Int)) rfl rfl (by kernel_rfl) (by kernel_rfl) (by kernel_rfl) (by kernel_rfl) (by kernel_rfl) (by kernel_rfl) (fun _ _ _ h => h) (Or.inl ⟨by rfl, fun V hV => ?_⟩) hS ?_
        · obtain ⟨z0, z1, z2, z3⟩ := hV; go_simp
        try simp only [Act.put, List.setIfInBounds_toArray, List.set_cons_zero, List.set_cons_succ]
        refine V_takeS [20, 18, 12, 5, 4] 28 (k := 3) (v := .int .i64 ((i : Int) + 1)) rfl rfl (by kernel_rfl) (by kernel_rfl) (by kernel_rfl) (by kernel_rfl) (by kernel_rfl) (by kernel_rfl) (fun _ _ _ h => h) (Or.inl ⟨by rfl, fun V hV => ?_⟩) hS ?_
        · obtain ⟨z0, z1, z2, z3⟩ := hV; go_simp
        try simp only [Act.put, List.setIfInBounds_toArray, List.set_cons_zero, List.set_cons_succ]
        refine V_takeS [20, 18, 12, 5] 29 (k := 4) (v := .slice (some ⟨bw, ow, none⟩) (i + 1) wc) rfl rfl (by kernel_rfl) (by kernel_rfl) (by kernel_rfl) (by kernel_rfl) (by kernel_rfl) (by kernel_rfl) (fun _ _ _ h => h) (Or.inl ⟨by rfl, fun V hV => ?_⟩) hS ?_
        · obtain ⟨z0, z1, z2, z3⟩ := hV; go_simp
        try simp only [Act.put, List.setIfInBounds_toArray, List.set_cons_zero, List.set_cons_succ]
        refine V_takeS [20, 18, 12, 11, 10, 9, 7] 31 (k := 6) (v := .pointer (some ⟨X, 4, none⟩)) rfl rfl (by kernel_rfl) (by kernel_rfl) (by kernel_rfl) (by kernel_rfl) (by kernel_rfl) (by kernel_rfl) (fun _ _ _ h => h) (Or.inl ⟨by rfl, fun V hV => ?_⟩) hS ?_
        · obtain ⟨z0, z1, z2, z3⟩ := hV; go_simp
        try simp only [Act.put, List.setIfInBounds_toArray, List.set_cons_zero, List.set_cons_succ]
        refine V_takeS [20, 18, 12, 11, 10, 9] 32 (k := 7) (v := .slice (some ⟨bw, ow, none⟩) wn wc) rfl rfl (by kernel_rfl) (by kernel_rfl) (by kernel_rfl) (by kernel_rfl) (by kernel_rfl) (by kernel_rfl) (fun _ _ _ h => h) (Or.inl ⟨by rfl, fun V hV => ?_⟩) hS ?_
        · obtain ⟨z0, z1, z2, z3⟩ := hV; go_simp
        try simp only [Act.put, List.setIfInBounds_toArray, List.set_cons_zero, List.set_cons_succ]
        refine V_takeS [20, 18, 12, 11, 10, 9] 33 (k := 8) (v := .int .i64 (i : Int)) rfl rfl (by kernel_rfl) (by kernel_rfl) (by kernel_rfl) (by kernel_rfl) (by kernel_rfl) (by kernel_rfl) (fun _ _ _ h => h) (Or.inl ⟨by rfl, fun V hV => ?_⟩) hS ?_
        · obtain ⟨z0, z1, z2, z3⟩ := hV; go_simp
        try simp only [Act.put, List.setIfInBounds_toArray, List.set_cons_zero, List.set_cons_succ]
        refine V_takeS [20, 18, 12, 11, 10] 34 (k := 9) (v := .pointer (some ⟨bw, ow + i * 3, none⟩)) rfl rfl (by kernel_rfl) (by kernel_rfl) (by kernel_rfl) (by kernel_rfl) (by kernel_rfl) (by kernel_rfl) (fun _ _ _ h => h) (Or.inl ⟨by rfl, fun V hV => ?_⟩) hS ?_
        · obtain ⟨z0, z1, z2, z3⟩ := hV; go_simp
        try simp only [Act.put, List.setIfInBounds_toArray, List.set_cons_zero, List.set_cons_succ]
        refine V_takeS [20, 18, 12, 11] 35 (k := 10) (v := .agg #[u0, u1, .bool gi]) rfl rfl (by kernel_rfl) (by kernel_rfl) (by kernel_rfl) (by kernel_rfl) (by kernel_rfl) (by kernel_rfl) (fun _ _ _ h => h) (Or.inl ⟨by rfl, fun V hV => ?_⟩) hS ?_
        · obtain ⟨z0, z1, z2, z3⟩ := hV; go_simp
        try simp only [Act.put, List.setIfInBounds_toArray, List.set_cons_zero, List.set_cons_succ]
        refine V_takeS [20, 18, 17, 14] 38 (k := 13) (v := .pointer (some ⟨X, 4, none⟩)) rfl rfl (by kernel_rfl) (by kernel_rfl) (by kernel_rfl) (by kernel_rfl) (by kernel_rfl) (by kernel_rfl) (fun _ _ _ h => h) (Or.inl ⟨by rfl, fun V hV => ?_⟩) hS ?_
        · obtain ⟨z0, z1, z2, z3⟩ := hV; go_simp
        try simp only [Act.put, List.setIfInBounds_toArray, List.set_cons_zero, List.set_cons_succ]
        refine V_takeS [20, 18, 17] 39 (k := 14) (v := .slice (some ⟨bw, ow, none⟩) wn wc) rfl rfl (by kernel_rfl) (by kernel_rfl) (by kernel_rfl) (by kernel_rfl) (by kernel_rfl) (by kernel_rfl) (fun _ _ _ h => h) (Or.inl ⟨by rfl, fun V hV => ?_⟩) hS ?_
        · obtain ⟨z0, z1, z2, z3⟩ := hV; go_simp
        try simp only [Act.put, List.setIfInBounds_toArray, List.set_cons_zero, List.set_cons_succ]
        refine V_takeS [20, 18, 17, 16] 40 (k := 15) (v := .int .i64 (i : Int)) rfl rfl (by kernel_rfl) (by kernel_rfl) (by kernel_rfl) (by kernel_rfl) (by kernel_rfl) (by kernel_rfl) (fun _ _ _ h => h) (Or.inl ⟨by rfl, fun V hV => ?_⟩) hS ?_
        · obtain ⟨z0, z1, z2, z3⟩ := hV; go_simp
        try simp only [Act.put, List.setIfInBounds_toArray, List.set_cons_zero, List.set_cons_succ]
        refine V_takeS [20, 18, 17] 41 (k := 16) (v := .int .i64 ((i : Int) + 1)) rfl rfl (by kernel_rfl) (by kernel_rfl) (by kernel_rfl) (by kernel_rfl) (by kernel_rfl) (by kernel_rfl) (fun _ _ _ h => h) (Or.inl ⟨by rfl, fun V hV => ?_⟩) hS ?_
        · obtain ⟨z0, z1, z2, z3⟩ := hV; go_simp
        try simp only [Act.put, List.setIfInBounds_toArray, List.set_cons_zero, List.set_cons_succ]
        refine V_takeS [20, 18] 42 (k := 17) (v := .slice (some ⟨bw, ow + (i + 1) * 3, none⟩) (wn - (i + 1)) (wc - (i + 1))) rfl rfl (by kernel_rfl) (by kernel_rfl) (by kernel_rfl) (by kernel_rfl) (by kernel_rfl) (by kernel_rfl) (fun _ _ _ h => h) (Or.inl ⟨by rfl, fun V hV => ?_⟩) hS ?_
        · obtain ⟨z0, z1, z2, z3⟩ := hV; go_simp
        try simp only [Act.put, List.setIfInBounds_toArray, List.set_cons_zero, List.set_cons_succ]
        refine U_two (i := 5) (j := 11) (by kernel_rfl) rfl rfl rfl rfl (fun K hK => ?_) (fun K hK => ?_)
        · refine wp_of_list rfl (by rintro ⟨_, _, hh⟩; first | exact hh | exact hLO.out _ hh) (wpList_append_rows (K := kWt) (ok := fun b => b ≠ Y) (ok2 := fun b => b < Y) eltW rfl (.const (.slice none 0 0)) (.tmp 29) rfl W6.heap.size (.slice none 0 0) [] rfl (Rows.nil _ _ _ _ _) (some ⟨bw, ow, none⟩) wc (i + 1) (ws.take (i + 1)) rfl HTk.out.1 (HWr.out _ (Below.refl _ _).drew).1 (fun b _ hb _ => Nat.ne_of_lt hb) (fun _ _ _ e => by cases e) (by simp only [List.length_nil]; omega) (by decide) (Nat.le_refl _) (fun v5 w5 r1 r2 r3 => list_end ?_))
          have H5 : Hid (Rows kWt (fun b => b ≠ Y) w5 W6.heap.size 43 v5 (ws.take (i + 1)) ∧ Below W6.heap.size W6 w5) := ⟨r1, below_grown ((Below.refl W6.heap.size W6).drew) (Nat.le_refl _) r2 (fun r e => by cases e)⟩
          have hS5 := HSV.out _ H5.out.2
          refine hK _ _ (fun _ => hS5) ?_
          clear hK K hS r1 r2 r3
          try simp only [Act.put, List.setIfInBounds_toArray, List.set_cons_zero, List.set_cons_succ]
          change wpAnyU _ _ _ _ _ _ #[true, true, true, true, true, true, true, true, true, true, true, false, false, true, true, true, true, true, false, false, false] _ _
          refine U_one (i := 11) (listed' := #[true, true, true, true, true, true, true, true, true, true, true, true, false, true, true, true, true, true, false, false, false]) (by kernel_rfl) rfl (by kernel_rfl) rfl (fun K hK => ?_)
          go_simp
          obtain ⟨bl, hbl⟩ : ∃ bl, bl = w5.heap.size := ⟨_, rfl⟩
          have HOr : Hid (OrI Y W6.heap.size W6 ws i y v5 bl (w5.alloc (.cells #[u0, u1, .bool gi] 43))) := by
            rw [hbl]
            have hba := (Below.refl w5.heap.size w5).alloc (Nat.le_refl _) (.cells #[u0, u1, .bool gi] 43)
            exact ⟨H5.out.1.later hba, (lies_one (K := kWt) (ok := fun b => b < Y ∨ b = w5.heap.size) #[u0, u1, .bool gi] rfl 43 (kWt.move (Kept.of_below (Below.refl _ _)) (fun b _ h => .inl h) (HYr.out w5 H5.out.2)) (.inr rfl)), H5.out.2.size, fun e => by have := (rows_lt H5.out.1 _ e).2; omega, H5.out.2.trans (hba.mono H5.out.2.size)⟩
          rw [← hbl]
          generalize w5.alloc (.cells #[u0, u1, .bool gi] _) = w7 at HOr ⊢
          clear H5 hS5 hbl
          have hS5 := HSV.out _ HOr.out.below
          have hS := hS5
          refine hK _ _ (fun _ => hS5) ?_
          clear hK K hS
          try simp only [Act.put, List.setIfInBounds_toArray, List.set_cons_zero, List.set_cons_succ]
          refine U_one (i := 12) (listed' := #[true, true, true, true, true, true, true, true, true, true, true, true, true, true, true, true, true, true, false, false, false]) (by kernel_rfl) rfl (by kernel_rfl) rfl (fun K hK => ?_)
          refine wp_of_list rfl (by rintro ⟨_, _, hh⟩; first | exact hh | exact hLO.out _ hh) (wpList_append_rows (K := kWt) (ok := fun b => b ≠ Y) (ok2 := fun b => b < Y ∨ b = bl) eltW rfl (.tmp 30) (.tmp 36) rfl W6.heap.size v5 (ws.take (i + 1)) rfl HOr.out.rows (some ⟨bl, 0, none⟩) 1 1 [y] rfl rfl HOr.out.one (fun b _ hb _ => by have := HOr.out.low; rcases hb with hb | hb <;> (show b ≠ Y; omega)) (fun b _ hb e => by rcases hb with hb | rfl; have := (rows_lt HOr.out.rows b e).1; omega; exact HOr.out.ne e) (by rw [← HTk.out.1]; omega) (by decide) HOr.out.below.size (fun v12 w12 r1 r2 r3 => list_end ?_))
          have H12 : Hid (Rows kWt (fun b => b ≠ Y) w12 W6.heap.size 43 v12 (ws.take (i + 1) ++ [y]) ∧ Below W6.heap.size W6 w12) := ⟨r1, below_grown HOr.out.below HOr.out.below.size r2 (fun r e => (rows_lt HOr.out.rows r e).1)⟩
          refine hK _ _ (fun _ => HSV.out _ H12.out.2) ?_
          clear hK K r1 r2 r3 HOr hS5
          try simp only [Act.put, List.setIfInBounds_toArray]
          refine U_one (i := 18) (listed' := #[true, true, true, true, true, true, true, true, true, true, true, true, true, true, true, true, true, true, true, false, false]) (by kernel_rfl) rfl (by kernel_rfl) rfl (fun K hK => ?_)
          refine wp_of_list rfl (by rintro ⟨_, _, hh⟩; first | exact hh | exact hLO.out _ hh) (wpList_append_rows (K := kWt) (ok := fun b => b ≠ Y) (ok2 := fun b => b < Y) eltW rfl (.tmp 37) (.tmp 42) rfl W6.heap.size v12 (ws.take (i + 1) ++ [y]) rfl H12.out.1 (some ⟨bw, ow + (i + 1) * 3, none⟩) (wc - (i + 1)) (wn - (i + 1)) (ws.drop (i + 1)) rfl HTk.out.2 (HWr.out _ H12.out.2).2 (fun b _ hb _ => Nat.ne_of_lt hb) (fun b _ hb e => by have := (rows_lt H12.out.1 b e).1; omega) (by rw [List.length_append, ← HTk.out.1, List.length_singleton]; omega) (by decide) H12.out.2.size (fun v18 w18 r1 r2 r3 => list_end ?_))
          have H18 : Hid (Rows kWt (fun b => b ≠ Y) w18 W6.heap.size 43 v18 (twice ws i y) ∧ Below W6.heap.size W6 w18) := ⟨r1, below_grown H12.out.2 H12.out.2.size r2 (fun r e => (rows_lt H12.out.1 r e).1)⟩
          obtain ⟨a9, c9, e9⟩ := rows_form H18.out.1
          subst e9
          have hS18 := HSV.out _ H18.out.2
          refine hK _ _ (fun _ => hS18) ?_
          clear hK K r1 r2 r3 H12
          try simp only [Act.put]
          refine V_takeS [20] 44 (k := 19) (v := .pointer (some ⟨Y, 4, none⟩)) rfl rfl (by kernel_rfl) (by kernel_rfl) (by kernel_rfl) (by kernel_rfl) (by kernel_rfl) (by kernel_rfl) (fun _ _ _ h => h) (Or.inl ⟨by rfl, fun V hV => ?_⟩) hS18 ?_
          · skip; go_simp
          try simp only [Act.put, List.setIfInBounds_toArray, List.set_cons_zero, List.set_cons_succ]
          obtain ⟨y4, f4⟩ := (HYv.out.later H18.out.2) 4 _ rfl
          refine U_one (i := 20) (listed' := #[true, true, true, true, true, true, true, true, true, true, true, true, true, true, true, true, true, true, true, true, true]) (by kernel_rfl) rfl (by kernel_rfl) rfl (fun K hK => ?_)
          go_simp
          refine hK _ _ (fun hh => by cases (show true = false from hh)) ?_
          clear hK K
          refine U_done (by kernel_rfl) ?_ _
          have H20 := put_by (HEnd.out _ _ _ H18.out.1 H18.out.2)
          go_wp2
          go_meet
          exact ⟨_, _, _, rfl, H20.out⟩
        · go_simp
          obtain ⟨bl, hbl⟩ : ∃ bl, bl = W6.heap.size := ⟨_, rfl⟩
          have hba := (Below.refl W6.heap.size W6).alloc (Nat.le_refl _) (.cells #[u0, u1, .bool gi] 43)
          have H5 : Hid (Lies kWt (fun b => b < Y ∨ b = bl) (W6.alloc (.cells #[u0, u1, .bool gi] 43)).drew (some ⟨bl, 0, none⟩) 1 [y] ∧ Below W6.heap.size W6 (W6.alloc (.cells #[u0, u1, .bool gi] 43)).drew ∧ bl < (W6.alloc (.cells #[u0, u1, .bool gi] 43)).drew.heap.size) := by
            rw [hbl]
            exact ⟨(lies_one (K := kWt) (W := W6) (ok := fun b => b < Y ∨ b = W6.heap.size) #[u0, u1, .bool gi] rfl 43 (kWt.move (Kept.of_below (Below.refl _ _)) (fun b _ h => .inl h) (HYr.out W6 (Below.refl W6.heap.size W6))) (.inr rfl)).later (Below.refl _ _).drew, hba.drew, by simp⟩
          rw [← hbl]
          generalize (W6.alloc (.cells #[u0, u1, .bool gi] _)).drew = w7 at H5 ⊢
          clear hba
          have hS7 := HSV.out _ H5.out.2.1
          refine hK _ _ (fun _ => hS7) ?_
          clear hK K hS
          try simp only [List.setIfInBounds_toArray, List.set_cons_zero, List.set_cons_succ]
          change wpAnyU _ _ _ _ _ _ #[true, true, true, true, true, false, true, true, true, true, true, true, false, true, true, true, true, true, false, false, false] _ _
          refine U_one (i := 5) (listed' := #[true, true, true, true, true, true, true, true, true, true, true, true, false, true, true, true, true, true, false, false, false]) (by kernel_rfl) rfl (by kernel_rfl) rfl (fun K hK => ?_)
          refine wp_of_list rfl (by rintro ⟨_, _, hh⟩; first | exact hh | exact hLO.out _ hh) (wpList_append_rows (K := kWt) (ok := fun b => b ≠ Y) (ok2 := fun b => b < Y) eltW rfl (.const (.slice none 0 0)) (.tmp 29) rfl W6.heap.size (.slice none 0 0) [] rfl (Rows.nil _ _ _ _ _) (some ⟨bw, ow, none⟩) wc (i + 1) (ws.take (i + 1)) rfl HTk.out.1 (HWr.out _ H5.out.2.1).1 (fun b _ hb _ => Nat.ne_of_lt hb) (fun _ _ _ e => by cases e) (by simp only [List.length_nil]; omega) (by decide) H5.out.2.1.size (fun v5 w5 r1 r2 r3 => list_end ?_))
          have HOr : Hid (OrI Y W6.heap.size W6 ws i y v5 bl w5) := ⟨r1, H5.out.1.move (Kept.of_grown r2 (fun b _ e => by cases e)) (fun _ _ h => h), by rw [hbl]; exact Nat.le_refl _, fun e => by
            rcases r3 with r3 | r3
            · rw [r3] at e; cases e
            · rw [r3] at e; have := Option.some.inj e; have := H5.out.2.2; omega, below_grown H5.out.2.1 H5.out.2.1.size r2 (fun r e => by cases e)⟩
          clear H5 hS7 r1 r2 r3
          have hS5 := HSV.out _ HOr.out.below
          have hS := hS5
          refine hK _ _ (fun _ => hS5) ?_
          clear hK K hS
          try simp only [Act.put, List.setIfInBounds_toArray]
          refine U_one (i := 12) (listed' := #[true, true, true, true, true, true, true, true, true, true, true, true, true, true, true, true, true, true, false, false, false]) (by kernel_rfl) rfl (by kernel_rfl) rfl (fun K hK => ?_)
          refine wp_of_list rfl (by rintro ⟨_, _, hh⟩; first | exact hh | exact hLO.out _ hh) (wpList_append_rows (K := kWt) (ok := fun b => b ≠ Y) (ok2 := fun b => b < Y ∨ b = bl) eltW rfl (.tmp 30) (.tmp 36) rfl W6.heap.size v5 (ws.take (i + 1)) rfl HOr.out.rows (some ⟨bl, 0, none⟩) 1 1 [y] rfl rfl HOr.out.one (fun b _ hb _ => by have := HOr.out.low; rcases hb with hb | hb <;> (show b ≠ Y; omega)) (fun b _ hb e => by rcases hb with hb | rfl; have := (rows_lt HOr.out.rows b e).1; omega; exact HOr.out.ne e) (by rw [← HTk.out.1]; omega) (by decide) HOr.out.below.size (fun v12 w12 r1 r2 r3 => list_end ?_))
          have H12 : Hid (Rows kWt (fun b => b ≠ Y) w12 W6.heap.size 43 v12 (ws.take (i + 1) ++ [y]) ∧ Below W6.heap.size W6 w12) := ⟨r1, below_grown HOr.out.below HOr.out.below.size r2 (fun r e => (rows_lt HOr.out.rows r e).1)⟩
          refine hK _ _ (fun _ => HSV.out _ H12.out.2) ?_
          clear hK K r1 r2 r3 HOr hS5
          try simp only [Act.put]
          refine U_one (i := 18) (listed' := #[true, true, true, true, true, true, true, true, true, true, true, true, true, true, true, true, true, true, true, false, false]) (by kernel_rfl) rfl (by kernel_rfl) rfl (fun K hK => ?_)
          refine wp_of_list rfl (by rintro ⟨_, _, hh⟩; first | exact hh | exact hLO.out _ hh) (wpList_append_rows (K := kWt) (ok := fun b => b ≠ Y) (ok2 := fun b => b < Y) eltW rfl (.tmp 37) (.tmp 42) rfl W6.heap.size v12 (ws.take (i + 1) ++ [y]) rfl H12.out.1 (some ⟨bw, ow + (i + 1) * 3, none⟩) (wc - (i + 1)) (wn - (i + 1)) (ws.drop (i + 1)) rfl HTk.out.2 (HWr.out _ H12.out.2).2 (fun b _ hb _ => Nat.ne_of_lt hb) (fun b _ hb e => by have := (rows_lt H12.out.1 b e).1; omega) (by rw [List.length_append, ← HTk.out.1, List.length_singleton]; omega) (by decide) H12.out.2.size (fun v18 w18 r1 r2 r3 => list_end ?_))
          have H18 : Hid (Rows kWt (fun b => b ≠ Y) w18 W6.heap.size 43 v18 (twice ws i y) ∧ Below W6.heap.size W6 w18) := ⟨r1, below_grown H12.out.2 H12.out.2.size r2 (fun r e => (rows_lt H12.out.1 r e).1)⟩
          obtain ⟨a9, c9, e9⟩ := rows_form H18.out.1
          subst e9
          have hS18 := HSV.out _ H18.out.2
          refine hK _ _ (fun _ => hS18) ?_
          clear hK K r1 r2 r3 H12
          try simp only [Act.put]
          refine V_takeS [20] 44 (k := 19) (v := .pointer (some ⟨Y, 4, none⟩)) rfl rfl (by kernel_rfl) (by kernel_rfl) (by kernel_rfl) (by kernel_rfl) (by kernel_rfl) (by kernel_rfl) (fun _ _ _ h => h) (Or.inl ⟨by rfl, fun V hV => ?_⟩) hS18 ?_
          · skip; go_simp
          try simp only [Act.put, List.setIfInBounds_toArray, List.set_cons_zero, List.set_cons_succ]
          obtain ⟨y4, f4⟩ := (HYv.out.later H18.out.2) 4 _ rfl
          refine U_one (i := 20) (listed' := #[true, true, true, true, true, true, true, true, true, true, true, true, true, true, true, true, true, true, true, true, true]) (by kernel_rfl) rfl (by kernel_rfl) rfl (fun K hK => ?_)
          go_simp
          refine hK _ _ (fun hh => by cases (show true = false from hh)) ?_
          clear hK K
          refine U_done (by kernel_rfl) ?_ _
          have H20 := put_by (HEnd.out _ _ _ H18.out.1 H18.out.2)
          go_wp2
          go_meet
          exact ⟨_, _, _, rfl, H20.out⟩
    case rest =>
      obtain ⟨a9, m9, c9, rfl, H20⟩ := hcut
      clear HSV HEnd HYr HWr HTk H6 HYv hS
      have d6 := put_by (encode_bad H20.out HNot.out)
      obtain ⟨t0, -⟩ := H20.out.var 0 _ rfl
      obtain ⟨t1, -⟩ := H20.out.var 1 _ rfl
      obtain ⟨t2, -⟩ := H20.out.var 2 _ rfl
      obtain ⟨t3, -⟩ := H20.out.var 3 _ rfl
      obtain ⟨t4, -⟩ := H20.out.var 4 _ rfl
      rename World => wz
      have d8 : Hid (∀ V, Below wz.heap.size wz V → Calls Try.prog 12 #[.agg #[.int .i64 C, .int .i64 N, .int .i64 B, .slice ra rn rc, .slice a9 m9 c9]] V fun e w' => e = .returned (.bool false) ∧ Hid (Below w.heap.size w w')) := fun V hV => (May_bk (H20.out.later hV) false ⟨fun e => (by cases e), fun h => absurd h HNot.out⟩).mono (fun e w' h => ⟨h.1, (H20.out.later hV).below.trans (h.2.mono (H20.out.later hV).below.size)⟩)
      have d9 : Hid (Calls Try.prog 11 #[.agg #[.int .i64 C, .int .i64 N, .int .i64 B, .slice ra rn rc, .slice a9 m9 c9]] wz fun e w' => ∃ (a : Option Addr) (k : Nat), e = .returned (.tuple #[.slice a 0 k, .int .i64 4]) ∧ Cls w' Y [.int .i64 C, .int .i64 N, .int .i64 B, .slice ra rn rc, .slice a9 m9 c9] ∧ Hid (Below wz.heap.size wz w')) := d6.out.mono (fun e w' ⟨a, k, h1, h2⟩ => ⟨a, k, h1, H20.out.var.later h2.out, h2⟩)
      clear d6 H20 HNot H6r
      go_wp2_with (first
        | (go_at_call 11; (with_reducible refine d9.out.mono ?_); clear d9; rintro e w21 ⟨a21, k21, rfl, hY, H21⟩; obtain ⟨s0, -⟩ := hY 0 _ rfl; obtain ⟨s1, -⟩ := hY 1 _ rfl; obtain ⟨s2, -⟩ := hY 2 _ rfl; obtain ⟨s3, -⟩ := hY 3 _ rfl; obtain ⟨s4, -⟩ := hY 4 _ rfl; clear hY)
        | (go_at_call 12; (with_reducible refine (d8.out _ H21.out).mono ?_); clear d8; rintro e w22 ⟨rfl, H22⟩))
      go_ret
      exact ⟨by simp, H22.out⟩

/-! ### THE ROW's STEP: WRITTEN OUT: LEAVE IT -/
set_option maxRecDepth 100000 in
theorem lifted (os : Os) (started : os.Started) (H : Type) (enc : TypeId × Value → H) :
    ReturnsInHanded {} Try.checked os 5 .any (Rows.intentOrderSpec.pre6 enc Try.prog Try.f5 Rows.intentOrderRow.domain false) (Rows.intentOrderSpec.post enc Try.prog Try.f5 false true false false) := by
  refine returnsInHanded_of_change_sized (C := Try.checked) own started (by kernel_rfl) Try.func5
    (ChangeSpec.witness6 (enc := enc) (C := Try.checked) false ⟨#[], #[.agg #[.int .i64 0, .int .i64 0, .int .i64 0, .slice none 0 0, .slice none 0 0, .bool false], .int .i64 0], []⟩ 8 (by kernel_rfl) (by kernel_rfl) (by kernel_rfl) (by kernel_rfl)) ?_
  intro W base args ds gs before hval0 hW hcnd hsz0 _
  have hval : ∀ (j : Nat) t v, Try.f5.params[j]? = some t → args[j]? = some v → Value.okWide Try.prog W .any base t v := hval0
  have hW' := hW
  obtain ⟨p, q, hA0, hV, rfl, hfz, hnd⟩ := hW
  have hA : DataW.TrodAll enc Try.prog W 0 (fun _ => true) true Try.f5.params.toList args.toList ds p := hA0
  have hsz : (DataW.weightsEach Try.prog (Try.f5.params.toList ++ Rows.intentOrderSpec.plain.varTypes Try.prog) (ds ++ gs)).all (· ≤ reachBytes) = true := hsz0
  clear hsz0
  rw [Try.params5] at hA hval hsz
  obtain ⟨v0, vs0, d0, ds0, p0, q0, hargs, rfl, rfl, h0, r0⟩ := trodAll_cons hA
  obtain ⟨v1, vs1, d1, ds1, p1, q1, rfl, rfl, rfl, h1, r1⟩ := trodAll_cons r0
  obtain ⟨rfl, rfl, rfl⟩ := trodAll_nil r1
  obtain rfl : args = #[v0, v1] := by cases args; simp_all
  obtain ⟨rfl, rfl⟩ := trodVars_none hV
  have k0 := h0
  have lt0 : ∀ x ∈ p0, x.block < W.heap.size := by obtain ⟨m, hm⟩ := k0; exact DataW.trod_lt m _ _ _ hm
  have w0 : WishArg W v0 := wish_arg hsz (j := 0) rfl rfl (hval 0 35 v0 rfl rfl) h0
  obtain ⟨a1, rfl, rfl, rfl, w1⟩ := open_int Try.underlying3 (hval 1 3 v1 rfl rfl) h1
  clear hA0 hval0
  refine (walk v0 a1 W w0 w1).mono fun e W' ⟨he, bel⟩ => ?_
  subst he
  exact ⟨_, rfl, _, _, _, [], _, [], hW', trodAll_mk1 (shut_bool Try.underlying4 _), (trodAll_cons_mk (Below.trod laidOut (by kernel_rfl) (of_decide_eq_true (by kernel_rfl)) k0 bel lt0) (trodAll_cons_mk (shut_int Try.underlying3 w1) trodAll_mk0)), rfl, bel.frame _, fun h => by cases h⟩

theorem over : Rows.intentOrderRow.holds Try.pinned (OpenSpec.ofChange Rows.intentOrderSpec) :=
  OpenClaim.holds_of_wide 5 Try.f5 rfl rfl rfl rfl rfl rfl rfl ⟨rfl, rfl, rfl, rfl, rfl⟩ rfl rfl rfl rfl rfl (by kernel_rfl) Try.func5 (by kernel_rfl)
    (of_decide_eq_true (by kernel_rfl)) (by unfold Func.isWrapper; first | (rw [if_pos (by decide +kernel)]; kernel_rfl) | (rw [if_neg (by decide +kernel)]; exact ⟨rfl, rfl⟩))
    (fun os started H enc _ => lifted os started H enc)

/-- ████ THE STATEMENT ████ -/
theorem proved : Rows.IntentOrderSaid := over
end Go.Proofs.Ytjilcljchdmbjaa.intentOrder
namespace Go.Proofs.Ytjilcljchdmbjaa
theorem intentOrder_holds : Rows.IntentOrderSaid := intentOrder.proved
end Go.Proofs.Ytjilcljchdmbjaa
