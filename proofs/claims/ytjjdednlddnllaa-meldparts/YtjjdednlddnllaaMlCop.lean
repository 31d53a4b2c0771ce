/- A state of new memory: copiedState. -/
import Derived.Test.YtjjdednlddnllaaMlSnap
import Derived.Test.YtjjdednlddnllaaRdAll
import Derived.Test.YtjjdednlddnllaaAnyU
namespace Go.Proofs.Ytjjdednlddnllaa
open Go.ChangeShapes Go.WideShapes Go.ChangeAt Go.RowKit

/-- a round's own variable, the row so far, and all that was there -/
structure CpI (w1 wr : World) (v : Value) (m : List Cel) (vs : List Value) (W : World) : Prop where
  var : Cls W wr.heap.size vs
  rows : Rows kCel (fun b => w1.heap.size ≤ b ∧ b ≠ wr.heap.size) W w1.heap.size 55 v m
  below : Below w1.heap.size w1 W
  size : wr.heap.size < W.heap.size
  old : w1.heap.size ≤ wr.heap.size
  own : ∀ g, v.ownBlock = some g → g < wr.heap.size

theorem CpI.later {w1 wr W W' : World} {v : Value} {m : List Cel} {vs : List Value} (h : CpI w1 wr v m vs W) (hb : Below W.heap.size W W') : CpI w1 wr v m vs W' :=
  ⟨h.var.later hb, h.rows.later hb, h.below.trans (hb.mono h.below.size), Nat.lt_of_lt_of_le h.size hb.size, h.old, h.own⟩

theorem CpI.store {w1 wr W : World} {v : Value} {m : List Cel} {vs : List Value} (h : CpI w1 wr v m vs W) {k : Nat} (u : Value) : CpI w1 wr v m (vs.set k u) (W.setCell ⟨wr.heap.size, k, none⟩ u) := by
  have hg : W.grownBy (W.setCell ⟨wr.heap.size, k, none⟩ u) (some wr.heap.size) := grown_set u
  refine ⟨h.var.set u, h.rows.move (Kept.of_grown hg (fun b ho e => ho.2 (Option.some.inj e).symm)) (fun g e => hg.block g (Nat.lt_trans (h.own g e) h.size) (fun e2 => by have := h.own g e; have := Option.some.inj e2; omega)), h.below.setCell (by show w1.heap.size ≤ wr.heap.size; exact h.old) u, by simpa using h.size, h.old, h.own⟩

/-- the copies -/
structure CpEnd (W1 : World) (cs : List Cel) (ds : List Dn) (v1 v2 : Value) (W : World) : Prop where
  cells : Rows kCel (fun b => W1.heap.size ≤ b ∧ v2.ownBlock ≠ some b) W W1.heap.size 55 v1 cs
  dones : Rows kDn (fun _ => True) W W1.heap.size 57 v2 ds
  apart : ∀ g, v1.ownBlock = some g → v2.ownBlock ≠ some g
  below : Below W1.heap.size W1 W

theorem CpEnd.of {W1 wr w9 : World} {cs : List Cel} {ds : List Dn} {v1 v2 : Value} (h : Rows kCel (fun b => W1.heap.size ≤ b) wr W1.heap.size 55 v1 cs ∧ Below W1.heap.size W1 wr) (r1 : Rows kDn (fun _ => True) w9 W1.heap.size 57 v2 ds) (r2 : wr.drew.grownBy w9 (Value.slice none 0 0).ownBlock) (r3 : v2.ownBlock = (Value.slice none 0 0).ownBlock ∨ v2.ownBlock = some wr.drew.heap.size) : CpEnd W1 cs ds v1 v2 w9 := by
  have hne : ∀ b, b < wr.heap.size → v2.ownBlock ≠ some b := fun b hb e => by
    rcases r3 with h | h
    · rw [h] at e; cases e
    · rw [h] at e; have := Option.some.inj e; have h2 : wr.drew.heap.size = wr.heap.size := rfl; omega
  have hb : Below wr.heap.size wr w9 := ⟨r2.os, r2.tape, r2.output, r2.size, fun b hb => r2.block b hb (fun e => by cases e)⟩
  exact ⟨(h.1.turned (fun b hb ho => ⟨ho, hne b hb⟩)).later hb, r1, fun g e => hne g (rows_lt h.1 g e).2, h.2.trans (hb.mono h.2.size)⟩

/-- the cells of a state's variable set anew -/
theorem three_set {W : World} {A N : Nat} {u0 u1 u2 : Value} (hA : Cls W A [u0, u1, u2]) (hN : N ≤ A) (v0 v1 v2 : Value) :
    Cls (((W.setCell ⟨A, 0, none⟩ v0).setCell ⟨A, 1, none⟩ v1).setCell ⟨A, 2, none⟩ v2) A [v0, v1, v2] ∧ Below N W (((W.setCell ⟨A, 0, none⟩ v0).setCell ⟨A, 1, none⟩ v1).setCell ⟨A, 2, none⟩ v2) ∧ ∀ g, g ≠ A → (((W.setCell ⟨A, 0, none⟩ v0).setCell ⟨A, 1, none⟩ v1).setCell ⟨A, 2, none⟩ v2).heap[g]? = W.heap[g]? := by
  refine ⟨((hA.set (k := 0) v0).set (k := 1) v1).set (k := 2) v2, (((Below.refl N W).setCell hN _).setCell hN _).setCell hN _, fun g hg => ?_⟩
  rw [Below.heap_setCell _ _ _ _ hg, Below.heap_setCell _ _ _ _ hg, Below.heap_setCell _ _ _ _ hg]

/-- what a copy of a state comes to -/
def CpPost (p : Int) (cs : List Cel) (ds : List Dn) (w : World) (e : Ending) (w' : World) : Prop := ∃ (a : Option Addr) (n c : Nat) (a2 : Option Addr) (n2 c2 : Nat), e = .returned (.agg #[.int .i64 p, .slice a n c, .slice a2 n2 c2]) ∧ n = cs.length ∧ n2 = ds.length ∧
  Rows kCel (fun b => w.heap.size ≤ b ∧ (Value.slice a2 n2 c2).ownBlock ≠ some b) w' w.heap.size 55 (.slice a n c) cs ∧ Rows kDn (fun _ => True) w' w.heap.size 57 (.slice a2 n2 c2) ds ∧ (∀ g, (Value.slice a n c).ownBlock = some g → (Value.slice a2 n2 c2).ownBlock ≠ some g) ∧ Below w.heap.size w w'

theorem Rows.base {α : Type} {size : Nat} {K : Kd α size} {ok : Nat → Prop} {W : World} {b0 b1 : Nat} {E : TypeId} {v : Value} {l : List α} (h : Rows K ok W b1 E v l) (hb : b0 ≤ b1) : Rows K ok W b0 E v l := by
  obtain ⟨css, h1, h2⟩ := h
  refine ⟨css, ⟨h1.1, ?_⟩, h2⟩
  rcases h1.2 with h | ⟨g, cap, cur, e, h3, h4⟩
  · exact .inl h
  · exact .inr ⟨g, cap, cur, e, Nat.le_trans hb h3, h4⟩

/-- of dones it is all one what will do -/
theorem dn_rows {ok ok2 : Nat → Prop} {w w' : World} {base : Nat} {E : TypeId} {v : Value} {l : List Dn} (h : Rows kDn ok w base E v l) (hv : ∀ g, v.ownBlock = some g → w'.heap[g]? = w.heap[g]?) : Rows kDn ok2 w' base E v l := by
  obtain ⟨css, h1, h2⟩ := h
  exact ⟨css, own_kept h1 hv, All2.imp (fun _ _ hr => hr) h2⟩

set_option maxRecDepth 100000 in
set_option maxHeartbeats 2000000 in
theorem copiedState_any (ok : Nat → Prop) (p : Int) (cs : List Cel) (ds : List Dn) (ca : Option Addr) (cc : Nat) (da : Option Addr) (dc : Nat) (w : World) (hI : StIs ok w cs ds ca cc da dc) :
    Calls Try.prog 32 #[.agg #[.int .i64 p, .slice ca cs.length cc, .slice da ds.length dc]] w fun e w' => CpPost p cs ds w e w' := by
  generalize hpost : (fun e w' => CpPost p cs ds w e w') = Q
  have HO : Hid (∀ w', ¬ Q .outgrown w') := fun w' hh => by
    rw [← hpost] at hh
    obtain ⟨_, _, _, _, _, _, h, -⟩ := hh
    cases h
  have HP : Hid (∀ e w', CpPost p cs ds w e w' → Q e w') := fun e w' h => by rw [← hpost]; exact h
  clear hpost
  obtain ⟨n, hn⟩ : ∃ n, n = cs.length := ⟨_, rfl⟩
  obtain ⟨nd, hnd⟩ : ∃ n, n = ds.length := ⟨_, rfl⟩
  have h8 := hI.few
  rw [← hn, ← hnd] at h8 ⊢
  have HL := put_by hI.cells
  have HDL0 := put_by hI.dones
  have HN := put_by (And.intro hn hnd)
  have H8 := put_by h8
  have hn9 : n ≤ 140737488351232 := by omega
  clear hI hn hnd h8
  have HW := put_by (Cls.new w [.int .i64 p, .slice ca n cc, .slice da nd dc] 25)
  have HB0 := put_by ((Below.refl w.heap.size w).alloc (Nat.le_refl _) (.cells #[.int .i64 p, .slice ca n cc, .slice da nd dc] 25))
  have HS : Hid ((w.alloc (.cells #[.int .i64 p, .slice ca n cc, .slice da nd dc] 25)).heap.size = w.heap.size + 1) := by simp [Hid]
  go_enter Try.func32, Try.ntmps32
  go_upto_region 1 with (fail)
  generalize hA : w.heap.size + 1 = A
  generalize w.alloc (.cells #[.int .i64 p, .slice ca n cc, .slice da nd dc] _) = W2 at HW HB0 HS ⊢
  have HC := put_by (Cls.new W2 [.int .i64 0, .slice none 0 0, .slice none 0 0] 25)
  have HB2 := put_by ((Below.refl W2.heap.size W2).alloc (Nat.le_refl _) (.cells #[.int .i64 0, .slice none 0 0, .slice none 0 0] 25))
  have HS2 : Hid ((W2.alloc (.cells #[.int .i64 0, .slice none 0 0, .slice none 0 0] 25)).heap.size = w.heap.size + 2) := by simp [Hid, HS.out]
  have HAE : Hid (A = w.heap.size + 1) := hA.symm
  clear hA
  generalize W2.alloc (.cells #[.int .i64 0, .slice none 0 0, .slice none 0 0] _) = W1 at HC HB2 HS2 ⊢
  have HX : Hid (Cls W1 w.heap.size [.int .i64 p, .slice ca n cc, .slice da nd dc] ∧ Cls W1 A [.int .i64 0, .slice none 0 0, .slice none 0 0] ∧ Below w.heap.size w W1) := ⟨HW.out.later HB2.out, by rw [HAE.out, ← HS.out]; exact HC.out, HB0.out.trans (HB2.out.mono HB0.out.size)⟩
  clear HW HB0 HS HC HB2
  have HXB : Hid (∀ V, Below W1.heap.size W1 V → V.cell? ⟨w.heap.size, 0, none⟩ = some (.int .i64 p) ∧ V.cell? ⟨w.heap.size, 2, none⟩ = some (.slice da nd dc)) := fun V hV => ⟨((HX.out.1.later hV) 0 _ rfl).1, ((HX.out.1.later hV) 2 _ rfl).1⟩
  obtain ⟨y1, -⟩ := HX.out.1 1 _ rfl
  go_upto_region 3 with (fail)
  go_loopw [3, 9] (fun s i wr => ∃ (k : Nat) (a : Option Addr) (m c : Nat), k ≤ n ∧ i = .int .i64 k ∧ s = .slice a m c ∧ Hid (Rows kCel (fun b => W1.heap.size ≤ b) wr W1.heap.size 55 (.slice a m c) (cs.take k) ∧ Below W1.heap.size W1 wr)) (fun _ i _ => n - (intOf i).toNat)
  case atStart => exact ⟨0, none, 0, 0, Nat.zero_le _, rfl, rfl, Rows.nil _ _ _ _ _, Below.refl _ _⟩
  case round =>
    obtain ⟨k, a, m, c, hk, rfl, rfl, HR⟩ := hrel
    rename World => wr
    clear y1
    have HB := put_by (HX.out.2.2.trans (HR.out.2.mono HX.out.2.2.size))
    by_cases hlt : k < n
    · have hx : k < cs.length := by rw [← HN.out.1]; exact hlt
      obtain ⟨bb, off, a1, c1, a2, c2, rfl, hk1, hk2, hb, hc⟩ := cel_at HL.out hx
      obtain ⟨d0, d1, d2, d3⟩ := hc wr HB.out
      have ik : (k : Int) < (n : Int) := by omega
      obtain ⟨xa, xc, e1, hxo, -⟩ := hk1
      cases e1
      obtain ⟨ya, yc, e2, hyo, -⟩ := hk2
      cases e2
      have HT := put_by (take_succ' hx)
      have HXO : Hid (∀ W, Below w.heap.size w W → Octs W a1 c1 (cs[k]).key ∧ Octs W a2 c2 (cs[k]).val) := fun W hW => ⟨hxo.later hW, hyo.later hW⟩
      obtain ⟨x, hxx⟩ : ∃ x, x = cs[k] := ⟨_, rfl⟩
      rw [← hxx] at d0 d1 d2 d3 HT HXO
      obtain ⟨kk, vv, g, s⟩ := x
      simp only at d0 d1 d2 d3 HXO
      clear hc hxo hyo hxx hb
      obtain ⟨i1, hi1⟩ : ∃ i, i = kk.length := ⟨_, rfl⟩
      obtain ⟨i2, hi2⟩ : ∃ i, i = vv.length := ⟨_, rfl⟩
      rw [← hi1] at d0
      rw [← hi2] at d1
      have HI12 := put_by (And.intro hi1 hi2)
      clear hi1 hi2
      have H0 : Hid (CpI W1 wr (.slice a m c) (cs.take k) [.slice a1 i1 c1, .slice a2 i2 c2, .bool g, .int .i64 s] (wr.alloc (.cells #[.slice a1 i1 c1, .slice a2 i2 c2, .bool g, .int .i64 s] 55))) := ⟨Cls.new wr [.slice a1 i1 c1, .slice a2 i2 c2, .bool g, .int .i64 s] 55, (HR.out.1.turned (fun b hb ho => ⟨ho, by omega⟩)).later ((Below.refl _ wr).alloc (Nat.le_refl _) _), HR.out.2.trans (((Below.refl _ wr).alloc (Nat.le_refl _) _).mono HR.out.2.size), by simp, HR.out.2.size, fun g e => (rows_lt HR.out.1 g e).2⟩
      have c1' : Hid (∀ W, CpI W1 wr (.slice a m c) (cs.take k) [.slice a1 i1 c1, .slice a2 i2 c2, .bool g, .int .i64 s] W → Calls Try.prog 35 #[.slice a1 i1 c1] W fun e w' => ∃ (b1 : Option Addr) (n1 q1 : Nat), e = .returned (.slice b1 n1 q1) ∧ Hid (CpI W1 wr (.slice a m c) (cs.take k) [.slice a1 i1 c1, .slice a2 i2 c2, .bool g, .int .i64 s] w' ∧ IsBody w' (fun b => (W1.heap.size ≤ b ∧ b ≠ wr.heap.size) ∧ (Value.slice a m c).ownBlock ≠ some b) (.slice b1 n1 q1) kk)) := fun W hW => by
        have h0 := copiedM_any a1 c1 kk W (HXO.out W (HX.out.2.2.trans (hW.below.mono HX.out.2.2.size))).1
        rw [← HI12.out.1] at h0
        refine h0.mono ?_
        rintro e w' ⟨b1, q1, rfl, r1, r2, r3⟩
        exact ⟨b1, _, q1, rfl, hW.later r3, b1, q1, by rw [HI12.out.1], r1, fun _ ad hd => by have h1 := r2 ad hd; have h2 := hW.size; have h3 := hW.old; exact ⟨⟨by omega, by omega⟩, fun e => by have := hW.own _ e; omega⟩⟩
      have c2' : Hid (∀ (W : World) (b1 : Option Addr) (n1 q1 : Nat), (CpI W1 wr (.slice a m c) (cs.take k) [.slice a1 i1 c1, .slice a2 i2 c2, .bool g, .int .i64 s] W ∧ IsBody W (fun b => (W1.heap.size ≤ b ∧ b ≠ wr.heap.size) ∧ (Value.slice a m c).ownBlock ≠ some b) (.slice b1 n1 q1) kk) → Calls Try.prog 35 #[.slice a2 i2 c2] W fun e w' => ∃ (b2 : Option Addr) (n2 q2 : Nat), e = .returned (.slice b2 n2 q2) ∧ Hid (CpI W1 wr (.slice a m c) (cs.take k) [.slice a1 i1 c1, .slice a2 i2 c2, .bool g, .int .i64 s] w' ∧ kCel.rel (fun b => (W1.heap.size ≤ b ∧ b ≠ wr.heap.size) ∧ (Value.slice a m c).ownBlock ≠ some b) w' ⟨kk, vv, g, s⟩ [.slice b1 n1 q1, .slice b2 n2 q2, .bool g, .int .i64 s])) := fun W b1 n1 q1 ⟨hW, hb1⟩ => by
        have h0 := copiedM_any a2 c2 vv W (HXO.out W (HX.out.2.2.trans (hW.below.mono HX.out.2.2.size))).2
        rw [← HI12.out.2] at h0
        refine h0.mono ?_
        rintro e w' ⟨b2, q2, rfl, r1, r2, r3⟩
        exact ⟨b2, _, q2, rfl, hW.later r3, _, _, rfl, hb1.later r3, b2, q2, by rw [HI12.out.2], r1, fun _ ad hd => by have h1 := r2 ad hd; have h2 := hW.size; have h3 := hW.old; exact ⟨⟨by omega, by omega⟩, fun e => by have := hW.own _ e; omega⟩⟩
      have HKL : Hid (((cs.take k).length + 1) * 64 ≤ 140737488355328) := by
        have h2 := H8.out.1
        rw [List.length_take]
        show _ ≤ _
        omega
      clear HR HB HXO HI12
      go_upto_region 5 with (fail)
      generalize wr.alloc (.cells #[.slice a1 i1 c1, .slice a2 i2 c2, .bool g, .int .i64 s] 55) = W0 at H0 ⊢
      have HD := put_by (H0.out.later (Below.refl _ _).drew)
      have hS : (fun V => V.cell? ⟨wr.heap.size, 0, none⟩ = some (.slice a1 i1 c1) ∧ V.cell? ⟨wr.heap.size, 1, none⟩ = some (.slice a2 i2 c2)) W0.drew := ⟨(HD.out.var 0 _ rfl).1, (HD.out.var 1 _ rfl).1⟩
      refine region_plain (fun V => V.cell? ⟨wr.heap.size, 0, none⟩ = some (.slice a1 i1 c1) ∧ V.cell? ⟨wr.heap.size, 1, none⟩ = some (.slice a2 i2 c2)) 7 (by kernel_rfl) ?_
      change wpAnyU _ _ _ _ _ 10 #[false, false, false, false, false, false, false, false, false, false] _ W0.drew
      refine V_takeS [7] 13 (k := 0) (v := .pointer (some ⟨wr.heap.size, 0, none⟩)) rfl rfl (by kernel_rfl) (by kernel_rfl) (by kernel_rfl) (by kernel_rfl) (by kernel_rfl) (by kernel_rfl) (fun _ _ _ h => h) (Or.inl ⟨by rfl, fun V hV => ?_⟩) hS ?_
      · obtain ⟨z0, z1⟩ := hV; go_simp
      try simp only [Act.put, List.setIfInBounds_toArray, List.set_cons_zero, List.set_cons_succ]
      refine V_takeS [7] 14 (k := 1) (v := .slice a1 i1 c1) rfl rfl (by kernel_rfl) (by kernel_rfl) (by kernel_rfl) (by kernel_rfl) (by kernel_rfl) (by kernel_rfl) (fun _ _ _ h => h) (Or.inl ⟨by rfl, fun V hV => ?_⟩) hS ?_
      · obtain ⟨z0, z1⟩ := hV; go_simp
      try simp only [Act.put, List.setIfInBounds_toArray, List.set_cons_zero, List.set_cons_succ]
      refine V_takeS [7] 16 (k := 3) (v := .pointer (some ⟨wr.heap.size, 1, none⟩)) rfl rfl (by kernel_rfl) (by kernel_rfl) (by kernel_rfl) (by kernel_rfl) (by kernel_rfl) (by kernel_rfl) (fun _ _ _ h => h) (Or.inl ⟨by rfl, fun V hV => ?_⟩) hS ?_
      · obtain ⟨z0, z1⟩ := hV; go_simp
      try simp only [Act.put, List.setIfInBounds_toArray, List.set_cons_zero, List.set_cons_succ]
      refine V_takeS [7] 17 (k := 4) (v := .slice a2 i2 c2) rfl rfl (by kernel_rfl) (by kernel_rfl) (by kernel_rfl) (by kernel_rfl) (by kernel_rfl) (by kernel_rfl) (fun _ _ _ h => h) (Or.inl ⟨by rfl, fun V hV => ?_⟩) hS ?_
      · obtain ⟨z0, z1⟩ := hV; go_simp
      try simp only [Act.put, List.setIfInBounds_toArray, List.set_cons_zero, List.set_cons_succ]
      refine U_one (i := 2) (listed' := #[true, true, true, true, true, false, false, false, false, false]) (by kernel_rfl) rfl (by kernel_rfl) rfl (fun K hK => ?_)
      go_simp
      refine (c1'.out _ HD.out).mono ?_
      rintro e w1 ⟨b1, n1, q1, rfl, H1⟩
      have hS1 : (fun V => V.cell? ⟨wr.heap.size, 0, none⟩ = some (.slice a1 i1 c1) ∧ V.cell? ⟨wr.heap.size, 1, none⟩ = some (.slice a2 i2 c2)) w1 := ⟨(H1.out.1.var 0 _ rfl).1, (H1.out.1.var 1 _ rfl).1⟩
      refine hK _ _ (fun _ => hS1) ?_
      clear hK K
      try simp only [Act.put, List.setIfInBounds_toArray, List.set_cons_zero, List.set_cons_succ]
      clear c1' hS
      refine V_takeS [7] 19 (k := 6) (v := .pointer (some ⟨wr.heap.size, 0, none⟩)) rfl rfl (by kernel_rfl) (by kernel_rfl) (by kernel_rfl) (by kernel_rfl) (by kernel_rfl) (by kernel_rfl) (fun _ _ _ h => h) (Or.inl ⟨by rfl, fun V hV => ?_⟩) hS1 ?_
      · obtain ⟨z0, z1⟩ := hV; go_simp
      try simp only [Act.put, List.setIfInBounds_toArray, List.set_cons_zero, List.set_cons_succ]
      refine U_one (i := 5) (listed' := #[true, true, true, true, true, true, true, false, false, false]) (by kernel_rfl) rfl (by kernel_rfl) rfl (fun K hK => ?_)
      go_simp
      refine (c2'.out _ _ _ _ H1.out).mono ?_
      rintro e w2 ⟨b2, n2, q2, rfl, H2⟩
      have hS2 : (fun V => V.cell? ⟨wr.heap.size, 0, none⟩ = some (.slice a1 i1 c1) ∧ V.cell? ⟨wr.heap.size, 1, none⟩ = some (.slice a2 i2 c2)) w2 := ⟨(H2.out.1.var 0 _ rfl).1, (H2.out.1.var 1 _ rfl).1⟩
      refine hK _ _ (fun _ => hS2) ?_
      clear hK K
      try simp only [Act.put, List.setIfInBounds_toArray, List.set_cons_zero, List.set_cons_succ]
      clear c2' hS1 H1
      obtain ⟨v0, f0⟩ := H2.out.1.var 0 _ rfl
      obtain ⟨v1, f1⟩ := H2.out.1.var 1 _ rfl
      refine U_one (i := 7) (listed' := #[true, true, true, true, true, true, true, true, false, false]) (by kernel_rfl) rfl (by kernel_rfl) rfl (fun K hK => ?_)
      go_simp
      refine hK _ _ (fun hh => by cases (show true = false from hh)) ?_
      clear hK K
      try simp only [Act.put, List.setIfInBounds_toArray, List.set_cons_zero, List.set_cons_succ]
      refine U_one (i := 8) (listed' := #[true, true, true, true, true, true, true, true, true, false]) (by kernel_rfl) rfl (by kernel_rfl) rfl (fun K hK => ?_)
      go_simp
      refine hK _ _ (fun hh => by cases (show true = false from hh)) ?_
      clear hK K
      try simp only [Act.put, List.setIfInBounds_toArray, List.set_cons_zero, List.set_cons_succ]
      refine U_one (i := 9) (listed' := #[true, true, true, true, true, true, true, true, true, true]) (by kernel_rfl) rfl (by kernel_rfl) rfl (fun K hK => ?_)
      go_simp
      refine hK _ _ (fun hh => by cases (show true = false from hh)) ?_
      clear hK K
      try simp only [Act.put, List.setIfInBounds_toArray, List.set_cons_zero, List.set_cons_succ]
      refine U_done (by kernel_rfl) ?_ _
      have H9 : Hid (CpI W1 wr (.slice a m c) (cs.take k) [.slice b1 n1 q1, .slice b2 n2 q2, .bool g, .int .i64 s] ((w2.setCell ⟨wr.heap.size, 0, none⟩ (.slice b1 n1 q1)).setCell ⟨wr.heap.size, 1, none⟩ (.slice b2 n2 q2)) ∧ kCel.rel (fun b => (W1.heap.size ≤ b ∧ b ≠ wr.heap.size) ∧ (Value.slice a m c).ownBlock ≠ some b) ((w2.setCell ⟨wr.heap.size, 0, none⟩ (.slice b1 n1 q1)).setCell ⟨wr.heap.size, 1, none⟩ (.slice b2 n2 q2)) ⟨kk, vv, g, s⟩ [.slice b1 n1 q1, .slice b2 n2 q2, .bool g, .int .i64 s]) := by
        refine ⟨(H2.out.1.store (k := 0) (.slice b1 n1 q1)).store (k := 1) (.slice b2 n2 q2), kCel.move (ok := fun b => (W1.heap.size ≤ b ∧ b ≠ wr.heap.size) ∧ (Value.slice a m c).ownBlock ≠ some b) (Kept.trans (Kept.of_grown (grown_set _) (fun b ho e => ho.1.2 (Option.some.inj e).symm)) (Kept.of_grown (grown_set _) (fun b ho e => ho.1.2 (Option.some.inj e).symm))) (fun _ _ h => h) H2.out.2⟩
      clear H2 v0 v1 f0 f1 hS2
      go_upto_region 6 with (fail)
      generalize (w2.setCell ⟨wr.heap.size, 0, none⟩ (.slice b1 n1 q1)).setCell ⟨wr.heap.size, 1, none⟩ (.slice b2 n2 q2) = W9 at H9 ⊢
      obtain ⟨x0, -⟩ := H9.out.1.var 0 _ rfl
      obtain ⟨x1, -⟩ := H9.out.1.var 1 _ rfl
      obtain ⟨x2, -⟩ := H9.out.1.var 2 _ rfl
      obtain ⟨x3, -⟩ := H9.out.1.var 3 _ rfl
      go_upto_region 7 with (first
        | (at_builtin; refine wpList_append_oneB eltC rfl (.tmp 21) (.tmp 23) rfl W1.heap.size (.slice a m c) (cs.take k) rfl H9.out.1.rows ⟨kk, vv, g, s⟩ [.slice b1 n1 q1, .slice b2 n2 q2, .bool g, .int .i64 s] _ _ rfl rfl H9.out.2 (fun b hb => by have := H9.out.1.size; have := H9.out.1.old; exact ⟨by omega, by omega⟩) HKL.out (by decide) H9.out.1.below.size ?_; intro v' w5 r1 r2 r3))
      obtain ⟨a6, c6, e6⟩ := rows_form r1
      subst e6
      have H5 : Hid (Rows kCel (fun b => W1.heap.size ≤ b) w5 W1.heap.size 55 (.slice a6 (cs.take k ++ [(⟨kk, vv, g, s⟩ : Cel)]).length c6) (cs.take (k + 1)) ∧ Below W1.heap.size W1 w5) := by
        rw [HT.out]
        exact ⟨r1.turned (fun _ _ h => h.1), below_grown H9.out.1.below H9.out.1.below.size r2 (fun r hr => (rows_lt H9.out.1.rows r hr).1)⟩
      clear r1 r2 r3 H9 x0 x1 x2 x3
      generalize (cs.take k ++ [(⟨kk, vv, g, s⟩ : Cel)]).length = m6 at H5
      go_wp2
      go_roundw
      case rel => exact ⟨k + 1, a6, m6, c6, by omega, by go_num, rfl, H5.out⟩
      case measure => simp [intOf]; omega
    · have hkn : k = n := by omega
      subst hkn
      have HR2 : Hid (Rows kCel (fun b => W1.heap.size ≤ b) wr W1.heap.size 55 (.slice a m c) cs ∧ Below W1.heap.size W1 wr) := by
        have h := HR.out
        rw [List.take_of_length_le (by rw [← HN.out.1]; exact Nat.le_refl _)] at h
        exact h
      have HDL : Hid (Lies kDn ok wr.drew da dc ds) := HDL0.out.later HB.out.drew
      have ikk : ¬ (k : Int) < (k : Int) := by omega
      clear HR
      go_upto_region 8 with (fail)
      have hS : (fun V => V.cell? ⟨w.heap.size, 0, none⟩ = some (.int .i64 p) ∧ V.cell? ⟨w.heap.size, 2, none⟩ = some (.slice da nd dc)) wr.drew := HXB.out _ HR2.out.2.drew
      refine region_plain (fun V => V.cell? ⟨w.heap.size, 0, none⟩ = some (.int .i64 p) ∧ V.cell? ⟨w.heap.size, 2, none⟩ = some (.slice da nd dc)) 7 (by kernel_rfl) ?_
      change wpAnyU _ _ _ _ _ 8 #[false, false, false, false, false, false, false, false] _ wr.drew
      refine V_takeS [7] 26 (k := 0) (v := .pointer (some ⟨w.heap.size, 0, none⟩)) rfl rfl (by kernel_rfl) (by kernel_rfl) (by kernel_rfl) (by kernel_rfl) (by kernel_rfl) (by kernel_rfl) (fun _ _ _ h => h) (Or.inl ⟨by rfl, fun V hV => ?_⟩) hS ?_
      · obtain ⟨z0, z1⟩ := hV; go_simp
      try simp only [Act.put, List.setIfInBounds_toArray, List.set_cons_zero, List.set_cons_succ]
      refine V_takeS [7] 27 (k := 1) (v := .int .i64 p) rfl rfl (by kernel_rfl) (by kernel_rfl) (by kernel_rfl) (by kernel_rfl) (by kernel_rfl) (by kernel_rfl) (fun _ _ _ h => h) (Or.inl ⟨by rfl, fun V hV => ?_⟩) hS ?_
      · obtain ⟨z0, z1⟩ := hV; go_simp
      try simp only [Act.put, List.setIfInBounds_toArray, List.set_cons_zero, List.set_cons_succ]
      refine V_takeS [7] 28 (k := 2) (v := .slice a m c) rfl rfl (by kernel_rfl) (by kernel_rfl) (by kernel_rfl) (by kernel_rfl) (by kernel_rfl) (by kernel_rfl) (fun _ _ _ h => h) (Or.inl ⟨by rfl, fun V hV => ?_⟩) hS ?_
      · obtain ⟨z0, z1⟩ := hV; go_simp
      try simp only [Act.put, List.setIfInBounds_toArray, List.set_cons_zero, List.set_cons_succ]
      refine V_takeS [7] 29 (k := 3) (v := .pointer (some ⟨w.heap.size, 2, none⟩)) rfl rfl (by kernel_rfl) (by kernel_rfl) (by kernel_rfl) (by kernel_rfl) (by kernel_rfl) (by kernel_rfl) (fun _ _ _ h => h) (Or.inl ⟨by rfl, fun V hV => ?_⟩) hS ?_
      · obtain ⟨z0, z1⟩ := hV; go_simp
      try simp only [Act.put, List.setIfInBounds_toArray, List.set_cons_zero, List.set_cons_succ]
      refine V_takeS [7] 30 (k := 4) (v := .slice da nd dc) rfl rfl (by kernel_rfl) (by kernel_rfl) (by kernel_rfl) (by kernel_rfl) (by kernel_rfl) (by kernel_rfl) (fun _ _ _ h => h) (Or.inl ⟨by rfl, fun V hV => ?_⟩) hS ?_
      · obtain ⟨z0, z1⟩ := hV; go_simp
      try simp only [Act.put, List.setIfInBounds_toArray, List.set_cons_zero, List.set_cons_succ]
      refine U_one (i := 5) (listed' := #[true, true, true, true, true, true, false, false]) (by kernel_rfl) rfl (by kernel_rfl) rfl (fun K hK => ?_)
      refine wp_of_list rfl (by rintro ⟨_, _, hh⟩; exact HO.out _ hh) (wpList_append_rowsB (K := kDn) (ok := fun _ => True) (ok2 := ok) eltD rfl (.const (.slice none 0 0)) (.tmp 30) rfl W1.heap.size (.slice none 0 0) [] rfl (Rows.nil _ _ _ _ _) da dc nd ds rfl HN.out.2 HDL.out (fun _ _ _ _ => trivial) (fun _ _ _ e => by cases e) (by have := H8.out.2; simp only [List.length_nil, Nat.zero_add]; omega) (by decide) HR2.out.2.size (fun v9 w9 r1 r2 r3 => list_end ?_))
      obtain ⟨a9, c9, e9⟩ := rows_form r1
      subst e9
      have H9 : Hid (CpEnd W1 cs ds (.slice a m c) (.slice a9 ([] ++ ds).length c9) w9 ∧ ([] ++ ds).length = ds.length) := ⟨CpEnd.of HR2.out r1 r2 r3, rfl⟩
      generalize ([] ++ ds).length = n9 at H9 ⊢
      have hS9 : (fun V => V.cell? ⟨w.heap.size, 0, none⟩ = some (.int .i64 p) ∧ V.cell? ⟨w.heap.size, 2, none⟩ = some (.slice da nd dc)) w9 := HXB.out _ H9.out.1.below

      refine hK _ _ (fun _ => hS9) ?_
      clear hK K
      try simp only [Act.put, List.setIfInBounds_toArray]
      clear r1 r2 r3 hS
      refine V_takeS [7] 32 (k := 6) (v := .agg #[.int .i64 p, .slice a m c, .slice a9 n9 c9]) rfl rfl (by kernel_rfl) (by kernel_rfl) (by kernel_rfl) (by kernel_rfl) (by kernel_rfl) (by kernel_rfl) (fun _ _ _ h => h) (Or.inl ⟨by rfl, fun V hV => ?_⟩) hS9 ?_
      · obtain ⟨z0, z1⟩ := hV; go_simp
      try simp only [Act.put, List.setIfInBounds_toArray, List.set_cons_zero, List.set_cons_succ]
      have HR9 := put_by (HX.out.2.1.later H9.out.1.below)
      obtain ⟨o0, p0⟩ := HR9.out 0 _ rfl
      obtain ⟨o1, p1⟩ := HR9.out 1 _ rfl
      obtain ⟨o2, p2⟩ := HR9.out 2 _ rfl
      refine U_one (i := 7) (listed' := #[true, true, true, true, true, true, true, true]) (by kernel_rfl) rfl (by kernel_rfl) rfl (fun K hK => ?_)
      go_simp
      refine hK _ _ (fun hh => by cases (show true = false from hh)) ?_
      clear hK K
      try simp only [Act.put, List.setIfInBounds_toArray, List.set_cons_zero, List.set_cons_succ]
      refine U_done (by kernel_rfl) ?_ _
      have HF := put_by (three_set (N := w.heap.size) HR9.out (by have := HAE.out; omega) (.int .i64 p) (.slice a m c) (.slice a9 n9 c9))
      generalize ((w9.setCell _ _).setCell _ _).setCell _ _ = WE at HF ⊢
      obtain ⟨t0, -⟩ := HF.out.1 0 _ rfl
      obtain ⟨t1, -⟩ := HF.out.1 1 _ rfl
      obtain ⟨t2, -⟩ := HF.out.1 2 _ rfl
      go_wp2
      have HE : CpPost p cs ds w (.returned (.agg #[.int .i64 p, .slice a m c, .slice a9 n9 c9])) WE := by
        have h1 := H9.out.1
        have hk : Kept (fun b => W1.heap.size ≤ b ∧ (Value.slice a9 n9 c9).ownBlock ≠ some b) w9 WE := ⟨HF.out.2.1.size, fun b _ ho => HF.out.2.2 b (by have := HS2.out; have := HAE.out; have := ho.1; omega)⟩
        have hs : w.heap.size ≤ W1.heap.size := by have := HS2.out; omega
        have hg : ∀ g, W1.heap.size ≤ g → WE.heap[g]? = w9.heap[g]? := fun g h => HF.out.2.2 g (by have := HS2.out; have := HAE.out; omega)
        obtain ⟨a', c', e'⟩ := rows_form h1.cells
        refine ⟨a, m, c, a9, n9, c9, rfl, by cases e'; rfl, H9.out.2, ((h1.cells.move hk (fun g e => hg g (rows_lt h1.cells g e).1)).turned (fun b _ ho => ⟨by have := ho.1; omega, ho.2⟩)).base hs, (dn_rows h1.dones (fun g e => hg g (rows_lt h1.dones g e).1)).base hs, h1.apart, HX.out.2.2.trans ((h1.below.mono HX.out.2.2.size).trans HF.out.2.1)⟩
      exact bodyPost_ret (v := .agg #[.int .i64 p, .slice a m c, .slice a9 n9 c9]) (by simp [results, Try.results32, go_sem, asAddr, t0, t1, t2]) rfl (HP.out _ _ HE)

end Go.Proofs.Ytjjdednlddnllaa
