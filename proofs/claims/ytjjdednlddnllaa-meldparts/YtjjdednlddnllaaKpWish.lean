/- The intent of a wish, whatever is wished. -/
import Derived.Test.YtjjdednlddnllaaRtSameP
import Derived.Deep.RegionHeld3
import Derived.Deep.CutRange
import Derived.LoopTactic
namespace Go.Proofs.Ytjjdednlddnllaa
open Go.ChangeShapes Go.WideShapes Go.ChangeAt Go.RowKit

/-- reads so far -/
def R1 (w : World) (X : Nat) (wv : List Value) (c n s : Int) (k : Nat) (wr : World) : Prop :=
  ∃ (ra : Option Addr) (rm rc : Nat) (rs : List Ent), WJ w X wv [.int .i64 c, .int .i64 n, .int .i64 s, .slice ra rm rc, .slice none 0 0] wr ∧ Rows kEnt (fun b => X < b) wr (X + 1) 97 (.slice ra rm rc) rs ∧ rm = rs.length ∧ rs.length ≤ k ∧ ∀ r ∈ rs, MildR r

/-- the reads are done, the spots are marked -/
def R2 (w : World) (X H : Nat) (wv : List Value) (c n s : Int) (ra : Option Addr) (rm rc : Nat) (rs : List Ent) (wr : World) : Prop :=
  WJ w X wv [.int .i64 c, .int .i64 n, .int .i64 s, .slice ra rm rc, .slice none 0 0] wr ∧ Lies kEnt (fun b => X < b ∧ b < H) wr ra rc rs ∧ ∃ hs : List Bool, hs.length = 12 ∧ Cls wr H (hs.map Value.bool) ∧ H < wr.heap.size

/-- writes so far -/
def R3 (w : World) (X H : Nat) (wv : List Value) (c n s : Int) (ra : Option Addr) (rm rc : Nat) (rs : List Ent) (hs : List Bool) (k : Nat) (wr : World) : Prop :=
  ∃ (wa : Option Addr) (wm wc : Nat) (ws : List Wt), WJ w X wv [.int .i64 c, .int .i64 n, .int .i64 s, .slice ra rm rc, .slice wa wm wc] wr ∧ Lies kEnt (fun b => X < b ∧ b < H) wr ra rc rs ∧ Cls wr H (hs.map Value.bool) ∧ (X < H ∧ H < wr.heap.size) ∧ Rows kWt (fun b => H < b) wr (H + 1) 100 (.slice wa wm wc) ws ∧ wm = ws.length ∧ WsI k ws

/-- one write more, whose last cells are still to be put in -/
def R7 (w : World) (X H : Nat) (wv : List Value) (c n s : Int) (ra : Option Addr) (rm rc : Nat) (rs : List Ent) (hs : List Bool) (ws : List Wt) (k : Int) (g6 nw c6 : Nat) (W : World) : Prop :=
  Rows kWt (fun b => H < b) W (H + 1) 100 (.slice (some ⟨g6, 0, none⟩) (nw + 1) c6) (ws ++ [⟨[115, k], [], false⟩]) ∧ WJ w X wv [.int .i64 c, .int .i64 n, .int .i64 s, .slice ra rm rc, .slice (some ⟨g6, 0, none⟩) (nw + 1) c6] W ∧ Lies kEnt (fun b => X < b ∧ b < H) W ra rc rs ∧ Cls W H (hs.map Value.bool) ∧ (H < W.heap.size ∧ X < H) ∧ (H < g6 ∧ g6 < W.heap.size) ∧ ((∃ p, W.cell? ⟨g6, nw * 3 + 1, none⟩ = some p) ∧ W.frozen? ⟨g6, nw * 3 + 1, none⟩ = false) ∧ (∃ p, W.cell? ⟨g6, nw * 3 + 2, none⟩ = some p) ∧ W.frozen? ⟨g6, nw * 3 + 2, none⟩ = false

theorem R3_later {w : World} {X H : Nat} {wv : List Value} {c n s : Int} {ra : Option Addr} {rm rc : Nat} {rs : List Ent} {hs : List Bool} {ws : List Wt} {k : Int} {g6 nw c6 : Nat} {W W' : World} (h : R7 w X H wv c n s ra rm rc rs hs ws k g6 nw c6 W) (hb : Below W.heap.size W W') : R7 w X H wv c n s ra rm rc rs hs ws k g6 nw c6 W' := by
  obtain ⟨h1, h2, h3, h4, h5, h6, ⟨⟨u1, h7⟩, h8⟩, ⟨u2, h9⟩, h10⟩ := h
  exact ⟨h1.later hb, h2.later hb, h3.later hb, h4.later hb, ⟨Nat.lt_of_lt_of_le h5.1 hb.size, h5.2⟩, ⟨h6.1, Nat.lt_of_lt_of_le h6.2 hb.size⟩, ⟨⟨u1, (hb.cell (p := ⟨g6, nw * 3 + 1, none⟩) h6.2).trans h7⟩, (hb.frozen (p := ⟨g6, nw * 3 + 1, none⟩) h6.2).trans h8⟩, ⟨u2, (hb.cell (p := ⟨g6, nw * 3 + 2, none⟩) h6.2).trans h9⟩, (hb.frozen (p := ⟨g6, nw * 3 + 2, none⟩) h6.2).trans h10⟩

theorem R3_put {w : World} {X H : Nat} {wv : List Value} {c n s : Int} {ra : Option Addr} {rm rc : Nat} {rs : List Ent} {hs : List Bool} {ws : List Wt} {k : Nat} {g6 nw c6 j : Nat} {W : World} {u : Value} {y : Wt} (h : R7 w X H wv c n s ra rm rc rs hs ws (k : Int) g6 nw c6 W) (hg : H < g6) (hr : Rows kWt (fun b => H < b) (W.setCell ⟨g6, nw * 3 + j, none⟩ u) (H + 1) 100 (.slice (some ⟨g6, 0, none⟩) (nw + 1) c6) (ws ++ [y])) (hw : WsI k ws) (hn : nw = ws.length) (hy : MildW y) (hk : y.key = [115, (k : Int)]) :
    R3 w X H wv c n s ra rm rc rs hs (k + 1) (W.setCell ⟨g6, nw * 3 + j, none⟩ u) := by
  obtain ⟨-, h2, h3, h4, h5, -⟩ := h
  have hg6 : W.grownBy (W.setCell ⟨g6, nw * 3 + j, none⟩ u) (some g6) := grown_set _
  exact ⟨some ⟨g6, 0, none⟩, nw + 1, c6, ws ++ [y], h2.own hg6 (fun g e => by cases e; omega), h3.move (kept_old hg6 (fun q => by omega)) (fun _ _ q => q), h4.block (fun _ => hg6.block H h5.1 (fun e => by have := Option.some.inj e; omega)), ⟨h5.2, by simpa using h5.1⟩, hr, by rw [hn]; simp, hw.more hy hk⟩

set_option maxRecDepth 100000 in
set_option maxHeartbeats 1500000 in
theorem IntentOf_any (c n s : Int) (xs ys : List Int) (xa ya : Option Addr) (xc yc : Nat) (g : Bool) (w : World) (hx : Lies kI (fun _ => True) w xa xc xs) (hy : Lies kI (fun _ => True) w ya yc ys) :
    Calls Try.prog 43 #[.agg #[.int .i64 c, .int .i64 n, .int .i64 s, .slice xa xs.length xc, .slice ya ys.length yc, .bool g]] w fun e w' => WPost w e w' := by
  generalize hpost : (fun e w' => WPost w e w') = Q
  have HO : Hid (∀ w', ¬ Q .outgrown w') := fun w' hh => by
    rw [← hpost] at hh
    obtain ⟨_, _, _, _, _, _, _, _, _, h, -⟩ := hh
    cases h
  have HP : Hid (∀ e w', WPost w e w' → Q e w') := fun e w' h => by rw [← hpost]; exact h
  clear hpost
  obtain ⟨pc, hpc⟩ : ∃ p, p = c % 5 := ⟨_, rfl⟩
  obtain ⟨pn, hpn⟩ : ∃ p, p = n % 6 := ⟨_, rfl⟩
  obtain ⟨ps, hps⟩ : ∃ p, p = s % 40 := ⟨_, rfl⟩
  have p5 : Hid (∀ V, Calls Try.prog 25 #[.int .i64 c, .int .i64 5] V fun e w' => e = .returned (.int .i64 pc) ∧ V = w') := fun V => by rw [hpc]; exact Picked_any c 5 (by omega) (by omega) V
  have p6 : Hid (∀ V, Calls Try.prog 25 #[.int .i64 n, .int .i64 6] V fun e w' => e = .returned (.int .i64 pn) ∧ V = w') := fun V => by rw [hpn]; exact Picked_any n 6 (by omega) (by omega) V
  have p40 : Hid (∀ V, Calls Try.prog 25 #[.int .i64 s, .int .i64 40] V fun e w' => e = .returned (.int .i64 ps) ∧ V = w') := fun V => by rw [hps]; exact Picked_any s 40 (by omega) (by omega) V
  have bc : 0 ≤ pc ∧ pc < 5 := by omega
  have bn : 0 ≤ pn ∧ pn < 6 := by omega
  have bs : 0 ≤ ps ∧ ps < 40 := by omega
  clear hpc hpn hps
  obtain ⟨bc0, bc1⟩ := bc
  obtain ⟨bn0, bn1⟩ := bn
  obtain ⟨bs0, bs1⟩ := bs
  obtain ⟨nx, hnx⟩ : ∃ m, m = xs.length := ⟨_, rfl⟩
  obtain ⟨ny, hny⟩ : ∃ m, m = ys.length := ⟨_, rfl⟩
  rw [← hnx, ← hny]
  have HXY := put_by (And.intro hx (And.intro hy (And.intro hnx hny)))
  clear hx hy hnx hny
  have HW := put_by (Cls.new w [.int .i64 c, .int .i64 n, .int .i64 s, .slice xa nx xc, .slice ya ny yc, .bool g] 81)
  have HB := put_by ((Below.refl w.heap.size w).alloc (Nat.le_refl _) (.cells #[.int .i64 c, .int .i64 n, .int .i64 s, .slice xa nx xc, .slice ya ny yc, .bool g] 81))
  have HS : Hid ((w.alloc (.cells #[.int .i64 c, .int .i64 n, .int .i64 s, .slice xa nx xc, .slice ya ny yc, .bool g] 81)).heap.size = w.heap.size + 1) := by simp [Hid]
  go_enter Try.func43, Try.ntmps43
  go_upto_region 1 with (fail)
  generalize hA : w.heap.size + 1 = A
  generalize w.alloc (.cells #[.int .i64 c, .int .i64 n, .int .i64 s, .slice xa nx xc, .slice ya ny yc, .bool g] _) = W1 at HW HB HS ⊢
  have HC := put_by (Cls.new W1 [.int .i64 0, .int .i64 0, .int .i64 0, .slice none 0 0, .slice none 0 0] 77)
  have HB2 := put_by ((Below.refl W1.heap.size W1).alloc (Nat.le_refl _) (.cells #[.int .i64 0, .int .i64 0, .int .i64 0, .slice none 0 0, .slice none 0 0] 77))
  have HS2 : Hid ((W1.alloc (.cells #[.int .i64 0, .int .i64 0, .int .i64 0, .slice none 0 0, .slice none 0 0] 77)).heap.size = A + 1) := by rw [← hA]; simp [Hid, HS.out]
  have HA : Hid (A = w.heap.size + 1) := hA.symm
  clear hA
  generalize W1.alloc (.cells #[.int .i64 0, .int .i64 0, .int .i64 0, .slice none 0 0, .slice none 0 0] _) = W2 at HC HB2 HS2 ⊢
  have HI : Hid (Cls W2 w.heap.size [.int .i64 c, .int .i64 n, .int .i64 s, .slice xa nx xc, .slice ya ny yc, .bool g] ∧ Cls W2 A [.int .i64 0, .int .i64 0, .int .i64 0, .slice none 0 0, .slice none 0 0] ∧ Below w.heap.size w W2) := ⟨HW.out.later HB2.out, by rw [HA.out, ← HS.out]; exact HC.out, HB.out.trans (HB2.out.mono HB.out.size)⟩
  clear HW HB HS HC HB2
  go_cut [3] from 10 to 21 (fun p wx => ∃ X : Nat, p = .pointer (some ⟨X, 0, none⟩) ∧ Hid (Cls wx X [.int .i64 (1 + pc), .int .i64 (1 + pn), .int .i64 ps, .slice none 0 0, .slice none 0 0] ∧ (W2.heap.size ≤ X ∧ X < wx.heap.size) ∧ Below W2.heap.size W2 wx))
  case first =>
    obtain ⟨z0, -⟩ := HI.out.1 0 _ rfl
    obtain ⟨z1, -⟩ := HI.out.1 1 _ rfl
    obtain ⟨z2, -⟩ := HI.out.1 2 _ rfl
    have n0 : w.heap.size ≠ W2.heap.size := by have := HS2.out; have := HA.out; omega
    have n1 : W2.heap.size ≠ w.heap.size := by have := HS2.out; have := HA.out; omega
    have HK : Hid (Cls (W2.alloc (.cells #[.int .i64 (1 + pc), .int .i64 (1 + pn), .int .i64 ps, .slice none 0 0, .slice none 0 0] 77)).drew W2.heap.size [.int .i64 (1 + pc), .int .i64 (1 + pn), .int .i64 ps, .slice none 0 0, .slice none 0 0] ∧ (W2.heap.size ≤ W2.heap.size ∧ W2.heap.size < (W2.alloc (.cells #[.int .i64 (1 + pc), .int .i64 (1 + pn), .int .i64 ps, .slice none 0 0, .slice none 0 0] 77)).drew.heap.size) ∧ Below W2.heap.size W2 (W2.alloc (.cells #[.int .i64 (1 + pc), .int .i64 (1 + pn), .int .i64 ps, .slice none 0 0, .slice none 0 0] 77)).drew) := ⟨(Cls.new W2 [.int .i64 (1 + pc), .int .i64 (1 + pn), .int .i64 ps, .slice none 0 0, .slice none 0 0] 77).later (Below.refl _ _).drew, ⟨Nat.le_refl _, by simp⟩, ((Below.refl _ W2).alloc (Nat.le_refl _) _).drew⟩
    have iw5 : IntKind.i64.wrap (1 + pc) = 1 + pc := by rw [IntKind.wrap_i64]; omega
    have iw6 : IntKind.i64.wrap (1 + pn) = 1 + pn := by rw [IntKind.wrap_i64]; omega
    clear HI HS2 HA HXY
    go_region_held3 (fun V => V.cell? ⟨w.heap.size, 0, none⟩ = some (.int .i64 c) ∧ V.cell? ⟨w.heap.size, 1, none⟩ = some (.int .i64 n) ∧ V.cell? ⟨w.heap.size, 2, none⟩ = some (.int .i64 s)) (go_keep) (first
      | (go_at_call 25; (with_reducible refine (p5.out _).mono ?_); clear p5; rintro e w1 ⟨rfl, rfl⟩)
      | (go_at_call 25; (with_reducible refine (p6.out _).mono ?_); clear p6; rintro e w1 ⟨rfl, rfl⟩)
      | (go_at_call 25; (with_reducible refine (p40.out _).mono ?_); clear p40; rintro e w1 ⟨rfl, rfl⟩))
    all_goals
      go_wp2
      go_meet
      exact ⟨_, rfl, HK⟩
  case rest =>
    obtain ⟨X, rfl, HK⟩ := hcut
    have HJ0 : Hid (R1 w X [.int .i64 c, .int .i64 n, .int .i64 s, .slice xa nx xc, .slice ya ny yc, .bool g] (1 + pc) (1 + pn) ps 0 wc) := ⟨none, 0, 0, [], ⟨⟨by have := HS2.out; have := HK.out.2.1.1; have := HA.out; omega, HK.out.2.1.2⟩, HI.out.2.2.trans (HK.out.2.2.mono HI.out.2.2.size), HI.out.1.later HK.out.2.2, by rw [← HA.out]; exact HI.out.2.1.later HK.out.2.2, HK.out.1⟩, Rows.nil _ _ _ _ _, rfl, by simp, fun r hr => by cases hr⟩
    have HLo : Hid (Below w.heap.size w wc) := HI.out.2.2.trans (HK.out.2.2.mono HI.out.2.2.size)
    clear HK HI HS2 p5 p6 p40
    rw [HA.out]
    clear HA
    go_wp2
    go_loopw [4] (fun i wr => ∃ k : Nat, k ≤ 4 ∧ i = .int .i64 k ∧ Hid (R1 w X [.int .i64 c, .int .i64 n, .int .i64 s, .slice xa nx xc, .slice ya ny yc, .bool g] (1 + pc) (1 + pn) ps k wr)) (fun i _ => 4 - (intOf i).toNat)
    case atStart => exact ⟨0, by omega, rfl, HJ0.out⟩
    case round =>
      obtain ⟨k, hk, rfl, HR⟩ := hrel
      rename World => wr
      obtain ⟨ra, rm, rc, rs, g1, g2, g3, g4, g5⟩ := HR.out
      have HG := put_by (And.intro g1 (And.intro g2 (And.intro g3 (And.intro g4 g5))))
      obtain ⟨z3, -⟩ := g1.wish 3 _ rfl
      clear g1 g2 g3 g4 g5 HR
      by_cases hgo : k < nx ∧ k < 4
      · obtain ⟨hk1, hk2⟩ := hgo
        have hkx : k < xs.length := by rw [← HXY.out.2.2.1]; exact hk1
        obtain ⟨bx, ox, rfl, hbx, hcx⟩ := int_at HXY.out.1 hkx
        obtain ⟨z, hz⟩ : ∃ z, z = xs[k] := ⟨_, rfl⟩
        rw [← hz] at hcx
        have z4 := hcx wr HG.out.1.below
        have HCX := put_by hcx
        obtain ⟨q, hq⟩ : ∃ q, q = z % 12 := ⟨_, rfl⟩
        have p12 : Hid (∀ V, Calls Try.prog 25 #[.int .i64 z, .int .i64 12] V fun e w' => e = .returned (.int .i64 q) ∧ V = w') := fun V => by rw [hq]; exact Picked_any z 12 (by omega) (by omega) V
        have bq : 0 ≤ q ∧ q < 12 := by omega
        obtain ⟨bq0, bq1⟩ := bq
        clear hq hz hcx
        have ik1 : (k : Int) < (nx : Int) := by omega
        have ik2 : (k : Int) < 4 := by omega
        go_upto_region 6 with (first
          | (go_at_call 25; (with_reducible refine (p12.out _).mono ?_); clear p12; rintro e w1 ⟨rfl, rfl⟩))
        obtain ⟨x3, -⟩ := HG.out.1.var 3 _ rfl
        have hS : (fun V : World => V.cell? ⟨X, 3, none⟩ = some (.slice ra rm rc) ∧ V.cell? ⟨w.heap.size, 3, none⟩ = some (.slice (some ⟨bx, ox, none⟩) nx xc) ∧ V.cell? ⟨bx, ox + k, none⟩ = some (.int .i64 z)) wr.drew := ⟨x3, z3, z4⟩
        have iwq : IntKind.i64.wrap (q + 1) = q + 1 := by rw [IntKind.wrap_i64]; omega
        have HSV : Hid (∀ W, Below wr.heap.size wr W → W.cell? ⟨X, 3, none⟩ = some (.slice ra rm rc) ∧ W.cell? ⟨w.heap.size, 3, none⟩ = some (.slice (some ⟨bx, ox, none⟩) nx xc) ∧ W.cell? ⟨bx, ox + k, none⟩ = some (.int .i64 z)) := fun W hW => ⟨((HG.out.1.later hW).var 3 _ rfl).1, ((HG.out.1.later hW).wish 3 _ rfl).1, HCX.out _ (HG.out.1.later hW).below⟩
        have cS : Hid (∀ V, Below wr.heap.size wr V → Calls Try.prog 69 #[.int .i64 q] V fun e w' => ∃ b1 c1 : Nat, e = .returned (.slice (some ⟨b1, 0, none⟩) 2 c1) ∧ Hid (Octs w' (some ⟨b1, 0, none⟩) c1 [115, q] ∧ wr.heap.size ≤ b1 ∧ b1 < w'.heap.size ∧ Below wr.heap.size wr w')) := fun V hV => (spot_any q bq0 bq1 V).mono (fun e w' ⟨b1, c1, h1, h2, h3, h4⟩ => ⟨b1, c1, h1, h2, Nat.le_trans hV.size h3, h2.blocks (by simp) _ rfl, hV.trans (h4.mono hV.size)⟩)
        obtain ⟨pd, hpd⟩ : ∃ p, p = IntKind.i64.wrap (z.tdiv 12) % 3 := ⟨_, rfl⟩
        have cP : Hid (∀ V, Calls Try.prog 25 #[.int .i64 (IntKind.i64.wrap (z.tdiv 12)), .int .i64 3] V fun e w' => e = .returned (.int .i64 pd) ∧ V = w') := fun V => by rw [hpd]; exact Picked_any _ 3 (by omega) (by omega) V
        have bd : 0 ≤ pd ∧ pd < 3 := by rw [hpd]; omega
        obtain ⟨bd0, bd1⟩ := bd
        clear hpd
        have iwd : IntKind.i64.wrap (q + 1 + pd) = q + 1 + pd := by rw [IntKind.wrap_i64]; omega
        obtain ⟨hi, hhi⟩ : ∃ hi, hi = if q + 1 + pd < 12 then q + 1 + pd else 12 := ⟨_, rfl⟩
        have Hhi := put_by hhi
        have bh : 0 ≤ hi ∧ hi ≤ 12 := by rw [hhi]; split <;> omega
        obtain ⟨bh0, bh1⟩ := bh
        have iwh : IntKind.u8.wrap hi = hi := by rw [IntKind.wrap_u8]; omega
        clear x3 z3 z4 hhi
        refine region_plain (fun V => V.cell? ⟨X, 3, none⟩ = some (.slice ra rm rc) ∧ V.cell? ⟨w.heap.size, 3, none⟩ = some (.slice (some ⟨bx, ox, none⟩) nx xc) ∧ V.cell? ⟨bx, ox + k, none⟩ = some (.int .i64 z)) 21 (by kernel_rfl) ?_
        change wpAnyU _ _ _ _ _ 22 #[false, false, false, false, false, false, false, false, false, false, false, false, false, false, false, false, false, false, false, false, false, false] _ wr.drew
        refine V_takeS [21, 19, 1] 39 (k := 0) (v := .pointer (some ⟨X, 3, none⟩)) rfl rfl (by kernel_rfl) (by kernel_rfl) (by kernel_rfl) (by kernel_rfl) (by kernel_rfl) (by kernel_rfl) (fun _ _ _ h => h) (Or.inl ⟨by rfl, fun V hV => ?_⟩) hS ?_
        · obtain ⟨z0, z1, z2⟩ := hV; go_simp
        try simp only [Act.put, List.setIfInBounds_toArray, List.set_cons_zero, List.set_cons_succ]
        refine V_takeS [21, 19] 40 (k := 1) (v := .slice ra rm rc) rfl rfl (by kernel_rfl) (by kernel_rfl) (by kernel_rfl) (by kernel_rfl) (by kernel_rfl) (by kernel_rfl) (fun _ _ _ h => h) (Or.inl ⟨by rfl, fun V hV => ?_⟩) hS ?_
        · obtain ⟨z0, z1, z2⟩ := hV; go_simp
        try simp only [Act.put, List.setIfInBounds_toArray, List.set_cons_zero, List.set_cons_succ]
        refine V_takeS [21, 19, 18, 17, 3] 41 (k := 2) (v := .int .i64 q) rfl rfl (by kernel_rfl) (by kernel_rfl) (by kernel_rfl) (by kernel_rfl) (by kernel_rfl) (by kernel_rfl) (fun _ _ _ h => h) (Or.inl ⟨by rfl, fun V hV => ?_⟩) hS ?_
        · obtain ⟨z0, z1, z2⟩ := hV; go_simp
        try simp only [Act.put, List.setIfInBounds_toArray, List.set_cons_zero, List.set_cons_succ]
        refine V_takeS [21, 19, 18, 17, 16, 15, 14, 13, 5] 43 (k := 4) (v := .int .i64 q) rfl rfl (by kernel_rfl) (by kernel_rfl) (by kernel_rfl) (by kernel_rfl) (by kernel_rfl) (by kernel_rfl) (fun _ _ _ h => h) (Or.inl ⟨by rfl, fun V hV => ?_⟩) hS ?_
        · obtain ⟨z0, z1, z2⟩ := hV; go_simp
        try simp only [Act.put, List.setIfInBounds_toArray, List.set_cons_zero, List.set_cons_succ]
        refine V_takeS [21, 19, 18, 17, 16, 15, 14, 13] 44 (k := 5) (v := .int .i64 (q + 1)) rfl rfl (by kernel_rfl) (by kernel_rfl) (by kernel_rfl) (by kernel_rfl) (by kernel_rfl) (by kernel_rfl) (fun _ _ _ h => h) (Or.inl ⟨by rfl, fun V hV => ?_⟩) hS ?_
        · obtain ⟨z0, z1, z2⟩ := hV; go_simp
        try simp only [Act.put, List.setIfInBounds_toArray, List.set_cons_zero, List.set_cons_succ]
        refine V_takeS [21, 19, 18, 17, 16, 15, 14, 13, 12, 11, 10, 9, 7] 45 (k := 6) (v := .pointer (some ⟨w.heap.size, 3, none⟩)) rfl rfl (by kernel_rfl) (by kernel_rfl) (by kernel_rfl) (by kernel_rfl) (by kernel_rfl) (by kernel_rfl) (fun _ _ _ h => h) (Or.inl ⟨by rfl, fun V hV => ?_⟩) hS ?_
        · obtain ⟨z0, z1, z2⟩ := hV; go_simp
        try simp only [Act.put, List.setIfInBounds_toArray, List.set_cons_zero, List.set_cons_succ]
        refine V_takeS [21, 19, 18, 17, 16, 15, 14, 13, 12, 11, 10, 9] 46 (k := 7) (v := .slice (some ⟨bx, ox, none⟩) nx xc) rfl rfl (by kernel_rfl) (by kernel_rfl) (by kernel_rfl) (by kernel_rfl) (by kernel_rfl) (by kernel_rfl) (fun _ _ _ h => h) (Or.inl ⟨by rfl, fun V hV => ?_⟩) hS ?_
        · obtain ⟨z0, z1, z2⟩ := hV; go_simp
        try simp only [Act.put, List.setIfInBounds_toArray, List.set_cons_zero, List.set_cons_succ]
        refine V_takeS [21, 19, 18, 17, 16, 15, 14, 13, 12, 11, 10, 9] 47 (k := 8) (v := .int .i64 (k : Int)) rfl rfl (by kernel_rfl) (by kernel_rfl) (by kernel_rfl) (by kernel_rfl) (by kernel_rfl) (by kernel_rfl) (fun _ _ _ h => h) (Or.inl ⟨by rfl, fun V hV => ?_⟩) hS ?_
        · obtain ⟨z0, z1, z2⟩ := hV; go_simp
        try simp only [Act.put, List.setIfInBounds_toArray, List.set_cons_zero, List.set_cons_succ]
        refine V_takeS [21, 19, 18, 17, 16, 15, 14, 13, 12, 11, 10] 48 (k := 9) (v := .pointer (some ⟨bx, ox + k, none⟩)) rfl rfl (by kernel_rfl) (by kernel_rfl) (by kernel_rfl) (by kernel_rfl) (by kernel_rfl) (by kernel_rfl) (fun _ _ _ h => h) (Or.inl ⟨by rfl, fun V hV => ?_⟩) hS ?_
        · obtain ⟨z0, z1, z2⟩ := hV; go_simp
        try simp only [Act.put, List.setIfInBounds_toArray, List.set_cons_zero, List.set_cons_succ]
        refine V_takeS [21, 19, 18, 17, 16, 15, 14, 13, 12, 11] 49 (k := 10) (v := .int .i64 z) rfl rfl (by kernel_rfl) (by kernel_rfl) (by kernel_rfl) (by kernel_rfl) (by kernel_rfl) (by kernel_rfl) (fun _ _ _ h => h) (Or.inl ⟨by rfl, fun V hV => ?_⟩) hS ?_
        · obtain ⟨z0, z1, z2⟩ := hV; go_simp
        try simp only [Act.put, List.setIfInBounds_toArray, List.set_cons_zero, List.set_cons_succ]
        refine V_takeS [21, 19, 18, 17, 16, 15, 14, 13, 12] 50 (k := 11) (v := .int .i64 (IntKind.i64.wrap (z.tdiv 12))) rfl rfl (by kernel_rfl) (by kernel_rfl) (by kernel_rfl) (by kernel_rfl) (by kernel_rfl) (by kernel_rfl) (fun _ _ _ h => h) (Or.inl ⟨by rfl, fun V hV => ?_⟩) hS ?_
        · obtain ⟨z0, z1, z2⟩ := hV; go_simp
        try simp only [Act.put, List.setIfInBounds_toArray, List.set_cons_zero, List.set_cons_succ]
        refine U_one (i := 3) (listed' := #[true, true, true, true, true, true, true, true, true, true, true, true, false, false, false, false, false, false, false, false, false, false]) (by kernel_rfl) rfl (by kernel_rfl) rfl (fun K hK => ?_)
        go_simp
        refine (cS.out _ (Below.refl _ _).drew).mono ?_
        rintro e w1 ⟨b1, c1, rfl, H1⟩
        have hS1 := HSV.out _ H1.out.2.2.2
        refine hK _ _ (fun _ => hS1) ?_
        clear hK K cS hS
        refine U_one (i := 12) (listed' := #[true, true, true, true, true, true, true, true, true, true, true, true, true, false, false, false, false, false, false, false, false, false]) (by kernel_rfl) rfl (by kernel_rfl) rfl (fun K hK => ?_)
        go_simp
        refine (cP.out _).mono ?_
        rintro e w2 ⟨rfl, rfl⟩
        refine hK _ _ (fun _ => hS1) ?_
        clear hK K cP
        try simp only [Act.put, List.setIfInBounds_toArray, List.set_cons_zero, List.set_cons_succ]
        refine V_takeS [21, 19, 18, 17, 16, 15, 14] 52 (k := 13) (v := .int .i64 (q + 1 + pd)) rfl rfl (by kernel_rfl) (by kernel_rfl) (by kernel_rfl) (by kernel_rfl) (by kernel_rfl) (by kernel_rfl) (fun _ _ _ h => h) (Or.inl ⟨by rfl, fun V hV => ?_⟩) hS1 ?_
        · obtain ⟨z0, z1, z2⟩ := hV; go_simp
        try simp only [Act.put, List.setIfInBounds_toArray, List.set_cons_zero, List.set_cons_succ]
        refine V_takeS [21, 19, 18, 17, 16, 15] 53 (k := 14) (v := .int .i64 hi) rfl rfl (by kernel_rfl) (by kernel_rfl) (by kernel_rfl) (by kernel_rfl) (by kernel_rfl) (by kernel_rfl) (fun _ _ _ h => h) (Or.inl ⟨by rfl, fun V hV => ?_⟩) hS1 ?_
        · rw [Hhi.out]; by_cases hm : q + 1 + pd < 12
          · rw [if_pos hm]; go_simp
          · rw [if_neg hm]; go_simp
        try simp only [Act.put, List.setIfInBounds_toArray, List.set_cons_zero, List.set_cons_succ]
        refine V_takeS [21, 19, 18, 17, 16] 54 (k := 15) (v := .int .u8 hi) rfl rfl (by kernel_rfl) (by kernel_rfl) (by kernel_rfl) (by kernel_rfl) (by kernel_rfl) (by kernel_rfl) (fun _ _ _ h => h) (Or.inl ⟨by rfl, fun V hV => ?_⟩) hS1 ?_
        · obtain ⟨z0, z1, z2⟩ := hV; go_simp
        try simp only [Act.put, List.setIfInBounds_toArray, List.set_cons_zero, List.set_cons_succ]
        refine U_one (i := 16) (listed' := #[true, true, true, true, true, true, true, true, true, true, true, true, true, true, true, true, true, false, false, false, false, false]) (by kernel_rfl) rfl (by kernel_rfl) rfl (fun K hK => ?_)
        go_simp
        have M2 : Hid (Octs (w1.alloc (.cells #[.int .u8 115, .int .u8 hi] 5)) (some ⟨w1.heap.size, 0, none⟩) 2 [115, hi] ∧ Below w1.heap.size w1 (w1.alloc (.cells #[.int .u8 115, .int .u8 hi] 5))) := ⟨octs_alloc w1 [115, hi] 2 5 (0, 0) #[.int .u8 115, .int .u8 hi] rfl (by simp) (by simp) (fun y hy => by simp only [List.mem_cons, List.not_mem_nil, or_false] at hy; rcases hy with rfl | rfl <;> omega), (Below.refl _ w1).alloc (Nat.le_refl _) _⟩
        have HB2 := put_by (H1.out.2.2.2.trans (M2.out.2.mono H1.out.2.2.2.size))
        have hS2 := HSV.out _ HB2.out
        refine hK _ _ (fun _ => hS2) ?_
        clear hK K hS1
        generalize w1.alloc (.cells #[.int .u8 115, .int .u8 hi] _) = w2 at M2 HB2 hS2 ⊢
        try simp only [Act.put, List.setIfInBounds_toArray, List.set_cons_zero, List.set_cons_succ]
        refine V_takeS [21, 19, 18] 56 (k := 17) (v := .agg #[.slice (some ⟨b1, 0, none⟩) 2 c1, .slice (some ⟨w1.heap.size, 0, none⟩) 2 2]) rfl rfl (by kernel_rfl) (by kernel_rfl) (by kernel_rfl) (by kernel_rfl) (by kernel_rfl) (by kernel_rfl) (fun _ _ _ h => h) (Or.inl ⟨by rfl, fun V hV => ?_⟩) hS2 ?_
        · obtain ⟨z0, z1, z2⟩ := hV; go_simp
        try simp only [Act.put, List.setIfInBounds_toArray, List.set_cons_zero, List.set_cons_succ]
        refine U_one (i := 18) (listed' := #[true, true, true, true, true, true, true, true, true, true, true, true, true, true, true, true, true, true, true, false, false, false]) (by kernel_rfl) rfl (by kernel_rfl) rfl (fun K hK => ?_)
        go_simp
        refine hK _ _ (fun _ => HSV.out _ (HB2.out.alloc HB2.out.size _)) ?_
        clear hK K
        try simp only [Act.put, List.setIfInBounds_toArray, List.set_cons_zero, List.set_cons_succ]
        refine U_one (i := 19) (listed' := #[true, true, true, true, true, true, true, true, true, true, true, true, true, true, true, true, true, true, true, true, false, false]) (by kernel_rfl) rfl (by kernel_rfl) rfl (fun K hK => ?_)
        have HF : Hid (WJ w X [.int .i64 c, .int .i64 n, .int .i64 s, .slice (some ⟨bx, ox, none⟩) nx xc, .slice ya ny yc, .bool g] [.int .i64 (1 + pc), .int .i64 (1 + pn), .int .i64 ps, .slice ra rm rc, .slice none 0 0] w2 ∧ Rows kEnt (fun b => X < b) w2 (X + 1) 97 (.slice ra rm rc) rs ∧ kEnt.rel (fun b => X < b ∧ (Value.slice ra rm rc).ownBlock ≠ some b) w2 ([115, q], [115, hi]) [.slice (some ⟨b1, 0, none⟩) 2 c1, .slice (some ⟨w1.heap.size, 0, none⟩) 2 2]) := by
          have ho := HG.out.1.ord
          have hs1 := H1.out.2.2.2.size
          have hown : ∀ g, (Value.slice ra rm rc).ownBlock = some g → g < wr.heap.size := fun g e => (rows_lt HG.out.2.1 g e).2
          exact ⟨HG.out.1.later HB2.out, HG.out.2.1.later HB2.out, _, _, rfl, ⟨_, _, rfl, H1.out.1.later M2.out.2, fun _ ad e => by cases e; exact ⟨by have := H1.out.2.1; simp only; omega, fun e => by have := hown _ e; have := H1.out.2.1; simp only at *; omega⟩⟩, ⟨_, _, rfl, M2.out.1, fun _ ad e => by cases e; exact ⟨by simp only; omega, fun e => by have := hown _ e; simp only at *; omega⟩⟩⟩
        refine wp_of_list rfl (by rintro ⟨_, _, hh⟩; exact HO.out _ hh) (wpList_append_one (K := kEnt) (ok := fun b => X < b) eltR rfl (.tmp 40) (.tmp 57) rfl (X + 1) (.slice ra rm rc) rs rfl HF.out.2.1 ([115, q], [115, hi]) [.slice (some ⟨b1, 0, none⟩) 2 c1, .slice (some ⟨w1.heap.size, 0, none⟩) 2 2] _ _ rfl rfl HF.out.2.2 (fun b hb => by have := HF.out.1.ord; show X < b; omega) (by have := HG.out.2.2.2.1; omega) (by decide) (by have := HF.out.1.ord; omega) (fun v6 w6 r1 r2 r3 => list_end ?_))
        obtain ⟨a6, c6, e6⟩ := rows_form r1
        subst e6
        have H6 := put_by (And.intro r1 (HF.out.1.own r2 (fun g e => by have := (rows_lt HF.out.2.1 g e).1; omega)))
        have HN6 : Hid ((rs ++ [(([115, q], [115, hi]) : Ent)]).length = rs.length + 1) := (by simp [Hid])
        generalize (rs ++ [(([115, q], [115, hi]) : Ent)]).length = m6 at H6 HN6 ⊢
        obtain ⟨x6, y6⟩ := H6.out.2.var 3 _ rfl
        have hS6 : (fun V : World => V.cell? ⟨X, 3, none⟩ = some (.slice ra rm rc) ∧ V.cell? ⟨w.heap.size, 3, none⟩ = some (.slice (some ⟨bx, ox, none⟩) nx xc) ∧ V.cell? ⟨bx, ox + k, none⟩ = some (.int .i64 z)) w6 := ⟨x6, (H6.out.2.wish 3 _ rfl).1, HCX.out _ H6.out.2.below⟩
        refine hK _ _ (fun _ => hS6) ?_
        clear hK K r1 r2 r3 HF HB2 hS2 M2
        simp only [Act.put, List.setIfInBounds_toArray]
        refine V_takeS [21] 59 (k := 20) (v := .pointer (some ⟨X, 3, none⟩)) rfl rfl (by kernel_rfl) (by kernel_rfl) (by kernel_rfl) (by kernel_rfl) (by kernel_rfl) (by kernel_rfl) (fun _ _ _ h => h) (Or.inl ⟨by rfl, fun V hV => ?_⟩) hS6 ?_
        · skip; go_simp
        try simp only [Act.put, List.setIfInBounds_toArray, List.set_cons_zero, List.set_cons_succ]
        refine U_one (i := 21) (listed' := #[true, true, true, true, true, true, true, true, true, true, true, true, true, true, true, true, true, true, true, true, true, true]) (by kernel_rfl) rfl (by kernel_rfl) rfl (fun K hK => ?_)
        go_simp
        refine hK _ _ (fun hh => by cases (show true = false from hh)) ?_
        clear hK K
        have H7 : Hid (R1 w X [.int .i64 c, .int .i64 n, .int .i64 s, .slice (some ⟨bx, ox, none⟩) nx xc, .slice ya ny yc, .bool g] (1 + pc) (1 + pn) ps (k + 1) (w6.setCell ⟨X, 3, none⟩ (.slice a6 m6 c6))) := by
          have hg6 : w6.grownBy (w6.setCell ⟨X, 3, none⟩ (.slice a6 m6 c6)) (some X) := grown_set _
          obtain ⟨n1, n2, n3, n4, n5⟩ := HG.out
          refine ⟨a6, m6, c6, rs ++ [([115, q], [115, hi])], H6.out.2.store (k := 3) (.slice a6 m6 c6), H6.out.1.move (kept_old hg6 (Nat.lt_irrefl X)) (fun g e => hg6.block g (rows_lt H6.out.1 g e).2 (fun e2 => by have := (rows_lt H6.out.1 g e).1; have := Option.some.inj e2; omega)), by rw [HN6.out]; simp, by simp; omega, fun r hr => ?_⟩
          rcases List.mem_append.1 hr with hr | hr
          · exact n5 r hr
          · rw [List.mem_singleton.1 hr]; exact ⟨by simp, by simp⟩
        refine U_done (by kernel_rfl) ?_ _
        generalize w6.setCell _ _ = V7 at H7 ⊢
        clear H6 x6 y6 hS6 HG H1 HCX HSV
        go_wp2
        go_roundw
        case rel => exact ⟨k + 1, by omega, by go_num, H7.out⟩
        case measure => simp [intOf]; omega
      · go_upto_region 3 with (fail)
        go_cut [30] from 22 to 30 (fun b wx => b = .bool false ∧ wr = wx)
        case first =>
          by_cases hk1 : k < nx
          · have ik1 : (k : Int) < (nx : Int) := by omega
            have ik2 : ¬ (k : Int) < 4 := by omega
            go_wp2
            go_meet
            exact ⟨rfl, rfl⟩
          · have ik1 : ¬ (k : Int) < (nx : Int) := by omega
            go_wp2
            go_meet
            exact ⟨rfl, rfl⟩
        case rest =>
          obtain ⟨rfl, rfl⟩ := hcut
          clear z3 hgo
          have HB3 := put_by ((Below.refl wr.heap.size wr).alloc (Nat.le_refl _) (.cells #[.bool false, .bool false, .bool false, .bool false, .bool false, .bool false, .bool false, .bool false, .bool false, .bool false, .bool false, .bool false] 113))
          have HF3 := put_by (Cls.new wr [.bool false, .bool false, .bool false, .bool false, .bool false, .bool false, .bool false, .bool false, .bool false, .bool false, .bool false, .bool false] 113)
          have HZ3 : Hid ((wr.alloc (.cells #[.bool false, .bool false, .bool false, .bool false, .bool false, .bool false, .bool false, .bool false, .bool false, .bool false, .bool false, .bool false] 113)).heap.size = wr.heap.size + 1) := by simp [Hid]
          go_upto_region 8 with (fail)
          generalize hH : wr.heap.size = H
          rw [hH] at HF3 HZ3
          generalize wr.alloc (.cells #[.bool false, .bool false, .bool false, .bool false, .bool false, .bool false, .bool false, .bool false, .bool false, .bool false, .bool false, .bool false] _) = W6 at HB3 HF3 HZ3 ⊢
          have HX : Hid (X < H ∧ rs.length ≤ 4 ∧ (∀ r ∈ rs, MildR r) ∧ rm = rs.length) := ⟨by have := HG.out.1.ord; omega, by have := HG.out.2.2.2.1; omega, HG.out.2.2.2.2, HG.out.2.2.1⟩
          have HR2 : Hid (R2 w X H [.int .i64 c, .int .i64 n, .int .i64 s, .slice xa nx xc, .slice ya ny yc, .bool g] (1 + pc) (1 + pn) ps ra rm rc rs W6) := by
            have h1 := HG.out.1.later HB3.out
            have ho := HG.out.1.ord
            have hl := (rows_lies HG.out.2.1 (fun b hb => by omega)).2.1
            exact ⟨h1, hl.move (Kept.of_below HB3.out) (fun b hb q => ⟨q, by omega⟩), [false, false, false, false, false, false, false, false, false, false, false, false], rfl, HF3.out, by have := HZ3.out; omega⟩
          clear HG HB3 HF3 HZ3 hH
          go_wp2
          go_loopw [7] (fun i wr => ∃ k : Nat, k ≤ 4 ∧ i = .int .i64 k ∧ Hid (R2 w X H [.int .i64 c, .int .i64 n, .int .i64 s, .slice xa nx xc, .slice ya ny yc, .bool g] (1 + pc) (1 + pn) ps ra rm rc rs wr)) (fun i _ => 4 - (intOf i).toNat)
          case atStart => exact ⟨0, by omega, rfl, HR2.out⟩
          case round =>
            obtain ⟨k, hk, rfl, HR⟩ := hrel
            rename World => wr
            obtain ⟨g1, g2, hs, g3, g4, g5⟩ := HR.out
            obtain ⟨z4, -⟩ := g1.wish 4 _ rfl
            have HG := put_by (And.intro g1 (And.intro g2 (And.intro g3 (And.intro g4 g5))))
            clear g1 g2 g3 g4 g5 HR
            by_cases hgo : k < ny ∧ k < 4
            · obtain ⟨hk1, hk2⟩ := hgo
              have hky : k < ys.length := by rw [← HXY.out.2.2.2]; exact hk1
              obtain ⟨by', oy, rfl, hby, hcy⟩ := int_at HXY.out.2.1 hky
              obtain ⟨z, hz⟩ : ∃ z, z = ys[k] := ⟨_, rfl⟩
              rw [← hz] at hcy
              have z5 := hcy wr HG.out.1.below
              obtain ⟨qn, hqn⟩ : ∃ qn : Nat, (qn : Int) = z % 12 := ⟨(z % 12).toNat, by omega⟩
              have p12 : Hid (∀ V, Calls Try.prog 25 #[.int .i64 z, .int .i64 12] V fun e w' => e = .returned (.int .i64 (qn : Int)) ∧ V = w') := fun V => by rw [hqn]; exact Picked_any z 12 (by omega) (by omega) V
              have bq : qn < 12 := by omega
              clear hqn hz hcy
              have iq : (qn : Int) < 12 := by omega
              obtain ⟨x5, y5⟩ := HG.out.2.2.2.1 qn (.bool (hs.getD qn false)) (by rw [List.getElem?_map, List.getD, List.getElem?_eq_getElem (by rw [HG.out.2.2.1]; exact bq)]; rfl)
              have ik1 : (k : Int) < (ny : Int) := by omega
              have ik2 : (k : Int) < 4 := by omega
              go_upto_region 10 with (first
                | (go_at_call 25; (with_reducible refine (p12.out _).mono ?_); clear p12; rintro e w1 ⟨rfl, rfl⟩))
              have H7 : Hid (R2 w X H [.int .i64 c, .int .i64 n, .int .i64 s, .slice xa nx xc, .slice (some ⟨by', oy, none⟩) ny yc, .bool g] (1 + pc) (1 + pn) ps ra rm rc rs (wr.setCell ⟨H, qn, none⟩ (.bool true))) := by
                have hg6 : wr.grownBy (wr.setCell ⟨H, qn, none⟩ (.bool true)) (some H) := grown_set _
                obtain ⟨n1, n2, n3, n4, n5⟩ := HG.out
                refine ⟨n1.own hg6 (fun g e => by cases e; exact HX.out.1), n2.move (kept_old hg6 (fun q => Nat.lt_irrefl H q.2)) (fun _ _ q => q), hs.set qn true, by rw [List.length_set]; exact n3, by rw [List.map_set]; exact n4.set (.bool true), by simpa using n5⟩
              generalize wr.setCell _ _ = V7 at H7 ⊢
              clear HG x5 y5 z4 z5
              go_wp2
              go_roundw
              case rel => exact ⟨k + 1, by omega, by go_num, H7.out⟩
              case measure => simp [intOf]; omega
            · go_upto_region 9 with (fail)
              go_cut [68] from 60 to 68 (fun b wx => b = .bool false ∧ wr = wx)
              case first =>
                by_cases hk1 : k < ny
                · have ik1 : (k : Int) < (ny : Int) := by omega
                  have ik2 : ¬ (k : Int) < 4 := by omega
                  go_wp2
                  go_meet
                  exact ⟨rfl, rfl⟩
                · have ik1 : ¬ (k : Int) < (ny : Int) := by omega
                  go_wp2
                  go_meet
                  exact ⟨rfl, rfl⟩
              case rest =>
                obtain ⟨rfl, rfl⟩ := hcut
                clear z4 hgo
                have HR3 : Hid (R3 w X H [.int .i64 c, .int .i64 n, .int .i64 s, .slice xa nx xc, .slice ya ny yc, .bool g] (1 + pc) (1 + pn) ps ra rm rc rs hs 0 wr) := ⟨none, 0, 0, [], HG.out.1, HG.out.2.1, HG.out.2.2.2.1, ⟨HX.out.1, HG.out.2.2.2.2⟩, Rows.nil _ _ _ _ _, rfl, by simp [WsI, AscW]⟩
                have HHs := put_by HG.out.2.2.1
                clear HG
                go_wp2
                go_loopw [8] (fun i wr => ∃ k : Nat, k ≤ 12 ∧ i = .int .i64 k ∧ Hid (R3 w X H [.int .i64 c, .int .i64 n, .int .i64 s, .slice xa nx xc, .slice ya ny yc, .bool g] (1 + pc) (1 + pn) ps ra rm rc rs hs k wr)) (fun i _ => 12 - (intOf i).toNat)
                case atStart => exact ⟨0, by omega, rfl, HR3.out⟩
                case round =>
                  obtain ⟨k, hk, rfl, HR⟩ := hrel
                  rename World => wr
                  obtain ⟨wa, wm, wc, ws, g1, g2, g3, g4, g5, g6, g7⟩ := HR.out
                  by_cases hlt : k < 12
                  · have ik : (k : Int) < 12 := by omega
                    obtain ⟨hb, hhb⟩ : ∃ b, b = hs.getD k false := ⟨_, rfl⟩
                    obtain ⟨x8, -⟩ := g3 k (.bool hb) (by rw [hhb, List.getElem?_map, List.getD, List.getElem?_eq_getElem (by rw [HHs.out]; exact hlt)]; rfl)
                    clear hhb
                    cases hb with
                    | false =>
                      have H8 : Hid (R3 w X H [.int .i64 c, .int .i64 n, .int .i64 s, .slice xa nx xc, .slice ya ny yc, .bool g] (1 + pc) (1 + pn) ps ra rm rc rs hs (k + 1) wr) := ⟨wa, wm, wc, ws, g1, g2, g3, g4, g5, g6, g7.skip⟩
                      clear g1 g2 g3 g4 g5 g6 g7 HR
                      go_wp2
                      go_roundw
                      case rel => exact ⟨k + 1, by omega, by go_num, H8.out⟩
                      case measure => simp [intOf]; omega
                    | true =>
                      obtain ⟨nw, hnw⟩ : ∃ nw, nw = ws.length := ⟨_, rfl⟩
                      have HNw := put_by hnw
                      have HG := put_by (And.intro g1 (And.intro g2 (And.intro g4 (And.intro g5 (And.intro g3 (And.intro (show ws.length ≤ 12 by have := g7.1; omega) g7))))))
                      have hnw12 : nw ≤ 12 := by have := g7.1; omega
                      clear g1 g2 g3 g4 g5 g6 g7 HR hnw
                      go_upto_region 16 with (fail)
                      obtain ⟨x4, -⟩ := HG.out.1.var 4 _ rfl
                      have hS : (fun V : World => V.cell? ⟨X, 4, none⟩ = some (.slice wa wm wc)) wr.drew := x4
                      have HSV : Hid (∀ W, Below wr.heap.size wr W → W.cell? ⟨X, 4, none⟩ = some (.slice wa wm wc)) := fun W hW => ((HG.out.1.later hW).var 4 _ rfl).1
                      have cS : Hid (∀ V, Below wr.heap.size wr V → Calls Try.prog 69 #[.int .i64 (k : Int)] V fun e w' => ∃ b1 c1 : Nat, e = .returned (.slice (some ⟨b1, 0, none⟩) 2 c1) ∧ Hid (Octs w' (some ⟨b1, 0, none⟩) c1 [115, (k : Int)] ∧ wr.heap.size ≤ b1 ∧ b1 < w'.heap.size ∧ Below wr.heap.size wr w')) := fun V hV => (spot_any (k : Int) (by omega) ik V).mono (fun e w' ⟨b1, c1, h1, h2, h3, h4⟩ => ⟨b1, c1, h1, h2, Nat.le_trans hV.size h3, h2.blocks (by simp) _ rfl, hV.trans (h4.mono hV.size)⟩)
                      clear x4 x8
                      refine region_plain (fun V => V.cell? ⟨X, 4, none⟩ = some (.slice wa wm wc)) 8 (by kernel_rfl) ?_
                      change wpAnyU _ _ _ _ _ 9 #[false, false, false, false, false, false, false, false, false] _ wr.drew
                      refine V_takeS [8, 6, 1] 85 (k := 0) (v := .pointer (some ⟨X, 4, none⟩)) rfl rfl (by kernel_rfl) (by kernel_rfl) (by kernel_rfl) (by kernel_rfl) (by kernel_rfl) (by kernel_rfl) (fun _ _ _ h => h) (Or.inl ⟨by rfl, fun V hV => ?_⟩) hS ?_
                      · have z0 := hV; go_simp
                      try simp only [Act.put, List.setIfInBounds_toArray, List.set_cons_zero, List.set_cons_succ]
                      refine V_takeS [8, 6] 86 (k := 1) (v := .slice wa wm wc) rfl rfl (by kernel_rfl) (by kernel_rfl) (by kernel_rfl) (by kernel_rfl) (by kernel_rfl) (by kernel_rfl) (fun _ _ _ h => h) (Or.inl ⟨by rfl, fun V hV => ?_⟩) hS ?_
                      · have z0 := hV; go_simp
                      try simp only [Act.put, List.setIfInBounds_toArray, List.set_cons_zero, List.set_cons_succ]
                      refine V_takeS [8, 6, 5, 4, 3] 87 (k := 2) (v := .int .i64 (k : Int)) rfl rfl (by kernel_rfl) (by kernel_rfl) (by kernel_rfl) (by kernel_rfl) (by kernel_rfl) (by kernel_rfl) (fun _ _ _ h => h) (Or.inl ⟨by rfl, fun V hV => ?_⟩) hS ?_
                      · have z0 := hV; go_simp
                      try simp only [Act.put, List.setIfInBounds_toArray, List.set_cons_zero, List.set_cons_succ]
                      refine U_one (i := 3) (listed' := #[true, true, true, true, false, false, false, false, false]) (by kernel_rfl) rfl (by kernel_rfl) rfl (fun K hK => ?_)
                      go_simp
                      refine (cS.out _ (Below.refl _ _).drew).mono ?_
                      rintro e w1 ⟨b1, c1, rfl, H1⟩
                      have hS1 := HSV.out _ H1.out.2.2.2
                      refine hK _ _ (fun _ => hS1) ?_
                      clear hK K cS hS
                      try simp only [Act.put, List.setIfInBounds_toArray, List.set_cons_zero, List.set_cons_succ]
                      refine V_takeS [8, 6, 5] 89 (k := 4) (v := .agg #[.slice (some ⟨b1, 0, none⟩) 2 c1, .slice none 0 0, .bool false]) rfl rfl (by kernel_rfl) (by kernel_rfl) (by kernel_rfl) (by kernel_rfl) (by kernel_rfl) (by kernel_rfl) (fun _ _ _ h => h) (Or.inl ⟨by rfl, fun V hV => ?_⟩) hS1 ?_
                      · have z0 := hV; go_simp
                      try simp only [Act.put, List.setIfInBounds_toArray, List.set_cons_zero, List.set_cons_succ]
                      refine U_one (i := 5) (listed' := #[true, true, true, true, true, true, false, false, false]) (by kernel_rfl) rfl (by kernel_rfl) rfl (fun K hK => ?_)
                      go_simp
                      refine hK _ _ (fun _ => HSV.out _ (H1.out.2.2.2.alloc H1.out.2.2.2.size _)) ?_
                      clear hK K
                      try simp only [Act.put, List.setIfInBounds_toArray, List.set_cons_zero, List.set_cons_succ]
                      refine U_one (i := 6) (listed' := #[true, true, true, true, true, true, true, false, false]) (by kernel_rfl) rfl (by kernel_rfl) rfl (fun K hK => ?_)
                      have HF : Hid (WJ w X [.int .i64 c, .int .i64 n, .int .i64 s, .slice xa nx xc, .slice ya ny yc, .bool g] [.int .i64 (1 + pc), .int .i64 (1 + pn), .int .i64 ps, .slice ra rm rc, .slice wa wm wc] w1 ∧ Rows kWt (fun b => H < b) w1 (H + 1) 100 (.slice wa wm wc) ws ∧ kWt.rel (fun b => H < b ∧ (Value.slice wa wm wc).ownBlock ≠ some b) w1 ⟨[115, (k : Int)], [], false⟩ [.slice (some ⟨b1, 0, none⟩) 2 c1, .slice none 0 0, .bool false]) := by
                        have hown : ∀ g, (Value.slice wa wm wc).ownBlock = some g → g < wr.heap.size := fun g e => (rows_lt HG.out.2.2.2.1 g e).2
                        have hlt := HG.out.2.2.1.2
                        exact ⟨HG.out.1.later H1.out.2.2.2, HG.out.2.2.2.1.later H1.out.2.2.2, _, _, rfl, ⟨_, _, rfl, H1.out.1, fun _ ad e => by cases e; exact ⟨by have := H1.out.2.1; simp only; omega, fun e => by have := hown _ e; have := H1.out.2.1; simp only at *; omega⟩⟩, ⟨_, _, rfl, Octs.nil _ _ _ (fun _ => rfl), fun h => absurd rfl h⟩⟩
                      refine wp_of_list rfl (by rintro ⟨_, _, hh⟩; exact HO.out _ hh) (wpList_append_one (K := kWt) (ok := fun b => H < b) eltW rfl (.tmp 86) (.tmp 90) rfl (H + 1) (.slice wa wm wc) ws rfl HF.out.2.1 ⟨[115, (k : Int)], [], false⟩ [.slice (some ⟨b1, 0, none⟩) 2 c1, .slice none 0 0, .bool false] _ _ rfl rfl HF.out.2.2 (fun b hb => by have := H1.out.2.2.2.size; have := HG.out.2.2.1.2; show H < b; omega) (by have := HG.out.2.2.2.2.2.1; omega) (by decide) (by have := H1.out.2.2.2.size; have := HG.out.2.2.1.2; omega) (fun v6 w6 r1 r2 r3 => list_end ?_))
                      have hrow : ∀ g, (Value.slice wa wm wc).ownBlock = some g → H < g := fun g e => by have := (rows_lt HF.out.2.1 g e).1; omega
                      obtain ⟨g6, c6, e6, hcap, hbase, hlt6, hcell⟩ := rows_put_cells r1
                      subst e6
                      have H6 : Hid (Rows kWt (fun b => H < b) w6 (H + 1) 100 (.slice (some ⟨g6, 0, none⟩) (nw + 1) c6) (ws ++ [⟨[115, (k : Int)], [], false⟩]) ∧ WJ w X [.int .i64 c, .int .i64 n, .int .i64 s, .slice xa nx xc, .slice ya ny yc, .bool g] [.int .i64 (1 + pc), .int .i64 (1 + pn), .int .i64 ps, .slice ra rm rc, .slice wa wm wc] w6 ∧ Lies kEnt (fun b => X < b ∧ b < H) w6 ra rc rs ∧ Cls w6 H (hs.map Value.bool) ∧ H < w6.heap.size ∧ (H < g6 ∧ g6 < w6.heap.size)) := by
                        have hs1 := H1.out.2.2.2.size
                        have hH := HG.out.2.2.1
                        have hg6 : w1.grownBy w6 (Value.slice wa wm wc).ownBlock := r2
                        refine ⟨by rw [HNw.out]; exact r1, HF.out.1.own r2 (fun g e => by have := hrow g e; omega), (HG.out.2.1.later H1.out.2.2.2).move (Kept.of_grown r2 (fun b hb e => by have := hrow b e; omega)) (fun _ _ q => q), (HG.out.2.2.2.2.1.later H1.out.2.2.2).block (fun _ => hg6.block H (by omega) (fun e => by have := hrow H e.symm; omega)), by have := hg6.size; omega, by omega, hlt6⟩
                      rw [← HNw.out] at hcap
                      have hc1 := hcell 1 (by omega)
                      have hc2 := hcell 2 (by omega)
                      rw [← HNw.out] at hc1 hc2
                      have HC6 : Hid (((∃ p, w6.cell? ⟨g6, nw * 3 + 1, none⟩ = some p) ∧ w6.frozen? ⟨g6, nw * 3 + 1, none⟩ = false) ∧ ((∃ p, w6.cell? ⟨g6, nw * 3 + 2, none⟩ = some p) ∧ w6.frozen? ⟨g6, nw * 3 + 2, none⟩ = false)) := ⟨hc1, hc2⟩
                      obtain ⟨x6, y6⟩ := H6.out.2.1.var 4 _ rfl
                      rw [← HNw.out]
                      refine hK _ _ (fun _ => x6) ?_
                      clear hK K r1 r2 r3 HF hS1 hcell hc1 hc2 hbase hlt6 hrow
                      simp only [Act.put, List.setIfInBounds_toArray]
                      refine V_takeS [8] 92 (k := 7) (v := .pointer (some ⟨X, 4, none⟩)) rfl rfl (by kernel_rfl) (by kernel_rfl) (by kernel_rfl) (by kernel_rfl) (by kernel_rfl) (by kernel_rfl) (fun _ _ _ h => h) (Or.inl ⟨by rfl, fun V hV => ?_⟩) x6 ?_
                      · skip; go_simp
                      try simp only [Act.put, List.setIfInBounds_toArray, List.set_cons_zero, List.set_cons_succ]
                      refine U_one (i := 8) (listed' := #[true, true, true, true, true, true, true, true, true]) (by kernel_rfl) rfl (by kernel_rfl) rfl (fun K hK => ?_)
                      go_simp
                      refine hK _ _ (fun hh => by cases (show true = false from hh)) ?_
                      clear hK K
                      refine U_done (by kernel_rfl) ?_ _
                      have H7 : Hid (Rows kWt (fun b => H < b) (w6.setCell ⟨X, 4, none⟩ (.slice (some ⟨g6, 0, none⟩) (nw + 1) c6)) (H + 1) 100 (.slice (some ⟨g6, 0, none⟩) (nw + 1) c6) (ws ++ [⟨[115, (k : Int)], [], false⟩]) ∧ WJ w X [.int .i64 c, .int .i64 n, .int .i64 s, .slice xa nx xc, .slice ya ny yc, .bool g] [.int .i64 (1 + pc), .int .i64 (1 + pn), .int .i64 ps, .slice ra rm rc, .slice (some ⟨g6, 0, none⟩) (nw + 1) c6] (w6.setCell ⟨X, 4, none⟩ (.slice (some ⟨g6, 0, none⟩) (nw + 1) c6)) ∧ Lies kEnt (fun b => X < b ∧ b < H) (w6.setCell ⟨X, 4, none⟩ (.slice (some ⟨g6, 0, none⟩) (nw + 1) c6)) ra rc rs ∧ Cls (w6.setCell ⟨X, 4, none⟩ (.slice (some ⟨g6, 0, none⟩) (nw + 1) c6)) H (hs.map Value.bool) ∧ (H < (w6.setCell ⟨X, 4, none⟩ (.slice (some ⟨g6, 0, none⟩) (nw + 1) c6)).heap.size ∧ X < H) ∧ (H < g6 ∧ g6 < (w6.setCell ⟨X, 4, none⟩ (.slice (some ⟨g6, 0, none⟩) (nw + 1) c6)).heap.size) ∧ ((∃ p, (w6.setCell ⟨X, 4, none⟩ (.slice (some ⟨g6, 0, none⟩) (nw + 1) c6)).cell? ⟨g6, nw * 3 + 1, none⟩ = some p) ∧ (w6.setCell ⟨X, 4, none⟩ (.slice (some ⟨g6, 0, none⟩) (nw + 1) c6)).frozen? ⟨g6, nw * 3 + 1, none⟩ = false) ∧ (∃ p, (w6.setCell ⟨X, 4, none⟩ (.slice (some ⟨g6, 0, none⟩) (nw + 1) c6)).cell? ⟨g6, nw * 3 + 2, none⟩ = some p) ∧ (w6.setCell ⟨X, 4, none⟩ (.slice (some ⟨g6, 0, none⟩) (nw + 1) c6)).frozen? ⟨g6, nw * 3 + 2, none⟩ = false) := by
                        have hX := HG.out.2.2.1.1
                        have hg6 : w6.grownBy (w6.setCell ⟨X, 4, none⟩ (.slice (some ⟨g6, 0, none⟩) (nw + 1) c6)) (some X) := grown_set _
                        obtain ⟨h1, h2, h3, h4, h5, h6, h7⟩ := H6.out
                        have hb6 : (w6.setCell ⟨X, 4, none⟩ (.slice (some ⟨g6, 0, none⟩) (nw + 1) c6)).heap[g6]? = w6.heap[g6]? := hg6.block g6 h7 (fun e => by have := Option.some.inj e; omega)
                        refine ⟨h1.move (kept_old hg6 (by omega)) (fun g e => by cases e; exact hb6), h2.store (k := 4) _, h3.move (kept_old hg6 (fun q => Nat.lt_irrefl X q.1)) (fun _ _ q => q), h4.block (fun _ => hg6.block H h5 (fun e => by have := Option.some.inj e; omega)), ⟨by simpa using h5, hX⟩, ⟨h6, by simpa using h7⟩, ⟨⟨_, (World.cell?_of_block hb6).trans HC6.out.1.1.choose_spec⟩, (World.frozen?_of_block hb6).trans HC6.out.1.2⟩, ⟨_, (World.cell?_of_block hb6).trans HC6.out.2.1.choose_spec⟩, (World.frozen?_of_block hb6).trans HC6.out.2.2⟩
                      generalize w6.setCell _ _ = V7 at H7 ⊢
                      clear H6 HC6 x6 y6 H1 HSV
                      have HWs := put_by HG.out.2.2.2.2.2.2
                      clear HG
                      obtain ⟨x7, -⟩ := H7.out.2.1.var 4 _ rfl
                      obtain ⟨z5, -⟩ := H7.out.2.1.wish 5 _ rfl
                      obtain ⟨z0, -⟩ := H7.out.2.1.wish 0 _ rfl
                      obtain ⟨z1, -⟩ := H7.out.2.1.wish 1 _ rfl
                      have icap : (nw : Int) + 1 ≤ (c6 : Int) := by omega
                      obtain ⟨-, -, -, -, ⟨h5a, h5b⟩, ⟨h6a, h6b⟩, ⟨⟨u1, hu1⟩, hf1⟩, ⟨u2, hu2⟩, hf2⟩ := id H7.out
                      obtain ⟨ev, hev⟩ : ∃ ev : Bool, ev = (g && decide ((k : Int) % 2 = 0)) := ⟨_, rfl⟩
                      have HEv := put_by hev
                      clear hev
                      go_upto_region 18 with (fail)
                      cases g with
                      | true =>
                        by_cases he : (k : Int) % 2 = 0
                        · clear z0 z1 hu1 hf1 HEv
                          have ie : (((k : Int).tmod 2) == 0) = true := by rw [Int.tmod_eq_emod_of_nonneg (by omega)]; simpa using he
                          go_upto_region 14 with (fail)
                          have H8 : Hid (R3 w X H [.int .i64 c, .int .i64 n, .int .i64 s, .slice xa nx xc, .slice ya ny yc, .bool true] (1 + pc) (1 + pn) ps ra rm rc rs hs (k + 1) (V7.setCell ⟨g6, nw * 3 + 2, none⟩ (.bool true))) := by
                            have hr := rows_put (j := 2) (u := .bool true) (y := ⟨[115, (k : Int)], [], true⟩) H7.out.1 (by
                              rintro cs ⟨a, b, rfl, q1, q2⟩
                              exact ⟨a, b, rfl, q1, q2⟩)
                            rw [HNw.out.symm] at hr
                            exact R3_put H7.out h6a hr HWs.out HNw.out ⟨rfl, by simp, fun _ => rfl⟩ rfl
                          generalize V7.setCell _ _ = V8 at H8 ⊢
                          clear H7 hu2 hf2
                          go_wp2
                          go_roundw
                          case rel => exact ⟨k + 1, by omega, by go_num, H8.out⟩
                          case measure => simp [intOf]; omega
                        · have ie : (((k : Int).tmod 2) == 0) = false := by rw [Int.tmod_eq_emod_of_nonneg (by omega)]; simpa using he
                          clear hu2 hf2 HEv
                          have HOc := put_by (octs_alloc V7 [c % 256, n % 256, (k : Int)] 3 5 (0, 0) #[.int .u8 (c % 256), .int .u8 (n % 256), .int .u8 (k : Int)] rfl (by simp) (by simp) (fun y hy => by simp only [List.mem_cons, List.not_mem_nil, or_false] at hy; rcases hy with rfl | rfl | rfl <;> omega))
                          have HBv := put_by ((Below.refl V7.heap.size V7).alloc (Nat.le_refl _) (.cells #[.int .u8 (c % 256), .int .u8 (n % 256), .int .u8 (k : Int)] 5))
                          have iwk : IntKind.u8.wrap (k : Int) = (k : Int) := by rw [IntKind.wrap_u8]; omega
                          go_upto_region 14 with (fail)
                          have H8 : Hid (R3 w X H [.int .i64 c, .int .i64 n, .int .i64 s, .slice xa nx xc, .slice ya ny yc, .bool true] (1 + pc) (1 + pn) ps ra rm rc rs hs (k + 1) ((V7.alloc (.cells #[.int .u8 (c % 256), .int .u8 (n % 256), .int .u8 (k : Int)] 5)).setCell ⟨g6, nw * 3 + 1, none⟩ (.slice (some ⟨V7.heap.size, 0, none⟩) 3 3))) := by
                            have hr := rows_put (j := 1) (u := .slice (some ⟨V7.heap.size, 0, none⟩) 3 3) (y := ⟨[115, (k : Int)], [c % 256, n % 256, (k : Int)], false⟩) (H7.out.1.later HBv.out) (by
                              rintro cs ⟨a, b, rfl, q1, q2⟩
                              exact ⟨a, _, rfl, q1, _, _, rfl, HOc.out, fun _ ad e => by cases e; exact ⟨by simp only; omega, fun e => by have := Option.some.inj e; simp only at this; omega⟩⟩)
                            rw [HNw.out.symm] at hr
                            exact R3_put (R3_later H7.out HBv.out) h6a hr HWs.out HNw.out ⟨rfl, by simp, fun e => by cases e⟩ rfl
                          have hcomm : (V7.alloc (.cells #[.int .u8 (c % 256), .int .u8 (n % 256), .int .u8 (k : Int)] 5)).setCell ⟨g6, nw * 3 + 1, none⟩ (.slice (some ⟨V7.heap.size, 0, none⟩) 3 3) = (V7.setCell ⟨g6, nw * 3 + 1, none⟩ (.slice (some ⟨V7.heap.size, 0, none⟩) 3 3)).alloc (.cells #[.int .u8 (c % 256), .int .u8 (n % 256), .int .u8 (k : Int)] 5) := World.setCell_alloc_past _ _ _ _ h6b
                          rw [hcomm] at H8
                          clear hcomm
                          generalize World.alloc _ _ = V8 at H8 ⊢
                          clear H7 hu1 hf1 HOc HBv
                          go_wp2
                          go_roundw
                          case rel => exact ⟨k + 1, by omega, by go_num, H8.out⟩
                          case measure => simp [intOf]; omega
                      | false =>
                        clear hu2 hf2 HEv
                        have HOc := put_by (octs_alloc V7 [c % 256, n % 256, (k : Int)] 3 5 (0, 0) #[.int .u8 (c % 256), .int .u8 (n % 256), .int .u8 (k : Int)] rfl (by simp) (by simp) (fun y hy => by simp only [List.mem_cons, List.not_mem_nil, or_false] at hy; rcases hy with rfl | rfl | rfl <;> omega))
                        have HBv := put_by ((Below.refl V7.heap.size V7).alloc (Nat.le_refl _) (.cells #[.int .u8 (c % 256), .int .u8 (n % 256), .int .u8 (k : Int)] 5))
                        have iwk : IntKind.u8.wrap (k : Int) = (k : Int) := by rw [IntKind.wrap_u8]; omega
                        go_upto_region 14 with (fail)
                        have H8 : Hid (R3 w X H [.int .i64 c, .int .i64 n, .int .i64 s, .slice xa nx xc, .slice ya ny yc, .bool false] (1 + pc) (1 + pn) ps ra rm rc rs hs (k + 1) ((V7.alloc (.cells #[.int .u8 (c % 256), .int .u8 (n % 256), .int .u8 (k : Int)] 5)).setCell ⟨g6, nw * 3 + 1, none⟩ (.slice (some ⟨V7.heap.size, 0, none⟩) 3 3))) := by
                          have hr := rows_put (j := 1) (u := .slice (some ⟨V7.heap.size, 0, none⟩) 3 3) (y := ⟨[115, (k : Int)], [c % 256, n % 256, (k : Int)], false⟩) (H7.out.1.later HBv.out) (by
                            rintro cs ⟨a, b, rfl, q1, q2⟩
                            exact ⟨a, _, rfl, q1, _, _, rfl, HOc.out, fun _ ad e => by cases e; exact ⟨by simp only; omega, fun e => by have := Option.some.inj e; simp only at this; omega⟩⟩)
                          rw [HNw.out.symm] at hr
                          exact R3_put (R3_later H7.out HBv.out) h6a hr HWs.out HNw.out ⟨rfl, by simp, fun e => by cases e⟩ rfl
                        have hcomm : (V7.alloc (.cells #[.int .u8 (c % 256), .int .u8 (n % 256), .int .u8 (k : Int)] 5)).setCell ⟨g6, nw * 3 + 1, none⟩ (.slice (some ⟨V7.heap.size, 0, none⟩) 3 3) = (V7.setCell ⟨g6, nw * 3 + 1, none⟩ (.slice (some ⟨V7.heap.size, 0, none⟩) 3 3)).alloc (.cells #[.int .u8 (c % 256), .int .u8 (n % 256), .int .u8 (k : Int)] 5) := World.setCell_alloc_past _ _ _ _ h6b
                        rw [hcomm] at H8
                        clear hcomm
                        generalize World.alloc _ _ = V8 at H8 ⊢
                        clear H7 hu1 hf1 HOc HBv
                        go_wp2
                        go_roundw
                        case rel => exact ⟨k + 1, by omega, by go_num, H8.out⟩
                        case measure => simp [intOf]; omega
                  · have hk12 : k = 12 := by omega
                    subst hk12
                    have ho := g1.ord
                    have HI6 := put_by (And.intro g1.var (And.intro g1.res g1.below))
                    have HI7 : Hid (ItIs (fun b => w.heap.size + 1 < b) wr rs ws ra rc wa wc ∧ wm = ws.length ∧ rm = rs.length ∧ Mild ⟨1 + pc, 1 + pn, ps, rs, ws⟩) := by
                      have hw := (rows_lies g5 (fun b hb => by omega)).2.1
                      exact ⟨⟨g2.move (Kept.of_below (Below.refl _ _)) (fun b _ q => by omega), hw.move (Kept.of_below (Below.refl _ _)) (fun b _ q => by have := g4.1; omega), by have := HX.out.2.1; omega, by have := g7.1; omega⟩, g6, HX.out.2.2.2, ⟨by simp only; omega, by simp only; omega⟩, ⟨by simp only; omega, by simp only; omega⟩, ⟨by simp only; omega, by simp only; omega⟩, ⟨HX.out.2.1, g7.1⟩, HX.out.2.2.1, fun y hy => (g7.2.1 y hy).1, g7.2.2⟩
                    clear g1 g2 g3 g4 g5 g6 g7 HR HHs
                    obtain ⟨x0, -⟩ := HI6.out.1 0 _ rfl
                    obtain ⟨x1, -⟩ := HI6.out.1 1 _ rfl
                    obtain ⟨x2, -⟩ := HI6.out.1 2 _ rfl
                    obtain ⟨x3, -⟩ := HI6.out.1 3 _ rfl
                    obtain ⟨x4, -⟩ := HI6.out.1 4 _ rfl
                    obtain ⟨u0, o0⟩ := HI6.out.2.1 0 _ rfl
                    obtain ⟨u1, o1⟩ := HI6.out.2.1 1 _ rfl
                    obtain ⟨u2, o2⟩ := HI6.out.2.1 2 _ rfl
                    obtain ⟨u3, o3⟩ := HI6.out.2.1 3 _ rfl
                    obtain ⟨u4, o4⟩ := HI6.out.2.1 4 _ rfl
                    have HF := put_by (five_set (N := w.heap.size) HI6.out.2.1 rfl (by omega) (.int .i64 (1 + pc)) (.int .i64 (1 + pn)) (.int .i64 ps) (.slice ra rm rc) (.slice wa wm wc))
                    have HQ := put_by HI6.out.2.2
                    clear HI6 hlt hk ho
                    go_wp2
                    generalize ((((wr.setCell _ _).setCell _ _).setCell _ _).setCell _ _).setCell _ _ = W9 at HF ⊢
                    obtain ⟨v0, -⟩ := HF.out.1 0 _ rfl
                    obtain ⟨v1, -⟩ := HF.out.1 1 _ rfl
                    obtain ⟨v2, -⟩ := HF.out.1 2 _ rfl
                    obtain ⟨v3, -⟩ := HF.out.1 3 _ rfl
                    obtain ⟨v4, -⟩ := HF.out.1 4 _ rfl
                    have HD9 : Hid (WPost w (.returned (.agg #[.int .i64 (1 + pc), .int .i64 (1 + pn), .int .i64 ps, .slice ra rm rc, .slice wa wm wc])) W9) := by
                      obtain ⟨i1, i2, i3, i4⟩ := HI7.out
                      have hk9 := HF.out.2.2 (fun b => w.heap.size + 1 < b) (Nat.lt_irrefl _)
                      exact ⟨1 + pc, 1 + pn, ps, ra, rm, rc, wa, wm, wc, rfl, HQ.out.trans HF.out.2.1, rs, ws, i3, i2, ⟨i1.reads.move hk9 (fun b _ h => by omega), i1.writes.move hk9 (fun b _ h => by omega), i1.few⟩, i4⟩
                    go_wp2
                    exact bodyPost_ret (v := .agg #[.int .i64 (1 + pc), .int .i64 (1 + pn), .int .i64 ps, .slice ra rm rc, .slice wa wm wc]) (by simp [results, Try.results43, go_sem, asAddr, v0, v1, v2, v3, v4]) rfl (HP.out _ _ HD9.out)

end Go.Proofs.Ytjjdednlddnllaa
