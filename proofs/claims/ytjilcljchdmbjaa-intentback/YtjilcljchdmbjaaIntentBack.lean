/- an intent that is made of a wish is read back from its bytes, whatever is wished; its bytes cut short, or with one byte more behind them, are those of no intent. -/
import Derived.Test.YtjilcljchdmbjaaRows
import Derived.Test.YtjilcljchdmbjaaBackP
import Derived.Test.YtjilcljchdmbjaaOctAppendAt
import Derived.WalkKit
import Derived.ProofKit
import Derived.OpenShut
import Derived.ShutString
import Derived.ChangeOld
import Derived.Below
import Derived.SizedLaws
namespace Go.Proofs.Ytjilcljchdmbjaa.intentBack
open Go.ChangeShapes Go.WideShapes Go.ChangeAt Go.RowKit
open Go.ChangeMaps (open_string shut_string)
set_option linter.unusedVariables false

theorem own : ownKnob Try.prog.godebug = none := by kernel_rfl
theorem laidOut : laidOutB Try.prog = true := by kernel_rfl

/-- WHAT THE WALK IS TOLD OF A SLICE OF INTEGERS THAT CAME IN: it is nil; or it leads to a row of 'cap' cells, the numbers 'zs' (the first 'len' are its elements, the rest its spare room), each fitting its kind. -/
def IsRow (k : IntKind) (w : World) (a : Option Addr) (len cap : Nat) (zs : List Int) : Prop :=
  (a = none ∧ len = 0 ∧ cap = 0 ∧ zs = []) ∨
  ∃ x, a = some x ∧ len ≤ cap ∧ cap ≤ maxLen ∧ zs.length = cap ∧ (∀ i, i < zs.length → w.cell? (x.add i) = some (.int k (zs.getD i 0))) ∧ ∀ n ∈ zs, (Lit.int k n).wf = true

/-! ### STEP 1: THE WALK: the Go text returns true, AND WRITES NOTHING THAT WAS THERE: 'Below w.heap.size w w'' (Derived/Below.lean: '.refl', '.alloc', '.drew', '.setCell' at a new block, '.trans'). Open each 'IsRow' by 'rcases' AHEAD of 'go_enter'; part every test ahead of the walk. -/
set_option maxHeartbeats 4000000 in
theorem walk (v0 : Value) (a1 : Int) (a2 : Int) (w : World) (w0 : WishArg w v0) (w1 : (Lit.int .i64 a1).wf = true) (w2 : (Lit.int .u8 a2).wf = true) :
    Calls Try.prog 4 #[v0, .int .i64 a1, .int .u8 a2] w fun e w' => e = .returned (.bool true) ∧ Below w.heap.size w w' := by
  obtain ⟨c, n, s, xs, ys, xa, xc, ya, yc, g, rfl, hx, hy⟩ := w0
  have wm : 0 ≤ a2 ∧ a2 ≤ 255 := by
    simp [Lit.wf, IntKind.min, IntKind.max, IntKind.bits, IntKind.signed] at w2
    omega
  clear w1 w2
  have c0 : Hid (∀ V, Below w.heap.size w V → Calls Try.prog 10 #[.agg #[.int .i64 c, .int .i64 n, .int .i64 s, .slice xa xs.length xc, .slice ya ys.length yc, .bool g]] V fun e w' => ∃ (C N B : Int) (ra : Option Addr) (rn rc : Nat) (wa : Option Addr) (wn wc : Nat), e = .returned (.agg #[.int .i64 C, .int .i64 N, .int .i64 B, .slice ra rn rc, .slice wa wn wc]) ∧ Hid (Below w.heap.size w w' ∧ ∃ (rs : List Ent) (ws : List Wt), rn = rs.length ∧ wn = ws.length ∧ ItIs (fun _ => True) w' rs ws ra rc wa wc ∧ Mild ⟨C, N, B, rs, ws⟩)) := fun V hV => IntentOf_law c n s xs ys xa ya xc yc g w V hV hx hy
  clear hx hy
  generalize xs.length = nx at c0 ⊢
  generalize ys.length = ny at c0 ⊢
  have HA := put_by ((Below.refl w.heap.size w).alloc (Nat.le_refl _) (.cells #[.int .i64 c, .int .i64 n, .int .i64 s, .slice xa nx xc, .slice ya ny yc, .bool g] 35))
  go_enter Try.func4, Try.ntmps4
  go_upto_region 2 with (first
    | (go_at_call 10; (with_reducible refine (c0.out _ HA.out).mono ?_); clear c0; rintro e w1 ⟨C, N, B, ra, rn, rc, wa, wn, wc, rfl, H1⟩))
  clear HA
  obtain ⟨g1, rs, ws, g2, g3, g4, g5⟩ := H1.out
  have H2 := put_by (bk_new (C := C) (N := N) (B := B) g1 g2 g3 g4)
  have HM := put_by g5
  clear H1 g1 g2 g3 g4 g5
  generalize w1.heap.size = X at H2 ⊢
  generalize w1.alloc (.cells #[.int .i64 C, .int .i64 N, .int .i64 B, .slice ra rn rc, .slice wa wn wc] _) = W2 at H2 ⊢
  obtain ⟨L, hL⟩ : ∃ L, L = (encI ⟨C, N, B, rs, ws⟩).length := ⟨_, rfl⟩
  have hL20 : 20 ≤ L := by rw [hL]; exact encI_twenty _
  have hL3 : L ≤ 300 := by rw [hL]; exact HM.out.short
  have HL := put_by hL
  clear hL
  obtain ⟨x0, -⟩ := H2.out.var 0 _ rfl
  obtain ⟨x1, -⟩ := H2.out.var 1 _ rfl
  obtain ⟨x2, -⟩ := H2.out.var 2 _ rfl
  obtain ⟨x3, -⟩ := H2.out.var 3 _ rfl
  obtain ⟨x4, -⟩ := H2.out.var 4 _ rfl
  have d1 := put_by (Encode_bk H2.out HM.out L HL.out)
  go_upto_region 3 with (first
    | (go_at_call 11; (with_reducible refine d1.out.mono ?_); clear d1; rintro e w3 ⟨b, off, k, rfl, hLk, H3⟩))
  have H3b := put_by (H2.out.later H3.out.2.2)
  have d2 := put_by (Decode_bk (L := L) HM.out HL.out H3.out.1 H3.out.2.1)
  clear H2 x0 x1 x2 x3 x4
  go_upto_region 4 with (first
    | (go_at_call 6; (with_reducible refine d2.out.mono ?_); clear d2; rintro e w4 ⟨ra', rn', rc', wa', wn', wc', rfl, H4⟩))
  obtain ⟨q1, q2, q3, q4⟩ := H4.out
  have H4b := put_by (bk_new (C := C) (N := N) (B := B) (H3b.out.later q4).below q1 q2 q3)
  have hb5 := (Below.refl w4.heap.size w4).alloc (Nat.le_refl _) (.cells #[.int .i64 C, .int .i64 N, .int .i64 B, .slice ra' rn' rc', .slice wa' wn' wc'] 26)
  have H5 : Hid (BkI w X C N B rs ws ra rn rc wa wn wc (w4.alloc (.cells #[.int .i64 C, .int .i64 N, .int .i64 B, .slice ra' rn' rc', .slice wa' wn' wc'] 26)) ∧ Octs (w4.alloc (.cells #[.int .i64 C, .int .i64 N, .int .i64 B, .slice ra' rn' rc', .slice wa' wn' wc'] 26)) (some ⟨b, off, none⟩) k (encI ⟨C, N, B, rs, ws⟩) ∧ b < (w4.alloc (.cells #[.int .i64 C, .int .i64 N, .int .i64 B, .slice ra' rn' rc', .slice wa' wn' wc'] 26)).heap.size) := ⟨(H3b.out.later q4).later hb5, (H3.out.1.later q4).later hb5, Nat.lt_of_lt_of_le (Nat.lt_of_lt_of_le H3.out.2.1 q4.size) hb5.size⟩
  clear H3 H3b H4 q1 q2 q3 q4 hb5
  generalize w4.heap.size = Y at H4b ⊢
  generalize w4.alloc (.cells #[.int .i64 C, .int .i64 N, .int .i64 B, .slice ra' rn' rc', .slice wa' wn' wc'] _) = W5 at H4b H5 ⊢
  obtain ⟨x0, -⟩ := H5.out.1.var 0 _ rfl
  obtain ⟨x1, -⟩ := H5.out.1.var 1 _ rfl
  obtain ⟨x2, -⟩ := H5.out.1.var 2 _ rfl
  obtain ⟨x3, -⟩ := H5.out.1.var 3 _ rfl
  obtain ⟨x4, -⟩ := H5.out.1.var 4 _ rfl
  have d3 : Hid (Calls Try.prog 12 #[.agg #[.int .i64 C, .int .i64 N, .int .i64 B, .slice ra rn rc, .slice wa wn wc]] W5 fun e w' => e = .returned (.bool true) ∧ (Cls w' X [.int .i64 C, .int .i64 N, .int .i64 B, .slice ra rn rc, .slice wa wn wc] ∧ Cls w' Y [.int .i64 C, .int .i64 N, .int .i64 B, .slice ra' rn' rc', .slice wa' wn' wc']) ∧ Hid (Below W5.heap.size W5 w')) := (May_bk H5.out.1 true ⟨fun _ => HM.out.may, fun _ => rfl⟩).mono (fun e w' h => ⟨h.1, ⟨H5.out.1.var.later h.2, H4b.out.var.later h.2⟩, h.2⟩)
  have d4 : Hid (∀ V, Below W5.heap.size W5 V → Calls Try.prog 13 #[.agg #[.int .i64 C, .int .i64 N, .int .i64 B, .slice ra rn rc, .slice wa wn wc], .agg #[.int .i64 C, .int .i64 N, .int .i64 B, .slice ra' rn' rc', .slice wa' wn' wc']] V fun e w' => e = .returned (.bool true) ∧ Hid (Below W5.heap.size W5 w')) := fun V hV => by
    have h := sameIntentK_yes _ _ C N B rs ws ra ra' wa wa' rc rc' wc wc' V (H5.out.1.it.later hV) (H4b.out.it.later hV)
    rw [← H5.out.1.rn, ← H5.out.1.wn] at h
    have e1 : rn = rn' := H5.out.1.rn.trans H4b.out.rn.symm
    have e2 : wn = wn' := H5.out.1.wn.trans H4b.out.wn.symm
    subst e1 e2
    exact h.mono (fun e w' h => ⟨h.1, hV.trans (h.2.mono hV.size)⟩)
  have i20 : ¬ (L : Int) < 20 := by omega
  go_upto_region 6 with (first
    | (go_at_call 12; (with_reducible refine d3.out.mono ?_); clear d3; rintro e w6 ⟨rfl, ⟨hX, hY⟩, H6⟩; obtain ⟨y0, -⟩ := hX 0 _ rfl; obtain ⟨y1, -⟩ := hX 1 _ rfl; obtain ⟨y2, -⟩ := hX 2 _ rfl; obtain ⟨y3, -⟩ := hX 3 _ rfl; obtain ⟨y4, -⟩ := hX 4 _ rfl; obtain ⟨t0, -⟩ := hY 0 _ rfl; obtain ⟨t1, -⟩ := hY 1 _ rfl; obtain ⟨t2, -⟩ := hY 2 _ rfl; obtain ⟨t3, -⟩ := hY 3 _ rfl; obtain ⟨t4, -⟩ := hY 4 _ rfl; clear hX hY)
    | (go_at_call 13; (with_reducible refine (d4.out _ H6.out).mono ?_); clear d4; rintro e w7 ⟨rfl, H7⟩))
  have H8 : Hid (Below w.heap.size w w7 ∧ Octs w7 (some ⟨b, off, none⟩) k (encI ⟨C, N, B, rs, ws⟩) ∧ b < w7.heap.size) := ⟨H5.out.1.below.trans (H7.out.mono H5.out.1.below.size), H5.out.2.1.later H7.out, Nat.lt_of_lt_of_le H5.out.2.2 H7.out.size⟩
  clear H5 H4b H6 H7 x0 x1 x2 x3 x4 y0 y1 y2 y3 y4 t0 t1 t2 t3 t4
  obtain ⟨kq, hkq⟩ : ∃ kq : Nat, (kq : Int) = a1 % (L : Int) := ⟨(a1 % (L : Int)).toNat, by have := Int.emod_nonneg a1 (b := (L : Int)) (by omega); omega⟩
  have bk : kq < L := by have := Int.emod_lt_of_pos a1 (b := (L : Int)) (by omega); omega
  have d5 : Hid (∀ V, Calls Try.prog 14 #[.int .i64 a1, .int .i64 (L : Int)] V fun e w' => e = .returned (.int .i64 (kq : Int)) ∧ V = w') := fun V => by rw [hkq]; exact Picked_any a1 (L : Int) (by omega) (by omega) V
  clear hkq
  have d6 : Hid (Calls Try.prog 6 #[.slice (some ⟨b, off, none⟩) kq k] w7 fun e w' => ∃ (c n s : Int) (ra : Option Addr) (rn rc : Nat) (wa : Option Addr) (wn wc : Nat), e = .returned (.tuple #[.agg #[.int .i64 c, .int .i64 n, .int .i64 s, .slice ra rn rc, .slice wa wn wc], .int .i64 4]) ∧ Hid (Below w7.heap.size w7 w')) := (Decode_none (H8.out.2.1.take kq) (by rw [List.length_take, ← HL.out]; omega) H8.out.2.2 (enc_cut_none HM.out (by rw [← HL.out]; exact bk))).mono (fun e w' ⟨c, n, s, ra, rn, rc, wa, wn, wc, h1, h2⟩ => ⟨c, n, s, ra, rn, rc, wa, wn, wc, h1, h2⟩)
  have ik1 : (kq : Int) ≤ (k : Int) := by omega
  have ik2 : (0 : Int) ≤ (kq : Int) := by omega
  have iL0 : ¬ (L : Int) = 0 := by omega
  go_upto_region 7 with (first
    | (go_at_call 14; (with_reducible refine (d5.out _).mono ?_); clear d5; rintro e w8 ⟨rfl, rfl⟩)
    | (go_at_call 6; (with_reducible refine d6.out.mono ?_); clear d6; rintro e w8 ⟨c1, n1, s1, ra1, rn1, rc1, wa1, wn1, wc1, rfl, H9⟩))
  have hb9 := (Below.refl w8.heap.size w8).alloc (Nat.le_refl _) (.cells #[.int .i64 c1, .int .i64 n1, .int .i64 s1, .slice ra1 rn1 rc1, .slice wa1 wn1 wc1] 26)
  have H10 : Hid (Below w.heap.size w (w8.alloc (.cells #[.int .i64 c1, .int .i64 n1, .int .i64 s1, .slice ra1 rn1 rc1, .slice wa1 wn1 wc1] 26)) ∧ Octs (w8.alloc (.cells #[.int .i64 c1, .int .i64 n1, .int .i64 s1, .slice ra1 rn1 rc1, .slice wa1 wn1 wc1] 26)) (some ⟨b, off, none⟩) k (encI ⟨C, N, B, rs, ws⟩)) := ⟨(H8.out.1.trans (H9.out.mono H8.out.1.size)).trans (hb9.mono (Nat.le_trans H8.out.1.size H9.out.size)), (H8.out.2.1.later H9.out).later hb9⟩
  clear H8 H9 hb9
  generalize w8.alloc (.cells #[.int .i64 c1, .int .i64 n1, .int .i64 s1, .slice ra1 rn1 rc1, .slice wa1 wn1 wc1] _) = W9 at H10 ⊢
  have d7 : Hid (∀ (V : World) (bb of kk mm : Nat), Octs V (some ⟨bb, of, none⟩) kk (encI ⟨C, N, B, rs, ws⟩ ++ [a2]) → mm = (encI ⟨C, N, B, rs, ws⟩ ++ [a2]).length → bb < V.heap.size → Calls Try.prog 6 #[.slice (some ⟨bb, of, none⟩) mm kk] V fun e w' => ∃ (c n s : Int) (ra : Option Addr) (rn rc : Nat) (wa : Option Addr) (wn wc : Nat), e = .returned (.tuple #[.agg #[.int .i64 c, .int .i64 n, .int .i64 s, .slice ra rn rc, .slice wa wn wc], .int .i64 4]) ∧ Hid (Below V.heap.size V w')) := fun V bb of kk mm h1 h2 h3 => (Decode_none h1 h2 h3 (enc_more_none HM.out a2)).mono (fun e w' ⟨c, n, s, ra, rn, rc, wa, wn, wc, h1, h2⟩ => ⟨c, n, s, ra, rn, rc, wa, wn, wc, h1, h2⟩)
  have HBy : Hid (∀ y ∈ encI ⟨C, N, B, rs, ws⟩, 0 ≤ y ∧ y ≤ 255) := H10.out.2.2.2.2.1
  have HWm := put_by wm
  clear wm
  have k1 : Hid (∀ (v1 : Value) (w10 : World), w10.ownsRow W9.heap.size 5 1 v1 (0 + L) ([] ++ (encI ⟨C, N, B, rs, ws⟩).map (Value.int .u8)) → W9.grownBy w10 (Value.slice none 0 0).ownBlock → ∃ a3 c3, v1 = .slice a3 L c3 ∧ Hid (w10.ownsRow W9.heap.size 5 1 (.slice a3 L c3) L ((encI ⟨C, N, B, rs, ws⟩).map (Value.int .u8)) ∧ Below w.heap.size w w10 ∧ W9.heap.size ≤ w10.heap.size)) := fun v1 w10 hown1 hg1 => by
    rw [Nat.zero_add, List.nil_append] at hown1
    obtain ⟨a3, c3, e3, -⟩ := own_octs HL.out rfl (by rw [← HL.out]; omega) HBy.out hown1
    rw [← HL.out] at e3
    subst e3
    exact ⟨a3, c3, rfl, hown1, below_grown H10.out.1 H10.out.1.size hg1 (fun r e => by cases e), hg1.size⟩
  have k2 : Hid (∀ (a3 : Option Addr) (c3 : Nat) (w10 : World), (w10.ownsRow W9.heap.size 5 1 (.slice a3 L c3) L ((encI ⟨C, N, B, rs, ws⟩).map (Value.int .u8)) ∧ Below w.heap.size w w10 ∧ W9.heap.size ≤ w10.heap.size) → ∀ (v2 : Value) (w11 : World), w11.ownsRow W9.heap.size 5 1 v2 (L + 1) ((encI ⟨C, N, B, rs, ws⟩).map (Value.int .u8) ++ [a2].map (Value.int .u8)) → (w10.alloc (.cells #[.int .u8 a2] 5)).grownBy w11 (Value.slice a3 L c3).ownBlock → ∃ bb of c4, v2 = .slice (some ⟨bb, of, none⟩) (L + 1) c4 ∧ Hid (Octs w11 (some ⟨bb, of, none⟩) c4 (encI ⟨C, N, B, rs, ws⟩ ++ [a2]) ∧ L + 1 = (encI ⟨C, N, B, rs, ws⟩ ++ [a2]).length ∧ bb < w11.heap.size ∧ Below w.heap.size w w11)) := fun a3 c3 w10 ⟨g1, g2, g3⟩ v2 w11 hown2 hg2 => by
    rw [← List.map_append] at hown2
    have hlen : L + 1 = (encI ⟨C, N, B, rs, ws⟩ ++ [a2]).length := by rw [List.length_append, ← HL.out]; rfl
    obtain ⟨a4, c4, e4, ho4⟩ := own_octs (xs := encI ⟨C, N, B, rs, ws⟩ ++ [a2]) hlen rfl (by rw [← hlen]; omega) (fun y hy => by
      rcases List.mem_append.1 hy with hy | hy
      · exact HBy.out y hy
      · rw [List.mem_singleton.1 hy]; exact HWm.out) hown2
    rw [← hlen] at e4
    subst e4
    obtain ⟨bb, of, e5, -⟩ := ho4.at (k := 0) (by simp)
    subst e5
    have hba := g2.alloc g2.size (.cells #[.int .u8 a2] 5)
    exact ⟨bb, of, c4, rfl, ho4, hlen, ho4.blocks (by simp) _ rfl, below_grown hba hba.size hg2 (fun r e => by have h1 := (g1.lt r e).1; have h2 := H10.out.1.size; omega)⟩
  go_upto_region 8 with (first
    | (at_builtin; refine wpList_append_oct rfl (.const (.slice none 0 0)) (.tmp 61) rfl W9.heap.size (.slice none 0 0) 0 [] rfl (World.ownsRow_nil _ _ _ _) (some ⟨b, off, none⟩) k L (encI ⟨C, N, B, rs, ws⟩) rfl HL.out H10.out.2 (by omega) (Nat.le_refl _) ?_; intro v1 w10 hown1 hg1; obtain ⟨a3, c3, e3, H11⟩ := k1.out _ _ hown1 hg1; subst e3; clear hown1 hg1)
    | (at_builtin; refine wpList_append_oct rfl (.tmp 62) (.tmp 64) rfl W9.heap.size (.slice a3 L c3) L ((encI ⟨C, N, B, rs, ws⟩).map (Value.int .u8)) rfl (own_stays H11.out.1 ((Below.refl w10.heap.size w10).alloc (Nat.le_refl _) _)) (some ⟨w10.heap.size, 0, none⟩) 1 1 [a2] rfl rfl (octs_alloc w10 [a2] 1 5 (0, 0) #[.int .u8 a2] rfl (by simp) (by simp) (fun y hy => by rw [List.mem_singleton.1 hy]; exact HWm.out)) (by omega) (by have := H11.out.2.2; simp; omega) ?_; intro v2 w11 hown2 hg2; obtain ⟨bb, of, c4, e4, H12⟩ := k2.out _ _ _ H11.out _ _ hown2 hg2; subst e4; clear hown2 hg2)
    | (go_at_call 6; (with_reducible refine (d7.out _ _ _ _ _ H12.out.1 H12.out.2.1 H12.out.2.2.1).mono ?_); clear d7; rintro e w12 ⟨c5, n5, s5, ra5, rn5, rc5, wa5, wn5, wc5, rfl, H13⟩))
  have H14 : Hid (Below w.heap.size w (w12.alloc (.cells #[.int .i64 c5, .int .i64 n5, .int .i64 s5, .slice ra5 rn5 rc5, .slice wa5 wn5 wc5] 26))) := by
    have h := H12.out.2.2.2.trans (H13.out.mono H12.out.2.2.2.size)
    exact h.alloc h.size _
  go_wp2
  go_ret
  exact ⟨by simp, H14.out⟩

/-! ### THE ROW's STEP: WRITTEN OUT: LEAVE IT -/
set_option maxRecDepth 100000 in
theorem lifted (os : Os) (started : os.Started) (H : Type) (enc : TypeId × Value → H) :
    ReturnsInHanded {} Try.checked os 4 .any (Rows.intentBackSpec.pre6 enc Try.prog Try.f4 Rows.intentBackRow.domain false) (Rows.intentBackSpec.post enc Try.prog Try.f4 false true false false) := by
  refine returnsInHanded_of_change_sized (C := Try.checked) own started (by kernel_rfl) Try.func4
    (ChangeSpec.witness6 (enc := enc) (C := Try.checked) false ⟨#[], #[.agg #[.int .i64 0, .int .i64 0, .int .i64 0, .slice none 0 0, .slice none 0 0, .bool false], .int .i64 0, .int .u8 0], []⟩ 8 (by kernel_rfl) (by kernel_rfl) (by kernel_rfl) (by kernel_rfl)) ?_
  intro W base args ds gs before hval0 hW hcnd hsz0 _
  have hval : ∀ (j : Nat) t v, Try.f4.params[j]? = some t → args[j]? = some v → Value.okWide Try.prog W .any base t v := hval0
  have hW' := hW
  obtain ⟨p, q, hA0, hV, rfl, hfz, hnd⟩ := hW
  have hA : DataW.TrodAll enc Try.prog W 0 (fun _ => true) true Try.f4.params.toList args.toList ds p := hA0
  have hsz : (DataW.weightsEach Try.prog (Try.f4.params.toList ++ Rows.intentBackSpec.plain.varTypes Try.prog) (ds ++ gs)).all (· ≤ reachBytes) = true := hsz0
  clear hsz0
  rw [Try.params4] at hA hval hsz
  obtain ⟨v0, vs0, d0, ds0, p0, q0, hargs, rfl, rfl, h0, r0⟩ := trodAll_cons hA
  obtain ⟨v1, vs1, d1, ds1, p1, q1, rfl, rfl, rfl, h1, r1⟩ := trodAll_cons r0
  obtain ⟨v2, vs2, d2, ds2, p2, q2, rfl, rfl, rfl, h2, r2⟩ := trodAll_cons r1
  obtain ⟨rfl, rfl, rfl⟩ := trodAll_nil r2
  obtain rfl : args = #[v0, v1, v2] := by cases args; simp_all
  obtain ⟨rfl, rfl⟩ := trodVars_none hV
  have k0 := h0
  have lt0 : ∀ x ∈ p0, x.block < W.heap.size := by obtain ⟨m, hm⟩ := k0; exact DataW.trod_lt m _ _ _ hm
  have w0 : WishArg W v0 := wish_arg hsz (j := 0) rfl rfl (hval 0 35 v0 rfl rfl) h0
  obtain ⟨a1, rfl, rfl, rfl, w1⟩ := open_int Try.underlying3 (hval 1 3 v1 rfl rfl) h1
  obtain ⟨a2, rfl, rfl, rfl, w2⟩ := open_int Try.underlying5 (hval 2 5 v2 rfl rfl) h2
  clear hA0 hval0
  refine (walk v0 a1 a2 W w0 w1 w2).mono fun e W' ⟨he, bel⟩ => ?_
  subst he
  exact ⟨_, rfl, _, _, _, [], _, [], hW', trodAll_mk1 (shut_bool Try.underlying4 _), (trodAll_cons_mk (Below.trod laidOut (by kernel_rfl) (of_decide_eq_true (by kernel_rfl)) k0 bel lt0) (trodAll_cons_mk (shut_int Try.underlying3 w1) (trodAll_cons_mk (shut_int Try.underlying5 w2) trodAll_mk0))), rfl, bel.frame _, fun h => by cases h⟩

theorem over : Rows.intentBackRow.holds Try.pinned (OpenSpec.ofChange Rows.intentBackSpec) :=
  OpenClaim.holds_of_wide 4 Try.f4 rfl rfl rfl rfl rfl rfl rfl ⟨rfl, rfl, rfl, rfl, rfl⟩ rfl rfl rfl rfl rfl (by kernel_rfl) Try.func4 (by kernel_rfl)
    (of_decide_eq_true (by kernel_rfl)) (by unfold Func.isWrapper; first | (rw [if_pos (by decide +kernel)]; kernel_rfl) | (rw [if_neg (by decide +kernel)]; exact ⟨rfl, rfl⟩))
    (fun os started H enc _ => lifted os started H enc)

/-- ████ THE STATEMENT ████ -/
theorem proved : Rows.IntentBackSaid := over
end Go.Proofs.Ytjilcljchdmbjaa.intentBack
namespace Go.Proofs.Ytjilcljchdmbjaa
theorem intentBack_holds : Rows.IntentBackSaid := intentBack.proved
end Go.Proofs.Ytjilcljchdmbjaa
