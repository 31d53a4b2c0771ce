/- The document's own parser: rows of expressions and of names; where: contracts, at every state. -/
import Derived.Test.YtedinkoapieakaaDoorRefExpr
import Derived.Test.YtedinkoapieakaaDoorParseStm
import Derived.Test.YtedinkoapieakaaDoorParseDelete
import Derived.Test.YtedinkoapieakaaDoorRefMade
import Derived.Deep.CutRange
import Derived.Deep.RegionLaw
import Derived.Deep.Cut
import Derived.Test.YtedinkoapieakaaDoorParseUpdate
namespace Go.Proofs.YtedinkoapieakaaDoor
open Go.ChangeShapes Go.WideShapes Go.ChangeAt Go.RowKit

theorem Onr.grown {c : RC} {w0 W W' : World} {s : St} {row : Option Nat} (h : Onr c w0 W s) (hg : W.grownBy W' row) (hr : ∀ k, row = some k → w0.heap.size ≤ k) : Onr c w0 W' s := by
  have hk : ∀ k, k < W.heap.size → (k < w0.heap.size) → W'.heap[k]? = W.heap[k]? := fun k h1 h2 => hg.block k h1 (fun e => by have := hr k e.symm; omega)
  have hR := h.oldR
  have cR : ∀ i, W'.cell? ⟨c.R, i, none⟩ = W.cell? ⟨c.R, i, none⟩ := fun i => World.cell?_of_block (w := W) (hk c.R h.lt hR)
  refine ⟨⟨Nat.lt_of_lt_of_le h.lt hg.size, (cR 0).trans h.rdr.tok, (cR 1).trans h.rdr.at_, (cR 2).trans h.rdr.stp, fun i => (World.frozen?_of_block (w := W) (a := ⟨c.R, i, none⟩) (hk c.R h.lt hR)).trans (h.rdr.fz i), h.rdr.suf, ?_, h.rdr.apart⟩,
    ⟨hg.os.trans h.keeps.os, hg.tape.trans h.keeps.tape, hg.output.trans h.keeps.output, Nat.le_trans h.keeps.size hg.size, fun k h1 h2 => (hk k (Nat.lt_of_lt_of_le h1 h.keeps.size) h1).trans (h.keeps.block k h1 h2)⟩, h.oldR, h.oldT⟩
  refine ⟨h.rdr.toks.1, h.rdr.toks.2.1, ?_⟩
  rcases h.rdr.toks.2.2 with h0 | ⟨b, off, h1, h2, h3⟩
  · exact .inl h0
  · have hb := h.oldT _ h1
    have cB : ∀ i, W'.cell? ⟨b, i, none⟩ = W.cell? ⟨b, i, none⟩ := fun i => World.cell?_of_block (w := W) (hk b h2 hb)
    exact .inr ⟨b, off, h1, Nat.lt_of_lt_of_le h2 hg.size, fun i hi => ⟨(cB _).trans (h3 i hi).1, (cB _).trans (h3 i hi).2.1, (cB _).trans (h3 i hi).2.2⟩⟩

theorem Onr.len_le {c : RC} {w0 W : World} {s : St} (h : Onr c w0 W s) : s.len ≤ 300 := by
  have h1 := h.rdr.len_le
  have h2 := c.hl
  unfold St.len
  split <;> omega

def OneR {α D : Type} (K : Kind α D) (val : D → Value) (g : Nat) (c : RC) (P : St → α × St) : Prop := ∀ (w : World) (s : St), Onr c w w s →
  Calls Tryd.prog g #[.pointer (some ⟨c.R, 0, none⟩)] w fun e w' => ∃ d : D, e = .returned (val d) ∧ Onr c w w' (P s).2 ∧ K.rel (fun b => w.heap.size ≤ b) w' (P s).1 d
def MoreR (c : RC) (P : St → Bool × St) : Prop := ∀ (w : World) (s : St), Onr c w w s →
  Calls Tryd.prog 50 #[.pointer (some ⟨c.R, 0, none⟩), .string ⟨#[44]⟩] w fun e w' => e = .returned (.bool (P s).1) ∧ Onr c w w' (P s).2
theorem comma_r (c : RC) : MoreR c comma := fun w s h => (takes_on [44] (by decide) h).mono fun _ _ ⟨h1, _, h3⟩ => ⟨h1, h3.out⟩
theorem expr_r (c : RC) : OneR kEx exval 55 c exprP := fun w s h => orHere_is c (s.len + 1) w s (Nat.lt_succ_self _) h
theorem column_r (c : RC) : OneR kEx exval 88 c columnOfP := fun w s h => columnHere_part c (s.len + 1) w s (Nat.lt_succ_self _) h
theorem name_r (c : RC) : OneR kStr strval 53 c nameP := fun _ s h => (nameHere_on h).mono fun _ _ ⟨h1, _, h3⟩ => ⟨(nameP s).1, h1, h3.out, rfl⟩

set_option maxRecDepth 100000 in
set_option maxHeartbeats 4000000 in
theorem exprsHere_any {c : RC} {one : St → Ex × St} {more : St → Bool × St} (h1 : OneR kEx exval 55 c one) (h2 : MoreR c more) (hsh : Shrinks one) (htk : Takes more) (w : World) (s : St) (h : Onr c w w s) :
    Calls Tryd.prog 54 #[.pointer (some ⟨c.R, 0, none⟩)] w fun e w' => ∃ ao n cap ds, e = .returned (.slice ao n cap) ∧ Onr c w w' (listP one more s).2 ∧ Rw kEx w.heap.size 35 8 w' (.slice ao n cap) (listP one more s).1 ds ∧ n = ds.length ∧ n ≤ 301 := by
  have hR := h.lt
  have H1 := hide h1
  have H2 := hide h2
  have HS := hide hsh
  have HT := hide htk
  obtain ⟨i0, hi0, hz0, hz1, hz2⟩ := info_parts Tryd.infoListEx
  have cO : Calls Tryd.prog 55 #[.pointer (some ⟨c.R, 0, none⟩)] w fun e w1 => ∃ d : ED, e = .returned (exval d) ∧ c.R < w1.heap.size ∧ Hid (Onr c w (w1.alloc (.cells #[.int .i64 d.op, .int .i64 d.vk, .int .i64 d.vi, .string d.vt, .string d.tb, .string d.nm, .int .i64 0, .slice d.ao d.n d.cap] 35)) (one s).2 ∧ Rw kEx w.heap.size 35 8 (w1.alloc (.cells #[.int .i64 d.op, .int .i64 d.vk, .int .i64 d.vi, .string d.vt, .string d.tb, .string d.nm, .int .i64 0, .slice d.ao d.n d.cap] 35)) (.slice (some ⟨w1.heap.size, 0, none⟩) 1 1) [(one s).1] [d] ∧ 1 + (one s).2.len ≤ 301) :=
    (h1 w s h).mono fun e w1 ⟨d, e1, e2, e3⟩ => ⟨d, e1, e2.lt, e2.alloc _, Rw.new e2.size _ rfl rfl e3, by have := e2.len_le; omega⟩
  have HL : Hid (listLoop one more ((one s).2.len + 1) [(one s).1] (one s).2 = listP one more s) := rfl
  generalize listP one more s = N at HL ⊢
  generalize one s = p at cO HL
  obtain ⟨x0, s0⟩ := p
  simp only at cO HL
  clear h h1 h2 hsh htk
  go_enter Tryd.func54, Tryd.ntmps54
  go_wp2_with (go_at_call 55; refine cO.mono ?_; rintro e w1 ⟨d, rfl, hR1, HB⟩)
  go_loopw [3] (fun v wr => ∃ ao n cap, v = .slice ao n cap ∧ c.R < wr.heap.size ∧ n ≤ 301 ∧ Hid (∃ l ds s1, Onr c w wr s1 ∧ Rw kEx w.heap.size 35 8 wr (.slice ao n cap) l ds ∧ n = ds.length ∧ n + s1.len ≤ 301 ∧ listLoop one more (s1.len + 1) l s1 = N)) (fun _ wr => lenOfr c wr)
  case atStart => exact ⟨_, _, _, rfl, by simp; omega, by omega, [x0], [d], s0, HB.out.1, HB.out.2.1, rfl, HB.out.2.2, HL.out⟩
  case round =>
    obtain ⟨ao, n, cap, rfl, hRr, hn, HQ⟩ := hrel
    obtain ⟨l, ds, s1, q1, q2, q3, q4, q5⟩ := HQ.out
    have HM := hide q1.lenOf
    have cM : Calls Tryd.prog 50 #[.pointer (some ⟨c.R, 0, none⟩), .string ⟨#[44]⟩] wr fun e w2 => e = .returned (.bool (more s1).1) ∧ c.R < w2.heap.size ∧ Hid (Onr c w w2 (more s1).2 ∧ Rw kEx w.heap.size 35 8 w2 (.slice ao n cap) l ds) :=
      (H2.out wr s1 q1.here).mono fun e w2 ⟨e1, e2⟩ => ⟨e1, e2.lt, q1.back e2, q2.keep e2.keeps hR⟩
    cases hb : (more s1).1 with
    | false =>
      have HE : Hid (N = (l, (more s1).2)) := by
        rw [listLoop_end hb] at q5
        exact q5.symm
      rw [hb] at cM
      generalize (more s1).2 = s2 at cM HE
      have HN := hide q3
      clear HQ q1 q2 q3 q4 q5 hb
      go_wp2_with (go_at_call 50; refine cM.mono ?_; rintro e w2 ⟨rfl, hR2, HB2⟩)
      go_ret
      rw [HE.out]
      exact ⟨_, _, _, ds, rfl, HB2.out.1, HB2.out.2, HN.out, hn⟩
    | true =>
      have hl1 := HT.out s1 hb
      have hl2 := HS.out (more s1).2
      have HE : Hid (listLoop one more ((one (more s1).2).2.len + 1) (l ++ [(one (more s1).2).1]) (one (more s1).2).2 = N) := by
        rw [listLoop_on HS.out HT.out hb] at q5
        exact q5
      rw [hb] at cM
      have cX : Hid (∀ W, Hid (Onr c w W (more s1).2 ∧ Rw kEx w.heap.size 35 8 W (.slice ao n cap) l ds) → Calls Tryd.prog 55 #[.pointer (some ⟨c.R, 0, none⟩)] W fun e w3 => ∃ d : ED, e = .returned (exval d) ∧ c.R < w3.heap.size ∧ w.heap.size ≤ w3.heap.size ∧ Hid (Onr c w (w3.alloc (.cells #[.int .i64 d.op, .int .i64 d.vk, .int .i64 d.vi, .string d.vt, .string d.tb, .string d.nm, .int .i64 0, .slice d.ao d.n d.cap] 35)) (one (more s1).2).2 ∧ Rw kEx w.heap.size 35 8 (w3.alloc (.cells #[.int .i64 d.op, .int .i64 d.vk, .int .i64 d.vi, .string d.vt, .string d.tb, .string d.nm, .int .i64 0, .slice d.ao d.n d.cap] 35)) (.slice ao n cap) l ds ∧ kEx.rel (fun b => w.heap.size ≤ b ∧ some b ≠ (Value.slice ao n cap).ownBlock) (w3.alloc (.cells #[.int .i64 d.op, .int .i64 d.vk, .int .i64 d.vi, .string d.vt, .string d.tb, .string d.nm, .int .i64 0, .slice d.ao d.n d.cap] 35)) (one (more s1).2).1 d)) := by
        intro W hW
        refine (H1.out W _ hW.out.1.here).mono fun e w3 ⟨d, e1, e2, e3⟩ => ⟨d, e1, e2.lt, (hW.out.1.back e2).size, (hW.out.1.back e2).alloc _, (hW.out.2.keep e2.keeps hR).keep (R := c.R) ((Keeps.refl _ _).alloc _) hR, ?_⟩
        refine kEx.move (w := w3) (by simp) (fun b _ hb => Below.heap_alloc _ _ _ hb) (fun b hb hlt => ⟨by have := hW.out.1.size; omega, fun hbk => ?_⟩) e3
        have := (hW.out.2.own.lt b hbk.symm).2
        omega
      have HN := hide q3
      generalize one (more s1).2 = r at cX HE hl2
      obtain ⟨x, s3⟩ := r
      generalize (more s1).2 = s2 at cM cX hl1 hl2
      simp only at cX HE hl2
      have hm1 : s3.len < s1.len := by omega
      have hm2 : n + 1 + s3.len ≤ 301 := by omega
      clear HQ q1 q2 q3 q4 q5 hb hl1 hl2
      go_wp2_with (first
        | (go_at_call 50; refine cM.mono ?_; rintro e w2 ⟨rfl, hR2, HB2⟩)
        | (go_at_call 55; refine (cX.out _ HB2).mono ?_; rintro e w3 ⟨d3, rfl, hR3, hs3, HB3⟩)
        | (at_builtin; refine wpList_append_own_at _ rfl (.tmp 9) (.tmp 12) 30 rfl w.heap.size 35 i0 (.agg #[.int .i64 0, .int .i64 0, .int .i64 0, .string ⟨#[]⟩, .string ⟨#[]⟩, .string ⟨#[]⟩, .int .i64 0, .slice none 0 0]) 8 104 Tryd.underlying30 hi0 hz0 hz1 hz2 rfl (by decide) (.slice ao n cap) n (ds.flatMap kEx.cel) rfl (by have := HB3.out.2.1.own; rw [← HN.out] at this; exact this) ⟨w3.heap.size, 0, none⟩ 1 1 (kEx.cel d3) rfl rfl (cells_newEx w3 d3 _) (kEx.one d3) (by unfold maxLen; omega) (by omega) (by simp; omega) ?_; intro v2 w4 hown hgrow hnil hblk; have hO4 : Onr c w w4 s3 := HB3.out.1.grown hgrow (fun k hk => (HB3.out.2.1.own.lt k hk).1); have hR4 := hO4.lt; have hrow : Rw kEx w.heap.size 35 8 w4 v2 (l ++ [x]) (ds ++ [d3]) := HB3.out.2.1.append HB3.out.2.2 (by rw [← HN.out]; exact hown) hgrow hblk; obtain ⟨ao2, cap2, rfl⟩ := ownShape hown; have HB4 := hide (And.intro hO4 hrow); clear hown hgrow hnil hblk hO4 hrow))
      go_roundw
      case rel => exact ⟨ao2, n + 1, cap2, rfl, hR4, by omega, _, _, s3, HB4.out.1, HB4.out.2, by have := HN.out; simp; omega, hm2, HE.out⟩
      case measure => rw [HB4.out.1.lenOf, HM.out]; exact hm1

set_option maxRecDepth 100000 in
set_option maxHeartbeats 4000000 in
theorem namesHere_any {c : RC} {one : St → List UInt8 × St} {more : St → Bool × St} (h1 : OneR kStr strval 53 c one) (h2 : MoreR c more) (hsh : Shrinks one) (htk : Takes more) (w : World) (s0' s : St) (h0 : Onr c w w s0') (hs0 : needs [[40]] s0' = s) :
    Calls Tryd.prog 84 #[.pointer (some ⟨c.R, 0, none⟩)] w fun e w' => ∃ ao n cap ds, e = .returned (.slice ao n cap) ∧ Onr c w w' (needs [[41]] (listP one more s).2) ∧ Rw kStr w.heap.size 9 1 w' (.slice ao n cap) (listP one more s).1 ds ∧ n = ds.length ∧ n ≤ 301 := by
  have cN := needsk (c := c) [40] ⟨#[40]⟩ rfl (by decide) (KeptBy.triv c) (hide (And.intro h0 trivial))
  rw [hs0] at cN
  have h := h0
  have hR := h.lt
  have HH := hide h
  have H1 := hide h1
  have H2 := hide h2
  have HS := hide hsh
  have HT := hide htk
  obtain ⟨i0, hi0, hz0, hz1, hz2⟩ := info_parts Tryd.infoListStr
  have cO0 : ∀ wn : World, Hid (Onr c w wn s ∧ True) → Calls Tryd.prog 53 #[.pointer (some ⟨c.R, 0, none⟩)] wn fun e w1 => ∃ d : (List UInt8), e = .returned (strval d) ∧ c.R < w1.heap.size ∧ Hid (Onr c w (w1.alloc (.cells #[.string (str d)] 9)) (one s).2 ∧ Rw kStr w.heap.size 9 1 (w1.alloc (.cells #[.string (str d)] 9)) (.slice (some ⟨w1.heap.size, 0, none⟩) 1 1) [(one s).1] [d] ∧ 1 + (one s).2.len ≤ 301) :=
    fun wn hn => (h1 wn s hn.out.1.here).mono fun e w1 ⟨d, e1, e2, e3⟩ => ⟨d, e1, e2.lt, (hn.out.1.back e2).alloc _, Rw.new (hn.out.1.back e2).size _ rfl rfl (kStr.move (Nat.le_refl _) (fun _ _ _ => rfl) (fun b hb _ => by have := hn.out.1.size; omega) e3), by have := e2.len_le; omega⟩
  have cO := hide cO0
  clear cO0
  have HL : Hid (listLoop one more ((one s).2.len + 1) [(one s).1] (one s).2 = listP one more s) := rfl
  generalize listP one more s = N at HL ⊢
  generalize one s = p at cO HL
  obtain ⟨x0, s0⟩ := p
  simp only at cO HL
  clear h h1 h2 hsh htk h0 hs0
  go_enter Tryd.func84, Tryd.ntmps84
  go_wp2_with (first
    | (go_at_call 52; refine cN.mono ?_; rintro e wn ⟨rfl, hRn, HBn⟩)
    | (go_at_call 53; refine (cO.out _ HBn).mono ?_; rintro e w1 ⟨d, rfl, hR1, HB⟩))
  go_loopw [3] (fun v wr => ∃ ao n cap, v = .slice ao n cap ∧ c.R < wr.heap.size ∧ n ≤ 301 ∧ Hid (∃ l ds s1, Onr c w wr s1 ∧ Rw kStr w.heap.size 9 1 wr (.slice ao n cap) l ds ∧ n = ds.length ∧ n + s1.len ≤ 301 ∧ listLoop one more (s1.len + 1) l s1 = N)) (fun _ wr => lenOfr c wr)
  case atStart => exact ⟨_, _, _, rfl, by simp; omega, by omega, [x0], [d], s0, HB.out.1, HB.out.2.1, rfl, HB.out.2.2, HL.out⟩
  case round =>
    obtain ⟨ao, n, cap, rfl, hRr, hn, HQ⟩ := hrel
    obtain ⟨l, ds, s1, q1, q2, q3, q4, q5⟩ := HQ.out
    have HM := hide q1.lenOf
    have cM : Calls Tryd.prog 50 #[.pointer (some ⟨c.R, 0, none⟩), .string ⟨#[44]⟩] wr fun e w2 => e = .returned (.bool (more s1).1) ∧ c.R < w2.heap.size ∧ Hid (Onr c w w2 (more s1).2 ∧ Rw kStr w.heap.size 9 1 w2 (.slice ao n cap) l ds) :=
      (H2.out wr s1 q1.here).mono fun e w2 ⟨e1, e2⟩ => ⟨e1, e2.lt, q1.back e2, q2.keep e2.keeps hR⟩
    cases hb : (more s1).1 with
    | false =>
      have HE : Hid (N = (l, (more s1).2)) := by
        rw [listLoop_end hb] at q5
        exact q5.symm
      rw [hb] at cM
      generalize (more s1).2 = s2 at cM HE
      have cE := hide (fun (W : World) (h : Hid (Onr c w W s2 ∧ Rw kStr w.heap.size 9 1 W (.slice ao n cap) l ds)) => needsk (c := c) [41] ⟨#[41]⟩ rfl (by decide) (K := fun W => Rw kStr w.heap.size 9 1 W (.slice ao n cap) l ds) (fun _ _ k h => h.keep k hR) h)
      have HN := hide q3
      clear HQ q1 q2 q3 q4 q5 hb
      go_wp2_with (first
        | (go_at_call 50; refine cM.mono ?_; rintro e w2 ⟨rfl, hR2, HB2⟩)
        | (go_at_call 52; refine (cE.out _ HB2).mono ?_; rintro e w3 ⟨rfl, hR3, HB3⟩))
      go_ret
      rw [HE.out]
      exact ⟨_, _, _, ds, rfl, HB3.out.1, HB3.out.2, HN.out, hn⟩
    | true =>
      have hl1 := HT.out s1 hb
      have hl2 := HS.out (more s1).2
      have HE : Hid (listLoop one more ((one (more s1).2).2.len + 1) (l ++ [(one (more s1).2).1]) (one (more s1).2).2 = N) := by
        rw [listLoop_on HS.out HT.out hb] at q5
        exact q5
      rw [hb] at cM
      have cX : Hid (∀ W, Hid (Onr c w W (more s1).2 ∧ Rw kStr w.heap.size 9 1 W (.slice ao n cap) l ds) → Calls Tryd.prog 53 #[.pointer (some ⟨c.R, 0, none⟩)] W fun e w3 => ∃ d : (List UInt8), e = .returned (strval d) ∧ c.R < w3.heap.size ∧ w.heap.size ≤ w3.heap.size ∧ Hid (Onr c w (w3.alloc (.cells #[.string (str d)] 9)) (one (more s1).2).2 ∧ Rw kStr w.heap.size 9 1 (w3.alloc (.cells #[.string (str d)] 9)) (.slice ao n cap) l ds ∧ kStr.rel (fun b => w.heap.size ≤ b ∧ some b ≠ (Value.slice ao n cap).ownBlock) (w3.alloc (.cells #[.string (str d)] 9)) (one (more s1).2).1 d)) := by
        intro W hW
        refine (H1.out W _ hW.out.1.here).mono fun e w3 ⟨d, e1, e2, e3⟩ => ⟨d, e1, e2.lt, (hW.out.1.back e2).size, (hW.out.1.back e2).alloc _, (hW.out.2.keep e2.keeps hR).keep (R := c.R) ((Keeps.refl _ _).alloc _) hR, ?_⟩
        refine kStr.move (w := w3) (by simp) (fun b _ hb => Below.heap_alloc _ _ _ hb) (fun b hb hlt => ⟨by have := hW.out.1.size; omega, fun hbk => ?_⟩) e3
        have := (hW.out.2.own.lt b hbk.symm).2
        omega
      have HN := hide q3
      generalize one (more s1).2 = r at cX HE hl2
      obtain ⟨x, s3⟩ := r
      generalize (more s1).2 = s2 at cM cX hl1 hl2
      simp only at cX HE hl2
      have hm1 : s3.len < s1.len := by omega
      have hm2 : n + 1 + s3.len ≤ 301 := by omega
      clear HQ q1 q2 q3 q4 q5 hb hl1 hl2
      go_wp2_with (first
        | (go_at_call 50; refine cM.mono ?_; rintro e w2 ⟨rfl, hR2, HB2⟩)
        | (go_at_call 53; refine (cX.out _ HB2).mono ?_; rintro e w3 ⟨d3, rfl, hR3, hs3, HB3⟩)
        | (at_builtin; refine wpList_append_own_at _ rfl (.tmp 11) (.tmp 14) 29 rfl w.heap.size 9 i0 (.string ⟨#[]⟩) 1 16 Tryd.underlying29 hi0 hz0 hz1 hz2 rfl (by decide) (.slice ao n cap) n (ds.flatMap kStr.cel) rfl (by have := HB3.out.2.1.own; rw [← HN.out] at this; exact this) ⟨w3.heap.size, 0, none⟩ 1 1 (kStr.cel d3) rfl rfl (cells_newStr w3 d3 _) (kStr.one d3) (by unfold maxLen; omega) (by omega) (by simp; omega) ?_; intro v2 w4 hown hgrow hnil hblk; have hO4 : Onr c w w4 s3 := HB3.out.1.grown hgrow (fun k hk => (HB3.out.2.1.own.lt k hk).1); have hR4 := hO4.lt; have hrow : Rw kStr w.heap.size 9 1 w4 v2 (l ++ [x]) (ds ++ [d3]) := HB3.out.2.1.append HB3.out.2.2 (by rw [← HN.out]; exact hown) hgrow hblk; obtain ⟨ao2, cap2, rfl⟩ := ownShape hown; have HB4 := hide (And.intro hO4 hrow); clear hown hgrow hnil hblk hO4 hrow))
      go_roundw
      case rel => exact ⟨ao2, n + 1, cap2, rfl, hR4, by omega, _, _, s3, HB4.out.1, HB4.out.2, by have := HN.out; simp; omega, hm2, HE.out⟩
      case measure => rw [HB4.out.1.lenOf, HM.out]; exact hm1

end Go.Proofs.YtedinkoapieakaaDoor

/- The document's own parser: a statement's variable on its way, its rows, where: contracts, at every state. -/
namespace Go.Proofs.YtedinkoapieakaaDoor
open Go.ChangeShapes Go.WideShapes Go.ChangeAt Go.RowKit

theorem setFrom_onr {c : RC} {w0 : World} {s : St} {B : Nat} (hB : w0.heap.size ≤ B) (vs : List Value) : ∀ (W : World) (i : Nat), Onr c w0 W s → Onr c w0 (setFrom W B i vs) s := by
  induction vs with
  | nil => exact fun W i h => h
  | cons v vs ih => exact fun W i h => ih _ _ (h.setCell hB v)
/-- the call's own result -/
theorem VarB.resr {c : RC} {w W : World} {s : St} {zs : Array Value} {ty : TypeId} (h : Onr c (w.alloc (.cells zs ty)) W s) (hR : c.R < w.heap.size) : VarB W w.heap.size zs.toList := (VarB.new w zs ty).move h.keeps (by omega)
/-- a body with a result block, a struct variable T, and what has been read so far -/
structure SVr (c : RC) (w0 : World) (T : Nat) (W : World) (s : St) (vs : List Value) (K : World → Prop) : Prop where
  on : Onr c w0 W s
  var : VarB W T vs
  k : K W
  firm : Firm (T + 1) K
  lo : w0.heap.size ≤ T
theorem SVr.size {c : RC} {w0 : World} {T : Nat} {W : World} {s : St} {vs : List Value} {K : World → Prop} (h : SVr c w0 T W s vs K) : T + 1 ≤ W.heap.size := h.var.1
theorem SVr.go {c : RC} {w0 : World} {T : Nat} {W W' : World} {s s' : St} {vs : List Value} {K : World → Prop} (h : SVr c w0 T W s vs K) (k : Onr c W W' s') : SVr c w0 T W' s' vs K :=
  ⟨h.on.back k, h.var.move k.keeps (by have := h.on.oldR; have := h.lo; omega), h.firm _ _ _ (by have := h.on.oldR; have := h.lo; omega) k.keeps h.k, h.firm, h.lo⟩
theorem SVr.put {c : RC} {w0 : World} {T : Nat} {W : World} {s : St} {vs : List Value} {K : World → Prop} (h : SVr c w0 T W s vs K) {j : Nat} (hj : j < vs.length) (u : Value) : SVr c w0 T (W.setCell ⟨T, j, none⟩ u) s (vs.set j u) K :=
  ⟨h.on.setCell h.lo u, h.var.set hj u, h.firm T _ _ (Nat.lt_succ_self _) ((Keeps.refl T W).setCell (.inl rfl) u) h.k, h.firm, h.lo⟩
theorem SVr.more {c : RC} {w0 : World} {T : Nat} {W : World} {s : St} {vs : List Value} {K L : World → Prop} (h : SVr c w0 T W s vs K) (l : L W) (f : Firm (T + 1) L) : SVr c w0 T W s vs (fun W => K W ∧ L W) := ⟨h.on, h.var, ⟨h.k, l⟩, h.firm.and f, h.lo⟩
theorem SVr.start {c : RC} {w0 W : World} {s : St} (h : Onr c w0 W s) (zs : Array Value) (ty : TypeId) : SVr c w0 W.heap.size (W.alloc (.cells zs ty)) s zs.toList (fun _ => True) :=
  ⟨h.alloc _, VarB.new W zs ty, trivial, Firm.triv _, h.size⟩
theorem takess {c : RC} (v : List UInt8) (z : ByteArray) (hz : z = str v) (hv : v ≠ []) {w0 : World} {T : Nat} {W : World} {s : St} {vs : List Value} {K : World → Prop} (h : Hid (SVr c w0 T W s vs K)) :
    Calls Tryd.prog 50 #[.pointer (some ⟨c.R, 0, none⟩), .string z] W fun e w' => e = .returned (.bool (mayBe v [] s).1) ∧ c.R < w'.heap.size ∧ Hid (SVr c w0 T w' (mayBe v [] s).2 vs K) := by
  subst hz
  exact (takes_on v hv h.out.on.here).mono fun _ _ ⟨h1, h2, h3⟩ => ⟨h1, h2, h.out.go h3.out⟩
theorem needss {c : RC} (v : List UInt8) (z : ByteArray) (hz : z = str v) (hv : v ≠ []) {w0 : World} {T : Nat} {W : World} {s : St} {vs : List Value} {K : World → Prop} (h : Hid (SVr c w0 T W s vs K)) :
    Calls Tryd.prog 52 #[.pointer (some ⟨c.R, 0, none⟩), .string z] W fun e w' => e = .returned (.tuple #[]) ∧ c.R < w'.heap.size ∧ Hid (SVr c w0 T w' (needs [v] s) vs K) := by
  subst hz
  exact (needs_one v hv h.out.on.here).mono fun _ _ ⟨h1, h2, h3⟩ => ⟨h1, h2, h.out.go h3.out⟩
theorem nameHeres {c : RC} {w0 : World} {T : Nat} {W : World} {s : St} {vs : List Value} {K : World → Prop} (h : Hid (SVr c w0 T W s vs K)) :
    Calls Tryd.prog 53 #[.pointer (some ⟨c.R, 0, none⟩)] W fun e w' => e = .returned (.string (str (nameP s).1)) ∧ c.R < w'.heap.size ∧ Hid (SVr c w0 T w' (nameP s).2 vs K) :=
  (nameHere_on h.out.on.here).mono fun _ _ ⟨h1, h2, h3⟩ => ⟨h1, h2, h.out.go h3.out⟩
theorem numberHeres {c : RC} {w0 : World} {T : Nat} {W : World} {s : St} {vs : List Value} {K : World → Prop} (h : Hid (SVr c w0 T W s vs K)) :
    Calls Tryd.prog 89 #[.pointer (some ⟨c.R, 0, none⟩)] W fun e w' => e = .returned (.int .i64 (numberP s).1) ∧ c.R < w'.heap.size ∧ Hid (SVr c w0 T w' (numberP s).2 vs K) :=
  (numberHere_on h.out.on.here).mono fun _ _ ⟨h1, h2, h3⟩ => ⟨h1, h2, h.out.go h3.out⟩
theorem exprsr {f : Nat} {c : RC} {P : St → Ex × St} (hp : ∀ k, Partr f c P k) {w0 : World} {T : Nat} {W : World} {s : St} {vs : List Value} {K : World → Prop} (h : Hid (SVr c w0 T W s vs K)) :
    Calls Tryd.prog f #[.pointer (some ⟨c.R, 0, none⟩)] W fun e w' => ∃ d : ED, e = .returned (exval d) ∧ c.R < w'.heap.size ∧ Hid (SVr c w0 T w' (P s).2 vs (fun W => K W ∧ IsEx (fun b => T + 1 ≤ b) W (P s).1 d)) :=
  (hp (s.len + 1) W s (Nat.lt_succ_self _) h.out.on.here).mono fun e w' ⟨d, h1, h2, h3⟩ => ⟨d, h1, h2.lt, (h.out.go h2).more (h3.weak fun b hb _ => by have := h.out.size; omega) Firm.ex⟩
/-- a reader that answers a row, with whatever arguments -/
def RowAtr {α D : Type} (K : Kind α D) (e : TypeId) (size : Nat) (f : Nat) (args : Array Value) (c : RC) (P : St → List α × St) : Prop := ∀ (w : World) (s : St), Onr c w w s →
  Calls Tryd.prog f args w fun r w' => ∃ x : SL, r = .returned (.slice x.ao x.n x.cap) ∧ Onr c w w' (P s).2 ∧ RowIs K w.heap.size e size w' x (P s).1
/-- .. as its call comes -/
theorem RowAtr.call {α D : Type} {K : Kind α D} {e : TypeId} {size : Nat} {f : Nat} {args : Array Value} {c : RC} {P : St → List α × St} (hp : RowAtr K e size f args c P) {w0 : World} {T : Nat} {W : World} {s : St} {vs : List Value} {L : World → Prop} (h : Hid (SVr c w0 T W s vs L)) :
    Calls Tryd.prog f args W fun r w' => ∃ x : SL, r = .returned (.slice x.ao x.n x.cap) ∧ c.R < w'.heap.size ∧ Hid (SVr c w0 T w' (P s).2 vs (fun W => L W ∧ RowIs K (T + 1) e size W x (P s).1)) :=
  (hp W s h.out.on.here).mono fun _ _ ⟨x, h1, h2, h3⟩ => ⟨x, h1, h2.lt, (h.out.go h2).more (h3.weak h.out.size) (fun _ _ _ r k h => h.keep k r)⟩
/-- a reader that answers a statement -/
def StmOfr (f : Nat) (c : RC) (P : St → Stm × St) : Prop := ∀ (w : World) (s : St), Onr c w w s →
  Calls Tryd.prog f #[.pointer (some ⟨c.R, 0, none⟩)] w fun e w' => ∃ x : SD, e = .returned (stmval x) ∧ Onr c w w' (P s).2 ∧ IsStm w.heap.size w' (P s).1 x
/-- a variable of a statement, laid -/
theorem SVr.init {c : RC} {w0 W : World} {s : St} (h : Onr c w0 W s) (x : SD) : ∃ W', (W.alloc zeroStm).setCells W.heap.size 0 (stmCells x).toArray.toList = W' ∧ c.R < W'.heap.size ∧ Hid (SVr c w0 W.heap.size W' s (stmCells x) (fun _ => True)) := by
  have h1 := SVr.start h #[.int .i64 0, .string ⟨#[]⟩, .string ⟨#[]⟩, .string ⟨#[]⟩, .slice none 0 0, .slice none 0 0, .slice none 0 0, .slice none 0 0, .int .i64 0, .int .i64 0, .int .i64 0, .string ⟨#[]⟩, .string ⟨#[]⟩, .string ⟨#[]⟩, .int .i64 0, .slice none 0 0, .int .i64 0, .int .i64 0, .int .i64 0, .string ⟨#[]⟩, .string ⟨#[]⟩, .string ⟨#[]⟩, .int .i64 0, .slice none 0 0, .slice none 0 0, .slice none 0 0, .bool false, .int .i64 0] 38
  have h2 : SVr c w0 W.heap.size ((W.alloc zeroStm).setCells W.heap.size 0 (stmCells x)) s (stmCells x) (fun _ => True) := ⟨setFrom_onr h1.lo _ _ _ h1.on, h1.var.all (stmCells x) rfl, trivial, h1.firm, h1.lo⟩
  exact ⟨_, rfl, h2.on.lt, h2⟩
/-- an expression stored into a field -/
theorem SVr.putEx {c : RC} {w0 : World} {T : Nat} {W : World} {s : St} {vs : List Value} {K : World → Prop} (h : SVr c w0 T W s vs K) (o : Nat) (d : ED) (ho : o + 8 ≤ vs.length) {us : List Value} (hu : vs.take o ++ exCells d ++ vs.drop (o + 8) = us) : ∃ W', W.setCells T o (exCells d).toArray.toList = W' ∧ c.R < W'.heap.size ∧ Hid (SVr c w0 T W' s us K) := by
  have h2 : SVr c w0 T (W.setCells T o (exCells d)) s us K := ⟨setFrom_onr h.lo _ _ _ h.on, by rw [← hu]; exact setFrom_var (exCells d) W o vs h.var ho, h.firm T _ _ (Nat.lt_succ_self _) (setFrom_keeps _ _ _ _) h.k, h.firm, h.lo⟩
  exact ⟨_, rfl, h2.on.lt, h2⟩
/-- the result's cells, stored -/
theorem stm_finr {c : RC} {w W : World} {s s0 : St} {t : Stm} {x : SD} (h0 : Onr c w w s0) (h : Onr c (w.alloc zeroStm) W s) (hI : IsStm (w.heap.size + 1) W t x) :
    ∃ W', W.setCells w.heap.size 0 (stmCells x).toArray.toList = W' ∧ Hid (W'.rangeAt w.heap.size 0 (stmCells x)) ∧ Hid (Onr c w W' s ∧ IsStm w.heap.size W' t x) :=
  ⟨_, rfl, ((VarB.resr h h0.lt).all (stmCells x) rfl).range, setFrom_onr (Nat.le_refl _) _ _ _ ((h0.alloc zeroStm).back h), (hI.keep (setFrom_keeps _ _ _ _) (Nat.lt_succ_self _)).weak (Nat.le_succ _)⟩
theorem res_therer {c : RC} {w W : World} {s : St} (h : Onr c (w.alloc zeroStm) W s) (hR : c.R < w.heap.size) (x : SD) : W.there w.heap.size 0 (stmCells x).toArray.size := (VarB.resr h hR).there (o := 0) (n := 28) (Nat.le_refl _)

theorem exprs_r (c : RC) : RowAtr kEx 35 8 54 #[.pointer (some ⟨c.R, 0, none⟩)] c exprsP := fun w s h =>
  (exprsHere_any (expr_r c) (comma_r c) exprP_shrinks comma_takes w s h).mono fun _ _ ⟨ao, n, cap, ds, h1, h2, h3, h4, h5⟩ => ⟨⟨ao, n, cap⟩, h1, h2, ds, h3, h4, h5⟩
theorem names_r (c : RC) : RowAtr kStr 9 1 84 #[.pointer (some ⟨c.R, 0, none⟩)] c namesP := fun w s h =>
  (namesHere_any (name_r c) (comma_r c) nameP_shrinks comma_takes w s _ h rfl).mono fun _ _ ⟨ao, n, cap, ds, h1, h2, h3, h4, h5⟩ => ⟨⟨ao, n, cap⟩, h1, h2, ds, h3, h4, h5⟩

set_option maxRecDepth 100000 in
set_option maxHeartbeats 4000000 in
theorem whereHere_part (c : RC) (k : Nat) : Partr 56 c whereP k := by
  intro w s hs h
  have hR := h.lt
  have HH := hide h
  have cM := takesk (c := c) [119, 104, 101, 114, 101] ⟨#[119, 104, 101, 114, 101]⟩ rfl (by decide) (KeptBy.triv c) (hide ⟨(h.alloc zeroEx).here, trivial⟩)
  unfold whereP
  have hl := mayBe_len [119, 104, 101, 114, 101] [] s
  cases hb : (mayBe [119, 104, 101, 114, 101] [] s).1 with
  | true =>
    rw [hb] at cM
    have cS := hide (fun W h => (orHere_is c k).callk (KeptBy.triv c) (w0 := w.alloc zeroEx) (W := W) (s := (mayBe [119, 104, 101, 114, 101] [] s).2) (by omega) (lo := w.heap.size + 1) (by simp) h)
    rw [if_pos rfl]
    clear h hb hl
    generalize (mayBe [119, 104, 101, 114, 101] [] s).2 = s1 at cM cS ⊢
    generalize exprP s1 = p at cS ⊢
    obtain ⟨a, s2⟩ := p
    simp only at cM cS ⊢
    go_enter Tryd.func56, Tryd.ntmps56
    go_wp2_with (first
      | (go_at_call 50; refine cM.mono ?_; rintro e w1 ⟨rfl, hR1, HB⟩)
      | (go_at_call 55; refine (cS.out _ HB).mono ?_; rintro e w2 ⟨d, rfl, hR2, HB2⟩; obtain ⟨⟨k0, k1, k2, k3, k4, k5, k6, k7⟩, f⟩ := resr_cells HB2.out.1 hR))
    obtain ⟨W3, e3, ⟨c0, c1, c2, c3, c4, c5, c6, c7⟩, hO3, hI3⟩ := resr8 HB2.out.1 hR HH.out d HB2.out.2.1
    rw [e3]
    exact bodyPost_ret (v := exval d) (by simp [results, Tryd.results56, go_sem, asAddr, c0, c1, c2, c3, c4, c5, c6, c7]) rfl ⟨d, rfl, hO3, hI3⟩
  | false =>
    rw [hb] at cM
    rw [if_neg (by decide)]
    clear h hb hl
    generalize (mayBe [119, 104, 101, 114, 101] [] s).2 = s1 at cM ⊢
    simp only at cM ⊢
    go_enter Tryd.func56, Tryd.ntmps56
    go_wp2_with (go_at_call 50; refine cM.mono ?_; rintro e w1 ⟨rfl, hR1, HB⟩; obtain ⟨⟨k0, k1, k2, k3, k4, k5, k6, k7⟩, f⟩ := resr_cells HB.out.1 hR)
    obtain ⟨W3, e3, ⟨c0, c1, c2, c3, c4, c5, c6, c7⟩, hO3, hI3⟩ := resr8 (e := noEx) HB.out.1 hR HH.out (⟨0, 0, 0, ⟨#[]⟩, ⟨#[]⟩, ⟨#[]⟩, none, 0, 0⟩ : ED) ⟨rfl, rfl, rfl, rfl, rfl, rfl, rfl⟩
    rw [e3]
    exact bodyPost_ret (v := exval (⟨0, 0, 0, ⟨#[]⟩, ⟨#[]⟩, ⟨#[]⟩, none, 0, 0⟩ : ED)) (by simp [results, Tryd.results56, go_sem, asAddr, c0, c1, c2, c3, c4, c5, c6, c7]) rfl ⟨_, rfl, hO3, hI3⟩

end Go.Proofs.YtedinkoapieakaaDoor

/- Columns as the document's own parser reads them, one by one, against the program's way. No model here. -/
namespace Go.Proofs.YtedinkoapieakaaDoor

/-- a reader that has refused stays -/
theorem ref_next {s : St} (h : s.ref = true) : s.next = zeroTok := by simp [St.next, h]
theorem ref_stop {s : St} (h : s.ref = true) : s.stop = s := by cases s; simp only at h; subst h; rfl
theorem ref_may {s : St} (h : s.ref = true) (v : List UInt8) (b : List (List UInt8)) : mayBe v b s = (false, s) := may_no (by rw [ref_next h]; exact isOne_zero v)
theorem ref_need {s : St} (h : s.ref = true) (v : List UInt8) : needs [v] s = s := by
  rw [needs_no (by rw [ref_next h]; exact isOne_zero v), ref_stop h]
theorem needs_two (v u : List UInt8) (s : St) : needs [v, u] s = needs [u] (needs [v] s) := rfl
theorem ref_name {s : St} (h : s.ref = true) : nameP s = ([], s) := by
  unfold nameP
  rw [ref_next h, if_neg (by decide), ref_stop h]
theorem ref_type {s : St} (h : s.ref = true) : (typeP s).2 = s := by
  have e : anyOf [[116, 114, 117, 116, 104], [105, 110, 116], [116, 101, 120, 116]] s = ([], s) := any_no fun v _ => by rw [ref_next h]; exact isOne_zero v
  simp only [typeP, oneOf, e, if_true]
  exact ref_stop h
theorem ref_names {s : St} (h : s.ref = true) : (namesP s).2 = s := by
  have e1 : needs [[40]] s = s := ref_need h _
  have e2 : comma s = (false, s) := ref_may h _ _
  have e3 : (listP nameP comma s).2 = s := by
    unfold listP
    rw [ref_name h]
    simp only
    rw [listLoop_end (by rw [e2]), e2]
  simp only [namesP, e1, e3]
  exact ref_need h _

/-- a column and the , behind it -/
def colR (s : St) : Col × St := ((columnP s).1, needs [[44]] (columnP s).2)
/-- as long as something fits and no key begins -/
inductive Cols : List Col → St → List Col × St → Prop
  | stop (l : List Col) (s : St) (h : s.ref = true ∨ isOne [[112, 114, 105, 109, 97, 114, 121]] s.next = true) : Cols l s (l, s)
  | step (l : List Col) (s : St) (N : List Col × St) (h1 : s.ref = false) (h2 : isOne [[112, 114, 105, 109, 97, 114, 121]] s.next = false) (hr : Cols (l ++ [(colR s).1]) (colR s).2 N) : Cols l s N

theorem primary_kept {s : St} (h : isOne [[112, 114, 105, 109, 97, 114, 121]] s.next = true) : isName s.next = false := by
  unfold isName
  rw [isOne_text h]
  simp only [show kept [112, 114, 105, 109, 97, 114, 121] = true by decide, Bool.not_true, Bool.and_false]

theorem colR_noName {s : St} (h : isName s.next = false) : (colR s).2 = s.stop := by
  have e : nameP s = ([], s.stop) := by unfold nameP; rw [if_neg (by rw [h]; decide)]
  have hr : s.stop.ref = true := rfl
  have e1 : (columnP s).2 = s.stop := by
    simp only [columnP, e]
    rw [ref_type hr, ref_may hr]
  simp only [colR, e1]
  exact ref_need hr _

theorem cols_same {l : List Col} {s' : St} {N : List Col × St} (h : Cols l s' N) : ∀ s, needs [[44]] s = s' →
    N = listLoop columnP moreColumns (s.len + 1) l s ∨ ((listLoop columnP moreColumns (s.len + 1) l s).2.ref = false ∧ isOne [[112, 114, 105, 109, 97, 114, 121]] (listLoop columnP moreColumns (s.len + 1) l s).2.next = false ∧ N.2 = (listLoop columnP moreColumns (s.len + 1) l s).2.stop) := by
  induction h with
  | stop l s' h =>
    intro s hs
    have hn : isName s'.next = false := by
      rcases h with h | h
      · rw [ref_next h]; decide
      · exact primary_kept h
    have hm : moreColumns s = (false, s') := by simp only [moreColumns, hs, hn]
    rw [listLoop_end (by rw [hm]), hm]
    exact .inl rfl
  | step l s' N h1 h2 hr ih =>
    intro s hs
    cases hn : isName s'.next with
    | true =>
      have hm : moreColumns s = (true, s') := by simp only [moreColumns, hs, hn]
      have e := listLoop_on columnP_shrinks moreColumns_takes (l := l) (s := s) (by rw [hm])
      rw [hm] at e
      rw [e]
      exact ih (columnP s').2 rfl
    | false =>
      have hm : moreColumns s = (false, s') := by simp only [moreColumns, hs, hn]
      rw [listLoop_end (by rw [hm]), hm]
      have e := colR_noName hn
      rw [e] at hr
      cases hr with
      | stop _ _ _ => exact .inr ⟨h1, h2, rfl⟩
      | step _ _ _ h3 _ _ => cases h3

/-- a table, as the document's own parser reads it: it comes to the same, or both refuse at one place -/
theorem table_same {s : St} {l : List Col} {s4 : St} (h : Cols [(colR (needs [[40]] (nameP s).2)).1] (colR (needs [[40]] (nameP s).2)).2 (l, s4)) :
    needs [[41]] (namesP (needs [[107, 101, 121]] (needs [[112, 114, 105, 109, 97, 114, 121]] s4))).2 = (tableP s).2 ∧ ((tableP s).2.ref = false → (tableP s).1 = { noStm with kind := 1, table := (nameP s).1, columns := l, names := (namesP (needs [[107, 101, 121]] (needs [[112, 114, 105, 109, 97, 114, 121]] s4))).1 }) := by
  obtain ⟨s3, hs3⟩ : ∃ s3, needs [[40]] (nameP s).2 = s3 := ⟨_, rfl⟩
  rw [hs3] at h
  have hC := cols_same h (columnP s3).2 rfl
  have e0 : listLoop columnP moreColumns ((columnP s3).2.len + 1) [(colR s3).1] (columnP s3).2 = listP columnP moreColumns s3 := rfl
  rw [e0] at hC
  simp only [tableP, hs3, needs_two]
  generalize listP columnP moreColumns s3 = C at hC
  rcases hC with hC | ⟨h1, h2, h3⟩
  · rw [← hC]
    exact ⟨rfl, fun _ => rfl⟩
  · simp only at h3
    have e1 : needs [[112, 114, 105, 109, 97, 114, 121]] C.2 = C.2.stop := needs_no h2
    have hr : C.2.stop.ref = true := rfl
    rw [h3, e1, ref_need hr, ref_need hr, ref_names hr, ref_need hr]
    exact ⟨rfl, fun h => by rw [hr] at h; cases h⟩

end Go.Proofs.YtedinkoapieakaaDoor

/- The document's own parser: create index: the contract, at every state. -/
namespace Go.Proofs.YtedinkoapieakaaDoor
open Go.ChangeShapes Go.WideShapes Go.ChangeAt Go.RowKit

set_option maxRecDepth 100000 in
set_option maxHeartbeats 8000000 in
theorem createHere_index (c : RC) (w : World) (s : St) (h : Onr c w w s) (hb : isOne [[105, 110, 100, 101, 120]] s.next = true) :
    Calls Tryd.prog 51 #[.pointer (some ⟨c.R, 0, none⟩)] w fun e w' => ∃ x : SD, e = .returned (stmval x) ∧ Onr c w w' (indexP s.adv).2 ∧ IsStm w.heap.size w' (indexP s.adv).1 x := by
  have hR := h.lt
  have HH := hide h
  have cI := takesk (c := c) [105, 110, 100, 101, 120] ⟨#[105, 110, 100, 101, 120]⟩ rfl (by decide) (KeptBy.triv c) (hide ⟨(h.alloc zeroStm).here, trivial⟩)
  rw [may_yes (b := []) (by decide) hb] at cI
  simp only [needs] at cI
  have cM := hide (fun (W : World) (h : Hid (Onr c (w.alloc zeroStm) W s.adv ∧ True)) => nameHerek (KeptBy.triv c) h)
  unfold indexP
  clear hb
  generalize s.adv = s1 at cI cM ⊢
  generalize nameP s1 = p at cM ⊢
  obtain ⟨n1, s2⟩ := p
  simp only at cM ⊢
  have cO := hide (fun T W vs K h => needss (c := c) [111, 110] ⟨#[111, 110]⟩ rfl (by decide) (w0 := w.alloc zeroStm) (T := T) (W := W) (s := s2) (vs := vs) (K := K) h)
  generalize Go.Proofs.YtedinkoapieakaaDoor.needs [[111, 110]] s2 = s3 at cO ⊢
  have cE := hide (fun T W vs K h => nameHeres (c := c) (w0 := w.alloc zeroStm) (T := T) (W := W) (s := s3) (vs := vs) (K := K) h)
  generalize nameP s3 = p at cE ⊢
  obtain ⟨n2, s4⟩ := p
  simp only at cE ⊢
  have cQ := hide (fun T W vs K h => (names_r c).call (w0 := w.alloc zeroStm) (T := T) (W := W) (s := s4) (vs := vs) (L := K) h)
  generalize namesP s4 = p at cQ ⊢
  obtain ⟨l, s5⟩ := p
  simp only at cQ ⊢
  clear h
  go_enter Tryd.func51, Tryd.ntmps51
  go_wp2_with (first
    | (go_at_call 50; refine cI.mono ?_; rintro e w0 ⟨rfl, hR0, HB0⟩)
    | (go_at_call 53; (with_reducible refine (cM.out _ HB0).mono ?_); rintro e w1 ⟨rfl, hR1, HB⟩)
    | (refine wpList_store_mid rfl 38 (.tmp 3) (.tmp 11) rfl w1.heap.size 0 (stmCells (⟨2, str n1, ⟨#[]⟩, ⟨#[]⟩, noSL, noSL, noSL, noSL, noED, noED, noSL, noSL, false, 0⟩ : SD)).toArray rfl rfl (init_there _ _) (stm_size _) (stm_one _) ?_; obtain ⟨wi, ei, hRi, HI⟩ := SVr.init HB.out.1 (⟨2, str n1, ⟨#[]⟩, ⟨#[]⟩, noSL, noSL, noSL, noSL, noED, noED, noSL, noSL, false, 0⟩ : SD); rw [ei]; clear ei)
    | (go_at_call 52; refine (cO.out _ _ _ _ HI).mono ?_; rintro e w3 ⟨rfl, hR3, HB3⟩)
    | (go_at_call 53; (with_reducible refine (cE.out _ _ _ _ HB3).mono ?_); rintro e w4 ⟨rfl, hR4, HB4⟩; have x2 := HB4.out.var.2.1 2 _ rfl; have xf2 := HB4.out.var.2.2; have HB5 : Hid (SVr c (w.alloc zeroStm) w1.heap.size _ _ (stmCells (⟨2, str n1, str n2, ⟨#[]⟩, noSL, noSL, noSL, noSL, noED, noED, noSL, noSL, false, 0⟩ : SD)) _) := HB4.out.put (j := 2) (show 2 < 28 by decide) (.string (str n2)))
    | (go_at_call 84; refine (cQ.out _ _ _ _ HB5).mono ?_; rintro e w5 ⟨y, rfl, hR5, HB6⟩; clear x2 xf2; have x5 := HB6.out.var.2.1 5 _ rfl; have xf5 := HB6.out.var.2.2; have HB7 : Hid (SVr c (w.alloc zeroStm) w1.heap.size _ _ (stmCells (⟨2, str n1, str n2, ⟨#[]⟩, noSL, y, noSL, noSL, noED, noED, noSL, noSL, false, 0⟩ : SD)) _) := HB6.out.put (j := 5) (show 5 < 28 by decide) (.slice y.ao y.n y.cap))
    | (refine wpList_load_mid rfl 38 (.tmp 3) rfl w1.heap.size 0 rfl (stmCells (⟨2, str n1, str n2, ⟨#[]⟩, noSL, y, noSL, noSL, noED, noED, noSL, noSL, false, 0⟩ : SD)) _ HB7.out.var.range Tryd.underlying38 rfl (stm_length _) ?_)
    | (refine wpList_store_mid rfl 38 (.tmp 2) (.tmp 20) rfl w.heap.size 0 (stmCells (⟨2, str n1, str n2, ⟨#[]⟩, noSL, y, noSL, noSL, noED, noED, noSL, noSL, false, 0⟩ : SD)).toArray rfl rfl (res_therer HB7.out.on hR _) (stm_size _) (stm_one _) ?_; obtain ⟨wf, ef, HR, HF⟩ := stm_finr (x := (⟨2, str n1, str n2, ⟨#[]⟩, noSL, y, noSL, noSL, noED, noED, noSL, noSL, false, 0⟩ : SD)) (t := { noStm with kind := 2, name := n1, table := n2, names := l }) HH.out HB7.out.on (⟨rfl, rfl, rfl, rfl, RowIs.nil _ _ _ _ _, HB7.out.k.2.weak (by have := HB.out.1.size; simp at this; omega), RowIs.nil _ _ _ _ _, RowIs.nil _ _ _ _ _, IsEx.none _ _, IsEx.none _ _, RowIs.nil _ _ _ _ _, RowIs.nil _ _ _ _ _, rfl, rfl⟩); rw [ef]; clear ef))
  exact bodyPost_ret (results_stm rfl rfl HR.out) rfl ⟨_, rfl, HF.out.1, HF.out.2⟩

end Go.Proofs.YtedinkoapieakaaDoor

/- The document's own parser: create table: the contract, at every state. -/
namespace Go.Proofs.YtedinkoapieakaaDoor
open Go.ChangeShapes Go.WideShapes Go.ChangeAt Go.RowKit

/-- how much can still come: nothing, or the tokens that are left and one more -/
def lv (s : St) : Nat := if s.ref then 0 else s.rest.length + 1
def lvOf (c : RC) (w : World) : Nat := match w.cell? ⟨c.R, 1, none⟩ with
  | some (.int _ k) => if k < 0 then 0 else c.ts.length - k.toNat + 1
  | _ => 0
theorem Onr.lvOf {c : RC} {w0 w : World} {s : St} (h : Onr c w0 w s) : lvOf c w = lv s := by
  have h1 := h.rdr.len_le
  unfold Go.Proofs.YtedinkoapieakaaDoor.lvOf lv
  rw [h.rdr.at_]
  unfold atv
  cases s.ref with
  | true => rfl
  | false =>
    simp only [Bool.false_eq_true, if_false, Int.toNat_natCast]
    rw [if_neg (by omega)]
    omega
theorem Onr.lv_le {c : RC} {w0 w : World} {s : St} (h : Onr c w0 w s) : lv s ≤ 301 := by
  have h1 := h.rdr.len_le
  have h2 := c.hl
  unfold lv
  split <;> omega
theorem lv_adv {s : St} (h : s.next.kind ≠ 0) : lv s.adv + 1 = lv s := by
  obtain ⟨h1, t, r, h2, _⟩ := next_live h
  simp [lv, St.adv, h1, h2]
theorem lv_stop (s : St) : lv s.stop = 0 := by simp [lv, St.stop]
theorem lv_any (ws : List (List UInt8)) (s : St) : lv (anyOf ws s).2 ≤ lv s := by
  unfold anyOf
  split
  · next h => have := lv_adv (isOne_kind h); simp only; omega
  · exact Nat.le_refl _
theorem lv_one (ws : List (List UInt8)) (s : St) : lv (oneOf ws s).2 ≤ lv s := by
  unfold oneOf
  split
  · simp only [lv_stop]; exact Nat.zero_le _
  · exact lv_any ws s
theorem lv_needs (ws : List (List UInt8)) (s : St) : lv (needs ws s) ≤ lv s := by
  induction ws generalizing s with
  | nil => exact Nat.le_refl _
  | cons w ws ih => exact Nat.le_trans (ih _) (lv_one _ _)
theorem lv_may (f : List UInt8) (b : List (List UInt8)) (s : St) : lv (mayBe f b s).2 ≤ lv s := by
  unfold mayBe
  split
  · exact lv_any _ _
  · exact Nat.le_trans (lv_needs _ _) (lv_any _ _)
theorem lv_name {s : St} (h : s.ref = false) : lv (nameP s).2 + 1 ≤ lv s := by
  unfold nameP
  split
  · next hn =>
    have := lv_adv (s := s) (by simp [isName] at hn; rw [hn.1]; decide)
    simp only
    omega
  · simp only [lv_stop]
    simp [lv, h]
theorem lv_col {s : St} (h : s.ref = false) : lv (colR s).2 + 1 ≤ lv s :=
  Nat.le_trans (Nat.add_le_add_right (Nat.le_trans (lv_needs _ _) (Nat.le_trans (lv_may _ _ _) (lv_one _ _))) 1) (lv_name h)
theorem lv_col_ref {s : St} (h : s.ref = true) : (colR s).2 = s := by
  rw [colR_noName (by rw [ref_next h]; decide), ref_stop h]

/-- a store elsewhere leaves a row -/
theorem own_poke {W : World} {base n size : Nat} {e : TypeId} {v : Value} {xs : List Value} (h : W.ownsRow base e size v n xs) {p : Addr} (hp : some p.block ≠ v.ownBlock) (u : Value) : (W.setCell p u).ownsRow base e size v n xs := by
  refine ⟨h.1, ?_⟩
  rcases h.2 with hn | ⟨g, cap, cur, rfl, h1, h2, h3⟩
  · exact .inl hn
  · exact .inr ⟨g, cap, cur, rfl, h1, (Below.heap_setCell _ _ _ _ (fun e => hp (by rw [← e]; rfl))).trans h2, h3⟩

/-- the columns so far, and the variable of the one that is read -/
structure ColK (T B : Nat) (y : SL) (l : List Col) (d : Col) (W : World) : Prop where
  row : RowIs kCol (T + 1) 74 3 W y l
  apart : some B ≠ (Value.slice y.ao y.n y.cap).ownBlock
  var : VarB W B [.string (str d.name), .int .i64 d.type, .bool d.notNull]
  lo : T + 1 ≤ B
theorem ColK.firm {T B : Nat} {y : SL} {l : List Col} {d : Col} : Firm (T + 1) (ColK T B y l d) := fun _ _ _ r k h => ⟨h.row.keep k r, h.apart, h.var.move k (by have := h.lo; omega), h.lo⟩
theorem ColK.poke {T B : Nat} {y : SL} {l : List Col} {d d' : Col} {W : World} (h : ColK T B y l d W) (j : Nat) (u : Value) (hj : j < 3) (hd : [.string (str d.name), .int .i64 d.type, .bool d.notNull].set j u = [.string (str d'.name), .int .i64 d'.type, .bool d'.notNull]) : ColK T B y l d' (W.setCell ⟨B, j, none⟩ u) := by
  obtain ⟨ds, hr, h2⟩ := h.row
  exact ⟨⟨ds, ⟨own_poke hr.own h.apart u, hr.each.mono fun _ _ h => h⟩, h2⟩, h.apart, hd ▸ h.var.set hj u, h.lo⟩

/-- a store behind the statement's variable -/
theorem SVr.poke {c : RC} {w0 : World} {T : Nat} {W : World} {s : St} {vs : List Value} {K K' : World → Prop} (h : SVr c w0 T W s vs K) {p : Addr} (hp : T + 1 ≤ p.block) (u : Value) (hk : K' (W.setCell p u)) (hf : Firm (T + 1) K') : SVr c w0 T (W.setCell p u) s vs K' :=
  ⟨h.on.setCell (by have := h.lo; omega) u, h.var.move (R := p.block) ((Keeps.refl _ W).setCell (.inl rfl) u) (by omega), hk, hf, h.lo⟩
/-- .. an append -/
theorem SVr.grown {c : RC} {w0 : World} {T : Nat} {W W' : World} {s : St} {vs : List Value} {K K' : World → Prop} (h : SVr c w0 T W s vs K) {row : Option Nat} (hg : W.grownBy W' row) (hr : ∀ k, row = some k → T + 1 ≤ k) (hk : K' W') (hf : Firm (T + 1) K') : SVr c w0 T W' s vs K' := by
  have hb : W'.heap[T]? = W.heap[T]? := hg.block T h.var.1 (fun e => by have := hr T e.symm; omega)
  exact ⟨h.on.grown hg (fun k hk => by have := hr k hk; have := h.lo; omega), ⟨Nat.lt_of_lt_of_le h.var.1 hg.size, fun j u hu => (World.cell?_of_block (w := W) (a := ⟨T, j, none⟩) hb).trans (h.var.2.1 j u hu), fun i => (World.frozen?_of_block (w := W) (a := ⟨T, i, none⟩) hb).trans (h.var.2.2 i)⟩, hk, hf, h.lo⟩
theorem SVr.alloc {c : RC} {w0 : World} {T : Nat} {W : World} {s : St} {vs : List Value} {K : World → Prop} (h : SVr c w0 T W s vs K) (o : Obj) : SVr c w0 T (W.alloc o) s vs K := h.go (h.on.here.alloc o)

/-- the variable of a column, laid -/
theorem ColK.new {T : Nat} {y : SL} {l : List Col} {W : World} (hr : RowIs kCol (T + 1) 74 3 W y l) (hT : T < W.heap.size) (n : List UInt8) : ColK T W.heap.size y l ⟨n, 0, false⟩ (W.alloc (.cells #[.string (str n), .int .i64 0, .bool false] 74)) := by
  refine ⟨hr.keep ((Keeps.refl T W).alloc _) (by omega), fun e => ?_, VarB.new W _ _, hT⟩
  obtain ⟨ds, h1, h2, _⟩ := hr
  have := (h1.own.lt _ e.symm).2
  omega

theorem sees_s {c : RC} {w0 : World} {T : Nat} (v : List UInt8) (z : ByteArray) (hz : z = str v) {W : World} {s : St} {vs : List Value} {K : World → Prop} (h : Hid (SVr c w0 T W s vs K)) :
    Calls Tryd.prog 83 #[.pointer (some ⟨c.R, 0, none⟩), .string z] W fun e w' => e = .returned (.bool (isOne [v] s.next)) ∧ c.R < w'.heap.size ∧ Hid (SVr c w0 T w' s vs K) := by
  subst hz
  exact (sees_on v h.out.on.here).mono fun _ _ ⟨h1, h2, h3⟩ => ⟨h1, h2, h.out.go h3.out⟩
theorem fail_s {c : RC} {w0 : World} {T : Nat} {W : World} {s : St} {vs : List Value} {K : World → Prop} (h : Hid (SVr c w0 T W s vs K)) :
    Calls Tryd.prog 19 #[.pointer (some ⟨c.R, 0, none⟩)] W fun e w' => e = .returned (.tuple #[]) ∧ c.R < w'.heap.size ∧ Hid (SVr c w0 T w' s.stop vs K) :=
  (fail_on h.out.on.here).mono fun _ _ ⟨h1, h2, h3⟩ => ⟨h1, h2, h.out.go h3.out⟩

theorem type_yes {v : List UInt8} {s : St} (hv : v ∈ [[116, 114, 117, 116, 104], [105, 110, 116], [116, 101, 120, 116]]) (h : isOne [v] s.next = true) : typeP s = (typeOf v, s.adv) := by
  have hne : v ≠ [] := (by decide : ∀ v ∈ ([[116, 114, 117, 116, 104], [105, 110, 116], [116, 101, 120, 116]] : List (List UInt8)), v ≠ []) v hv
  simp only [typeP, oneOf, any_yes hv h, if_neg hne]
theorem type_no {s : St} (h : ∀ v ∈ ([[116, 114, 117, 116, 104], [105, 110, 116], [116, 101, 120, 116]] : List (List UInt8)), isOne [v] s.next = false) : typeP s = (0, s.stop) := by
  simp only [typeP, oneOf, any_no h, if_true]
  rfl

end Go.Proofs.YtedinkoapieakaaDoor

/- The document's own parser: create: the contract, at every state. -/
namespace Go.Proofs.YtedinkoapieakaaDoor
open Go.ChangeShapes Go.WideShapes Go.ChangeAt Go.RowKit

abbrev tabSD (n : List UInt8) (y z : SL) : SD := ⟨1, ⟨#[]⟩, str n, ⟨#[]⟩, y, z, noSL, noSL, noED, noED, noSL, noSL, false, 0⟩
theorem may_eq {v : List UInt8} (hv : v ≠ []) (b : List (List UInt8)) (s : St) : mayBe v b s = (isOne [v] s.next, if isOne [v] s.next then needs b s.adv else s) := by
  cases h : isOne [v] s.next with
  | true => rw [may_yes hv h]; rfl
  | false => rw [may_no h]; rfl

set_option maxRecDepth 100000 in
set_option maxHeartbeats 16000000 in
theorem createHere_table (c : RC) (w : World) (s : St) (h : Onr c w w s) (hb : isOne [[105, 110, 100, 101, 120]] s.next = false) (n1 : List UInt8) (s2 s3 : St) (hn1 : nameP (needs [[116, 97, 98, 108, 101]] s) = (n1, s2)) (hs3 : needs [[40]] s2 = s3) :
    Calls Tryd.prog 51 #[.pointer (some ⟨c.R, 0, none⟩)] w fun e w' => ∃ (x : SD) (l : List Col) (s4 : St), e = .returned (stmval x) ∧ Cols [(colR s3).1] (colR s3).2 (l, s4) ∧ Onr c w w' (needs [[41]] (namesP (needs [[107, 101, 121]] (needs [[112, 114, 105, 109, 97, 114, 121]] s4))).2) ∧
      IsStm w.heap.size w' { noStm with kind := 1, table := n1, columns := l, names := (namesP (needs [[107, 101, 121]] (needs [[112, 114, 105, 109, 97, 114, 121]] s4))).1 } x := by
  have hR := h.lt
  have HH := hide h
  have cI := takesk (c := c) [105, 110, 100, 101, 120] ⟨#[105, 110, 100, 101, 120]⟩ rfl (by decide) (KeptBy.triv c) (hide ⟨(h.alloc zeroStm).here, trivial⟩)
  rw [may_no hb] at cI
  have cT := hide (fun (W : World) (h : Hid (Onr c (w.alloc zeroStm) W s ∧ True)) => needsk (c := c) [116, 97, 98, 108, 101] ⟨#[116, 97, 98, 108, 101]⟩ rfl (by decide) (KeptBy.triv c) h)
  have cM := hide (fun (W : World) (h : Hid (Onr c (w.alloc zeroStm) W (needs [[116, 97, 98, 108, 101]] s) ∧ True)) => nameHerek (KeptBy.triv c) h)
  rw [hn1] at cM
  have cO := hide (fun T W vs K h => needss (c := c) [40] ⟨#[40]⟩ rfl (by decide) (w0 := w.alloc zeroStm) (T := T) (W := W) (s := s2) (vs := vs) (K := K) h)
  rw [hs3] at cO
  obtain ⟨i0, hi0, hz0, hz1, hz2⟩ := info_parts Tryd.infoListCol
  clear h hb hn1 hs3
  generalize needs [[116, 97, 98, 108, 101]] s = s1 at cT cM
  simp only at cM
  go_enter Tryd.func51, Tryd.ntmps51
  go_wp2_with (first
    | (go_at_call 50; refine cI.mono ?_; rintro e w0 ⟨rfl, hR0, HB0⟩)
    | (go_at_call 52; (with_reducible refine (cT.out _ HB0).mono ?_); rintro e wt ⟨rfl, hRt, HBt⟩)
    | (go_at_call 53; (with_reducible refine (cM.out _ HBt).mono ?_); rintro e w1 ⟨rfl, hR1, HB⟩)
    | (refine wpList_store_mid rfl 38 (.tmp 4) (.tmp 25) rfl w1.heap.size 0 (stmCells (tabSD n1 noSL noSL)).toArray rfl rfl (init_there _ _) (stm_size _) (stm_one _) ?_; obtain ⟨wi, ei, hRi, HI⟩ := SVr.init HB.out.1 (tabSD n1 noSL noSL); rw [ei]; clear ei)
    | (go_at_call 52; (with_reducible refine (cO.out _ _ _ _ HI).mono ?_); rintro e w3 ⟨rfl, hR3, HB3⟩))
  clear cI cT cM cO
  have hsz : w.heap.size + 1 ≤ w1.heap.size + 1 := by have := HB.out.1.size; simp at this; omega
  generalize hT : w1.heap.size = T at HB3 HI hsz
  have H3 : Hid (SVr c (w.alloc zeroStm) T w3 s3 (stmCells (tabSD n1 noSL noSL)) (fun W => RowIs kCol (T + 1) 74 3 W noSL [])) := ⟨HB3.out.on, HB3.out.var, RowIs.nil _ _ _ _ _, fun _ _ _ r k h => h.keep k r, HB3.out.lo⟩
  clear HB3 HI HB hT
  go_loopw [5] (fun v wr => ∃ (b : Bool) (y : SL) (l : List Col) (s1 : St), v = .bool b ∧ c.R < wr.heap.size ∧ Hid (SVr c (w.alloc zeroStm) T wr s1 (stmCells (tabSD n1 y noSL)) (fun W => RowIs kCol (T + 1) 74 3 W y l) ∧ (b = true → y.n = 0 ∧ l = [] ∧ s1 = s3) ∧ (b = false → y.n + lv s1 ≤ 301 ∧ ∀ N, Cols l s1 N → Cols [(colR s3).1] (colR s3).2 N))) (fun v wr => 2 * lvOf c wr + (match v with | .bool true => 1 | _ => 0))
  case atStart => exact ⟨true, noSL, [], s3, rfl, hR3, H3.out, fun _ => ⟨rfl, rfl, rfl⟩, fun h => by cases h⟩
  case round =>
    obtain ⟨b, y, l, s1, rfl, hRr, HQ⟩ := hrel
    obtain ⟨go, hgo⟩ : ∃ go : Bool, (b || (!s1.ref && !isOne [[112, 114, 105, 109, 97, 114, 121]] s1.next)) = go := ⟨_, rfl⟩
    have HG := hide hgo
    have HM := hide HQ.out.1.on.lvOf
    have H0 := hide HQ.out.1
    clear hgo
    go_upto_region 11 with (fail)
    go_cut [40] from 28 to 67 (fun v W => v = .bool go ∧ c.R < W.heap.size ∧ Hid (SVr c (w.alloc zeroStm) T W s1 (stmCells (tabSD n1 y noSL)) (fun W => RowIs kCol (T + 1) 74 3 W y l)))
    case first =>
      cases b with
      | true =>
        have h1 : go = true := HG.out.symm
        subst h1
        go_wp2
        go_meet
        exact ⟨rfl, hRr, H0⟩
      | false =>
        cases hr : s1.ref with
        | true =>
          have h1 : go = false := by have := HG.out; rw [hr] at this; exact this.symm
          subst h1
          have c1 := H0.out.on.dead hr
          go_wp2
          go_meet
          exact ⟨rfl, hRr, H0⟩
        | false =>
          have h1 : (!isOne [[112, 114, 105, 109, 97, 114, 121]] s1.next) = go := by have := HG.out; rw [hr] at this; exact this
          obtain ⟨k, _, _, _, c1⟩ := H0.out.on.live hr
          have hk0 : (0 : Int) ≤ (k : Int) := by omega
          have cS := sees_s [112, 114, 105, 109, 97, 114, 121] ⟨#[112, 114, 105, 109, 97, 114, 121]⟩ rfl H0
          generalize isOne [[112, 114, 105, 109, 97, 114, 121]] s1.next = pp at cS h1
          subst h1
          go_wp2_with (go_at_call 83; refine cS.mono ?_; rintro e w4 ⟨rfl, hR4, HB4⟩)
          go_meet
          exact ⟨rfl, hR4, HB4⟩
    case rest =>
      obtain ⟨rfl, hRc, HC⟩ := hcut
      cases go with
      | false =>
        have hbs : b = false ∧ (s1.ref = true ∨ isOne [[112, 114, 105, 109, 97, 114, 121]] s1.next = true) := by
          have := HG.out
          cases b with
          | true => cases this
          | false =>
            refine ⟨rfl, ?_⟩
            cases hr : s1.ref with
            | true => exact .inl rfl
            | false =>
              rw [hr] at this
              cases hp : isOne [[112, 114, 105, 109, 97, 114, 121]] s1.next with
              | true => exact .inr rfl
              | false => rw [hp] at this; cases this
        have HE : Hid (Cols [(colR s3).1] (colR s3).2 (l, s1)) := (HQ.out.2.2 hbs.1).2 _ (.stop l s1 hbs.2)
        have cP := hide (fun W vs K h => needss (c := c) [112, 114, 105, 109, 97, 114, 121] ⟨#[112, 114, 105, 109, 97, 114, 121]⟩ rfl (by decide) (w0 := w.alloc zeroStm) (T := T) (W := W) (s := s1) (vs := vs) (K := K) h)
        have cK := hide (fun W vs K h => needss (c := c) [107, 101, 121] ⟨#[107, 101, 121]⟩ rfl (by decide) (w0 := w.alloc zeroStm) (T := T) (W := W) (s := needs [[112, 114, 105, 109, 97, 114, 121]] s1) (vs := vs) (K := K) h)
        have cN := hide (fun W vs K h => (names_r c).call (w0 := w.alloc zeroStm) (T := T) (W := W) (s := needs [[107, 101, 121]] (needs [[112, 114, 105, 109, 97, 114, 121]] s1)) (vs := vs) (L := K) h)
        obtain ⟨sk, hsk⟩ : ∃ sk, needs [[112, 114, 105, 109, 97, 114, 121]] s1 = sk := ⟨_, rfl⟩
        obtain ⟨sm, hsm⟩ : ∃ sm, needs [[107, 101, 121]] sk = sm := ⟨_, rfl⟩
        obtain ⟨⟨l2, sn⟩, hsn⟩ : ∃ r, namesP sm = r := ⟨_, rfl⟩
        rw [hsk] at cP cK cN
        rw [hsm] at cK cN
        rw [hsn] at cN
        have cX := hide (fun W vs K h => needss (c := c) [41] ⟨#[41]⟩ rfl (by decide) (w0 := w.alloc zeroStm) (T := T) (W := W) (s := sn) (vs := vs) (K := K) h)
        have HS : Hid (namesP (needs [[107, 101, 121]] (needs [[112, 114, 105, 109, 97, 114, 121]] s1)) = (l2, sn)) := by show _ = _; rw [hsk, hsm, hsn]
        clear hsk hsm hsn HQ hbs HG HM H0
        simp only at cN
        go_wp2_with (first
          | (go_at_call 52; (with_reducible refine (cP.out _ _ _ HC).mono ?_); rintro e v1 ⟨rfl, hV1, G1⟩)
          | (go_at_call 52; (with_reducible refine (cK.out _ _ _ G1).mono ?_); rintro e v2 ⟨rfl, hV2, G2⟩)
          | (go_at_call 84; refine (cN.out _ _ _ G2).mono ?_; rintro e v3 ⟨z, rfl, hV3, G3⟩; have x5 := G3.out.var.2.1 5 _ rfl; have xf5 := G3.out.var.2.2; have G4 : Hid (SVr c (w.alloc zeroStm) T _ _ (stmCells (tabSD n1 y z)) _) := G3.out.put (j := 5) (show 5 < 28 by decide) (.slice z.ao z.n z.cap))
          | (go_at_call 52; (with_reducible refine (cX.out _ _ _ G4).mono ?_); rintro e v4 ⟨rfl, hV4, G5⟩)
          | (refine wpList_load_mid rfl 38 (.tmp 4) rfl T 0 rfl (stmCells (tabSD n1 y z)) _ G5.out.var.range Tryd.underlying38 rfl (stm_length _) ?_)
          | (refine wpList_store_mid rfl 38 (.tmp 2) (.tmp 77) rfl w.heap.size 0 (stmCells (tabSD n1 y z)).toArray rfl rfl (res_therer G5.out.on hR _) (stm_size _) (stm_one _) ?_; obtain ⟨wf, ef, HR, HF⟩ := stm_finr (x := tabSD n1 y z) (t := { noStm with kind := 1, table := n1, columns := l, names := l2 }) HH.out G5.out.on (⟨rfl, rfl, rfl, rfl, G5.out.k.1.weak hsz, G5.out.k.2.weak hsz, RowIs.nil _ _ _ _ _, RowIs.nil _ _ _ _ _, IsEx.none _ _, IsEx.none _ _, RowIs.nil _ _ _ _ _, RowIs.nil _ _ _ _ _, rfl, rfl⟩); rw [ef]; clear ef))
        refine bodyPost_ret (results_stm rfl rfl HR.out) rfl ⟨_, rfl, l, s1, HE.out, ?_, ?_⟩
        · rw [HS.out]; exact HF.out.1
        · rw [HS.out]; exact HF.out.2
      | true =>
        have HL : Hid (y.n + 1 + lv (colR s1).2 ≤ 301 ∧ 2 * lv (colR s1).2 < 2 * lv s1 + (match Value.bool b with | .bool true => 1 | _ => 0) ∧ ∀ N, Cols (l ++ [(colR s1).1]) (colR s1).2 N → Cols [(colR s3).1] (colR s3).2 N) := by
          have h1 := HQ.out.1.on.lv_le
          cases b with
          | true =>
            obtain ⟨e1, rfl, rfl⟩ := HQ.out.2.1 rfl
            refine ⟨?_, ?_, fun N h => h⟩
            · cases hr : s1.ref with
              | true => rw [lv_col_ref hr]; simp [lv, hr]; omega
              | false => have := lv_col hr; omega
            · cases hr : s1.ref with
              | true => rw [lv_col_ref hr]; exact Nat.lt_succ_self _
              | false => have := lv_col hr; show _ < 2 * lv s1 + 1; omega
          | false =>
            have hg := HG.out
            simp only [Bool.false_or, Bool.and_eq_true, Bool.not_eq_true'] at hg
            have h2 := lv_col hg.1
            obtain ⟨h3, h4⟩ := HQ.out.2.2 rfl
            exact ⟨by omega, by show _ < 2 * lv s1 + 0; omega, fun N h => h4 N (.step l s1 N hg.1 hg.2 h)⟩
        have cN := nameHeres HC
        obtain ⟨⟨n2, s5⟩, hn2⟩ : ∃ r, nameP s1 = r := ⟨_, rfl⟩
        rw [hn2] at cN
        simp only at cN
        have cT0 := hide (fun W vs K h => takess (c := c) [116, 114, 117, 116, 104] ⟨#[116, 114, 117, 116, 104]⟩ rfl (by decide) (w0 := w.alloc zeroStm) (T := T) (W := W) (s := s5) (vs := vs) (K := K) h)
        rw [may_eq (by decide)] at cT0
        simp only [needs] at cT0
        obtain ⟨⟨ty, s6⟩, hty⟩ : ∃ r, typeP s5 = r := ⟨_, rfl⟩
        have HTY := hide hty
        obtain ⟨⟨nn, s7⟩, hnn⟩ : ∃ r, mayBe [110, 111, 116] [[110, 117, 108, 108]] s6 = r := ⟨_, rfl⟩
        have HNN := hide hnn
        have HCO : Hid (columnP s1 = (⟨n2, ty, nn⟩, s7)) := by
          show columnP s1 = _
          simp only [columnP, hn2, hty, hnn]
        have cNt := hide (fun W vs K h => takess (c := c) [110, 111, 116] ⟨#[110, 111, 116]⟩ rfl (by decide) (w0 := w.alloc zeroStm) (T := T) (W := W) (s := s6) (vs := vs) (K := K) h)
        rw [may_eq (by decide)] at cNt
        simp only [needs] at cNt
        clear hty hnn hn2
        obtain ⟨b0, hb0⟩ : ∃ b0, isOne [[116, 114, 117, 116, 104]] s5.next = b0 := ⟨_, rfl⟩
        rw [hb0] at cT0
        have HB0 := hide hb0
        clear hb0
        go_upto_if 45 with (first
          | (go_at_call 53; refine cN.mono ?_; rintro e w6 ⟨rfl, hR6, HB6⟩; have HV : Hid (SVr c (w.alloc zeroStm) T (w6.alloc (.cells #[.string (str n2), .int .i64 0, .bool false] 74)) s5 (stmCells (tabSD n1 y noSL)) (ColK T w6.heap.size y l ⟨n2, 0, false⟩)) := ⟨(HB6.out.alloc _).on, (HB6.out.alloc _).var, ColK.new HB6.out.k HB6.out.var.1 n2, ColK.firm, HB6.out.lo⟩)
          | (go_at_call 50; refine (cT0.out _ _ _ HV).mono ?_; rintro e w7 ⟨rfl, hR7, HB7⟩))
        go_cut [6] from 41 to 67 (fun v W => v = .pointer (some ⟨w6.heap.size, 0, none⟩) ∧ c.R < W.heap.size ∧ Hid (SVr c (w.alloc zeroStm) T W s6 (stmCells (tabSD n1 y noSL)) (ColK T w6.heap.size y l ⟨n2, ty, false⟩)))
        case first =>
          have hlo : T + 1 ≤ w6.heap.size := HV.out.k.lo
          cases b0 with
          | true =>
            have e1 : (ty, s6) = (1, s5.adv) := HTY.out.symm.trans (type_yes (v := [116, 114, 117, 116, 104]) (by decide) HB0.out)
            cases e1
            have x1 := HB7.out.k.var.2.1 1 _ rfl
            have xf := HB7.out.k.var.2.2
            have HP : Hid (SVr c (w.alloc zeroStm) T (w7.setCell ⟨w6.heap.size, 1, none⟩ (.int .i64 1)) s5.adv (stmCells (tabSD n1 y noSL)) (ColK T w6.heap.size y l ⟨n2, 1, false⟩)) := HB7.out.poke (p := ⟨w6.heap.size, 1, none⟩) hlo _ (HB7.out.k.poke 1 _ (by decide) rfl) ColK.firm
            go_wp2
            go_meet
            exact ⟨rfl, HP.out.on.lt, HP⟩
          | false =>
            have cT1 := takess (c := c) [105, 110, 116] ⟨#[105, 110, 116]⟩ rfl (by decide) HB7
            simp only [Bool.false_eq_true, if_false] at cT1
            cases b1 : isOne [[105, 110, 116]] s5.next with
            | true =>
              have e1 : (ty, s6) = (2, s5.adv) := HTY.out.symm.trans (type_yes (v := [105, 110, 116]) (by decide) b1)
              cases e1
              rw [may_yes (b := []) (by decide) b1] at cT1
              simp only [needs] at cT1
              clear b1
              go_wp2_with (go_at_call 50; refine cT1.mono ?_; rintro e w8 ⟨rfl, hR8, HB8⟩; have x1 := HB8.out.k.var.2.1 1 _ rfl; have xf := HB8.out.k.var.2.2; have HP : Hid (SVr c (w.alloc zeroStm) T (w8.setCell ⟨w6.heap.size, 1, none⟩ (.int .i64 2)) s5.adv (stmCells (tabSD n1 y noSL)) (ColK T w6.heap.size y l ⟨n2, 2, false⟩)) := HB8.out.poke (p := ⟨w6.heap.size, 1, none⟩) hlo _ (HB8.out.k.poke 1 _ (by decide) rfl) ColK.firm)
              go_meet
              exact ⟨rfl, HP.out.on.lt, HP⟩
            | false =>
              rw [may_no b1] at cT1
              have cT2 := hide (fun W h => takess (c := c) [116, 101, 120, 116] ⟨#[116, 101, 120, 116]⟩ rfl (by decide) (w0 := w.alloc zeroStm) (T := T) (W := W) (s := s5) (vs := stmCells (tabSD n1 y noSL)) (K := ColK T w6.heap.size y l ⟨n2, 0, false⟩) h)
              cases b2 : isOne [[116, 101, 120, 116]] s5.next with
              | true =>
                have e1 : (ty, s6) = (3, s5.adv) := HTY.out.symm.trans (type_yes (v := [116, 101, 120, 116]) (by decide) b2)
                cases e1
                rw [may_yes (b := []) (by decide) b2] at cT2
                simp only [needs] at cT2
                clear b1 b2
                go_wp2_with (first
                  | (go_at_call 50; (with_reducible refine cT1.mono ?_); rintro e w8 ⟨rfl, hR8, HB8⟩)
                  | (go_at_call 50; (with_reducible refine (cT2.out _ HB8).mono ?_); rintro e w9 ⟨rfl, hR9, HB9⟩; have x1 := HB9.out.k.var.2.1 1 _ rfl; have xf := HB9.out.k.var.2.2; have HP : Hid (SVr c (w.alloc zeroStm) T (w9.setCell ⟨w6.heap.size, 1, none⟩ (.int .i64 3)) s5.adv (stmCells (tabSD n1 y noSL)) (ColK T w6.heap.size y l ⟨n2, 3, false⟩)) := HB9.out.poke (p := ⟨w6.heap.size, 1, none⟩) hlo _ (HB9.out.k.poke 1 _ (by decide) rfl) ColK.firm))
                go_meet
                exact ⟨rfl, HP.out.on.lt, HP⟩
              | false =>
                have e1 : (ty, s6) = (0, s5.stop) := HTY.out.symm.trans (type_no (by
                  intro v hv
                  simp only [List.mem_cons, List.not_mem_nil, or_false] at hv
                  rcases hv with rfl | rfl | rfl
                  · exact HB0.out
                  · exact b1
                  · exact b2))
                cases e1
                rw [may_no b2] at cT2
                have cF := hide (fun W h => fail_s (c := c) (w0 := w.alloc zeroStm) (T := T) (W := W) (s := s5) (vs := stmCells (tabSD n1 y noSL)) (K := ColK T w6.heap.size y l ⟨n2, 0, false⟩) h)
                clear b1 b2
                go_wp2_with (first
                  | (go_at_call 50; (with_reducible refine cT1.mono ?_); rintro e w8 ⟨rfl, hR8, HB8⟩)
                  | (go_at_call 50; (with_reducible refine (cT2.out _ HB8).mono ?_); rintro e w9 ⟨rfl, hR9, HB9⟩)
                  | (go_at_call 19; refine (cF.out _ HB9).mono ?_; rintro e w10 ⟨rfl, hR10, HB10⟩))
                go_meet
                exact ⟨rfl, hR10, HB10⟩
        case rest =>
          obtain ⟨rfl, hRd, HD⟩ := hcut
          obtain ⟨b3, hb3⟩ : ∃ b3, isOne [[110, 111, 116]] s6.next = b3 := ⟨_, rfl⟩
          rw [hb3] at cNt
          have HB3 := hide hb3
          clear hb3 cT0 cN HV HB6
          go_upto_if 56 with (go_at_call 50; refine (cNt.out _ _ _ HD).mono ?_; rintro e w8 ⟨rfl, hR8, HB8⟩)
          go_cut [6] from 41 to 67 (fun v W => v = .pointer (some ⟨w6.heap.size, 0, none⟩) ∧ c.R < W.heap.size ∧ Hid (SVr c (w.alloc zeroStm) T W s7 (stmCells (tabSD n1 y noSL)) (ColK T w6.heap.size y l ⟨n2, ty, nn⟩)))
          case first =>
            have hlo : T + 1 ≤ w6.heap.size := HD.out.k.lo
            cases b3 with
            | true =>
              have e1 : (nn, s7) = (true, needs [[110, 117, 108, 108]] s6.adv) := HNN.out.symm.trans (may_yes (by decide) HB3.out)
              cases e1
              have cU := needss (c := c) [110, 117, 108, 108] ⟨#[110, 117, 108, 108]⟩ rfl (by decide) HB8
              simp only [if_true] at cU
              go_wp2_with (go_at_call 52; refine cU.mono ?_; rintro e w9 ⟨rfl, hR9, HB9⟩; have x1 := HB9.out.k.var.2.1 2 _ rfl; have xf := HB9.out.k.var.2.2; have HP : Hid (SVr c (w.alloc zeroStm) T (w9.setCell ⟨w6.heap.size, 2, none⟩ (.bool true)) (needs [[110, 117, 108, 108]] s6.adv) (stmCells (tabSD n1 y noSL)) (ColK T w6.heap.size y l ⟨n2, ty, true⟩)) := HB9.out.poke (p := ⟨w6.heap.size, 2, none⟩) hlo _ (HB9.out.k.poke 2 _ (by decide) rfl) ColK.firm)
              go_meet
              exact ⟨rfl, HP.out.on.lt, HP⟩
            | false =>
              have e1 : (nn, s7) = (false, s6) := HNN.out.symm.trans (may_no HB3.out)
              cases e1
              simp only [Bool.false_eq_true, if_false] at HB8
              go_wp2
              go_meet
              exact ⟨rfl, hR8, HB8⟩
          case rest =>
            obtain ⟨rfl, hRe, HE⟩ := hcut
            obtain ⟨ds, hrw, hyn, hy3⟩ := HE.out.k.row
            have HRW := hide hrw
            have HYN := hide hyn
            have t4 := HE.out.var.2.1 4 _ rfl
            have tf := HE.out.var.2.2
            have v0 := HE.out.k.var.2.1 0 _ rfl
            have v1 := HE.out.k.var.2.1 1 _ rfl
            have v2 := HE.out.k.var.2.1 2 _ rfl
            have hTw := HE.out.var.1
            have hBw := HE.out.k.var.1
            have hBT := HE.out.k.lo
            have hy4 : y.n + 1 ≤ 301 := by have := HL.out.1; omega
            have hcol : colR s1 = (⟨n2, ty, nn⟩, needs [[44]] s7) := by unfold colR; rw [HCO.out]
            have HL2 := HL.out
            rw [hcol] at HL2
            have HL3 := hide HL2
            have cC := hide (fun W vs K h => needss (c := c) [44] ⟨#[44]⟩ rfl (by decide) (w0 := w.alloc zeroStm) (T := T) (W := W) (s := s7) (vs := vs) (K := K) h)
            have HRA := hide (hrw.keep (R := T) ((Keeps.refl T wc).alloc (.cells #[.string (str n2), .int .i64 ty, .bool nn] 74)) (by omega))
            clear HL HL2 hrw hyn HQ HG H0 HC HD HCO HTY HNN HB0 HB3 HB7 HB8 cNt hcol
            generalize needs [[44]] s7 = s8 at cC HL3
            go_wp2_with (first
              | (at_builtin; refine wpList_append_own_at _ rfl (.tmp 61) (.tmp 63) 28 rfl (T + 1) 74 i0 (.agg #[.string ⟨#[]⟩, .int .i64 0, .bool false]) 3 32 Tryd.underlying28 hi0 hz0 hz1 hz2 rfl (by decide) (.slice y.ao y.n y.cap) y.n (ds.flatMap kCol.cel) rfl (by have := HRA.out.own; rw [← HYN.out] at this; exact this) ⟨wc.heap.size, 0, none⟩ 1 1 (kCol.cel ⟨n2, ty, nn⟩) rfl rfl (cells_newCol wc ⟨n2, ty, nn⟩ _) (kCol.one _) (by unfold maxLen; omega) (by omega) (by simp; omega) ?_; intro vv w4 hown hgrow hnil hblk; have hrow : Rw kCol (T + 1) 74 3 w4 vv (l ++ [⟨n2, ty, nn⟩]) (ds ++ [⟨n2, ty, nn⟩]) := HRA.out.append rfl (by rw [← HYN.out]; exact hown) hgrow hblk; obtain ⟨ao2, cap2, rfl⟩ := ownShape hown; have HG4 : Hid (SVr c (w.alloc zeroStm) T w4 s7 (stmCells (tabSD n1 y noSL)) (fun W => RowIs kCol (T + 1) 74 3 W ⟨ao2, y.n + 1, cap2⟩ (l ++ [⟨n2, ty, nn⟩]))) := (HE.out.alloc _).grown hgrow (fun k hk => (HRA.out.own.lt k hk).1) ⟨_, hrow, by have := HYN.out; simp; omega, hy4⟩ (fun _ _ _ r k h => h.keep k r); clear hown hgrow hnil hblk hrow; have u4 := HG4.out.var.2.1 4 _ rfl; have uf := HG4.out.var.2.2; have HG5 : Hid (SVr c (w.alloc zeroStm) T _ s7 (stmCells (tabSD n1 ⟨ao2, y.n + 1, cap2⟩ noSL)) _) := HG4.out.put (j := 4) (show 4 < 28 by decide) (.slice ao2 (y.n + 1) cap2))
              | (go_at_call 52; refine (cC.out _ _ _ HG5).mono ?_; rintro e w9 ⟨rfl, hR9, HB9⟩))
            go_roundw
            case rel => exact ⟨false, ⟨ao2, y.n + 1, cap2⟩, l ++ [⟨n2, ty, nn⟩], s8, rfl, hR9, HB9.out, (fun h => by cases h), (fun _ => ⟨HL3.out.1, HL3.out.2.2⟩)⟩
            case measure => rw [HB9.out.on.lvOf, HM.out]; exact HL3.out.2.1

end Go.Proofs.YtedinkoapieakaaDoor

/- The document's own parser: create, either way: the contract, at every state. -/
namespace Go.Proofs.YtedinkoapieakaaDoor
open Go.ChangeShapes Go.WideShapes Go.ChangeAt Go.RowKit

/-- a body that reads a statement: where nothing was refused it is the very one -/
def StmOfq (f : Nat) (c : RC) (P : St → Stm × St) : Prop := ∀ (w : World) (s : St), Onr c w w s →
  Calls Tryd.prog f #[.pointer (some ⟨c.R, 0, none⟩)] w fun e w' => ∃ (x : SD) (t : Stm), e = .returned (stmval x) ∧ Onr c w w' (P s).2 ∧ IsStm w.heap.size w' t x ∧ ((P s).2.ref = false → t = (P s).1)

theorem one_yes {ws : List (List UInt8)} {v : List UInt8} {s : St} (hv : v ∈ ws) (hne : v ≠ []) (h : isOne [v] s.next = true) : oneOf ws s = (v, s.adv) := by simp only [oneOf, any_yes hv h, if_neg hne]
theorem one_no {ws : List (List UInt8)} {s : St} (h : ∀ v ∈ ws, isOne [v] s.next = false) : oneOf ws s = ([], s.stop) := by simp only [oneOf, any_no h, if_true]
theorem ref_column {s : St} (h : s.ref = true) : (columnP s).2 = s := by
  simp only [columnP, ref_name h]
  rw [ref_type h, ref_may h]
theorem ref_table {s : St} (h : s.ref = true) : (tableP s).2 = s := by
  have e1 : needs [[40]] s = s := ref_need h _
  have em : moreColumns s = (false, s) := by
    simp only [moreColumns, ref_need h, ref_next h]
    rfl
  have e3 : (listP columnP moreColumns s).2 = s := by
    unfold listP
    simp only [ref_column h]
    rw [listLoop_end (by rw [em]), em]
  simp only [tableP, ref_name h, e1, needs_two]
  rw [e3, ref_need h, ref_need h, ref_names h]
  exact ref_need h _

theorem create_table (s : St) (hi : isOne [[105, 110, 100, 101, 120]] s.next = false) : (tableP (needs [[116, 97, 98, 108, 101]] s)).2 = (createP s).2 ∧ ((createP s).2.ref = false → createP s = tableP (needs [[116, 97, 98, 108, 101]] s)) := by
  cases ht : isOne [[116, 97, 98, 108, 101]] s.next with
  | true =>
    have e : createP s = tableP s.adv := by
      simp only [createP, one_yes (v := [116, 97, 98, 108, 101]) (ws := [[116, 97, 98, 108, 101], [105, 110, 100, 101, 120]]) (by decide) (by decide) ht]
      exact if_pos trivial
    rw [needs_yes (by decide) ht, e]
    exact ⟨rfl, fun _ => rfl⟩
  | false =>
    have e : createP s = (noStm, s.stop) := by
      have ea : oneOf [[116, 97, 98, 108, 101], [105, 110, 100, 101, 120]] s = ([], s.stop) := one_no fun v hv => by
        simp only [List.mem_cons, List.not_mem_nil, or_false] at hv
        rcases hv with rfl | rfl
        · exact ht
        · exact hi
      simp only [createP, ea]
      rw [if_neg (by decide), if_neg (by decide)]
    rw [needs_no ht, e, ref_table (s := s.stop) rfl]
    exact ⟨rfl, fun h => by cases h⟩

theorem createHere_q (c : RC) : StmOfq 51 c createP := by
  intro w s h
  cases hi : isOne [[105, 110, 100, 101, 120]] s.next with
  | true =>
    have e : createP s = indexP s.adv := by
      simp only [createP, one_yes (v := [105, 110, 100, 101, 120]) (ws := [[116, 97, 98, 108, 101], [105, 110, 100, 101, 120]]) (by decide) (by decide) hi]
      rw [if_neg (by decide)]
      exact if_pos trivial
    rw [e]
    exact (createHere_index c w s h hi).mono fun _ _ ⟨x, h1, h2, h3⟩ => ⟨x, _, h1, h2, h3, fun _ => rfl⟩
  | false =>
    obtain ⟨k1, k2⟩ := create_table s hi
    refine (createHere_table c w s h hi (nameP (needs [[116, 97, 98, 108, 101]] s)).1 (nameP (needs [[116, 97, 98, 108, 101]] s)).2 _ rfl rfl).mono fun e w' ⟨x, l, s4, h1, h2, h3, h4⟩ => ?_
    obtain ⟨t1, t2⟩ := table_same h2
    rw [t1, k1] at h3
    exact ⟨x, _, h1, h3, h4, fun hr => by rw [k2 hr, t2 (by rw [k1]; exact hr)]⟩

end Go.Proofs.YtedinkoapieakaaDoor

/- The document's own parser: a row that grows in a statement's variable, beside what has been read before. -/
namespace Go.Proofs.YtedinkoapieakaaDoor
open Go.ChangeShapes Go.WideShapes Go.ChangeAt Go.RowKit

theorem SVr.conv {c : RC} {w0 : World} {T : Nat} {W : World} {s : St} {vs : List Value} {K L : World → Prop} (h : SVr c w0 T W s vs K) (l : L W) (f : Firm (T + 1) L) : SVr c w0 T W s vs L := ⟨h.on, h.var, l, f, h.lo⟩

/-- what hangs on the blocks from lo on alone -/
def Held (lo : Nat) (K : World → Prop) : Prop := ∀ W W', W.heap.size ≤ W'.heap.size → (∀ k, lo ≤ k → k < W.heap.size → W'.heap[k]? = W.heap[k]?) → K W → K W'
theorem Held.firm {lo : Nat} {K : World → Prop} (h : Held lo K) : Firm lo K := fun R W W' r k => h W W' k.size (fun b h1 h2 => k.block b h2 (by omega))
theorem Held.triv (lo : Nat) : Held lo (fun _ => True) := fun _ _ _ _ h => h
theorem Held.and {lo : Nat} {K L : World → Prop} (h : Held lo K) (g : Held lo L) : Held lo (fun W => K W ∧ L W) := fun W W' s b ⟨x, y⟩ => ⟨h W W' s b x, g W W' s b y⟩
theorem Held.ex {lo : Nat} {e : Ex} {d : ED} : Held lo (fun W => IsEx (fun b => lo ≤ b) W e d) := fun _ _ s b h => h.move s (fun k h1 h2 => b k h1 h2) (fun _ h _ => h)
theorem Held.row {α D : Type} {K : Kind α D} {lo : Nat} {e : TypeId} {size : Nat} {x : SL} {l : List α} : Held lo (fun W => RowIs K lo e size W x l) := by
  intro W W' s b ⟨ds, h1, h2⟩
  refine ⟨ds, ⟨⟨h1.own.1, ?_⟩, h1.each.mono fun _ _ hr => K.move s (fun k hk hl => b k hk.1 hl) (fun _ hb _ => hb) hr⟩, h2⟩
  rcases h1.own.2 with hn | ⟨g, cap, cur, he, h3, h4, h5⟩
  · exact .inl hn
  · exact .inr ⟨g, cap, cur, he, h3, (b g h3 (Array.getElem?_eq_some_iff.1 h4).1).trans h4, h5⟩

/-- the blocks from lo on are as they were -/
def Since (lo : Nat) (V W : World) : Prop := V.heap.size ≤ W.heap.size ∧ ∀ k, lo ≤ k → k < V.heap.size → W.heap[k]? = V.heap[k]?
theorem Since.refl (lo : Nat) (V : World) : Since lo V V := ⟨Nat.le_refl _, fun _ _ _ => rfl⟩
theorem Since.held (lo : Nat) (V : World) : Held lo (Since lo V) := fun _ _ s b h => ⟨Nat.le_trans h.1 s, fun k h1 h2 => (b k h1 (Nat.lt_of_lt_of_le h2 h.1)).trans (h.2 k h1 h2)⟩
theorem Since.back {lo : Nat} {V W : World} (h : Since lo V W) {K : World → Prop} (hK : Held lo K) (hV : K V) : K W := hK V W h.1 h.2 hV

/-- a row of its own, made since -/
def Grows {α D : Type} (K : Kind α D) (lo : Nat) (V : World) (e : TypeId) (size : Nat) (x : SL) (l : List α) (ds : List D) (W : World) : Prop := Since lo V W ∧ Rw K V.heap.size e size W (.slice x.ao x.n x.cap) l ds
theorem Grows.firm {α D : Type} {K : Kind α D} {lo : Nat} {V : World} (hlo : lo ≤ V.heap.size) {e : TypeId} {size : Nat} {x : SL} {l : List α} {ds : List D} : Firm lo (Grows K lo V e size x l ds) := fun R W W' r k h => ⟨(Since.held lo V).firm R W W' r k h.1, h.2.keep k (by omega)⟩
theorem Grows.row {α D : Type} {K : Kind α D} {lo : Nat} {V : World} (hlo : lo ≤ V.heap.size) {e : TypeId} {size : Nat} {x : SL} {l : List α} {ds : List D} {W : World} (h : Grows K lo V e size x l ds W) (h1 : x.n = ds.length) (h2 : x.n ≤ 301) : RowIs K lo e size W x l := ⟨ds, h.2.weak hlo, h1, h2⟩
theorem Grows.nil {α D : Type} (K : Kind α D) (lo : Nat) (V : World) (e : TypeId) (size : Nat) : Grows K lo V e size noSL [] [] V := ⟨Since.refl lo V, ⟨by simp, .inl ⟨rfl, rfl⟩⟩, trivial⟩

theorem SVr.drew {c : RC} {w0 : World} {T : Nat} {W : World} {s : St} {vs : List Value} {K : World → Prop} (h : SVr c w0 T W s vs K) : SVr c w0 T W.drew s vs K := h.go (h.on.here.drew)

/-- one more, read -/
theorem OneR.grow {α D α' D' : Type} {K : Kind α D} {K' : Kind α' D'} {val : D → Value} {f : Nat} {c : RC} {P : St → α × St} (h1 : OneR K val f c P) {w0 : World} {T : Nat} {V W : World} {s : St} {vs : List Value} {e : TypeId} {size : Nat} {x : SL} {l : List α'} {ds : List D'} (h : Hid (SVr c w0 T W s vs (Grows K' (T + 1) V e size x l ds))) :
    Calls Tryd.prog f #[.pointer (some ⟨c.R, 0, none⟩)] W fun r w' => ∃ d : D, r = .returned (val d) ∧ c.R < w'.heap.size ∧ Hid (SVr c w0 T w' (P s).2 vs (Grows K' (T + 1) V e size x l ds) ∧ K.rel (fun b => V.heap.size ≤ b ∧ some b ≠ (Value.slice x.ao x.n x.cap).ownBlock) w' (P s).1 d) := by
  refine (h1 W s h.out.on.here).mono fun r w' ⟨d, e1, e2, e3⟩ => ⟨d, e1, e2.lt, h.out.go e2, ?_⟩
  refine K.move (Nat.le_refl _) (fun _ _ _ => rfl) (fun b hb _ => ⟨Nat.le_trans h.out.k.1.1 hb, fun hbk => ?_⟩) e3
  have := (h.out.k.2.own.lt b hbk.symm).2
  omega

/-- .. laid in a block, and appended -/
theorem SVr.app {α D : Type} {K : Kind α D} {c : RC} {w0 : World} {T : Nat} {V W W' : World} {s : St} {vs : List Value} {e : TypeId} {size : Nat} {x : SL} {l : List α} {ds : List D} {a : α} {d : D} {o : Obj} {v' : Value}
    (h : SVr c w0 T W s vs (Grows K (T + 1) V e size x l ds)) (hV : T + 1 ≤ V.heap.size) (hr : K.rel (fun b => V.heap.size ≤ b ∧ some b ≠ (Value.slice x.ao x.n x.cap).ownBlock) W a d) (hn : x.n = ds.length)
    (hown : W'.ownsRow V.heap.size e size v' (x.n + 1) (ds.flatMap K.cel ++ K.cel d)) (hg : (W.alloc o).grownBy W' (Value.slice x.ao x.n x.cap).ownBlock) (hb : v'.ownBlock = (Value.slice x.ao x.n x.cap).ownBlock ∨ v'.ownBlock = some (W.alloc o).heap.size) :
    ∃ ao cap, v' = .slice ao (x.n + 1) cap ∧ Hid (SVr c w0 T W' s vs (Grows K (T + 1) V e size ⟨ao, x.n + 1, cap⟩ (l ++ [a]) (ds ++ [d]))) := by
  have hA := h.alloc o
  have hrA : K.rel (fun b => V.heap.size ≤ b ∧ some b ≠ (Value.slice x.ao x.n x.cap).ownBlock) (W.alloc o) a d := K.move (by simp) (fun b _ hb => Below.heap_alloc _ _ _ hb) (fun _ h _ => h) hr
  have hrow := hA.k.2.append hrA (by rw [← hn]; exact hown) hg hb
  obtain ⟨ao, cap, rfl⟩ := ownShape hown
  refine ⟨ao, cap, rfl, hA.grown hg (fun k hk => ?_) ⟨⟨Nat.le_trans hA.k.1.1 hg.size, fun k h1 h2 => ?_⟩, hrow⟩ (Grows.firm hV)⟩
  · have := (hA.k.2.own.lt k hk).1
    omega
  · refine (hg.block k (Nat.lt_of_lt_of_le h2 hA.k.1.1) (fun e => ?_)).trans (hA.k.1.2 k h1 h2)
    have := (hA.k.2.own.lt k e.symm).1
    omega
/-- the row that an append is given -/
theorem SVr.owns {α D : Type} {K : Kind α D} {c : RC} {w0 : World} {T : Nat} {V W : World} {s : St} {vs : List Value} {e : TypeId} {size : Nat} {x : SL} {l : List α} {ds : List D} (h : SVr c w0 T W s vs (Grows K (T + 1) V e size x l ds)) (hn : x.n = ds.length) (o : Obj) : (W.alloc o).ownsRow V.heap.size e size (.slice x.ao x.n x.cap) x.n (ds.flatMap K.cel) := by
  have := (h.alloc o).k.2.own
  rw [← hn] at this
  exact this

/-- the first of a row of expressions -/
theorem OneR.first {f : Nat} {c : RC} {P : St → Ex × St} (h1 : OneR kEx exval f c P) {w0 : World} {T : Nat} {V : World} {s : St} {vs : List Value} {K : World → Prop} (h : Hid (SVr c w0 T V s vs K)) :
    Calls Tryd.prog f #[.pointer (some ⟨c.R, 0, none⟩)] V fun r w' => ∃ d : ED, r = .returned (exval d) ∧ c.R < w'.heap.size ∧ Hid (SVr c w0 T (w'.alloc (.cells #[.int .i64 d.op, .int .i64 d.vk, .int .i64 d.vi, .string d.vt, .string d.tb, .string d.nm, .int .i64 0, .slice d.ao d.n d.cap] 35)) (P s).2 vs (Grows kEx (T + 1) V 35 8 ⟨some ⟨w'.heap.size, 0, none⟩, 1, 1⟩ [(P s).1] [d])) := by
  refine (h1 V s h.out.on.here).mono fun r w' ⟨d, e1, e2, e3⟩ => ⟨d, e1, e2.lt, ?_⟩
  have hs := h.out.conv (L := Since (T + 1) V) (Since.refl _ _) (Since.held _ _).firm
  have hA := (hs.go e2).alloc (.cells #[.int .i64 d.op, .int .i64 d.vk, .int .i64 d.vi, .string d.vt, .string d.tb, .string d.nm, .int .i64 0, .slice d.ao d.n d.cap] 35)
  exact hA.conv ⟨hA.k, Rw.new e2.size _ rfl rfl e3⟩ (Grows.firm h.out.size)

/-- append as one step of a region that draws -/
theorem step_append_at {P : Program} (w : World) {ops : Array Oper} {o : Oper} {a : Act} {K : Act → World → Prop} {Q : Exit → Act → World → Prop} {E : Prop} (hgd : o.guard = none) (s x : Operand) (t : TypeId)
    (ho : o.op = .call { callee := .builtin .append, args := #[s, x], argTypes := #[t, t] })
    (base : Nat) (e : TypeId) (i : TypeInfo) (z : Value) (size bytes : Nat) (ht : P.underlying t = some (.slice e)) (hi : P.info? e = some i) (hz : i.zero = some z)
    (hsize : i.size = size) (hby : i.bytes = bytes) (hzs : z.cells.size = size) (hsz : 0 < size)
    (v : Value) (n : Nat) (xs : List Value) (hs : a.eval s = v) (hown : w.ownsRow base e size v n xs)
    (ad : Addr) (m c : Nat) (news : List Value) (hx : a.eval x = .slice (some ad) m c) (hl : news.length = m * size) (hnews : ∀ j u, news[j]? = some u → w.cell? (ad.add j) = some u) (h1 : ∀ u ∈ news, u.oneCell' = true)
    (h63 : n + m ≤ maxLen) (hbytes : (n + m) * bytes ≤ 140737488355328) (hbase : base ≤ w.heap.size)
    (h : ∀ v' w', w'.ownsRow base e size v' (n + m) (xs ++ news) → w.grownBy w' v.ownBlock → (v'.ownBlock = v.ownBlock ∨ v'.ownBlock = some w.heap.size) → K (a.put o.dst v') w') :
    if Region.wanted o (yielded ops a.tmps) = true then Oper.wp P o a w K Q else E := by
  have hw : Region.wanted o (yielded ops a.tmps) = true := by simp [Region.wanted, hgd]
  rw [if_pos hw]
  obtain ⟨v', w', hr, h2, h3, _, h5⟩ := run_append_own_at (P := P) w base t o.type e i z size bytes ht hi hz hsize hby hzs hsz v n xs hown ad m c news hl hnews h1 h63 hbytes hbase
  unfold Oper.wp execOp
  simp only [ho, resolve, invoke, builtin, Sem.run_bind, Sem.run_pure, Result.andThen_ok, List.map_toArray, List.map_cons, List.map_nil, hs, hx, hr]
  exact h v' w' h2 h3 h5

end Go.Proofs.YtedinkoapieakaaDoor

/- The document's own parser: select: the contract, at every state. -/
namespace Go.Proofs.YtedinkoapieakaaDoor
open Go.ChangeShapes Go.WideShapes Go.ChangeAt Go.RowKit

theorem Firm.rowr {α D : Type} {K : Kind α D} {lo : Nat} {e : TypeId} {size : Nat} {x : SL} {l : List α} : Firm lo (fun W => RowIs K lo e size W x l) := fun _ _ _ r k h => h.keep k r

set_option maxRecDepth 100000 in
set_option maxHeartbeats 16000000 in
theorem selectHere_stm (c : RC) : StmOfr 57 c chooseP := by
  intro w s h
  have hR := h.lt
  have HH := hide h
  have e1 : (w.alloc zeroStm).heap.size = w.heap.size + 1 := by simp
  have hT := init_there (w.alloc zeroStm) (⟨6, ⟨#[]⟩, ⟨#[]⟩, ⟨#[]⟩, noSL, noSL, noSL, noSL, noED, noED, noSL, noSL, false, 0⟩ : SD)
  have hI := SVr.init (h.alloc zeroStm).here (⟨6, ⟨#[]⟩, ⟨#[]⟩, ⟨#[]⟩, noSL, noSL, noSL, noSL, noED, noED, noSL, noSL, false, 0⟩ : SD)
  rw [e1] at hT hI
  obtain ⟨wi, ei, hRi, HI⟩ := hI
  have Hei := hide ei
  have HT := hide hT
  clear e1 ei hT
  have cS := hide (fun W vs K h => takess (c := c) [42] ⟨#[42]⟩ rfl (by decide) (w0 := w.alloc zeroStm) (T := w.heap.size + 1) (W := W) (s := s) (vs := vs) (K := K) h)
  unfold chooseP
  have hi1 : itemsP s = if (mayBe [42] [] s).1 then ([], (mayBe [42] [] s).2) else exprsP (mayBe [42] [] s).2 := rfl
  generalize itemsP s = p at hi1 ⊢
  obtain ⟨l1, s1⟩ := p
  have H1 := hide hi1
  clear hi1
  generalize mayBe [42] [] s = p at cS H1
  obtain ⟨b1, t1⟩ := p
  simp only at cS H1 ⊢
  have cE := hide (fun W vs K h => (exprs_r c).call (w0 := w.alloc zeroStm) (T := w.heap.size + 1) (W := W) (s := t1) (vs := vs) (L := K) h)
  generalize exprsP t1 = p at cE H1
  clear h
  have cN_2 := hide (fun W vs K h => needss (c := c) [102, 114, 111, 109] ⟨#[102, 114, 111, 109]⟩ rfl (by decide) (w0 := w.alloc zeroStm) (T := w.heap.size + 1) (W := W) (s := s1) (vs := vs) (K := K) h)
  generalize needs [[102, 114, 111, 109]] s1 = s2 at cN_2 ⊢
  have cM_2 := hide (fun W vs K h => nameHeres (c := c) (w0 := w.alloc zeroStm) (T := w.heap.size + 1) (W := W) (s := s2) (vs := vs) (K := K) h)
  generalize nameP s2 = p_2 at cM_2 ⊢
  obtain ⟨n1, s3⟩ := p_2
  simp only at cM_2 ⊢
  have cJ_2 := hide (fun W vs K h => takess (c := c) [106, 111, 105, 110] ⟨#[106, 111, 105, 110]⟩ rfl (by decide) (w0 := w.alloc zeroStm) (T := w.heap.size + 1) (W := W) (s := s3) (vs := vs) (K := K) h)
  have hi1 : joinP s3 = if (mayBe [106, 111, 105, 110] [] s3).1 then (((nameP (mayBe [106, 111, 105, 110] [] s3).2).1, (exprP (needs [[111, 110]] (nameP (mayBe [106, 111, 105, 110] [] s3).2).2)).1), (exprP (needs [[111, 110]] (nameP (mayBe [106, 111, 105, 110] [] s3).2).2)).2) else (([], noEx), (mayBe [106, 111, 105, 110] [] s3).2) := rfl
  generalize joinP s3 = p_2 at hi1 ⊢
  obtain ⟨⟨n2, a1⟩, s4⟩ := p_2
  have H1_2 := hide hi1
  clear hi1
  generalize mayBe [106, 111, 105, 110] [] s3 = p_2 at cJ_2 H1_2
  obtain ⟨b1_2, t1_2⟩ := p_2
  simp only at cJ_2 H1_2 ⊢
  have cM2_2 := hide (fun W vs K h => nameHeres (c := c) (w0 := w.alloc zeroStm) (T := w.heap.size + 1) (W := W) (s := t1_2) (vs := vs) (K := K) h)
  generalize nameP t1_2 = p_2 at cM2_2 H1_2
  obtain ⟨m2_2, t2_2⟩ := p_2
  have cN2_2 := hide (fun (W : World) vs K h => needss (c := c) [111, 110] ⟨#[111, 110]⟩ rfl (by decide) (w0 := w.alloc zeroStm) (T := w.heap.size + 1) (W := W) (s := t2_2) (vs := vs) (K := K) h)
  simp only at cM2_2 H1_2
  generalize needs [[111, 110]] t2_2 = t3_2 at cN2_2 H1_2
  have cX_2 := hide (fun W vs K h => exprsr (fun k => orHere_is c k) (w0 := w.alloc zeroStm) (T := w.heap.size + 1) (W := W) (s := t3_2) (vs := vs) (K := K) h)
  generalize exprP t3_2 = p_2 at cX_2 H1_2
  obtain ⟨a0_2, t4_2⟩ := p_2
  simp only at cX_2 H1_2
  have cW_3 := hide (fun W vs K h => exprsr (fun k => whereHere_part c k) (w0 := w.alloc zeroStm) (T := w.heap.size + 1) (W := W) (s := s4) (vs := vs) (K := K) h)
  generalize whereP s4 = p_3 at cW_3 ⊢
  obtain ⟨a2, s5⟩ := p_3
  simp only at cW_3 ⊢
  have cG_3 := hide (fun W vs K h => takess (c := c) [103, 114, 111, 117, 112] ⟨#[103, 114, 111, 117, 112]⟩ rfl (by decide) (w0 := w.alloc zeroStm) (T := w.heap.size + 1) (W := W) (s := s5) (vs := vs) (K := K) h)
  rw [may_eq (by decide)] at cG_3
  simp only [needs] at cG_3
  have hi1 : groupsP s5 = if isOne [[103, 114, 111, 117, 112]] (s5).next then listP columnOfP comma (needs [[98, 121]] (s5).adv) else ([], s5) := by
    unfold groupsP
    rw [may_eq (by decide)]
    cases isOne [[103, 114, 111, 117, 112]] (s5).next <;> rfl
  generalize groupsP s5 = p_3 at hi1 ⊢
  obtain ⟨l2, s6⟩ := p_3
  have H1_3 := hide hi1
  clear hi1
  generalize isOne [[103, 114, 111, 117, 112]] (s5).next = b1_3 at cG_3 H1_3
  have cB_3 := hide (fun W vs K h => needss (c := c) [98, 121] ⟨#[98, 121]⟩ rfl (by decide) (w0 := w.alloc zeroStm) (T := w.heap.size + 1) (W := W) (s := (s5).adv) (vs := vs) (K := K) h)
  generalize needs [[98, 121]] (s5).adv = t1_3 at cB_3 H1_3
  simp only at cG_3 H1_3 ⊢
  have cG_4 := hide (fun W vs K h => takess (c := c) [111, 114, 100, 101, 114] ⟨#[111, 114, 100, 101, 114]⟩ rfl (by decide) (w0 := w.alloc zeroStm) (T := w.heap.size + 1) (W := W) (s := s6) (vs := vs) (K := K) h)
  rw [may_eq (by decide)] at cG_4
  simp only [needs] at cG_4
  have hi1 : ordersP s6 = if isOne [[111, 114, 100, 101, 114]] (s6).next then listP orderP comma (needs [[98, 121]] (s6).adv) else ([], s6) := by
    unfold ordersP
    rw [may_eq (by decide)]
    cases isOne [[111, 114, 100, 101, 114]] (s6).next <;> rfl
  generalize ordersP s6 = p_4 at hi1 ⊢
  obtain ⟨l3, s7⟩ := p_4
  have H1_4 := hide hi1
  clear hi1
  generalize isOne [[111, 114, 100, 101, 114]] (s6).next = b1_4 at cG_4 H1_4
  have cB_4 := hide (fun W vs K h => needss (c := c) [98, 121] ⟨#[98, 121]⟩ rfl (by decide) (w0 := w.alloc zeroStm) (T := w.heap.size + 1) (W := W) (s := (s6).adv) (vs := vs) (K := K) h)
  generalize needs [[98, 121]] (s6).adv = t1_4 at cB_4 H1_4
  simp only at cG_4 H1_4 ⊢
  have cG_5 := hide (fun W vs K h => takess (c := c) [108, 105, 109, 105, 116] ⟨#[108, 105, 109, 105, 116]⟩ rfl (by decide) (w0 := w.alloc zeroStm) (T := w.heap.size + 1) (W := W) (s := s7) (vs := vs) (K := K) h)
  have hi1 : limitP s7 = if (mayBe [108, 105, 109, 105, 116] [] s7).1 then ((true, (numberP (mayBe [108, 105, 109, 105, 116] [] s7).2).1), (numberP (mayBe [108, 105, 109, 105, 116] [] s7).2).2) else ((false, 0), (mayBe [108, 105, 109, 105, 116] [] s7).2) := rfl
  generalize limitP s7 = p_5 at hi1 ⊢
  obtain ⟨⟨lb, ln⟩, s8⟩ := p_5
  have H1_5 := hide hi1
  clear hi1
  generalize mayBe [108, 105, 109, 105, 116] [] s7 = p_5 at cG_5 H1_5
  obtain ⟨b1_5, t1_5⟩ := p_5
  simp only at cG_5 H1_5 ⊢
  have cL_5 := hide (fun W vs K h => numberHeres (c := c) (w0 := w.alloc zeroStm) (T := w.heap.size + 1) (W := W) (s := t1_5) (vs := vs) (K := K) h)
  generalize numberP t1_5 = p_5 at cL_5 H1_5
  obtain ⟨m1_5, t2_5⟩ := p_5
  simp only at cL_5 H1_5
  go_enter Tryd.func57, Tryd.ntmps57
  go_upto_if 9 with (first
    | (refine wpList_store_mid rfl 38 (.tmp 3) (.tmp 6) rfl (w.heap.size + 1) 0 (stmCells (⟨6, ⟨#[]⟩, ⟨#[]⟩, ⟨#[]⟩, noSL, noSL, noSL, noSL, noED, noED, noSL, noSL, false, 0⟩ : SD)).toArray rfl rfl HT.out (stm_size _) (stm_one _) ?_; rw [Hei.out])
    | (go_at_call 50; refine (cS.out _ _ _ HI).mono ?_; rintro e w1 ⟨rfl, hR1, HB⟩))
  go_cut [] from 4 (fun wc => c.R < wc.heap.size ∧ Hid (∃ y, SVr c (w.alloc zeroStm) (w.heap.size + 1) wc s1 (stmCells (⟨6, ⟨#[]⟩, ⟨#[]⟩, ⟨#[]⟩, noSL, noSL, y, noSL, noED, noED, noSL, noSL, false, 0⟩ : SD)) (fun W => RowIs kEx (w.heap.size + 1 + 1) 35 8 W y l1)))
  case first =>
    cases b1 with
    | true =>
      have HE : Hid (l1 = [] ∧ s1 = t1) := by have := H1.out; simp only [if_true] at this; cases this; exact ⟨rfl, rfl⟩
      go_wp2
      go_meet
      obtain ⟨rfl, rfl⟩ := HE.out
      exact ⟨hR1, noSL, HB.out.conv (RowIs.nil _ _ _ _ _) Firm.rowr⟩
    | false =>
      have HE : Hid ((l1, s1) = p) := by have := H1.out; simp only [Bool.false_eq_true, if_false] at this; exact this
      go_wp2_with (go_at_call 54; refine (cE.out _ _ _ HB).mono ?_; rintro e w2 ⟨y, rfl, hR2, HB2⟩; have x6 := HB2.out.var.2.1 6 _ rfl; have xf6 := HB2.out.var.2.2; have HB3 : Hid (SVr c (w.alloc zeroStm) (w.heap.size + 1) _ _ (stmCells (⟨6, ⟨#[]⟩, ⟨#[]⟩, ⟨#[]⟩, noSL, noSL, y, noSL, noED, noED, noSL, noSL, false, 0⟩ : SD)) _) := HB2.out.put (j := 6) (show 6 < 28 by decide) (.slice y.ao y.n y.cap))
      go_meet
      refine ⟨by simp [World.setCell]; exact hR2, y, ?_⟩
      obtain ⟨l, s2⟩ := p
      cases HE.out
      exact HB3.out.conv HB3.out.k.2 Firm.rowr
  case rest =>
    obtain ⟨hRc, HC⟩ := hcut
    obtain ⟨y, hC⟩ := HC.out
    have HA := hide hC
    clear HC hC cS cE H1 HB HI Hei HT hRi hR1
    go_upto_if 19 with (first
      | (go_at_call 52; refine (cN_2.out _ _ _ HA).mono ?_; rintro e w1 ⟨rfl, hR1, HB⟩)
      | (go_at_call 53; refine (cM_2.out _ _ _ HB).mono ?_; rintro e w2 ⟨rfl, hR2, HB2⟩; have x2 := HB2.out.var.2.1 2 _ rfl; have xf2 := HB2.out.var.2.2; have HB3 : Hid (SVr c (w.alloc zeroStm) (w.heap.size + 1) _ _ (stmCells (⟨6, ⟨#[]⟩, str n1, ⟨#[]⟩, noSL, noSL, y, noSL, noED, noED, noSL, noSL, false, 0⟩ : SD)) _) := HB2.out.put (j := 2) (show 2 < 28 by decide) (.string (str n1)))
      | (go_at_call 50; refine (cJ_2.out _ _ _ HB3).mono ?_; rintro e w3 ⟨rfl, hR3, HB4⟩))
    go_cut [] from 4 (fun wc => c.R < wc.heap.size ∧ Hid (∃ d, SVr c (w.alloc zeroStm) (w.heap.size + 1) wc s4 (stmCells (⟨6, ⟨#[]⟩, str n1, str n2, noSL, noSL, y, noSL, d, noED, noSL, noSL, false, 0⟩ : SD)) (fun W => RowIs kEx (w.heap.size + 1 + 1) 35 8 W y l1 ∧ IsEx (fun b => w.heap.size + 1 + 1 ≤ b) W a1 d)))
    case first =>
      cases b1_2 with
      | false =>
        have HE : Hid (n2 = [] ∧ a1 = noEx ∧ s4 = t1_2) := by have := H1_2.out; simp only [Bool.false_eq_true, if_false] at this; cases this; exact ⟨rfl, rfl, rfl⟩
        go_wp2
        go_meet
        obtain ⟨rfl, rfl, rfl⟩ := HE.out
        exact ⟨hR3, noED, HB4.out.conv ⟨HB4.out.k, IsEx.none _ _⟩ (Firm.rowr.and Firm.ex)⟩
      | true =>
        have HE : Hid (n2 = m2_2 ∧ a1 = a0_2 ∧ s4 = t4_2) := by have := H1_2.out; simp only [if_true] at this; cases this; exact ⟨rfl, rfl, rfl⟩
        obtain ⟨rfl, rfl, rfl⟩ := HE.out
        go_wp2_with (first
          | (go_at_call 53; refine (cM2_2.out _ _ _ HB4).mono ?_; rintro e w4 ⟨rfl, hR4, HB5⟩; have x3 := HB5.out.var.2.1 3 _ rfl; have xf3 := HB5.out.var.2.2; have HB6 : Hid (SVr c (w.alloc zeroStm) (w.heap.size + 1) _ _ (stmCells (⟨6, ⟨#[]⟩, str n1, str n2, noSL, noSL, y, noSL, noED, noED, noSL, noSL, false, 0⟩ : SD)) _) := HB5.out.put (j := 3) (show 3 < 28 by decide) (.string (str n2)))
          | (go_at_call 52; refine (cN2_2.out _ _ _ HB6).mono ?_; rintro e w5 ⟨rfl, hR5, HB7⟩)
          | (go_at_call 55; refine (cX_2.out _ _ _ HB7).mono ?_; rintro e w6 ⟨d, rfl, hR6, HB8⟩)
          | (refine wpList_store_mid rfl 35 (.tmp 27) (.tmp 26) rfl (w.heap.size + 1) 8 (exCells d).toArray rfl rfl (HB8.out.var.there (show 8 + 8 ≤ 28 by decide)) (ex_size _) (ex_one _) ?_; obtain ⟨w7, ex, hRx, HB9⟩ := HB8.out.putEx 8 d (show 8 + 8 ≤ 28 by decide) (us := stmCells (⟨6, ⟨#[]⟩, str n1, str n2, noSL, noSL, y, noSL, d, noED, noSL, noSL, false, 0⟩ : SD)) rfl; rw [ex]; clear ex))
        go_meet
        exact ⟨hRx, d, HB9.out.conv HB9.out.k (Firm.rowr.and Firm.ex)⟩
    case rest =>
      obtain ⟨hRc2, HC⟩ := hcut
      obtain ⟨d, hC⟩ := HC.out
      have HA2 := hide hC
      clear HC hC cN_2 cM_2 cJ_2 cM2_2 cN2_2 cX_2 H1_2 HA HB HB2 HB3 HB4 hRc hR1 hR2 hR3 x2 xf2
      go_upto_if 32 with (first
        | (go_at_call 56; refine (cW_3.out _ _ _ HA2).mono ?_; rintro e w1 ⟨d2, rfl, hR1, HB⟩)
        | (refine wpList_store_mid rfl 35 (.tmp 30) (.tmp 29) rfl (w.heap.size + 1) 16 (exCells d2).toArray rfl rfl (HB.out.var.there (show 16 + 8 ≤ 28 by decide)) (ex_size _) (ex_one _) ?_; obtain ⟨w2, ex, hRx, HB2⟩ := HB.out.putEx 16 d2 (show 16 + 8 ≤ 28 by decide) (us := stmCells (⟨6, ⟨#[]⟩, str n1, str n2, noSL, noSL, y, noSL, d, d2, noSL, noSL, false, 0⟩ : SD)) rfl; rw [ex]; clear ex)
        | (go_at_call 50; refine (cG_3.out _ _ _ HB2).mono ?_; rintro e w3 ⟨rfl, hR3, HB3⟩))
      go_cut [] from 4 (fun wc => c.R < wc.heap.size ∧ Hid (∃ g, SVr c (w.alloc zeroStm) (w.heap.size + 1) wc s6 (stmCells (⟨6, ⟨#[]⟩, str n1, str n2, noSL, noSL, y, noSL, d, d2, g, noSL, false, 0⟩ : SD)) (fun W => ((RowIs kEx (w.heap.size + 1 + 1) 35 8 W y l1 ∧ IsEx (fun b => w.heap.size + 1 + 1 ≤ b) W a1 d) ∧ IsEx (fun b => w.heap.size + 1 + 1 ≤ b) W a2 d2) ∧ RowIs kEx (w.heap.size + 1 + 1) 35 8 W g l2)))
      case first =>
        cases b1_3 with
        | false =>
          have HE : Hid (l2 = [] ∧ s6 = s5) := by have := H1_3.out; simp only [Bool.false_eq_true, if_false] at this; cases this; exact ⟨rfl, rfl⟩
          simp only [Bool.false_eq_true, if_false] at HB3
          go_wp2
          go_meet
          obtain ⟨rfl, rfl⟩ := HE.out
          exact ⟨hR3, noSL, HB3.out.conv ⟨HB3.out.k, RowIs.nil _ _ _ _ _⟩ (((Firm.rowr.and Firm.ex).and Firm.ex).and Firm.rowr)⟩
        | true =>
          have HE : Hid ((l2, s6) = listP columnOfP comma t1_3) := by have := H1_3.out; simp only [if_true] at this; exact this
          simp only [if_true] at HB3
          obtain ⟨i0, hi0, hz0, hz1, hz2⟩ := info_parts Tryd.infoListEx
          have cF := hide (fun V vs K h => OneR.first (column_r c) (w0 := w.alloc zeroStm) (T := w.heap.size + 1) (V := V) (s := t1_3) (vs := vs) (K := K) h)
          have HL : Hid (listLoop columnOfP comma ((columnOfP t1_3).2.len + 1) [(columnOfP t1_3).1] (columnOfP t1_3).2 = (l2, s6)) := HE.out.symm
          generalize columnOfP t1_3 = q at cF HL
          obtain ⟨q0, sq⟩ := q
          simp only at cF HL
          clear HE H1_3 cG_3 cW_3
          go_wp2_with (first
            | (go_at_call 52; refine (cB_3.out _ _ _ HB3).mono ?_; rintro e V ⟨rfl, hRV, HBV⟩)
            | (go_at_call 88; refine (cF.out _ _ _ HBV).mono ?_; rintro e w4 ⟨dq, rfl, hR4, HB4⟩; have x24 := HB4.out.var.2.1 24 _ rfl; have xf24 := HB4.out.var.2.2; have HB5 : Hid (SVr c (w.alloc zeroStm) (w.heap.size + 1) _ _ (stmCells (⟨6, ⟨#[]⟩, str n1, str n2, noSL, noSL, y, noSL, d, d2, ⟨some ⟨w4.heap.size, 0, none⟩, 1, 1⟩, noSL, false, 0⟩ : SD)) _) := HB4.out.put (j := 24) (show 24 < 28 by decide) (.slice (some ⟨w4.heap.size, 0, none⟩) 1 1)))
          have hVT : w.heap.size + 1 + 1 ≤ V.heap.size := HBV.out.size
          have HKV : Hid ((fun W => (RowIs kEx (w.heap.size + 1 + 1) 35 8 W y l1 ∧ IsEx (fun b => w.heap.size + 1 + 1 ≤ b) W a1 d) ∧ IsEx (fun b => w.heap.size + 1 + 1 ≤ b) W a2 d2) V) := HBV.out.k
          go_loopw [] (fun wr => ∃ (g : SL) (l : List Ex) (ds : List ED) (s1 : St), c.R < wr.heap.size ∧ Hid (SVr c (w.alloc zeroStm) (w.heap.size + 1) wr s1 (stmCells (⟨6, ⟨#[]⟩, str n1, str n2, noSL, noSL, y, noSL, d, d2, g, noSL, false, 0⟩ : SD)) (Grows kEx (w.heap.size + 1 + 1) V 35 8 g l ds) ∧ g.n = ds.length ∧ g.n + s1.len ≤ 301 ∧ listLoop columnOfP comma (s1.len + 1) l s1 = (l2, s6))) (fun wr => lenOfr c wr)
          case atStart => exact ⟨_, [q0], [dq], sq, HB5.out.on.lt, HB5.out, rfl, by have := HB5.out.on.len_le; show 1 + _ ≤ 301; omega, HL.out⟩
          case round =>
            obtain ⟨g, l, ds, s1, hRr, HQ⟩ := hrel
            have HM := hide HQ.out.1.on.lenOf
            have H0 : Hid (SVr c (w.alloc zeroStm) (w.heap.size + 1) wr s1 (stmCells (⟨6, ⟨#[]⟩, str n1, str n2, noSL, noSL, y, noSL, d, d2, g, noSL, false, 0⟩ : SD)) (Grows kEx (w.heap.size + 1 + 1) V 35 8 g l ds)) := HQ.out.1
            have cT := takess (c := c) [44] ⟨#[44]⟩ rfl (by decide) H0
            have hcm : mayBe [44] [] s1 = comma s1 := rfl
            rw [hcm] at cT
            clear hcm
            cases hb : (comma s1).1 with
            | false =>
              have HN : Hid ((l2, s6) = (l, (comma s1).2)) := by
                have := HQ.out.2.2.2
                rw [listLoop_end hb] at this
                exact this.symm
              rw [hb] at cT
              have HG := hide HQ.out.2
              generalize (comma s1).2 = s2 at cT HN
              clear HQ hb
              go_wp2_with (go_at_call 50; refine cT.mono ?_; rintro e w5 ⟨rfl, hR5, HB6⟩)
              go_meet
              cases HN.out
              exact ⟨hR5, g, HB6.out.conv ⟨HB6.out.k.1.back ((Held.row.and Held.ex).and Held.ex) HKV.out, HB6.out.k.row hVT HG.out.1 (by have := HG.out.2.1; omega)⟩ (((Firm.rowr.and Firm.ex).and Firm.ex).and Firm.rowr)⟩
            | true =>
              have HE : Hid (listLoop columnOfP comma ((columnOfP (comma s1).2).2.len + 1) (l ++ [(columnOfP (comma s1).2).1]) (columnOfP (comma s1).2).2 = (l2, s6)) := by
                have := HQ.out.2.2.2
                rw [listLoop_on columnOfP_shrinks comma_takes hb] at this
                exact this
              have hl1 := comma_takes s1 hb
              have hl2 := columnOfP_shrinks (comma s1).2
              have hq4 := HQ.out.2.2.1
              have HN := hide HQ.out.2.1
              rw [hb] at cT
              have cC := hide (fun W h => OneR.grow (column_r c) (K' := kEx) (w0 := w.alloc zeroStm) (T := w.heap.size + 1) (V := V) (W := W) (s := (comma s1).2) (vs := stmCells (⟨6, ⟨#[]⟩, str n1, str n2, noSL, noSL, y, noSL, d, d2, g, noSL, false, 0⟩ : SD)) (e := 35) (size := 8) (x := g) (l := l) (ds := ds) h)
              generalize columnOfP (comma s1).2 = q at cC HE hl2
              obtain ⟨a0, s3⟩ := q
              generalize (comma s1).2 = s2 at cT cC hl1 hl2
              simp only at cC HE hl2
              have hm1 : s3.len < s1.len := by omega
              have hm2 : g.n + 1 + s3.len ≤ 301 := by omega
              clear HQ hb hl1 hl2 hq4
              go_wp2_with (go_at_call 50; refine cT.mono ?_; rintro e w5 ⟨rfl, hR5, HB6⟩; have HD := hide HB6.out.drew; have t24 := HD.out.var.2.1 24 _ rfl)
              go_region_law (first
                | (refine step_append_at _ rfl (.tmp 42) (.tmp 45) 30 rfl V.heap.size 35 i0 (.agg #[.int .i64 0, .int .i64 0, .int .i64 0, .string ⟨#[]⟩, .string ⟨#[]⟩, .string ⟨#[]⟩, .int .i64 0, .slice none 0 0]) 8 104 Tryd.underlying30 hi0 hz0 hz1 hz2 rfl (by decide) (.slice g.ao g.n g.cap) g.n (ds.flatMap kEx.cel) (by first | rfl | simp [Act.eval, Act.put]) (SVr.owns HB7.out.1 HN.out _) ⟨w6.heap.size, 0, none⟩ 1 1 (kEx.cel d3) (by first | rfl | simp [Act.eval, Act.put]) rfl (cells_newEx w6 d3 _) (kEx.one d3) (by unfold maxLen; omega) (by omega) (by have := HB7.out.1.k.1.1; simp; omega) ?_; intro vv w7 hown hgrow hblk; obtain ⟨ao2, cap2, rfl, HB8⟩ := SVr.app HB7.out.1 hVT HB7.out.2 HN.out hown hgrow hblk; have u24 := HB8.out.var.2.1 24 _ rfl; have uf := HB8.out.var.2.2; clear hown hgrow hblk)
                | (go_simp; go_at_call 88; (with_reducible refine (cC.out _ HD).mono ?_); rintro e w6 ⟨d3, rfl, hR6, HB7⟩; have v24 := HB7.out.1.var.2.1 24 _ rfl; have v24a := (HB7.out.1.alloc (.cells #[.int .i64 d3.op, .int .i64 d3.vk, .int .i64 d3.vi, .string d3.vt, .string d3.tb, .string d3.nm, .int .i64 0, .slice d3.ao d3.n d3.cap] 35)).var.2.1 24 _ rfl; dsimp only))
              all_goals
                have HB9 : Hid (SVr c (w.alloc zeroStm) (w.heap.size + 1) _ _ (stmCells (⟨6, ⟨#[]⟩, str n1, str n2, noSL, noSL, y, noSL, d, d2, ⟨ao2, g.n + 1, cap2⟩, noSL, false, 0⟩ : SD)) _) := HB8.out.put (j := 24) (show 24 < 28 by decide) (.slice ao2 (g.n + 1) cap2)
                go_roundw
                case rel => exact ⟨_, _, _, _, _, _, _, _, _, ⟨⟨ao2, g.n + 1, cap2⟩, _, _, s3, HB9.out.on.lt, HB9.out, (by have := HN.out; show g.n + 1 = _; rw [this, List.length_append]; rfl), hm2, HE.out⟩, rfl⟩
                case measure => rw [HB9.out.on.lenOf, HM.out]; exact hm1
      case rest =>
        obtain ⟨hRc3, HC⟩ := hcut
        obtain ⟨g, hC⟩ := HC.out
        have HA3 := hide hC
        clear HC hC cW_3 cG_3 cB_3 H1_3 HA2 HB HB2 HB3 hRc2 hR1 hRx hR3
        go_upto_if 49 with (go_at_call 50; refine (cG_4.out _ _ _ HA3).mono ?_; rintro e w3 ⟨rfl, hR3, HB3⟩)
        go_cut [] from 4 (fun wc => c.R < wc.heap.size ∧ Hid (∃ o, SVr c (w.alloc zeroStm) (w.heap.size + 1) wc s7 (stmCells (⟨6, ⟨#[]⟩, str n1, str n2, noSL, noSL, y, noSL, d, d2, g, o, false, 0⟩ : SD)) (fun W => (((RowIs kEx (w.heap.size + 1 + 1) 35 8 W y l1 ∧ IsEx (fun b => w.heap.size + 1 + 1 ≤ b) W a1 d) ∧ IsEx (fun b => w.heap.size + 1 + 1 ≤ b) W a2 d2) ∧ RowIs kEx (w.heap.size + 1 + 1) 35 8 W g l2) ∧ RowIs kOrd (w.heap.size + 1 + 1) 76 2 W o l3)))
        case first =>
          cases b1_4 with
          | false =>
            have HE : Hid (l3 = [] ∧ s7 = s6) := by have := H1_4.out; simp only [Bool.false_eq_true, if_false] at this; cases this; exact ⟨rfl, rfl⟩
            simp only [Bool.false_eq_true, if_false] at HB3
            go_wp2
            go_meet
            obtain ⟨rfl, rfl⟩ := HE.out
            exact ⟨hR3, noSL, HB3.out.conv ⟨HB3.out.k, RowIs.nil _ _ _ _ _⟩ ((((Firm.rowr.and Firm.ex).and Firm.ex).and Firm.rowr).and Firm.rowr)⟩
          | true =>
            have HE : Hid ((l3, s7) = listP orderP comma t1_4) := by have := H1_4.out; simp only [if_true] at this; exact this
            simp only [if_true] at HB3
            obtain ⟨i0, hi0, hz0, hz1, hz2⟩ := info_parts Tryd.infoListOrd
            have HL : Hid (listLoop orderP comma ((orderP t1_4).2.len + 1) [(orderP t1_4).1] (orderP t1_4).2 = (l3, s7)) := HE.out.symm
            clear HE H1_4 cG_4
            go_wp2_with (go_at_call 52; refine (cB_4.out _ _ _ HB3).mono ?_; rintro e V ⟨rfl, hRV, HBV⟩)
            have hVT : w.heap.size + 1 + 1 ≤ V.heap.size := HBV.out.size
            have HKV : Hid ((fun W => ((RowIs kEx (w.heap.size + 1 + 1) 35 8 W y l1 ∧ IsEx (fun b => w.heap.size + 1 + 1 ≤ b) W a1 d) ∧ IsEx (fun b => w.heap.size + 1 + 1 ≤ b) W a2 d2) ∧ RowIs kEx (w.heap.size + 1 + 1) 35 8 W g l2) V) := HBV.out.k
            have HS : Hid (SVr c (w.alloc zeroStm) (w.heap.size + 1) V t1_4 (stmCells (⟨6, ⟨#[]⟩, str n1, str n2, noSL, noSL, y, noSL, d, d2, g, noSL, false, 0⟩ : SD)) (Grows kOrd (w.heap.size + 1 + 1) V 76 2 noSL [] [])) := HBV.out.conv (Grows.nil _ _ _ _ _) (Grows.firm hVT)
            go_loopw [4] (fun v wr => ∃ (b : Bool) (o : SL) (l : List (Int × Bool)) (ds : List (Int × Bool)) (s1 : St), v = .bool b ∧ c.R < wr.heap.size ∧ Hid (SVr c (w.alloc zeroStm) (w.heap.size + 1) wr s1 (stmCells (⟨6, ⟨#[]⟩, str n1, str n2, noSL, noSL, y, noSL, d, d2, g, o, false, 0⟩ : SD)) (Grows kOrd (w.heap.size + 1 + 1) V 76 2 o l ds) ∧ o.n = ds.length ∧ (b = true → o.n = 0 ∧ l = [] ∧ s1 = t1_4) ∧ (b = false → o.n + s1.len ≤ 301 ∧ listLoop orderP comma (s1.len + 1) l s1 = (l3, s7)))) (fun v wr => 2 * lenOfr c wr + (match v with | .bool true => 1 | _ => 0))
            case atStart => exact ⟨true, noSL, [], [], t1_4, rfl, hRV, HS.out, rfl, (fun _ => ⟨rfl, rfl, rfl⟩), (fun h => by cases h)⟩
            case round =>
              obtain ⟨b, o, l, ds, s1, rfl, hRr, HQ⟩ := hrel
              have HM := hide HQ.out.1.on.lenOf
              have H0 : Hid (SVr c (w.alloc zeroStm) (w.heap.size + 1) wr s1 (stmCells (⟨6, ⟨#[]⟩, str n1, str n2, noSL, noSL, y, noSL, d, d2, g, o, false, 0⟩ : SD)) (Grows kOrd (w.heap.size + 1 + 1) V 76 2 o l ds)) := HQ.out.1
              obtain ⟨go, s2, hgo⟩ : ∃ go s2, (if b then (true, s1) else comma s1) = (go, s2) := ⟨_, _, rfl⟩
              have HG := hide hgo
              clear hgo
              go_upto_region 19 with (fail)
              go_cut [56] from 52 to 67 (fun v W => v = .bool go ∧ c.R < W.heap.size ∧ Hid (SVr c (w.alloc zeroStm) (w.heap.size + 1) W s2 (stmCells (⟨6, ⟨#[]⟩, str n1, str n2, noSL, noSL, y, noSL, d, d2, g, o, false, 0⟩ : SD)) (Grows kOrd (w.heap.size + 1 + 1) V 76 2 o l ds)))
              case first =>
                cases b with
                | true =>
                  have h1 : true = go ∧ s1 = s2 := by have := HG.out; simp only [if_true] at this; cases this; exact ⟨rfl, rfl⟩
                  obtain ⟨rfl, rfl⟩ := h1
                  go_wp2
                  go_meet
                  exact ⟨rfl, hRr, H0⟩
                | false =>
                  have cT := takess (c := c) [44] ⟨#[44]⟩ rfl (by decide) H0
                  have hcm : mayBe [44] [] s1 = (go, s2) := by have := HG.out; simp only [Bool.false_eq_true, if_false] at this; exact this
                  rw [hcm] at cT
                  simp only at cT
                  go_wp2_with (go_at_call 50; refine cT.mono ?_; rintro e w5 ⟨rfl, hR5, HB6⟩)
                  go_meet
                  exact ⟨rfl, hR5, HB6⟩
              case rest =>
                obtain ⟨rfl, hRc2, HC⟩ := hcut
                cases go with
                | false =>
                  have hbs : b = false ∧ comma s1 = (false, s2) := by
                    have := HG.out
                    cases b with
                    | true => simp only [if_true] at this; cases this
                    | false => simp only [Bool.false_eq_true, if_false] at this; exact ⟨rfl, this⟩
                  have HN : Hid ((l3, s7) = (l, s2) ∧ o.n ≤ 301 ∧ o.n = ds.length) := by
                    obtain ⟨h1, h2⟩ := HQ.out.2.2.2 hbs.1
                    rw [listLoop_end (by rw [hbs.2]), hbs.2] at h2
                    exact ⟨h2.symm, by omega, HQ.out.2.1⟩
                  clear HQ hbs HG HM H0
                  go_wp2
                  go_meet
                  have h1 := HN.out.1
                  cases h1
                  exact ⟨hRc2, o, HC.out.conv ⟨HC.out.k.1.back (((Held.row.and Held.ex).and Held.ex).and Held.row) HKV.out, HC.out.k.row hVT HN.out.2.2 HN.out.2.1⟩ ((((Firm.rowr.and Firm.ex).and Firm.ex).and Firm.rowr).and Firm.rowr)⟩
                | true =>
                  have HE : Hid (listLoop orderP comma ((orderP s2).2.len + 1) (l ++ [(orderP s2).1]) (orderP s2).2 = (l3, s7) ∧ o.n + 1 + (orderP s2).2.len ≤ 301 ∧ 2 * (orderP s2).2.len < 2 * s1.len + (match Value.bool b with | .bool true => 1 | _ => 0)) := by
                    have hsh := orderP_shrinks s2
                    have hle := HC.out.on.len_le
                    cases b with
                    | true =>
                      have h1 : s1 = s2 := by have := HG.out; simp only [if_true] at this; cases this; rfl
                      subst h1
                      obtain ⟨h2, rfl, rfl⟩ := HQ.out.2.2.1 rfl
                      exact ⟨HL.out, by omega, by show _ < 2 * s1.len + 1; omega⟩
                    | false =>
                      have h1 : comma s1 = (true, s2) := by have := HG.out; simp only [Bool.false_eq_true, if_false] at this; exact this
                      obtain ⟨h2, h3⟩ := HQ.out.2.2.2 rfl
                      have h4 := comma_takes s1 (by rw [h1])
                      rw [listLoop_on orderP_shrinks comma_takes (by rw [h1]), h1] at h3
                      rw [h1] at h4
                      exact ⟨h3, by simp only at h4; omega, by show _ < 2 * s1.len + 0; simp only at h4; omega⟩
                  have HN := hide HQ.out.2.1
                  have cN := hide (fun W vs K h => numberHeres (c := c) (w0 := w.alloc zeroStm) (T := w.heap.size + 1) (W := W) (s := s2) (vs := vs) (K := K) h)
                  have hor : orderP s2 = (((numberP s2).1, (mayBe [100, 101, 115, 99] [] (numberP s2).2).1), (mayBe [100, 101, 115, 99] [] (numberP s2).2).2) := rfl
                  rw [hor] at HE
                  clear hor
                  have cD := hide (fun W vs K h => takess (c := c) [100, 101, 115, 99] ⟨#[100, 101, 115, 99]⟩ rfl (by decide) (w0 := w.alloc zeroStm) (T := w.heap.size + 1) (W := W) (s := (numberP s2).2) (vs := vs) (K := K) h)
                  generalize numberP s2 = q at cN cD HE
                  obtain ⟨m1, s3⟩ := q
                  simp only at cN cD HE
                  generalize mayBe [100, 101, 115, 99] [] s3 = q at cD HE
                  obtain ⟨b3, s4'⟩ := q
                  simp only at cD HE
                  have hn1 : o.n + 1 ≤ 301 := by have := HE.out.2.1; omega
                  clear HQ HG H0
                  go_wp2_with (go_at_call 89; refine (cN.out _ _ _ HC).mono ?_; rintro e w5 ⟨rfl, hR5, HB6⟩; have HD := hide HB6.out.drew; have t25 := HD.out.var.2.1 25 _ rfl)
                  go_region_law (first
                    | (refine step_append_at _ rfl (.tmp 60) (.tmp 65) 36 rfl V.heap.size 76 i0 (.agg #[.int .i64 0, .bool false]) 2 16 Tryd.underlying36 hi0 hz0 hz1 hz2 rfl (by decide) (.slice o.ao o.n o.cap) o.n (ds.flatMap kOrd.cel) (by first | rfl | simp [Act.eval, Act.put]) (SVr.owns HB7.out HN.out _) ⟨w6.heap.size, 0, none⟩ 1 1 (kOrd.cel (m1, b3)) (by first | rfl | simp [Act.eval, Act.put]) rfl (cells_newOrd w6 (m1, b3) _) (kOrd.one (m1, b3)) (by unfold maxLen; omega) (by omega) (by have := HB7.out.k.1.1; simp; omega) ?_; intro vv w7 hown hgrow hblk; obtain ⟨ao2, cap2, rfl, HB8⟩ := SVr.app (K := kOrd) (a := (m1, b3)) (d := (m1, b3)) HB7.out hVT rfl HN.out hown hgrow hblk; have u25 := HB8.out.var.2.1 25 _ rfl; have uf := HB8.out.var.2.2; clear hown hgrow hblk)
                    | (go_simp; go_at_call 50; (with_reducible refine (cD.out _ _ _ HD).mono ?_); rintro e w6 ⟨rfl, hR6, HB7⟩; have v25 := HB7.out.var.2.1 25 _ rfl; have v25a := (HB7.out.alloc (.cells #[.int .i64 m1, .bool b3] 76)).var.2.1 25 _ rfl; dsimp only))
                  all_goals
                    have HB9 : Hid (SVr c (w.alloc zeroStm) (w.heap.size + 1) _ _ (stmCells (⟨6, ⟨#[]⟩, str n1, str n2, noSL, noSL, y, noSL, d, d2, g, ⟨ao2, o.n + 1, cap2⟩, false, 0⟩ : SD)) _) := HB8.out.put (j := 25) (show 25 < 28 by decide) (.slice ao2 (o.n + 1) cap2)
                    go_wp2
                    go_roundw
                    case rel => exact ⟨false, ⟨ao2, o.n + 1, cap2⟩, _, _, s4', rfl, HB9.out.on.lt, HB9.out, (by have := HN.out; show o.n + 1 = _; rw [this, List.length_append]; rfl), (fun h => by cases h), (fun _ => ⟨HE.out.2.1, HE.out.1⟩)⟩
                    case measure => rw [HB9.out.on.lenOf, HM.out]; exact HE.out.2.2
        case rest =>
          obtain ⟨hRc4, HC⟩ := hcut
          obtain ⟨o, hC⟩ := HC.out
          have HA4 := hide hC
          clear HC hC cG_4 cB_4 H1_4 HA3 HB3 hRc3 hR3
          go_upto_if 69 with (go_at_call 50; refine (cG_5.out _ _ _ HA4).mono ?_; rintro e w3 ⟨rfl, hR3, HB3⟩; have x26 := HB3.out.var.2.1 26 _ rfl; have xf26 := HB3.out.var.2.2; have HB4 : Hid (SVr c (w.alloc zeroStm) (w.heap.size + 1) _ _ (stmCells (⟨6, ⟨#[]⟩, str n1, str n2, noSL, noSL, y, noSL, d, d2, g, o, true, 0⟩ : SD)) _) := HB3.out.put (j := 26) (show 26 < 28 by decide) (.bool true))
          go_cut [] from 4 (fun wc => c.R < wc.heap.size ∧ Hid (SVr c (w.alloc zeroStm) (w.heap.size + 1) wc s8 (stmCells (⟨6, ⟨#[]⟩, str n1, str n2, noSL, noSL, y, noSL, d, d2, g, o, lb, ln⟩ : SD)) (fun W => (((RowIs kEx (w.heap.size + 1 + 1) 35 8 W y l1 ∧ IsEx (fun b => w.heap.size + 1 + 1 ≤ b) W a1 d) ∧ IsEx (fun b => w.heap.size + 1 + 1 ≤ b) W a2 d2) ∧ RowIs kEx (w.heap.size + 1 + 1) 35 8 W g l2) ∧ RowIs kOrd (w.heap.size + 1 + 1) 76 2 W o l3)))
          case first =>
            cases b1_5 with
            | false =>
              have HE : Hid (lb = false ∧ ln = 0 ∧ s8 = t1_5) := by have := H1_5.out; simp only [Bool.false_eq_true, if_false] at this; cases this; exact ⟨rfl, rfl, rfl⟩
              go_wp2
              go_meet
              obtain ⟨rfl, rfl, rfl⟩ := HE.out
              exact ⟨hR3, HB3⟩
            | true =>
              have HE : Hid (lb = true ∧ ln = m1_5 ∧ s8 = t2_5) := by have := H1_5.out; simp only [if_true] at this; cases this; exact ⟨rfl, rfl, rfl⟩
              obtain ⟨rfl, rfl, rfl⟩ := HE.out
              go_wp2_with (go_at_call 89; refine (cL_5.out _ _ _ HB4).mono ?_; rintro e w4 ⟨rfl, hR4, HB5⟩; have x27 := HB5.out.var.2.1 27 _ rfl; have xf27 := HB5.out.var.2.2; have HB6 : Hid (SVr c (w.alloc zeroStm) (w.heap.size + 1) _ _ (stmCells (⟨6, ⟨#[]⟩, str n1, str n2, noSL, noSL, y, noSL, d, d2, g, o, true, ln⟩ : SD)) _) := HB5.out.put (j := 27) (show 27 < 28 by decide) (.int .i64 ln))
              go_meet
              exact ⟨by simp [World.setCell]; exact hR4, HB6⟩
          case rest =>
            obtain ⟨hRc5, HL⟩ := hcut
            clear cG_5 cL_5 H1_5 HA4 HB3 HB4 hRc4 hR3 x26 xf26
            go_wp2_with (first
              | (refine wpList_load_mid rfl 38 (.tmp 3) rfl (w.heap.size + 1) 0 rfl (stmCells (⟨6, ⟨#[]⟩, str n1, str n2, noSL, noSL, y, noSL, d, d2, g, o, lb, ln⟩ : SD)) _ HL.out.var.range Tryd.underlying38 rfl (stm_length _) ?_)
              | (refine wpList_store_mid rfl 38 (.tmp 2) (.tmp 74) rfl w.heap.size 0 (stmCells (⟨6, ⟨#[]⟩, str n1, str n2, noSL, noSL, y, noSL, d, d2, g, o, lb, ln⟩ : SD)).toArray rfl rfl (res_therer HL.out.on hR _) (stm_size _) (stm_one _) ?_; obtain ⟨wf, ef, HR, HF⟩ := stm_finr (x := (⟨6, ⟨#[]⟩, str n1, str n2, noSL, noSL, y, noSL, d, d2, g, o, lb, ln⟩ : SD)) (t := ⟨6, [], n1, n2, [], [], l1, [], a1, a2, l2, l3, lb, ln⟩) HH.out HL.out.on (⟨rfl, rfl, rfl, rfl, RowIs.nil _ _ _ _ _, RowIs.nil _ _ _ _ _, HL.out.k.1.1.1.1.weak (Nat.le_succ _), RowIs.nil _ _ _ _ _, HL.out.k.1.1.1.2.low (Nat.le_succ _), HL.out.k.1.1.2.low (Nat.le_succ _), HL.out.k.1.2.weak (Nat.le_succ _), HL.out.k.2.weak (Nat.le_succ _), rfl, rfl⟩); rw [ef]; clear ef))
            exact bodyPost_ret (results_stm rfl rfl HR.out) rfl ⟨_, rfl, HF.out.1, HF.out.2⟩

end Go.Proofs.YtedinkoapieakaaDoor

/- The document's own parser: the statements by their first words: contracts, at every state. -/
namespace Go.Proofs.YtedinkoapieakaaDoor
open Go.ChangeShapes Go.WideShapes Go.ChangeAt Go.RowKit

set_option maxRecDepth 100000 in
set_option maxHeartbeats 16000000 in
theorem any_create (c : RC) (w : World) (s : St) (h : Onr c w w s)  (h0 : isOne [[99, 114, 101, 97, 116, 101]] s.next = true) :
    Calls Tryd.prog 18 #[.pointer (some ⟨c.R, 0, none⟩)] w fun e w' => ∃ (x : SD) (t : Stm), e = .returned (stmval x) ∧ Onr c w w' (createP s.adv).2 ∧ IsStm w.heap.size w' t x ∧ ((createP s.adv).2.ref = false → t = (createP s.adv).1) := by
  have hR := h.lt
  have HH := hide h
  have HS : Hid (Onr c (w.alloc zeroStm) (w.alloc zeroStm) s ∧ True) := ⟨(h.alloc zeroStm).here, trivial⟩
  have cT0 := hide (fun (W : World) (h : Hid (Onr c (w.alloc zeroStm) W s ∧ True)) => takesk (c := c) [99, 114, 101, 97, 116, 101] ⟨#[99, 114, 101, 97, 116, 101]⟩ rfl (by decide) (KeptBy.triv c) h)
  rw [may_yes (b := []) (by decide) h0] at cT0
  simp only [needs] at cT0
  have cX := hide (fun W (h : Hid (Onr c (w.alloc zeroStm) W s.adv ∧ True)) => (createHere_q c W s.adv h.out.1.here).mono (R' := fun e w' => ∃ (x : SD) (t : Stm), e = .returned (stmval x) ∧ Hid (Onr c (w.alloc zeroStm) w' (createP s.adv).2 ∧ IsStm (w.heap.size + 1) w' t x ∧ ((createP s.adv).2.ref = false → t = (createP s.adv).1))) fun e w' ⟨x, t, e1, e2, e3, e4⟩ => ⟨x, t, e1, h.out.1.back e2, e3.weak (by have := h.out.1.size; simp at this; omega), e4⟩)
  clear h
  generalize createP s.adv = p at cX ⊢
  obtain ⟨t1, s2⟩ := p
  simp only at cX ⊢
  go_enter Tryd.func18, Tryd.ntmps18
  go_wp2_with (first
    | (go_at_call 50; (with_reducible refine (cT0.out _ HS).mono ?_); rintro e v0 ⟨rfl, g0, G0⟩)
    | (go_at_call 51; refine (cX.out _ G0).mono ?_; rintro e w2 ⟨x, t, rfl, HB2⟩)
    | (refine wpList_store_mid rfl 38 (.tmp 2) (.tmp 11) rfl w.heap.size 0 (stmCells x).toArray rfl rfl (res_therer HB2.out.1 hR _) (stm_size _) (stm_one _) ?_; obtain ⟨wf, ef, HR, HF⟩ := stm_finr (x := x) (t := t) HH.out HB2.out.1 HB2.out.2.1; rw [ef]; clear ef))
  exact bodyPost_ret (results_stm rfl rfl HR.out) rfl ⟨_, _, rfl, HF.out.1, HF.out.2, HB2.out.2.2⟩

set_option maxRecDepth 100000 in
set_option maxHeartbeats 16000000 in
theorem any_select (c : RC) (w : World) (s : St) (h : Onr c w w s) (h0 : isOne [[99, 114, 101, 97, 116, 101]] s.next = false) (h1 : isOne [[105, 110, 115, 101, 114, 116]] s.next = false) (h2 : isOne [[117, 112, 100, 97, 116, 101]] s.next = false) (h3 : isOne [[100, 101, 108, 101, 116, 101]] s.next = false) (h4 : isOne [[115, 101, 108, 101, 99, 116]] s.next = true) :
    Calls Tryd.prog 18 #[.pointer (some ⟨c.R, 0, none⟩)] w fun e w' => ∃ x : SD, e = .returned (stmval x) ∧ Onr c w w' (chooseP s.adv).2 ∧ IsStm w.heap.size w' (chooseP s.adv).1 x := by
  have hR := h.lt
  have HH := hide h
  have HS : Hid (Onr c (w.alloc zeroStm) (w.alloc zeroStm) s ∧ True) := ⟨(h.alloc zeroStm).here, trivial⟩
  have cT0 := hide (fun (W : World) (h : Hid (Onr c (w.alloc zeroStm) W s ∧ True)) => takesk (c := c) [99, 114, 101, 97, 116, 101] ⟨#[99, 114, 101, 97, 116, 101]⟩ rfl (by decide) (KeptBy.triv c) h)
  rw [may_no h0] at cT0
  have cT1 := hide (fun (W : World) (h : Hid (Onr c (w.alloc zeroStm) W s ∧ True)) => takesk (c := c) [105, 110, 115, 101, 114, 116] ⟨#[105, 110, 115, 101, 114, 116]⟩ rfl (by decide) (KeptBy.triv c) h)
  rw [may_no h1] at cT1
  have cT2 := hide (fun (W : World) (h : Hid (Onr c (w.alloc zeroStm) W s ∧ True)) => takesk (c := c) [117, 112, 100, 97, 116, 101] ⟨#[117, 112, 100, 97, 116, 101]⟩ rfl (by decide) (KeptBy.triv c) h)
  rw [may_no h2] at cT2
  have cT3 := hide (fun (W : World) (h : Hid (Onr c (w.alloc zeroStm) W s ∧ True)) => takesk (c := c) [100, 101, 108, 101, 116, 101] ⟨#[100, 101, 108, 101, 116, 101]⟩ rfl (by decide) (KeptBy.triv c) h)
  rw [may_no h3] at cT3
  have cT4 := hide (fun (W : World) (h : Hid (Onr c (w.alloc zeroStm) W s ∧ True)) => takesk (c := c) [115, 101, 108, 101, 99, 116] ⟨#[115, 101, 108, 101, 99, 116]⟩ rfl (by decide) (KeptBy.triv c) h)
  rw [may_yes (b := []) (by decide) h4] at cT4
  simp only [needs] at cT4
  have cX := hide (fun W (h : Hid (Onr c (w.alloc zeroStm) W s.adv ∧ True)) => (selectHere_stm c W s.adv h.out.1.here).mono (R' := fun e w' => ∃ (x : SD) (t : Stm), e = .returned (stmval x) ∧ Hid (Onr c (w.alloc zeroStm) w' (chooseP s.adv).2 ∧ IsStm (w.heap.size + 1) w' t x ∧ t = (chooseP s.adv).1)) fun e w' ⟨x, e1, e2, e3⟩ => ⟨x, _, e1, h.out.1.back e2, e3.weak (by have := h.out.1.size; simp at this; omega), rfl⟩)
  clear h
  generalize chooseP s.adv = p at cX ⊢
  obtain ⟨t1, s2⟩ := p
  simp only at cX ⊢
  go_enter Tryd.func18, Tryd.ntmps18
  go_wp2_with (first
    | (go_at_call 50; (with_reducible refine (cT0.out _ HS).mono ?_); rintro e v0 ⟨rfl, g0, G0⟩)
    | (go_at_call 50; (with_reducible refine (cT1.out _ G0).mono ?_); rintro e v1 ⟨rfl, g1, G1⟩)
    | (go_at_call 50; (with_reducible refine (cT2.out _ G1).mono ?_); rintro e v2 ⟨rfl, g2, G2⟩)
    | (go_at_call 50; (with_reducible refine (cT3.out _ G2).mono ?_); rintro e v3 ⟨rfl, g3, G3⟩)
    | (go_at_call 50; (with_reducible refine (cT4.out _ G3).mono ?_); rintro e v4 ⟨rfl, g4, G4⟩)
    | (go_at_call 57; refine (cX.out _ G4).mono ?_; rintro e w2 ⟨x, t, rfl, HB2⟩)
    | (refine wpList_store_mid rfl 38 (.tmp 2) (.tmp 73) rfl w.heap.size 0 (stmCells x).toArray rfl rfl (res_therer HB2.out.1 hR _) (stm_size _) (stm_one _) ?_; obtain ⟨wf, ef, HR, HF⟩ := stm_finr (x := x) (t := t) HH.out HB2.out.1 HB2.out.2.1; rw [ef]; clear ef))
  have ht := HB2.out.2.2
  subst ht
  exact bodyPost_ret (results_stm rfl rfl HR.out) rfl ⟨_, rfl, HF.out.1, HF.out.2⟩

set_option maxRecDepth 100000 in
set_option maxHeartbeats 16000000 in
theorem any_insert (c : RC) (w : World) (s : St) (h : Onr c w w s) (h0 : isOne [[99, 114, 101, 97, 116, 101]] s.next = false) (h1 : isOne [[105, 110, 115, 101, 114, 116]] s.next = true) :
    Calls Tryd.prog 18 #[.pointer (some ⟨c.R, 0, none⟩)] w fun e w' => ∃ x : SD, e = .returned (stmval x) ∧ Onr c w w' (insertP s.adv).2 ∧ IsStm w.heap.size w' (insertP s.adv).1 x := by
  have hR := h.lt
  have HH := hide h
  have HS : Hid (Onr c (w.alloc zeroStm) (w.alloc zeroStm) s ∧ True) := ⟨(h.alloc zeroStm).here, trivial⟩
  have cT0 := hide (fun (W : World) (h : Hid (Onr c (w.alloc zeroStm) W s ∧ True)) => takesk (c := c) [99, 114, 101, 97, 116, 101] ⟨#[99, 114, 101, 97, 116, 101]⟩ rfl (by decide) (KeptBy.triv c) h)
  rw [may_no h0] at cT0
  have cT1 := hide (fun (W : World) (h : Hid (Onr c (w.alloc zeroStm) W s ∧ True)) => takesk (c := c) [105, 110, 115, 101, 114, 116] ⟨#[105, 110, 115, 101, 114, 116]⟩ rfl (by decide) (KeptBy.triv c) h)
  rw [may_yes (b := []) (by decide) h1] at cT1
  simp only [needs] at cT1
  have cI := hide (fun (W : World) (h : Hid (Onr c (w.alloc zeroStm) W s.adv ∧ True)) => needsk (c := c) [105, 110, 116, 111] ⟨#[105, 110, 116, 111]⟩ rfl (by decide) (KeptBy.triv c) h)
  unfold insertP
  generalize needs [[105, 110, 116, 111]] s.adv = s2 at cI ⊢
  have cM := hide (fun (W : World) (h : Hid (Onr c (w.alloc zeroStm) W s2 ∧ True)) => nameHerek (KeptBy.triv c) h)
  generalize nameP s2 = p at cM ⊢
  obtain ⟨n1, s3⟩ := p
  simp only [needs_two] at cM ⊢
  have cV := hide (fun T W vs K h => needss (c := c) [118, 97, 108, 117, 101, 115] ⟨#[118, 97, 108, 117, 101, 115]⟩ rfl (by decide) (w0 := w.alloc zeroStm) (T := T) (W := W) (s := s3) (vs := vs) (K := K) h)
  generalize needs [[118, 97, 108, 117, 101, 115]] s3 = s4 at cV ⊢
  have cO := hide (fun T W vs K h => needss (c := c) [40] ⟨#[40]⟩ rfl (by decide) (w0 := w.alloc zeroStm) (T := T) (W := W) (s := s4) (vs := vs) (K := K) h)
  generalize needs [[40]] s4 = s5 at cO ⊢
  have cE := hide (fun T W vs K h => (exprs_r c).call (w0 := w.alloc zeroStm) (T := T) (W := W) (s := s5) (vs := vs) (L := K) h)
  generalize exprsP s5 = p at cE ⊢
  obtain ⟨l1, s6⟩ := p
  simp only at cE ⊢
  have cX := hide (fun T W vs K h => needss (c := c) [41] ⟨#[41]⟩ rfl (by decide) (w0 := w.alloc zeroStm) (T := T) (W := W) (s := s6) (vs := vs) (K := K) h)
  generalize needs [[41]] s6 = s7 at cX ⊢
  clear h
  go_enter Tryd.func18, Tryd.ntmps18
  go_wp2_with (first
    | (go_at_call 50; (with_reducible refine (cT0.out _ HS).mono ?_); rintro e v0 ⟨rfl, g0, G0⟩)
    | (go_at_call 50; (with_reducible refine (cT1.out _ G0).mono ?_); rintro e v1 ⟨rfl, g1, G1⟩)
    | (go_at_call 52; (with_reducible refine (cI.out _ G1).mono ?_); rintro e wt ⟨rfl, hRt, HBt⟩)
    | (go_at_call 53; (with_reducible refine (cM.out _ HBt).mono ?_); rintro e w1 ⟨rfl, hR1, HB⟩)
    | (refine wpList_store_mid rfl 38 (.tmp 3) (.tmp 18) rfl w1.heap.size 0 (stmCells (⟨3, ⟨#[]⟩, str n1, ⟨#[]⟩, noSL, noSL, noSL, noSL, noED, noED, noSL, noSL, false, 0⟩ : SD)).toArray rfl rfl (init_there _ _) (stm_size _) (stm_one _) ?_; obtain ⟨wi, ei, hRi, HI⟩ := SVr.init HB.out.1 (⟨3, ⟨#[]⟩, str n1, ⟨#[]⟩, noSL, noSL, noSL, noSL, noED, noED, noSL, noSL, false, 0⟩ : SD); rw [ei]; clear ei)
    | (go_at_call 52; (with_reducible refine (cV.out _ _ _ _ HI).mono ?_); rintro e w3 ⟨rfl, hR3, HB3⟩)
    | (go_at_call 52; (with_reducible refine (cO.out _ _ _ _ HB3).mono ?_); rintro e w4 ⟨rfl, hR4, HB4⟩)
    | (go_at_call 54; refine (cE.out _ _ _ _ HB4).mono ?_; rintro e w5 ⟨y, rfl, hR5, HB5⟩; have x6 := HB5.out.var.2.1 6 _ rfl; have xf6 := HB5.out.var.2.2; have HB6 : Hid (SVr c (w.alloc zeroStm) w1.heap.size _ _ (stmCells (⟨3, ⟨#[]⟩, str n1, ⟨#[]⟩, noSL, noSL, y, noSL, noED, noED, noSL, noSL, false, 0⟩ : SD)) _) := HB5.out.put (j := 6) (show 6 < 28 by decide) (.slice y.ao y.n y.cap))
    | (go_at_call 52; (with_reducible refine (cX.out _ _ _ _ HB6).mono ?_); rintro e w6 ⟨rfl, hR6, HB7⟩)
    | (refine wpList_load_mid rfl 38 (.tmp 3) rfl w1.heap.size 0 rfl (stmCells (⟨3, ⟨#[]⟩, str n1, ⟨#[]⟩, noSL, noSL, y, noSL, noED, noED, noSL, noSL, false, 0⟩ : SD)) _ HB7.out.var.range Tryd.underlying38 rfl (stm_length _) ?_)
    | (refine wpList_store_mid rfl 38 (.tmp 2) (.tmp 28) rfl w.heap.size 0 (stmCells (⟨3, ⟨#[]⟩, str n1, ⟨#[]⟩, noSL, noSL, y, noSL, noED, noED, noSL, noSL, false, 0⟩ : SD)).toArray rfl rfl (res_therer HB7.out.on hR _) (stm_size _) (stm_one _) ?_; obtain ⟨wf, ef, HR, HF⟩ := stm_finr (x := (⟨3, ⟨#[]⟩, str n1, ⟨#[]⟩, noSL, noSL, y, noSL, noED, noED, noSL, noSL, false, 0⟩ : SD)) (t := { noStm with kind := 3, table := n1, values := l1 }) HH.out HB7.out.on (⟨rfl, rfl, rfl, rfl, RowIs.nil _ _ _ _ _, RowIs.nil _ _ _ _ _, HB7.out.k.2.weak (by have := HB.out.1.size; simp at this; omega), RowIs.nil _ _ _ _ _, IsEx.none _ _, IsEx.none _ _, RowIs.nil _ _ _ _ _, RowIs.nil _ _ _ _ _, rfl, rfl⟩); rw [ef]; clear ef))
  exact bodyPost_ret (results_stm rfl rfl HR.out) rfl ⟨_, rfl, HF.out.1, HF.out.2⟩

set_option maxRecDepth 100000 in
set_option maxHeartbeats 16000000 in
theorem any_delete (c : RC) (w : World) (s : St) (h : Onr c w w s) (h0 : isOne [[99, 114, 101, 97, 116, 101]] s.next = false) (h1 : isOne [[105, 110, 115, 101, 114, 116]] s.next = false) (h2 : isOne [[117, 112, 100, 97, 116, 101]] s.next = false) (h3 : isOne [[100, 101, 108, 101, 116, 101]] s.next = true) :
    Calls Tryd.prog 18 #[.pointer (some ⟨c.R, 0, none⟩)] w fun e w' => ∃ x : SD, e = .returned (stmval x) ∧ Onr c w w' (deleteP s.adv).2 ∧ IsStm w.heap.size w' (deleteP s.adv).1 x := by
  have hR := h.lt
  have HH := hide h
  have HS : Hid (Onr c (w.alloc zeroStm) (w.alloc zeroStm) s ∧ True) := ⟨(h.alloc zeroStm).here, trivial⟩
  have cT0 := hide (fun (W : World) (h : Hid (Onr c (w.alloc zeroStm) W s ∧ True)) => takesk (c := c) [99, 114, 101, 97, 116, 101] ⟨#[99, 114, 101, 97, 116, 101]⟩ rfl (by decide) (KeptBy.triv c) h)
  rw [may_no h0] at cT0
  have cT1 := hide (fun (W : World) (h : Hid (Onr c (w.alloc zeroStm) W s ∧ True)) => takesk (c := c) [105, 110, 115, 101, 114, 116] ⟨#[105, 110, 115, 101, 114, 116]⟩ rfl (by decide) (KeptBy.triv c) h)
  rw [may_no h1] at cT1
  have cT2 := hide (fun (W : World) (h : Hid (Onr c (w.alloc zeroStm) W s ∧ True)) => takesk (c := c) [117, 112, 100, 97, 116, 101] ⟨#[117, 112, 100, 97, 116, 101]⟩ rfl (by decide) (KeptBy.triv c) h)
  rw [may_no h2] at cT2
  have cT3 := hide (fun (W : World) (h : Hid (Onr c (w.alloc zeroStm) W s ∧ True)) => takesk (c := c) [100, 101, 108, 101, 116, 101] ⟨#[100, 101, 108, 101, 116, 101]⟩ rfl (by decide) (KeptBy.triv c) h)
  rw [may_yes (b := []) (by decide) h3] at cT3
  simp only [needs] at cT3
  have cI := hide (fun (W : World) (h : Hid (Onr c (w.alloc zeroStm) W s.adv ∧ True)) => needsk (c := c) [102, 114, 111, 109] ⟨#[102, 114, 111, 109]⟩ rfl (by decide) (KeptBy.triv c) h)
  unfold deleteP
  generalize needs [[102, 114, 111, 109]] s.adv = s2 at cI ⊢
  have cM := hide (fun (W : World) (h : Hid (Onr c (w.alloc zeroStm) W s2 ∧ True)) => nameHerek (KeptBy.triv c) h)
  generalize nameP s2 = p at cM ⊢
  obtain ⟨n1, s3⟩ := p
  simp only at cM ⊢
  have cW := hide (fun T W vs K h => exprsr (fun k => whereHere_part c k) (w0 := w.alloc zeroStm) (T := T) (W := W) (s := s3) (vs := vs) (K := K) h)
  generalize whereP s3 = p at cW ⊢
  obtain ⟨a1, s4⟩ := p
  simp only at cW ⊢
  clear h
  go_enter Tryd.func18, Tryd.ntmps18
  go_wp2_with (first
    | (go_at_call 50; (with_reducible refine (cT0.out _ HS).mono ?_); rintro e v0 ⟨rfl, g0, G0⟩)
    | (go_at_call 50; (with_reducible refine (cT1.out _ G0).mono ?_); rintro e v1 ⟨rfl, g1, G1⟩)
    | (go_at_call 50; (with_reducible refine (cT2.out _ G1).mono ?_); rintro e v2 ⟨rfl, g2, G2⟩)
    | (go_at_call 50; (with_reducible refine (cT3.out _ G2).mono ?_); rintro e v3 ⟨rfl, g3, G3⟩)
    | (go_at_call 52; (with_reducible refine (cI.out _ G3).mono ?_); rintro e wt ⟨rfl, hRt, HBt⟩)
    | (go_at_call 53; (with_reducible refine (cM.out _ HBt).mono ?_); rintro e w1 ⟨rfl, hR1, HB⟩)
    | (refine wpList_store_mid rfl 38 (.tmp 7) (.tmp 65) rfl w1.heap.size 0 (stmCells (⟨5, ⟨#[]⟩, str n1, ⟨#[]⟩, noSL, noSL, noSL, noSL, noED, noED, noSL, noSL, false, 0⟩ : SD)).toArray rfl rfl (init_there _ _) (stm_size _) (stm_one _) ?_; obtain ⟨wi, ei, hRi, HI⟩ := SVr.init HB.out.1 (⟨5, ⟨#[]⟩, str n1, ⟨#[]⟩, noSL, noSL, noSL, noSL, noED, noED, noSL, noSL, false, 0⟩ : SD); rw [ei]; clear ei)
    | (go_at_call 56; refine (cW.out _ _ _ _ HI).mono ?_; rintro e w3 ⟨d2, rfl, hR3, HB3⟩)
    | (refine wpList_store_mid rfl 35 (.tmp 68) (.tmp 67) rfl w1.heap.size 16 (exCells d2).toArray rfl rfl (HB3.out.var.there (show 16 + 8 ≤ 28 by decide)) (ex_size _) (ex_one _) ?_; obtain ⟨w4, ex, hRx, HB4⟩ := HB3.out.putEx 16 d2 (show 16 + 8 ≤ 28 by decide) (us := stmCells (⟨5, ⟨#[]⟩, str n1, ⟨#[]⟩, noSL, noSL, noSL, noSL, noED, d2, noSL, noSL, false, 0⟩ : SD)) rfl; rw [ex]; clear ex)
    | (refine wpList_load_mid rfl 38 (.tmp 7) rfl w1.heap.size 0 rfl (stmCells (⟨5, ⟨#[]⟩, str n1, ⟨#[]⟩, noSL, noSL, noSL, noSL, noED, d2, noSL, noSL, false, 0⟩ : SD)) _ HB4.out.var.range Tryd.underlying38 rfl (stm_length _) ?_)
    | (refine wpList_store_mid rfl 38 (.tmp 2) (.tmp 69) rfl w.heap.size 0 (stmCells (⟨5, ⟨#[]⟩, str n1, ⟨#[]⟩, noSL, noSL, noSL, noSL, noED, d2, noSL, noSL, false, 0⟩ : SD)).toArray rfl rfl (res_therer HB4.out.on hR _) (stm_size _) (stm_one _) ?_; obtain ⟨wf, ef, HR, HF⟩ := stm_finr (x := (⟨5, ⟨#[]⟩, str n1, ⟨#[]⟩, noSL, noSL, noSL, noSL, noED, d2, noSL, noSL, false, 0⟩ : SD)) (t := { noStm with kind := 5, table := n1, wher := a1 }) HH.out HB4.out.on (⟨rfl, rfl, rfl, rfl, RowIs.nil _ _ _ _ _, RowIs.nil _ _ _ _ _, RowIs.nil _ _ _ _ _, RowIs.nil _ _ _ _ _, IsEx.none _ _, HB4.out.k.2.low (by have := HB.out.1.size; simp at this; omega), RowIs.nil _ _ _ _ _, RowIs.nil _ _ _ _ _, rfl, rfl⟩); rw [ef]; clear ef))
  exact bodyPost_ret (results_stm rfl rfl HR.out) rfl ⟨_, rfl, HF.out.1, HF.out.2⟩

set_option maxRecDepth 100000 in
set_option maxHeartbeats 16000000 in
theorem any_none (c : RC) (w : World) (s : St) (h : Onr c w w s) (h0 : isOne [[99, 114, 101, 97, 116, 101]] s.next = false) (h1 : isOne [[105, 110, 115, 101, 114, 116]] s.next = false) (h2 : isOne [[117, 112, 100, 97, 116, 101]] s.next = false) (h3 : isOne [[100, 101, 108, 101, 116, 101]] s.next = false) (h4 : isOne [[115, 101, 108, 101, 99, 116]] s.next = false) :
    Calls Tryd.prog 18 #[.pointer (some ⟨c.R, 0, none⟩)] w fun e w' => ∃ x : SD, e = .returned (stmval x) ∧ Onr c w w' s.stop ∧ IsStm w.heap.size w' noStm x := by
  have hR := h.lt
  have HH := hide h
  have HS : Hid (Onr c (w.alloc zeroStm) (w.alloc zeroStm) s ∧ True) := ⟨(h.alloc zeroStm).here, trivial⟩
  have cT0 := hide (fun (W : World) (h : Hid (Onr c (w.alloc zeroStm) W s ∧ True)) => takesk (c := c) [99, 114, 101, 97, 116, 101] ⟨#[99, 114, 101, 97, 116, 101]⟩ rfl (by decide) (KeptBy.triv c) h)
  rw [may_no h0] at cT0
  have cT1 := hide (fun (W : World) (h : Hid (Onr c (w.alloc zeroStm) W s ∧ True)) => takesk (c := c) [105, 110, 115, 101, 114, 116] ⟨#[105, 110, 115, 101, 114, 116]⟩ rfl (by decide) (KeptBy.triv c) h)
  rw [may_no h1] at cT1
  have cT2 := hide (fun (W : World) (h : Hid (Onr c (w.alloc zeroStm) W s ∧ True)) => takesk (c := c) [117, 112, 100, 97, 116, 101] ⟨#[117, 112, 100, 97, 116, 101]⟩ rfl (by decide) (KeptBy.triv c) h)
  rw [may_no h2] at cT2
  have cT3 := hide (fun (W : World) (h : Hid (Onr c (w.alloc zeroStm) W s ∧ True)) => takesk (c := c) [100, 101, 108, 101, 116, 101] ⟨#[100, 101, 108, 101, 116, 101]⟩ rfl (by decide) (KeptBy.triv c) h)
  rw [may_no h3] at cT3
  have cT4 := hide (fun (W : World) (h : Hid (Onr c (w.alloc zeroStm) W s ∧ True)) => takesk (c := c) [115, 101, 108, 101, 99, 116] ⟨#[115, 101, 108, 101, 99, 116]⟩ rfl (by decide) (KeptBy.triv c) h)
  rw [may_no h4] at cT4
  have cF := hide (fun W (h : Hid (Onr c (w.alloc zeroStm) W s ∧ True)) => (fail_on h.out.1.here).mono (R' := fun e w' => e = .returned (.tuple #[]) ∧ Hid (Onr c (w.alloc zeroStm) w' s.stop)) fun e w' ⟨e1, _, e3⟩ => ⟨e1, h.out.1.back e3.out⟩)
  clear h
  go_enter Tryd.func18, Tryd.ntmps18
  go_wp2_with (first
    | (go_at_call 50; (with_reducible refine (cT0.out _ HS).mono ?_); rintro e v0 ⟨rfl, g0, G0⟩)
    | (go_at_call 50; (with_reducible refine (cT1.out _ G0).mono ?_); rintro e v1 ⟨rfl, g1, G1⟩)
    | (go_at_call 50; (with_reducible refine (cT2.out _ G1).mono ?_); rintro e v2 ⟨rfl, g2, G2⟩)
    | (go_at_call 50; (with_reducible refine (cT3.out _ G2).mono ?_); rintro e v3 ⟨rfl, g3, G3⟩)
    | (go_at_call 50; (with_reducible refine (cT4.out _ G3).mono ?_); rintro e v4 ⟨rfl, g4, G4⟩)
    | (go_at_call 19; refine (cF.out _ G4).mono ?_; rintro e w2 ⟨rfl, HB2⟩)
    | (refine wpList_store_mid rfl 38 (.tmp 2) (.tmp 76) rfl w.heap.size 0 (stmCells noSD).toArray rfl rfl (res_therer HB2.out hR _) (stm_size _) (stm_one _) ?_; obtain ⟨wf, ef, HR, HF⟩ := stm_finr (x := noSD) (t := noStm) HH.out HB2.out (IsStm.none _ _); rw [ef]; clear ef))
  exact bodyPost_ret (results_stm rfl rfl HR.out) rfl ⟨_, rfl, HF.out.1, HF.out.2⟩

end Go.Proofs.YtedinkoapieakaaDoor

/- The document's own parser: update: the contract, at every state; a statement, whichever. -/
namespace Go.Proofs.YtedinkoapieakaaDoor
open Go.ChangeShapes Go.WideShapes Go.ChangeAt Go.RowKit

theorem Grows.held {α D : Type} {K : Kind α D} {lo : Nat} {V : World} (hlo : lo ≤ V.heap.size) {e : TypeId} {size : Nat} {x : SL} {l : List α} {ds : List D} : Held lo (Grows K lo V e size x l ds) := by
  intro W W' s b ⟨h0, h1⟩
  refine ⟨Since.held lo V W W' s b h0, ⟨h1.own.1, ?_⟩, h1.each.mono fun _ _ hr => K.move s (fun k hk hl => b k (Nat.le_trans hlo hk.1) hl) (fun _ hb _ => hb) hr⟩
  rcases h1.own.2 with hn | ⟨g, cap, cur, he, h3, h4, h5⟩
  · exact .inl hn
  · exact .inr ⟨g, cap, cur, he, h3, (b g (Nat.le_trans hlo h3) (Array.getElem?_eq_some_iff.1 h4).1).trans h4, h5⟩

/-- a round's own variable B, laid in the world U -/
structure SetR (T : Nat) (U : World) (us : List Value) (W : World) : Prop where
  since : Since (T + 1) U W
  var : VarB W U.heap.size us
  lo : T + 1 ≤ U.heap.size
theorem SetR.firm {T : Nat} {U : World} {us : List Value} : Firm (T + 1) (SetR T U us) := fun R W W' r k h => ⟨(Since.held _ _).firm R W W' r k h.since, h.var.move k (by have := h.lo; omega), h.lo⟩
theorem SetR.new {c : RC} {w0 : World} {T : Nat} {U : World} {s : St} {vs : List Value} {K : World → Prop} (h : SVr c w0 T U s vs K) (zs : Array Value) (ty : TypeId) : SVr c w0 T (U.alloc (.cells zs ty)) s vs (SetR T U zs.toList) :=
  (h.alloc _).conv ⟨(Since.held _ _ U (U.alloc (.cells zs ty)) (by simp) (fun k _ hk => Below.heap_alloc _ _ _ hk) (Since.refl _ _)), VarB.new U zs ty, h.size⟩ SetR.firm
theorem SetR.expr {c : RC} {w0 : World} {T : Nat} {U W : World} {s : St} {vs us : List Value} (h : Hid (SVr c w0 T W s vs (SetR T U us))) :
    Calls Tryd.prog 55 #[.pointer (some ⟨c.R, 0, none⟩)] W fun e w' => ∃ d : ED, e = .returned (exval d) ∧ c.R < w'.heap.size ∧ Hid (SVr c w0 T w' (exprP s).2 vs (SetR T U us) ∧ IsEx (fun b => U.heap.size + 1 ≤ b) w' (exprP s).1 d) :=
  (expr_r c W s h.out.on.here).mono fun e w' ⟨d, e1, e2, e3⟩ => ⟨d, e1, e2.lt, h.out.go e2, IsEx.weak e3 fun b hb _ => by have := h.out.k.var.1; omega⟩
theorem SetR.put {c : RC} {w0 : World} {T : Nat} {U W : World} {s : St} {vs : List Value} {us us' : List Value} {a : Ex} {d : ED} (h : SVr c w0 T W s vs (SetR T U us)) (hx : IsEx (fun b => U.heap.size + 1 ≤ b) W a d) (ho : 1 + 8 ≤ us.length) (hu : us.take 1 ++ exCells d ++ us.drop (1 + 8) = us') :
    ∃ W', W.setCells U.heap.size 1 (exCells d).toArray.toList = W' ∧ c.R < W'.heap.size ∧ Hid (SVr c w0 T W' s vs (SetR T U us') ∧ IsEx (fun b => U.heap.size + 1 ≤ b) W' a d) := by
  have k := setFrom_keeps U.heap.size (exCells d) W 1
  have hlo := h.k.lo
  have hl := h.lo
  have h2 : SVr c w0 T (W.setCells U.heap.size 1 (exCells d)) s vs (SetR T U us') := ⟨setFrom_onr (by omega) _ _ _ h.on, h.var.move k (by omega), ⟨⟨Nat.le_trans h.k.since.1 k.size, fun b h1 h2 => (k.block b (Nat.lt_of_lt_of_le h2 h.k.since.1) (by omega)).trans (h.k.since.2 b h1 h2)⟩, by rw [← hu]; exact setFrom_var (exCells d) W 1 us h.k.var ho, hlo⟩, SetR.firm, h.lo⟩
  exact ⟨_, rfl, h2.on.lt, h2, hx.keep k (by show ¬ U.heap.size + 1 ≤ U.heap.size; omega)⟩

set_option maxRecDepth 100000 in
set_option maxHeartbeats 16000000 in
theorem any_update (c : RC) (w : World) (s : St) (h : Onr c w w s) (h0 : isOne [[99, 114, 101, 97, 116, 101]] s.next = false) (h1 : isOne [[105, 110, 115, 101, 114, 116]] s.next = false) (h2 : isOne [[117, 112, 100, 97, 116, 101]] s.next = true) :
    Calls Tryd.prog 18 #[.pointer (some ⟨c.R, 0, none⟩)] w fun e w' => ∃ x : SD, e = .returned (stmval x) ∧ Onr c w w' (updateP s.adv).2 ∧ IsStm w.heap.size w' (updateP s.adv).1 x := by
  have hR := h.lt
  have HH := hide h
  have HS : Hid (Onr c (w.alloc zeroStm) (w.alloc zeroStm) s ∧ True) := ⟨(h.alloc zeroStm).here, trivial⟩
  have cT0 := hide (fun (W : World) (h : Hid (Onr c (w.alloc zeroStm) W s ∧ True)) => takesk (c := c) [99, 114, 101, 97, 116, 101] ⟨#[99, 114, 101, 97, 116, 101]⟩ rfl (by decide) (KeptBy.triv c) h)
  rw [may_no h0] at cT0
  have cT1 := hide (fun (W : World) (h : Hid (Onr c (w.alloc zeroStm) W s ∧ True)) => takesk (c := c) [105, 110, 115, 101, 114, 116] ⟨#[105, 110, 115, 101, 114, 116]⟩ rfl (by decide) (KeptBy.triv c) h)
  rw [may_no h1] at cT1
  have cT2 := hide (fun (W : World) (h : Hid (Onr c (w.alloc zeroStm) W s ∧ True)) => takesk (c := c) [117, 112, 100, 97, 116, 101] ⟨#[117, 112, 100, 97, 116, 101]⟩ rfl (by decide) (KeptBy.triv c) h)
  rw [may_yes (b := []) (by decide) h2] at cT2
  simp only [needs] at cT2
  have cM := hide (fun (W : World) (h : Hid (Onr c (w.alloc zeroStm) W s.adv ∧ True)) => nameHerek (KeptBy.triv c) h)
  unfold updateP
  generalize nameP s.adv = p at cM ⊢
  obtain ⟨n1, s2⟩ := p
  simp only at cM ⊢
  have cS := hide (fun T W vs K h => needss (c := c) [115, 101, 116] ⟨#[115, 101, 116]⟩ rfl (by decide) (w0 := w.alloc zeroStm) (T := T) (W := W) (s := s2) (vs := vs) (K := K) h)
  generalize needs [[115, 101, 116]] s2 = t1 at cS ⊢
  have HL : Hid (listLoop setP comma ((setP t1).2.len + 1) [(setP t1).1] (setP t1).2 = listP setP comma t1) := rfl
  generalize listP setP comma t1 = p at HL ⊢
  obtain ⟨l3, s7⟩ := p
  simp only at HL ⊢
  have cW := hide (fun T W vs K h => exprsr (fun k => whereHere_part c k) (w0 := w.alloc zeroStm) (T := T) (W := W) (s := s7) (vs := vs) (K := K) h)
  generalize whereP s7 = p at cW ⊢
  obtain ⟨a1, s8⟩ := p
  simp only at cW ⊢
  obtain ⟨i0, hi0, hz0, hz1, hz2⟩ := info_parts Tryd.infoListSet
  clear h
  go_enter Tryd.func18, Tryd.ntmps18
  go_wp2_with (first
    | (go_at_call 50; (with_reducible refine (cT0.out _ HS).mono ?_); rintro e v0 ⟨rfl, g0, G0⟩)
    | (go_at_call 50; (with_reducible refine (cT1.out _ G0).mono ?_); rintro e v1 ⟨rfl, g1, G1⟩)
    | (go_at_call 50; (with_reducible refine (cT2.out _ G1).mono ?_); rintro e v2 ⟨rfl, g2, G2⟩)
    | (go_at_call 53; (with_reducible refine (cM.out _ G2).mono ?_); rintro e w1 ⟨rfl, hR1, HB⟩)
    | (refine wpList_store_mid rfl 38 (.tmp 4) (.tmp 33) rfl w1.heap.size 0 (stmCells (⟨4, ⟨#[]⟩, str n1, ⟨#[]⟩, noSL, noSL, noSL, noSL, noED, noED, noSL, noSL, false, 0⟩ : SD)).toArray rfl rfl (init_there _ _) (stm_size _) (stm_one _) ?_; obtain ⟨wi, ei, hRi, HI⟩ := SVr.init HB.out.1 (⟨4, ⟨#[]⟩, str n1, ⟨#[]⟩, noSL, noSL, noSL, noSL, noED, noED, noSL, noSL, false, 0⟩ : SD); rw [ei]; clear ei)
    | (go_at_call 52; (with_reducible refine (cS.out _ _ _ _ HI).mono ?_); rintro e V ⟨rfl, hRV, HBV⟩))
  clear cT0 cT1 cT2 cM cS G0 G1 G2 HS
  have hsz : w.heap.size + 1 ≤ w1.heap.size + 1 := by have := HB.out.1.size; simp at this; omega
  generalize hT : w1.heap.size = T at HBV HI hsz
  have hVT : T + 1 ≤ V.heap.size := HBV.out.size
  have H3 : Hid (SVr c (w.alloc zeroStm) T V t1 (stmCells (⟨4, ⟨#[]⟩, str n1, ⟨#[]⟩, noSL, noSL, noSL, noSL, noED, noED, noSL, noSL, false, 0⟩ : SD)) (Grows kSet (T + 1) V 71 9 noSL [] [])) := HBV.out.conv (Grows.nil _ _ _ _ _) (Grows.firm hVT)
  clear HBV HI HB hT
  go_loopw [5] (fun v wr => ∃ (b : Bool) (y : SL) (l : List (List UInt8 × Ex)) (ds : List (List UInt8 × ED)) (s1 : St), v = .bool b ∧ c.R < wr.heap.size ∧ Hid (SVr c (w.alloc zeroStm) T wr s1 (stmCells (⟨4, ⟨#[]⟩, str n1, ⟨#[]⟩, noSL, noSL, noSL, y, noED, noED, noSL, noSL, false, 0⟩ : SD)) (Grows kSet (T + 1) V 71 9 y l ds) ∧ y.n = ds.length ∧ (b = true → y.n = 0 ∧ l = [] ∧ s1 = t1) ∧ (b = false → y.n + s1.len ≤ 301 ∧ listLoop setP comma (s1.len + 1) l s1 = (l3, s7)))) (fun v wr => 2 * lenOfr c wr + (match v with | .bool true => 1 | _ => 0))
  case atStart => exact ⟨true, noSL, [], [], t1, rfl, hRV, H3.out, rfl, (fun _ => ⟨rfl, rfl, rfl⟩), (fun h => by cases h)⟩
  case round =>
    obtain ⟨b, y, l, ds, s1, rfl, hRr, HQ⟩ := hrel
    have HM := hide HQ.out.1.on.lenOf
    have H0 : Hid (SVr c (w.alloc zeroStm) T wr s1 (stmCells (⟨4, ⟨#[]⟩, str n1, ⟨#[]⟩, noSL, noSL, noSL, y, noED, noED, noSL, noSL, false, 0⟩ : SD)) (Grows kSet (T + 1) V 71 9 y l ds)) := HQ.out.1
    obtain ⟨go, s2', hgo⟩ : ∃ go s2', (if b then (true, s1) else comma s1) = (go, s2') := ⟨_, _, rfl⟩
    have HG := hide hgo
    clear hgo
    go_upto_region 15 with (fail)
    go_cut [40] from 36 to 54 (fun v W => v = .bool go ∧ c.R < W.heap.size ∧ Hid (SVr c (w.alloc zeroStm) T W s2' (stmCells (⟨4, ⟨#[]⟩, str n1, ⟨#[]⟩, noSL, noSL, noSL, y, noED, noED, noSL, noSL, false, 0⟩ : SD)) (Grows kSet (T + 1) V 71 9 y l ds)))
    case first =>
      cases b with
      | true =>
        have h1 : true = go ∧ s1 = s2' := by have := HG.out; simp only [if_true] at this; cases this; exact ⟨rfl, rfl⟩
        obtain ⟨rfl, rfl⟩ := h1
        go_wp2
        go_meet
        exact ⟨rfl, hRr, H0⟩
      | false =>
        have cT := takess (c := c) [44] ⟨#[44]⟩ rfl (by decide) H0
        have hcm : mayBe [44] [] s1 = (go, s2') := by have := HG.out; simp only [Bool.false_eq_true, if_false] at this; exact this
        rw [hcm] at cT
        simp only at cT
        go_wp2_with (go_at_call 50; refine cT.mono ?_; rintro e w5 ⟨rfl, hR5, HB6⟩)
        go_meet
        exact ⟨rfl, hR5, HB6⟩
    case rest =>
      obtain ⟨rfl, hRc2, HC⟩ := hcut
      cases go with
      | false =>
        have hbs : b = false ∧ comma s1 = (false, s2') := by
          have := HG.out
          cases b with
          | true => simp only [if_true] at this; cases this
          | false => simp only [Bool.false_eq_true, if_false] at this; exact ⟨rfl, this⟩
        have HN : Hid ((l3, s7) = (l, s2') ∧ y.n ≤ 301 ∧ y.n = ds.length) := by
          obtain ⟨h1, h2⟩ := HQ.out.2.2.2 hbs.1
          rw [listLoop_end (by rw [hbs.2]), hbs.2] at h2
          exact ⟨h2.symm, by omega, HQ.out.2.1⟩
        clear HQ hbs HG HM H0
        have hn1 : l3 = l := by have := HN.out.1; cases this; rfl
        have hn2 : s7 = s2' := by have := HN.out.1; cases this; rfl
        subst hn1 hn2
        have HP : Hid (SVr c (w.alloc zeroStm) T wc s7 (stmCells (⟨4, ⟨#[]⟩, str n1, ⟨#[]⟩, noSL, noSL, noSL, y, noED, noED, noSL, noSL, false, 0⟩ : SD)) (fun W => RowIs kSet (T + 1) 71 9 W y l3)) := HC.out.conv (HC.out.k.row hVT HN.out.2.2 HN.out.2.1) (fun _ _ _ r k h => h.keep k r)
        clear HC HN
        go_wp2_with (first
          | (go_at_call 56; refine (cW.out _ _ _ _ HP).mono ?_; rintro e w3 ⟨d2, rfl, hR3, HB3⟩)
          | (refine wpList_store_mid rfl 35 (.tmp 57) (.tmp 56) rfl T 16 (exCells d2).toArray rfl rfl (HB3.out.var.there (show 16 + 8 ≤ 28 by decide)) (ex_size _) (ex_one _) ?_; obtain ⟨w4, ex, hRx, HB4⟩ := HB3.out.putEx 16 d2 (show 16 + 8 ≤ 28 by decide) (us := stmCells (⟨4, ⟨#[]⟩, str n1, ⟨#[]⟩, noSL, noSL, noSL, y, noED, d2, noSL, noSL, false, 0⟩ : SD)) rfl; rw [ex]; clear ex)
          | (refine wpList_load_mid rfl 38 (.tmp 4) rfl T 0 rfl (stmCells (⟨4, ⟨#[]⟩, str n1, ⟨#[]⟩, noSL, noSL, noSL, y, noED, d2, noSL, noSL, false, 0⟩ : SD)) _ HB4.out.var.range Tryd.underlying38 rfl (stm_length _) ?_)
          | (refine wpList_store_mid rfl 38 (.tmp 2) (.tmp 58) rfl w.heap.size 0 (stmCells (⟨4, ⟨#[]⟩, str n1, ⟨#[]⟩, noSL, noSL, noSL, y, noED, d2, noSL, noSL, false, 0⟩ : SD)).toArray rfl rfl (res_therer HB4.out.on hR _) (stm_size _) (stm_one _) ?_; obtain ⟨wf, ef, HR, HF⟩ := stm_finr (x := (⟨4, ⟨#[]⟩, str n1, ⟨#[]⟩, noSL, noSL, noSL, y, noED, d2, noSL, noSL, false, 0⟩ : SD)) (t := { noStm with kind := 4, table := n1, sets := l3, wher := a1 }) HH.out HB4.out.on (⟨rfl, rfl, rfl, rfl, RowIs.nil _ _ _ _ _, RowIs.nil _ _ _ _ _, RowIs.nil _ _ _ _ _, HB4.out.k.1.weak hsz, IsEx.none _ _, HB4.out.k.2.low hsz, RowIs.nil _ _ _ _ _, RowIs.nil _ _ _ _ _, rfl, rfl⟩); rw [ef]; clear ef))
        exact bodyPost_ret (results_stm rfl rfl HR.out) rfl ⟨_, rfl, HF.out.1, HF.out.2⟩
      | true =>
        have HE : Hid (listLoop setP comma ((setP s2').2.len + 1) (l ++ [(setP s2').1]) (setP s2').2 = (l3, s7) ∧ y.n + 1 + (setP s2').2.len ≤ 301 ∧ 2 * (setP s2').2.len < 2 * s1.len + (match Value.bool b with | .bool true => 1 | _ => 0)) := by
          have hsh := setP_shrinks s2'
          have hle := HC.out.on.len_le
          cases b with
          | true =>
            have h1 : s1 = s2' := by have := HG.out; simp only [if_true] at this; cases this; rfl
            subst h1
            obtain ⟨h2, rfl, rfl⟩ := HQ.out.2.2.1 rfl
            exact ⟨HL.out, by omega, by show _ < 2 * s1.len + 1; omega⟩
          | false =>
            have h1 : comma s1 = (true, s2') := by have := HG.out; simp only [Bool.false_eq_true, if_false] at this; exact this
            obtain ⟨h2, h3⟩ := HQ.out.2.2.2 rfl
            have h4 := comma_takes s1 (by rw [h1])
            rw [listLoop_on setP_shrinks comma_takes (by rw [h1]), h1] at h3
            rw [h1] at h4
            exact ⟨h3, by simp only at h4; omega, by show _ < 2 * s1.len + 0; simp only at h4; omega⟩
        have HN := hide HQ.out.2.1
        have cN := nameHeres HC
        have hse : setP s2' = (((nameP s2').1, (exprP (needs [[61]] (nameP s2').2)).1), (exprP (needs [[61]] (nameP s2').2)).2) := rfl
        rw [hse] at HE
        clear hse
        generalize nameP s2' = q at cN HE
        obtain ⟨n2, s3⟩ := q
        simp only at cN HE
        have cQ := hide (fun W vs K h => needss (c := c) [61] ⟨#[61]⟩ rfl (by decide) (w0 := w.alloc zeroStm) (T := T) (W := W) (s := s3) (vs := vs) (K := K) h)
        generalize needs [[61]] s3 = s4 at cQ HE
        have cE := hide (fun U W vs us h => SetR.expr (c := c) (w0 := w.alloc zeroStm) (T := T) (U := U) (W := W) (s := s4) (vs := vs) (us := us) h)
        generalize exprP s4 = q at cE HE
        obtain ⟨a0, s5⟩ := q
        simp only at cE HE
        have hn1 : y.n + 1 ≤ 301 := by have := HE.out.2.1; omega
        clear HQ HG H0 HL cW
        go_wp2_with (first
          | (go_at_call 53; refine cN.mono ?_; rintro e U ⟨rfl, hRU, HU⟩; have HV := hide (SetR.new HU.out #[.string (str n2), .int .i64 0, .int .i64 0, .int .i64 0, .string ⟨#[]⟩, .string ⟨#[]⟩, .string ⟨#[]⟩, .int .i64 0, .slice none 0 0] 71))
          | (go_at_call 52; refine (cQ.out _ _ _ HV).mono ?_; rintro e w6 ⟨rfl, hR6, HB6⟩)
          | (go_at_call 55; refine (cE.out _ _ _ _ HB6).mono ?_; rintro e w7 ⟨d, rfl, hR7, HB7⟩)
          | (refine wpList_store_mid rfl 35 (.tmp 48) (.tmp 47) rfl U.heap.size 1 (exCells d).toArray rfl rfl (HB7.out.1.k.var.there (show 1 + 8 ≤ 9 by decide)) (ex_size _) (ex_one _) ?_; obtain ⟨w8, ex, hRx, HB8⟩ := SetR.put HB7.out.1 HB7.out.2 (show 1 + 8 ≤ 9 by decide) (us' := setCells9 (n2, d)) rfl; rw [ex]; clear ex; have t7 := HB8.out.1.var.2.1 7 _ rfl; have q0 := HB8.out.1.k.var.2.1 0 _ rfl; have q1 := HB8.out.1.k.var.2.1 1 _ rfl; have q2 := HB8.out.1.k.var.2.1 2 _ rfl; have q3 := HB8.out.1.k.var.2.1 3 _ rfl; have q4 := HB8.out.1.k.var.2.1 4 _ rfl; have q5 := HB8.out.1.k.var.2.1 5 _ rfl; have q6 := HB8.out.1.k.var.2.1 6 _ rfl; have q7 := HB8.out.1.k.var.2.1 7 _ rfl; have q8 := HB8.out.1.k.var.2.1 8 _ rfl; have HB9 : Hid (SVr c (w.alloc zeroStm) T w8 s5 (stmCells (⟨4, ⟨#[]⟩, str n1, ⟨#[]⟩, noSL, noSL, noSL, y, noED, noED, noSL, noSL, false, 0⟩ : SD)) (Grows kSet (T + 1) V 71 9 y l ds)) := HB8.out.1.conv (HB8.out.1.k.since.back (Grows.held hVT) HU.out.k) (Grows.firm hVT); have HK : Hid (kSet.rel (fun b => V.heap.size ≤ b ∧ some b ≠ (Value.slice y.ao y.n y.cap).ownBlock) w8 (n2, a0) (n2, d)) := ⟨rfl, HB8.out.2.weak fun b hb _ => ⟨by have := HU.out.k.1.1; omega, fun hbk => by have := (HU.out.k.2.own.lt b hbk.symm).2; omega⟩⟩)
          | (at_builtin; refine wpList_append_own_at _ rfl (.tmp 50) (.tmp 52) 31 rfl V.heap.size 71 i0 (.agg #[.string ⟨#[]⟩, .int .i64 0, .int .i64 0, .int .i64 0, .string ⟨#[]⟩, .string ⟨#[]⟩, .string ⟨#[]⟩, .int .i64 0, .slice none 0 0]) 9 120 Tryd.underlying31 hi0 hz0 hz1 hz2 rfl (by decide) (.slice y.ao y.n y.cap) y.n (ds.flatMap kSet.cel) rfl (SVr.owns HB9.out HN.out _) ⟨w8.heap.size, 0, none⟩ 1 1 (kSet.cel (n2, d)) rfl rfl (cells_newSet w8 (n2, d) _) (kSet.one (n2, d)) (by unfold maxLen; omega) (by omega) (by have := HB9.out.k.1.1; simp; omega) ?_; intro vv w9 hown hgrow hnil hblk; obtain ⟨ao2, cap2, rfl, HBA⟩ := SVr.app HB9.out hVT HK.out HN.out hown hgrow hblk; have u7 := HBA.out.var.2.1 7 _ rfl; have uf := HBA.out.var.2.2; clear hown hgrow hnil hblk; have HBB : Hid (SVr c (w.alloc zeroStm) T _ _ (stmCells (⟨4, ⟨#[]⟩, str n1, ⟨#[]⟩, noSL, noSL, noSL, ⟨ao2, y.n + 1, cap2⟩, noED, noED, noSL, noSL, false, 0⟩ : SD)) _) := HBA.out.put (j := 7) (show 7 < 28 by decide) (.slice ao2 (y.n + 1) cap2)))
        go_roundw
        case rel => exact ⟨false, ⟨ao2, y.n + 1, cap2⟩, _, _, s5, rfl, HBB.out.on.lt, HBB.out, (by have := HN.out; show y.n + 1 = _; rw [this, List.length_append]; rfl), (fun h => by cases h), (fun _ => ⟨HE.out.2.1, HE.out.1⟩)⟩
        case measure => rw [HBB.out.on.lenOf, HM.out]; exact HE.out.2.2

theorem anyHere_q (c : RC) : StmOfq 18 c statementP := by
  intro w s h
  cases h0 : isOne [[99, 114, 101, 97, 116, 101]] s.next with
  | true =>
    have e : statementP s = createP s.adv := by simp only [statementP, one_yes (v := [99, 114, 101, 97, 116, 101]) (ws := [[99, 114, 101, 97, 116, 101], [105, 110, 115, 101, 114, 116], [117, 112, 100, 97, 116, 101], [100, 101, 108, 101, 116, 101], [115, 101, 108, 101, 99, 116]]) (by decide) (by decide) h0]; exact if_pos trivial
    rw [e]
    exact any_create c w s h h0
  | false =>
  cases h1 : isOne [[105, 110, 115, 101, 114, 116]] s.next with
  | true =>
    have e : statementP s = insertP s.adv := by simp only [statementP, one_yes (v := [105, 110, 115, 101, 114, 116]) (ws := [[99, 114, 101, 97, 116, 101], [105, 110, 115, 101, 114, 116], [117, 112, 100, 97, 116, 101], [100, 101, 108, 101, 116, 101], [115, 101, 108, 101, 99, 116]]) (by decide) (by decide) h1]; rw [if_neg (by decide)]; exact if_pos trivial
    rw [e]
    exact (any_insert c w s h h0 h1).mono fun _ _ ⟨x, k1, k2, k3⟩ => ⟨x, _, k1, k2, k3, fun _ => rfl⟩
  | false =>
  cases h2 : isOne [[117, 112, 100, 97, 116, 101]] s.next with
  | true =>
    have e : statementP s = updateP s.adv := by simp only [statementP, one_yes (v := [117, 112, 100, 97, 116, 101]) (ws := [[99, 114, 101, 97, 116, 101], [105, 110, 115, 101, 114, 116], [117, 112, 100, 97, 116, 101], [100, 101, 108, 101, 116, 101], [115, 101, 108, 101, 99, 116]]) (by decide) (by decide) h2]; rw [if_neg (by decide), if_neg (by decide)]; exact if_pos trivial
    rw [e]
    exact (any_update c w s h h0 h1 h2).mono fun _ _ ⟨x, k1, k2, k3⟩ => ⟨x, _, k1, k2, k3, fun _ => rfl⟩
  | false =>
  cases h3 : isOne [[100, 101, 108, 101, 116, 101]] s.next with
  | true =>
    have e : statementP s = deleteP s.adv := by simp only [statementP, one_yes (v := [100, 101, 108, 101, 116, 101]) (ws := [[99, 114, 101, 97, 116, 101], [105, 110, 115, 101, 114, 116], [117, 112, 100, 97, 116, 101], [100, 101, 108, 101, 116, 101], [115, 101, 108, 101, 99, 116]]) (by decide) (by decide) h3]; rw [if_neg (by decide), if_neg (by decide), if_neg (by decide)]; exact if_pos trivial
    rw [e]
    exact (any_delete c w s h h0 h1 h2 h3).mono fun _ _ ⟨x, k1, k2, k3⟩ => ⟨x, _, k1, k2, k3, fun _ => rfl⟩
  | false =>
  cases h4 : isOne [[115, 101, 108, 101, 99, 116]] s.next with
  | true =>
    have e : statementP s = chooseP s.adv := by simp only [statementP, one_yes (v := [115, 101, 108, 101, 99, 116]) (ws := [[99, 114, 101, 97, 116, 101], [105, 110, 115, 101, 114, 116], [117, 112, 100, 97, 116, 101], [100, 101, 108, 101, 116, 101], [115, 101, 108, 101, 99, 116]]) (by decide) (by decide) h4]; rw [if_neg (by decide), if_neg (by decide), if_neg (by decide), if_neg (by decide)]; exact if_pos trivial
    rw [e]
    exact (any_select c w s h h0 h1 h2 h3 h4).mono fun _ _ ⟨x, k1, k2, k3⟩ => ⟨x, _, k1, k2, k3, fun _ => rfl⟩
  | false =>
    have e : statementP s = (noStm, s.stop) := by
      have ea : oneOf [[99, 114, 101, 97, 116, 101], [105, 110, 115, 101, 114, 116], [117, 112, 100, 97, 116, 101], [100, 101, 108, 101, 116, 101], [115, 101, 108, 101, 99, 116]] s = ([], s.stop) := one_no fun v hv => by
        simp only [List.mem_cons, List.not_mem_nil, or_false] at hv
        rcases hv with rfl | rfl | rfl | rfl | rfl <;> assumption
      simp only [statementP, ea]
      rw [if_neg (by decide), if_neg (by decide), if_neg (by decide), if_neg (by decide), if_neg (by decide)]
    rw [e]
    exact (any_none c w s h h0 h1 h2 h3 h4).mono fun _ _ ⟨x, k1, k2, k3⟩ => ⟨x, _, k1, k2, k3, fun _ => rfl⟩

end Go.Proofs.YtedinkoapieakaaDoor
