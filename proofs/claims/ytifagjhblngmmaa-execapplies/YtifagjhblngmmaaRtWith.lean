/- The reference: entries, and one more where it belongs. -/
import Derived.Test.YtifagjhblngmmaaRtWithout
namespace Go.Proofs.Ytifagjhblngmmaa
open Go.ChangeShapes Go.WideShapes Go.ChangeAt Go.RowKit

/-- what with has laid so far -/
def soFar (x : Ent) (put : Bool) (m : List Ent) : List Ent := if put then insK x m else m

set_option maxHeartbeats 8000000 in
theorem rwith_any (ok : Nat → Prop) (l : List Ent) (hfew : l.length ≤ 80000) (x : Ent) (la : Option Addr) (lc : Nat) (ka va : Option Addr) (kc vc : Nat) (w : World) (hok : Fresh ok w) (hL : Lies kEnt ok w la lc l) (hk : IsBody w ok (.slice ka x.1.length kc) x.1) (hv : IsBody w ok (.slice va x.2.length vc) x.2) :
    Calls Try.prog 12 #[.slice la l.length lc, .agg #[.slice ka x.1.length kc, .slice va x.2.length vc]] w fun e w' => ∃ (a : Option Addr) (n c : Nat), e = .returned (.slice a n c) ∧ n = (putK l x).length ∧ Lies kEnt ok w' a c (putK l x) ∧ Ples a c ∧ Below w.heap.size w w' := by
  obtain ⟨rest, hrest⟩ : ∃ rest, rest = dropK l x.1 := ⟨_, rfl⟩
  have hrl : rest.length ≤ 80000 := by rw [hrest]; exact Nat.le_trans (dropK_length _ _) hfew
  have hO : Octs w ka kc x.1 := by
    obtain ⟨a9, c9, e9, o9, -⟩ := id hk
    simp only [Value.slice.injEq, true_and] at e9
    rw [e9.1, e9.2]
    exact o9
  have hba : Below w.heap.size w (w.alloc (.cells #[.slice ka x.1.length kc, .slice va x.2.length vc] 40)) := (Below.refl _ w).alloc (Nat.le_refl _) _
  have hTw := Two.new w (.slice ka x.1.length kc) (.slice va x.2.length vc) 40
  have cW : Hid (Calls Try.prog 11 #[.slice la l.length lc, .slice ka x.1.length kc] (w.alloc (.cells #[.slice ka x.1.length kc, .slice va x.2.length vc] 40)) fun e w' => ∃ (a : Option Addr) (n c : Nat) (had : Bool), e = .returned (.tuple #[.slice a n c, .bool had]) ∧ Hid (n = rest.length ∧ Lies kEnt ok w' a c rest ∧ Below w.heap.size w w' ∧ Two w' w.heap.size (.slice ka x.1.length kc) (.slice va x.2.length vc))) := by
    refine (rwithout_any ok l (by omega) x.1 la lc ka kc _ (hok.later hba.size) (hL.later hba) (hO.later hba)).mono ?_
    rintro e w' ⟨a, n, c, rfl, h1, h2, -, h4⟩
    rw [← hrest] at h1 h2
    exact ⟨a, n, c, _, rfl, h1, h2, hba.trans (h4.mono hba.size), hTw.later h4⟩
  have HX := put_by (And.intro hok (And.intro hk (And.intro hv hO)))
  have HP := put_by (show putK l x = insK x rest by rw [hrest]; rfl)
  have HRL := put_by hrl
  clear hok hk hv hO hba hTw hL hfew hrest hrl
  generalize hll : l.length = ll at cW
  generalize hkm : x.1.length = km at cW
  generalize hvm : x.2.length = vm at cW
  have HKM := put_by (And.intro hkm hvm)
  clear hll hkm hvm
  go_enter Try.func12, Try.ntmps12
  go_wp2_with (first
    | (go_at_call 11; refine cW.out.mono ?_; clear cW; rintro e w1 ⟨ra, rn, rc, had, rfl, H1⟩))
  have hr8 : rn ≤ 80000 := by rw [H1.out.1]; exact HRL.out
  go_loopw [7, 8, 20] (fun s pv i wr => ∃ (k : Nat) (a : Option Addr) (m c : Nat) (put : Bool), k ≤ rn ∧ i = .int .i64 k ∧ s = .slice a m c ∧ pv = .bool put ∧ Hid (put = overK x.1 (rest.take k) ∧ Rows kEnt ok wr w1.heap.size 40 (.slice a m c) (soFar x put (rest.take k)) ∧ Below w1.heap.size w1 wr)) (fun _ _ i _ => rn - (intOf i).toNat)
  case atStart => exact ⟨0, none, 0, 0, false, Nat.zero_le _, rfl, rfl, rfl, rfl, Rows.nil _ _ _ _ _, Below.refl _ _⟩
  case round =>
    obtain ⟨k, a, m, c, put, hk, rfl, rfl, rfl, HR⟩ := hrel
    by_cases hlt : k < rn
    · have hx : k < rest.length := by rw [← H1.out.1]; exact hlt
      obtain ⟨b4, off, rfl, hb, _, cs, ⟨u, v, rfl, hu, hw⟩, hc⟩ := H1.out.2.1.at hx
      obtain ⟨xa, xc, rfl, hxo, -⟩ := id hu
      obtain ⟨ya, yc, rfl, -, -⟩ := id hw
      have d0 : wr.cell? ⟨b4, off + k * 2, none⟩ = some (.slice xa (rest[k]).1.length xc) := (HR.out.2.2.cell (p := ⟨b4, off + k * 2, none⟩) hb).trans (by simpa using hc 0 _ rfl)
      have d1 : wr.cell? ⟨b4, off + k * 2 + 1, none⟩ = some (.slice ya (rest[k]).2.length yc) := (HR.out.2.2.cell (p := ⟨b4, off + k * 2 + 1, none⟩) hb).trans (hc 1 _ rfl)
      obtain ⟨Wa, hWa⟩ : ∃ Wa, Wa = wr.alloc (.cells #[.slice xa (rest[k]).1.length xc, .slice ya (rest[k]).2.length yc] 40) := ⟨_, rfl⟩
      have hba : Below wr.heap.size wr Wa := by rw [hWa]; exact (Below.refl _ wr).alloc (Nat.le_refl _) _
      have hTe : Two Wa wr.heap.size (.slice xa (rest[k]).1.length xc) (.slice ya (rest[k]).2.length yc) := by rw [hWa]; exact Two.new _ _ _ _
      have HTX : Hid (∀ W, Below Wa.heap.size Wa W → (Two W wr.heap.size (.slice xa (rest[k]).1.length xc) (.slice ya (rest[k]).2.length yc) ∧ Two W w.heap.size (.slice ka km kc) (.slice va vm vc)) ∧ Rows kEnt ok W w1.heap.size 40 (.slice a m c) (soFar x put (rest.take k)) ∧ Below w1.heap.size w1 W) := fun W hW =>
        ⟨⟨hTe.later hW, ((H1.out.2.2.2.later HR.out.2.2).later hba).later hW⟩, (HR.out.2.1.later hba).later hW, (HR.out.2.2.trans (hba.mono HR.out.2.2.size)).trans (hW.mono (Nat.le_trans HR.out.2.2.size hba.size))⟩
      have cL : Hid (Calls Try.prog 20 #[.slice ka km kc, .slice xa (rest[k]).1.length xc] Wa fun e w2 => e = .returned (.bool (ahead x.1 (rest[k]).1)) ∧ Hid (Below Wa.heap.size Wa w2)) := by
        have h2 := H1.out.2.2.1
        have h3 := (HTX.out Wa (Below.refl _ _)).2.2
        have := bytesLess_any ka xa kc xc x.1 (rest[k]).1 Wa (HX.out.2.2.2.later (h2.trans (h3.mono h2.size))) (hxo.later h3)
        rw [HKM.out.1] at this
        exact this
      have HS : Hid (rest.take (k + 1) = rest.take k ++ [rest[k]]) := List.take_succ_eq_append_getElem hx
      have HE : Hid (∀ (W : World) (v0 : Value), Below Wa.heap.size Wa W → (∀ g, v0.ownBlock = some g → w1.heap.size ≤ g) → kEnt.rel (fun b => ok b ∧ v0.ownBlock ≠ some b) W rest[k] [.slice xa (rest[k]).1.length xc, .slice ya (rest[k]).2.length yc]) := fun W v0 hW hv0 => by
        refine kEnt.move (Kept.of_below (HTX.out W hW).2.2) (fun b hb ho => ⟨ho, fun e => ?_⟩) (show kEnt.rel ok w1 rest[k] _ from ⟨_, _, rfl, hu, hw⟩)
        have := hv0 b e
        omega
      have HXE : Hid (∀ (W : World) (v0 : Value), Below Wa.heap.size Wa W → (∀ g, v0.ownBlock = some g → w1.heap.size ≤ g) → kEnt.rel (fun b => ok b ∧ v0.ownBlock ≠ some b) W x [.slice ka km kc, .slice va vm vc]) := fun W v0 hW hv0 => by
        have h2 := H1.out.2.2.1
        rw [← HKM.out.1, ← HKM.out.2]
        refine kEnt.move (Kept.of_below (h2.trans ((HTX.out W hW).2.2.mono h2.size))) (fun b hb ho => ⟨ho, fun e => ?_⟩) (show kEnt.rel ok w x _ from ⟨_, _, rfl, HX.out.2.1, HX.out.2.2.1⟩)
        have := hv0 b e
        have := h2.size
        omega
      have HFr : Hid (∀ W, Below Wa.heap.size Wa W → Fresh ok W) := fun W hW => HX.out.1.later (Nat.le_trans H1.out.2.2.1.size (HTX.out W hW).2.2.size)
      have HLN : Hid ((soFar x put (rest.take k)).length ≤ 80001) := by
        have h1 := HRL.out
        have h2 : (rest.take k).length ≤ rest.length := by rw [List.length_take]; omega
        unfold soFar
        show _ ≤ _
        split
        · rw [insK_length]; omega
        · omega
      have HOV : Hid (put = overK x.1 (rest.take k)) := HR.out.1
      have ik : (k : Int) < (rn : Int) := by omega
      have HRWa := put_by (HTX.out Wa (Below.refl _ _)).2
      have HREL : Hid (kEnt.rel ok w1 rest[k] [.slice xa (rest[k]).1.length xc, .slice ya (rest[k]).2.length yc]) := ⟨_, _, rfl, hu, hw⟩
      have HOWN : Hid (∀ g, (Value.slice a m c).ownBlock = some g → g < wr.heap.size) := fun g e => (rows_lt HR.out.2.1 g e).2
      subst hWa
      clear hc hu hw hxo hba hTe HR
      generalize hi1 : (rest[k]).1.length = i1 at d0 cL HE HTX HXE HFr HRWa HREL
      generalize hi2 : (rest[k]).2.length = i2 at d1 cL HE HTX HXE HFr HRWa HREL
      clear hi1 hi2
      cases put with
      | true =>
        have HEE := put_by (HE.out _ (.slice a m c) (Below.refl _ _) (fun g e => (rows_lt HRWa.out.1 g e).1))
        have HFF := put_by (HFr.out _ (Below.refl _ _))
        clear cL
        go_wp2_with (first
          | (at_builtin; refine wpList_append_one eltE rfl (.tmp 37) (.tmp 39) rfl w1.heap.size (.slice a m c) (soFar x true (rest.take k)) rfl HRWa.out.1 rest[k] [.slice xa i1 xc, .slice ya i2 yc] _ _ (by rw [alloc_size]; rfl) rfl HEE.out HFF.out (by have := HLN.out; omega) (by decide) HRWa.out.2.size ?_; intro v' w3 hR3 hg3 hat3))
        have hl6 := hR3
        obtain ⟨a6, c6, e6⟩ := rows_form hR3
        generalize hq6 : (soFar x true (rest.take k) ++ [rest[k]]).length = m6 at e6
        clear hq6
        subst e6
        have HN3 : Hid (true = overK x.1 (rest.take (k + 1)) ∧ Rows kEnt ok w3 w1.heap.size 40 (.slice a6 m6 c6) (soFar x true (rest.take (k + 1))) ∧ Below w1.heap.size w1 w3) := by
          refine ⟨by rw [HS.out, overK_snoc, ← HOV.out, Bool.true_or], ?_, below_grown HRWa.out.2 HRWa.out.2.size hg3 (fun r e => (rows_lt HRWa.out.1 r e).1)⟩
          have : soFar x true (rest.take (k + 1)) = soFar x true (rest.take k) ++ [rest[k]] := by rw [HS.out]; exact insK_snoc x rest[k] _ HOV.out.symm
          rw [this]
          exact hR3
        clear hR3 hg3 hat3 hl6
        go_wp2
        go_roundw
        case rel => exact ⟨k + 1, a6, m6, c6, true, by omega, by go_num, rfl, rfl, HN3⟩
        case measure => simp [intOf]; omega
      | false =>
        obtain ⟨q, hq⟩ : ∃ q, q = ahead x.1 (rest[k]).1 := ⟨_, rfl⟩
        have HQ := put_by hq
        rw [← hq] at cL
        clear hq
        obtain ⟨⟨-, ⟨p0, p1, -, -⟩⟩, -⟩ := HTX.out _ (Below.refl _ _)
        cases q with
        | false =>
          go_wp2_with (first
            | (go_at_call 20; refine cL.out.mono ?_; clear cL; rintro e w2 ⟨rfl, B2⟩; obtain ⟨⟨⟨y0, y1, -, -⟩, -⟩, -⟩ := HTX.out w2 B2.out; have HR2 := put_by (HTX.out w2 B2.out).2; have HE2 := put_by (HE.out w2 (.slice a m c) B2.out (fun g e => (rows_lt HR2.out.1 g e).1)); have HF2 := put_by (HFr.out w2 B2.out))
            | (at_builtin; refine wpList_append_one eltE rfl (.tmp 37) (.tmp 39) rfl w1.heap.size (.slice a m c) (soFar x false (rest.take k)) rfl HR2.out.1 rest[k] [.slice xa i1 xc, .slice ya i2 yc] _ _ rfl rfl HE2.out HF2.out (by have := HLN.out; omega) (by decide) HR2.out.2.size ?_; intro v' w3 hR3 hg3 hat3))
          obtain ⟨a6, c6, e6⟩ := rows_form hR3
          generalize hq6 : (soFar x false (rest.take k) ++ [rest[k]]).length = m6 at e6
          clear hq6
          subst e6
          have HN3 : Hid (false = overK x.1 (rest.take (k + 1)) ∧ Rows kEnt ok w3 w1.heap.size 40 (.slice a6 m6 c6) (soFar x false (rest.take (k + 1))) ∧ Below w1.heap.size w1 w3) := by
            refine ⟨by rw [HS.out, overK_snoc, ← HOV.out, ← HQ.out, Bool.or_self], ?_, below_grown HR2.out.2 HR2.out.2.size hg3 (fun r e => (rows_lt HR2.out.1 r e).1)⟩
            have : soFar x false (rest.take (k + 1)) = soFar x false (rest.take k) ++ [rest[k]] := by rw [HS.out]; rfl
            rw [this]
            exact hR3
          clear hR3 hg3 hat3
          go_wp2
          go_roundw
          case rel => exact ⟨k + 1, a6, m6, c6, false, by omega, by go_num, rfl, rfl, HN3⟩
          case measure => simp [intOf]; omega
        | true =>
          go_wp2_with (first
            | (go_at_call 20; refine cL.out.mono ?_; clear cL; rintro e w2 ⟨rfl, B2⟩; obtain ⟨⟨⟨y0, y1, -, -⟩, ⟨y2, y3, -, -⟩⟩, -⟩ := HTX.out w2 B2.out; have HR2 := put_by (HTX.out w2 B2.out).2; have HE2 := put_by (HXE.out w2 (.slice a m c) B2.out (fun g e => (rows_lt HR2.out.1 g e).1)); have HF2 := put_by (HFr.out w2 B2.out))
            | (at_builtin; refine wpList_append_one eltE rfl (.tmp 33) (.tmp 35) rfl w1.heap.size (.slice a m c) (soFar x false (rest.take k)) rfl HR2.out.1 x [.slice ka km kc, .slice va vm vc] _ _ rfl rfl HE2.out HF2.out (by have := HLN.out; omega) (by decide) HR2.out.2.size ?_; intro v' w3 hR3 hg3 hat3; refine hidGoal ?_))
          obtain ⟨a5, c5, e5⟩ := rows_form hR3
          generalize hq5 : (soFar x false (rest.take k) ++ [x]).length = m5 at e5
          have hm5 : m5 ≤ 80002 := by rw [← hq5, List.length_append]; have := HLN.out; simp; omega
          have HM5 := put_by hq5
          clear hq5
          subst e5
          have hwr : wr.heap.size < w2.heap.size := World.block_lt_of_cell? _ _ y0
          have ew : w3.heap[wr.heap.size]? = w2.heap[wr.heap.size]? := hg3.block _ hwr (fun e => by have := HOWN.out _ e.symm; omega)
          have z0 := (World.cell?_of_block (w := w2) ew).trans y0
          have z1 := (World.cell?_of_block (w := w2) ew).trans y1
          have hB3 : Below w1.heap.size w1 w3 := below_grown HR2.out.2 HR2.out.2.size hg3 (fun r e => (rows_lt HR2.out.1 r e).1)
          have HE3 : Hid (kEnt.rel (fun b => ok b ∧ (Value.slice a5 m5 c5).ownBlock ≠ some b) w3 rest[k] [.slice xa i1 xc, .slice ya i2 yc]) := by
            refine kEnt.move (Kept.of_below hB3) (fun b hb ho => ⟨ho, fun e => ?_⟩) HREL.out
            have := (rows_lt hR3 b e).1
            omega
          have HR3 := put_by (And.intro hR3 hB3)
          have HF3 : Hid (Fresh ok w3) := HF2.out.later hg3.size
          clear hR3 hg3 hat3 hB3 ew y0 y1 y2 y3 p0 p1 HE2
          unfold Hid
          go_wp2_with (first
            | (at_builtin; refine wpList_append_one eltE rfl (.tmp 37) (.tmp 39) rfl w1.heap.size (.slice a5 m5 c5) (soFar x false (rest.take k) ++ [x]) rfl HR3.out.1 rest[k] [.slice xa i1 xc, .slice ya i2 yc] _ _ rfl rfl HE3.out HF3.out (by rw [HM5.out]; omega) (by decide) HR3.out.2.size ?_; intro v' w4 hR4 hg4 hat4))
          obtain ⟨a6, c6, e6⟩ := rows_form hR4
          generalize hq6 : (soFar x false (rest.take k) ++ [x] ++ [rest[k]]).length = m6 at e6
          clear hq6
          subst e6
          have HN3 : Hid (true = overK x.1 (rest.take (k + 1)) ∧ Rows kEnt ok w4 w1.heap.size 40 (.slice a6 m6 c6) (soFar x true (rest.take (k + 1))) ∧ Below w1.heap.size w1 w4) := by
            refine ⟨by rw [HS.out, overK_snoc, ← HQ.out, Bool.or_true], ?_, below_grown HR3.out.2 HR3.out.2.size hg4 (fun r e => (rows_lt HR3.out.1 r e).1)⟩
            have : soFar x true (rest.take (k + 1)) = soFar x false (rest.take k) ++ [x] ++ [rest[k]] := by
              rw [HS.out, List.append_assoc]
              exact insK_hit x rest[k] _ HOV.out.symm HQ.out.symm
            rw [this]
            exact hR4
          clear hR4 hg4 hat4
          go_wp2
          go_roundw
          case rel => exact ⟨k + 1, a6, m6, c6, true, by omega, by go_num, rfl, rfl, HN3⟩
          case measure => simp [intOf]; omega
    · have hkn : k = rn := by omega
      subst hkn
      have HT : Hid (put = overK x.1 rest ∧ Rows kEnt ok wr w1.heap.size 40 (.slice a m c) (soFar x put rest) ∧ Below w1.heap.size w1 wr) := by
        have h := HR.out
        rw [List.take_of_length_le (by rw [← H1.out.1]; exact Nat.le_refl _)] at h
        exact h
      have hBw : Hid (Below w.heap.size w wr) := H1.out.2.2.1.trans (HT.out.2.2.mono H1.out.2.2.1.size)
      have hTx := H1.out.2.2.2.later HT.out.2.2
      obtain ⟨p0, p1, -, -⟩ := hTx
      clear HR
      cases put with
      | true =>
        have H9 : Hid (m = (putK l x).length ∧ Lies kEnt ok wr a c (putK l x) ∧ Ples a c ∧ Below w.heap.size w wr) := by
          obtain ⟨h1, h2, h3, -⟩ := rows_lies HT.out.2.1 (fun b hb => HX.out.1 b (Nat.le_trans H1.out.2.2.1.size hb))
          rw [HP.out]
          exact ⟨h1, h2, h3, hBw.out⟩
        clear HT
        go_wp2
        exact bodyPost_ret (v := .slice a m c) (by simp [results, Try.results12, go_sem]) rfl ⟨a, m, c, rfl, H9.out⟩
      | false =>
        have HE2 : Hid (kEnt.rel (fun b => ok b ∧ (Value.slice a m c).ownBlock ≠ some b) wr x [.slice ka km kc, .slice va vm vc]) := by
          rw [← HKM.out.1, ← HKM.out.2]
          refine kEnt.move (Kept.of_below hBw.out) (fun b hb ho => ⟨ho, fun e => ?_⟩) (show kEnt.rel ok w x _ from ⟨_, _, rfl, HX.out.2.1, HX.out.2.2.1⟩)
          have := (rows_lt HT.out.2.1 b e).1
          have := H1.out.2.2.1.size
          omega
        have HF2 : Hid (Fresh ok wr) := HX.out.1.later hBw.out.size
        go_wp2_with (first
          | (at_builtin; refine wpList_append_one eltE rfl (.tmp 44) (.tmp 46) rfl w1.heap.size (.slice a m c) (soFar x false rest) rfl HT.out.2.1 x [.slice ka km kc, .slice va vm vc] _ _ rfl rfl HE2.out HF2.out (by have := HRL.out; show rest.length + 1 ≤ 100000; omega) (by decide) HT.out.2.2.size ?_; intro v' w3 hR3 hg3 hat3))
        obtain ⟨a6, c6, e6⟩ := rows_form hR3
        generalize hq6 : (soFar x false rest ++ [x]).length = m6 at e6
        have H9 : Hid (m6 = (putK l x).length ∧ Lies kEnt ok w3 a6 c6 (putK l x) ∧ Ples a6 c6 ∧ Below w.heap.size w w3) := by
          have hp : putK l x = soFar x false rest ++ [x] := by rw [HP.out]; exact insK_last x rest HT.out.1.symm
          subst e6
          obtain ⟨h1, h2, h3, -⟩ := rows_lies hR3 (fun b hb => HX.out.1 b (Nat.le_trans H1.out.2.2.1.size hb))
          rw [hp]
          exact ⟨h1, h2, h3, below_grown hBw.out hBw.out.size hg3 (fun r e => by have := (rows_lt HT.out.2.1 r e).1; have := H1.out.2.2.1.size; omega)⟩
        clear hq6 hR3 hg3 hat3
        subst e6
        go_wp2
        exact bodyPost_ret (v := .slice a6 m6 c6) (by simp [results, Try.results12, go_sem]) rfl ⟨a6, m6, c6, rfl, H9.out⟩

end Go.Proofs.Ytifagjhblngmmaa
