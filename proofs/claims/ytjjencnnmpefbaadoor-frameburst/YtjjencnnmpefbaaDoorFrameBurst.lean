/- For every slice of bytes, two whole numbers and a choice: bits of a body (up to 2000 bytes), or of its sum, that were turned over within 32 in a row, are seen: the statement FrameBurst of this seat, with no condition of ours. -/
import Derived.Test.YtjjencnnmpefbaaDoorRows
import Derived.Test.YtjjencnnmpefbaaDoorFrameSeal
import Derived.Test.YtjjencnnmpefbaaDoorFrameOpen
import Derived.Test.YtjjencnnmpefbaaDoorOctetsKeep
import Derived.Test.YtjjencnnmpefbaaDoorSameKeep
import Derived.Test.YtjjencnnmpefbaaDoorOwnLater
import Derived.Test.YtjjencnnmpefbaaDoorOctAppendAt
import Derived.Test.YtjjencnnmpefbaaDoorTurnedOver
import Derived.WalkKit
import Derived.ProofKit
import Derived.OpenShut
import Derived.ShutString
import Derived.ChangeOld
import Derived.Below
import Derived.LaidMore
import Derived.MakeChecks
import Derived.SevenTiedAt
import Derived.Test.YtjjencnnmpefbaaDoorCards
import Derived.Test.YtjjencnnmpefbaaDoorTie
import Derived.SizedLaws
namespace Go.Proofs.YtjjencnnmpefbaaDoor.frameBurst
open Go.ChangeShapes Go.WideShapes Go.ChangeAt Go.RowKit
open Go.ChangeMaps (open_string shut_string)
set_option linter.unusedVariables false

theorem own : ownKnob Tryd.prog.godebug = none := by kernel_rfl
theorem bytesOfElem : Tryd.prog.bytesOf 5 = 1 := by kernel_rfl
theorem laidOut : laidOutB Tryd.prog = true := by kernel_rfl

/-- WHAT THE WALK IS TOLD OF A SLICE OF INTEGERS THAT CAME IN: it is nil; or it leads to a row of 'cap' cells, the numbers 'zs' (the first 'len' are its elements, the rest its spare room), each fitting its kind. -/
def IsRow (k : IntKind) (w : World) (a : Option Addr) (len cap : Nat) (zs : List Int) : Prop :=
  (a = none ∧ len = 0 ∧ cap = 0 ∧ zs = []) ∨
  ∃ x, a = some x ∧ len ≤ cap ∧ cap ≤ maxLen ∧ zs.length = cap ∧ (∀ i, i < zs.length → w.cell? (x.add i) = some (.int k (zs.getD i 0))) ∧ ∀ n ∈ zs, (Lit.int k n).wf = true

/-! ### STEP 1: THE WALK: the Go text returns true, AND WRITES NOTHING THAT WAS THERE: 'Below w.heap.size w w'' (Derived/Below.lean: '.refl', '.alloc', '.drew', '.setCell' at a new block, '.trans'). Open each 'IsRow' by 'rcases' AHEAD of 'go_enter'; part every test ahead of the walk. -/
set_option maxHeartbeats 4000000 in
theorem walk (a0 : Option Addr) (len0 cap0 : Nat) (z0 : List Int) (a1 : Int) (a2 : Int) (a3 : Bool) (w : World) (tab : Fours w) (w0 : IsRow .u8 w a0 len0 cap0 z0) (rr0 : cap0 * 1 ≤ 140737488351232) (w1 : (Lit.int .i64 a1).wf = true) (w2 : (Lit.int .i64 a2).wf = true) :
    Calls Tryd.prog 8 #[.slice a0 len0 cap0, .int .i64 a1, .int .i64 a2, .bool a3] w fun e w' => e = .returned (.bool true) ∧ Below w.heap.size w w' := by
  obtain ⟨xs, rfl, he0⟩ := row_octs (by omega) w0
  clear w0
  have h0 : Calls Tryd.prog 18 #[.slice a0 xs.length cap0, .int .i64 2000] w fun e w' => ∃ ao' cap', e = .returned (.slice ao' (xs.take 2000).length cap') ∧ Octs w' ao' cap' (xs.take 2000) ∧ Below w.heap.size w w' := Octets_any a0 cap0 xs 2000 (by omega) w he0
  have hpb : ∀ y ∈ xs.take 2000, 0 ≤ y ∧ y ≤ 255 := fun y hy => he0.2.2.2.1 y (List.mem_of_mem_take hy)
  have hpl : (xs.take 2000).length ≤ 2000 := by simp; omega
  obtain ⟨ps, hps⟩ : ∃ ps, ps = xs.take 2000 := ⟨_, rfl⟩
  rw [← hps] at h0 hpb hpl
  clear hps he0
  obtain ⟨n0, hn0⟩ : ∃ n, n = xs.length := ⟨_, rfl⟩
  rw [← hn0] at h0
  rw [← hn0]
  clear hn0
  obtain ⟨s, hs⟩ : ∃ s, s = le4 (sumN ps) := ⟨_, rfl⟩
  obtain ⟨hd, hhd⟩ : ∃ hd, hd = le4 ps.length := ⟨_, rfl⟩
  have hsl : s.length = 4 := by rw [hs]; rfl
  have hhl : hd.length = 4 := by rw [hhd]; rfl
  have hsb : ∀ y ∈ s, 0 ≤ y ∧ y ≤ 255 := by rw [hs]; exact le4_byte _
  have hhb : ∀ y ∈ hd, 0 ≤ y ∧ y ≤ 255 := by rw [hhd]; exact le4_byte _
  have hfr : frameOf ps = hd ++ (s ++ ps) := by rw [hs, hhd]; rfl
  have HX : ∀ a cap v1, Fours v1 → Octs v1 a cap ps → Calls Tryd.prog 9 #[.slice a ps.length cap] v1 fun e w' => ∃ ao' cap', e = .returned (.tuple #[.slice ao' (ps.length + 8) cap', .int .i64 0]) ∧ Octs w' ao' cap' (hd ++ (s ++ ps)) ∧ Below v1.heap.size v1 w' := by
    intro a cap v1 t h
    have := Seal_any a cap ps v1 t h
    rw [show sealVal ps = frameOf ps from if_neg (by omega), show sealErr ps = 0 from if_neg (by omega), frameOf_length, hfr] at this
    exact this
  have HH : Hid (∀ b off cap v1, Octs v1 (some ⟨b, off, none⟩) cap (hd ++ (s ++ ps)) → Octs v1 (some ⟨b, off, none⟩) cap hd ∧ Octs v1 (some ⟨b, off + 4, none⟩) (cap - 4) s ∧ 8 ≤ cap) := by
    intro b off cap v1 h
    have h1 := h.take 4
    rw [List.take_left' hhl] at h1
    have h2 := (Octs.drop h (k := 4) (by simp [hhl])).take 4
    rw [List.drop_left' hhl, List.take_left' hsl] at h2
    have h3 := h.1
    rw [List.length_append, List.length_append, hhl, hsl] at h3
    exact ⟨h1, h2, by omega⟩
  have HO : ∀ us ys : List Int, us.length = 4 → ys.length = ps.length → ∀ a cap v1, Fours v1 → Octs v1 a cap (hd ++ (us ++ ys)) → Calls Tryd.prog 13 #[.slice a (ps.length + 8) cap] v1 fun e w' => ∃ ao' cap', e = .returned (.tuple #[.slice ao' (openVal (hd ++ (us ++ ys))).length cap', .int .i64 (openLen (hd ++ (us ++ ys)) : Int), .int .i64 (openErr (hd ++ (us ++ ys)))]) ∧ Octs w' ao' cap' (openVal (hd ++ (us ++ ys))) ∧ Below v1.heap.size v1 w' := by
    intro us ys hu hy a cap v1 t h
    have := Open_any a cap (hd ++ (us ++ ys)) v1 t h
    rwa [show (hd ++ (us ++ ys)).length = ps.length + 8 by rw [List.length_append, List.length_append, hhl, hu, hy]; omega] at this
  have HGOOD : Hid (openErr (hd ++ (s ++ ps)) = 0 ∧ openVal (hd ++ (s ++ ps)) = ps ∧ openLen (hd ++ (s ++ ps)) = ps.length + 8) := by
    have := open_frame ps [] (by omega)
    rwa [List.append_nil, hfr] at this
  have HBAD : Hid (∀ us ys : List Int, us.length = 4 → ys.length = ps.length → ¬ (sumN ys : Int) = num4 us → openErr (hd ++ (us ++ ys)) = 14 ∧ openVal (hd ++ (us ++ ys)) = [] ∧ openLen (hd ++ (us ++ ys)) = 0) := by
    intro us ys hu hy hne
    have := open_sum us ys hu (by omega) hne
    rwa [hy, ← hhd] at this
  have HNS : Hid (num4 s = (sumN ps : Int) ∧ ∀ us : List Int, us.length = 4 → (∀ y ∈ us, 0 ≤ y ∧ y ≤ 255) → num4 us = (sumN ps : Int) → us = s) := by
    constructor
    · have := num4_le4 (sumN ps) (sumN_lt _) []
      rwa [List.append_nil, ← hs] at this
    · intro us hu hub e
      have := le4_num4 (xs := us) (by omega) hub
      rw [e, Int.toNat_natCast, ← hs, List.take_of_length_le (by omega)] at this
      exact this.symm
  have HSM : ∀ a a' d d' v1, Octs v1 a d ps → Octs v1 a' d' ps → Calls Tryd.prog 19 #[.slice a ps.length d, .slice a' ps.length d'] v1 fun e w' => e = .returned (.bool true) ∧ Below v1.heap.size v1 w' := by
    intro a a' d d' v1 h h'
    have := sameKeep_any a a' d d' ps ps v1 h h'
    rwa [decide_eq_true rfl] at this
  have HL : Hid (hd.length = 4 ∧ s.length = 4 ∧ ∀ y ∈ s, 0 ≤ y ∧ y ≤ 255) := ⟨hhl, hsl, hsb⟩
  have HPOS : Hid (0 < (hd ++ (s ++ ps)).length) := by
    unfold Hid
    rw [List.length_append, hhl]; omega
  have HHB : Hid (∀ y ∈ hd, 0 ≤ y ∧ y ≤ 255) := hhb
  have HPB : Hid (∀ y ∈ ps, 0 ≤ y ∧ y ≤ 255) := hpb
  obtain ⟨np, hnp⟩ : ∃ n, n = ps.length := ⟨_, rfl⟩
  have HT1 : ∀ a cap v1, Octs v1 a cap s → _ := fun a cap v1 h => turned_over a cap s a1 a2 (by omega) v1 h
  rw [hsl] at HT1
  have HT2 : ∀ a cap v1, Octs v1 a cap ps → _ := fun a cap v1 h => turned_over a cap ps a1 a2 hpl v1 h
  rw [← hnp] at h0 HX HO HGOOD HBAD HSM hpl HT2
  have HNP : Hid (np = ps.length) := hnp
  clear hnp hs hhd hsl hhl hsb hhb hfr hpb
  cases a3
  · have HT := HT2
    clear HT1 HT2
    go_enter Tryd.func8, Tryd.ntmps8
    go_wp2_with (first
      | (go_at_call 18; (with_reducible refine h0.mono ?_); rintro e w1 ⟨b0, c0, rfl, o1, bb⟩; have tab := tab.later bb)
      | (go_at_call 9; (with_reducible refine (HX b0 c0 _ tab o1).mono ?_); rintro e w2 ⟨b1, c1, rfl, o2, b2⟩; have o1 := o1.later b2; have tab := tab.later b2; have bb := bb.trans (b2.mono bb.size); obtain ⟨g, go, e1, -⟩ := o2.at (k := 0) HPOS.out; subst e1; obtain ⟨o3, o4, hc1⟩ := HH.out _ _ _ _ o2; have hc2 : ¬ c1 = 4 := (by omega))
      | (at_builtin; refine wpList_append_oct rfl (.const (.slice none 0 0)) (.tmp 36) rfl w2.heap.size _ _ _ rfl (World.ownsRow_nil _ _ _ _) (some ⟨g, go, none⟩) c1 4 hd rfl HL.out.1.symm o3 (by omega) (Nat.le_refl _) ?_; intro v3 w3 hown3 hg3; rw [Nat.zero_add, List.nil_append] at hown3; have b3 : Below w2.heap.size w2 w3 := (Below.refl _ w2).grown hg3 (Nat.le_refl _) (by intro k hk; cases hk); have o4 := o4.later b3; have hv3 : Hid (∀ k, v3.ownBlock = some k → w2.heap.size ≤ k ∧ k < w3.heap.size) := (fun k hk => hown3.lt k hk))
      | (at_builtin; refine wpList_append_oct rfl (.const (.slice none 0 0)) (.tmp 39) rfl w3.heap.size _ _ _ rfl (World.ownsRow_nil _ _ _ _) (some ⟨g, go + 4, none⟩) (c1 - 4) 4 s rfl HL.out.2.1.symm o4 (by omega) (Nat.le_refl _) ?_; intro v4 w4 hown4 hg4; rw [Nat.zero_add, List.nil_append] at hown4; have b4 : Below w3.heap.size w3 w4 := (Below.refl _ w3).grown hg4 (Nat.le_refl _) (by intro k hk; cases hk); have hown3 := own_stays hown3 b4; have bz := b3.trans (b4.mono b3.size); obtain ⟨b5, c5, e5, o5⟩ := own_octs (xs := s) HL.out.2.1.symm rfl (by rw [HL.out.2.1]; omega) HL.out.2.2 hown4; rw [HL.out.2.1] at e5; subst e5)
      | (go_at_call 21; (with_reducible refine (HT b0 c0 _ ((o1.later b3).later b4)).mono ?_); rintro e w5 ⟨b6, c6, ys, c, rfl, hly, o6, hseen, hsame, hnew, b7⟩; have hown3 := own_stays hown3 b7; have hb34 := b4.size; have bz := bz.trans (b7.mono bz.size); have HY : Hid (np = ys.length) := hly; have HS : Hid (c = 0 ↔ sumOf 0#32 ps = sumOf 0#32 ys) := hseen; have HE : Hid (c = 0 → ys = ps) := hsame; have HAP : Hid (∀ a, b6 = some a → v3.ownBlock ≠ some a.block) := apart_old hv3.out hb34 hnew; have o5 := o5.later b7; clear hly hseen hsame hnew; refine hidGoal ?_))
    by_cases hc : c = 0
    · have hyp := HE.out hc
      subst hc
      rw [hyp] at o6
      have LU : Hid (4 = (s : List Int).length) := HL.out.2.1.symm
      have LY : Hid (np = (ps : List Int).length) := HNP.out
      have HZ : Hid (4 + 4 + np = (hd ++ (s ++ ps)).length ∧ (hd ++ (s ++ ps)).length = np + 8 ∧ ∀ y ∈ hd ++ (s ++ ps), 0 ≤ y ∧ y ≤ 255) := by
        refine ⟨by rw [List.length_append, List.length_append, HL.out.1, ← LU.out, ← LY.out]; omega, by rw [List.length_append, List.length_append, HL.out.1, ← LU.out, ← LY.out]; omega, ?_⟩
        intro y hy
        rcases List.mem_append.1 hy with h | h
        · exact HHB.out y h
        · rcases List.mem_append.1 h with h | h
          · exact HL.out.2.2 y h
          · exact HPB.out y h
      have KO := HO s ps HL.out.2.1 HNP.out.symm
      rw [HGOOD.out.1, HGOOD.out.2.1, HGOOD.out.2.2, ← HNP.out] at KO
      clear HO
      unfold Hid
      go_wp2_with (first
        | (at_builtin; refine wpList_append_oct_at rfl (.tmp 57) (.tmp 58) rfl w2.heap.size _ _ _ rfl hown3 b5 c5 4 s rfl LU.out o5 (by omega) bz.size ?_; intro v8 w8 hown8 hg8 hat8; have b8 := bz.grown hg8 bz.size (fun k hk => (hown3.lt k hk).1); have o7 := o6.grown hg8 (fun _ => HAP.out))
        | (at_builtin; refine wpList_append_oct_at rfl (.tmp 59) (.tmp 60) rfl w2.heap.size _ _ _ rfl hown8 b6 c6 np ps rfl LY.out o7 (by omega) b8.size ?_; intro v9 w9 hown9 hg9 hat9; have b9 := b8.grown hg9 b8.size (fun k hk => (hown8.lt k hk).1); have o7 := o7.grown hg9 (apart_grown HAP.out o6 hat8); have tab := tab.later b9; have bb := bb.trans (b9.mono bb.size); obtain ⟨b10, c10, e10, o10⟩ := own_octs (xs := hd ++ (s ++ ps)) HZ.out.1 (by simp) (by rw [← HZ.out.1]; omega) HZ.out.2.2 hown9; rw [HZ.out.2.1] at e10; subst e10)
        | (go_at_call 13; (with_reducible refine (KO b10 c10 _ tab o10).mono ?_); rintro e w11 ⟨b11, c11, rfl, o11, b12⟩; have bb := bb.trans (b12.mono bb.size); have o7 := o7.later b12)
        | (go_at_call 19; (with_reducible refine (HSM b11 b6 c11 c6 _ o11 o7).mono ?_); rintro e w13 ⟨rfl, b13⟩; have bb := bb.trans (b13.mono bb.size)))
      go_ret
      exact ⟨rfl, bb⟩
    · have hne : ¬ (sumN ys : Int) = num4 s := by
        intro e
        rw [HNS.out.1] at e
        refine hc (HS.out.2 (BitVec.eq_of_toNat_eq ?_))
        unfold sumN at e
        omega
      have LU : Hid (4 = (s : List Int).length) := HL.out.2.1.symm
      have LY : Hid (np = (ys : List Int).length) := HY.out
      have HZ : Hid (4 + 4 + np = (hd ++ (s ++ ys)).length ∧ (hd ++ (s ++ ys)).length = np + 8 ∧ ∀ y ∈ hd ++ (s ++ ys), 0 ≤ y ∧ y ≤ 255) := by
        refine ⟨by rw [List.length_append, List.length_append, HL.out.1, ← LU.out, ← LY.out]; omega, by rw [List.length_append, List.length_append, HL.out.1, ← LU.out, ← LY.out]; omega, ?_⟩
        intro y hy
        rcases List.mem_append.1 hy with h | h
        · exact HHB.out y h
        · rcases List.mem_append.1 h with h | h
          · exact HL.out.2.2 y h
          · exact o6.2.2.2.1 y h
      have KO := HO s ys HL.out.2.1 HY.out.symm
      obtain ⟨k1, k2, k3⟩ := HBAD.out s ys HL.out.2.1 HY.out.symm hne
      rw [k1, k2, k3] at KO
      have hcb : ((c : Int) == 0) = false := by
        simp only [beq_eq_false_iff_ne, ne_eq]
        omega
      clear HO k1 k2 k3 hne
      unfold Hid
      go_wp2_with (first
        | (at_builtin; refine wpList_append_oct_at rfl (.tmp 57) (.tmp 58) rfl w2.heap.size _ _ _ rfl hown3 b5 c5 4 s rfl LU.out o5 (by omega) bz.size ?_; intro v8 w8 hown8 hg8 hat8; have b8 := bz.grown hg8 bz.size (fun k hk => (hown3.lt k hk).1); have o7 := o6.grown hg8 (fun _ => HAP.out))
        | (at_builtin; refine wpList_append_oct_at rfl (.tmp 59) (.tmp 60) rfl w2.heap.size _ _ _ rfl hown8 b6 c6 np ys rfl LY.out o7 (by omega) b8.size ?_; intro v9 w9 hown9 hg9 hat9; have b9 := b8.grown hg9 b8.size (fun k hk => (hown8.lt k hk).1); have o7 := o7.grown hg9 (apart_grown HAP.out o6 hat8); have tab := tab.later b9; have bb := bb.trans (b9.mono bb.size); obtain ⟨b10, c10, e10, o10⟩ := own_octs (xs := hd ++ (s ++ ys)) HZ.out.1 (by simp) (by rw [← HZ.out.1]; omega) HZ.out.2.2 hown9; rw [HZ.out.2.1] at e10; subst e10)
        | (go_at_call 13; (with_reducible refine (KO b10 c10 _ tab o10).mono ?_); rintro e w11 ⟨b11, c11, rfl, o11, b12⟩; have bb := bb.trans (b12.mono bb.size); have o7 := o7.later b12))
      go_ret
      exact ⟨rfl, bb⟩
  · have HT := HT1
    clear HT1 HT2
    go_enter Tryd.func8, Tryd.ntmps8
    go_wp2_with (first
      | (go_at_call 18; (with_reducible refine h0.mono ?_); rintro e w1 ⟨b0, c0, rfl, o1, bb⟩; have tab := tab.later bb)
      | (go_at_call 9; (with_reducible refine (HX b0 c0 _ tab o1).mono ?_); rintro e w2 ⟨b1, c1, rfl, o2, b2⟩; have o1 := o1.later b2; have tab := tab.later b2; have bb := bb.trans (b2.mono bb.size); obtain ⟨g, go, e1, -⟩ := o2.at (k := 0) HPOS.out; subst e1; obtain ⟨o3, o4, hc1⟩ := HH.out _ _ _ _ o2; have hc2 : ¬ c1 = 4 := (by omega))
      | (at_builtin; refine wpList_append_oct rfl (.const (.slice none 0 0)) (.tmp 36) rfl w2.heap.size _ _ _ rfl (World.ownsRow_nil _ _ _ _) (some ⟨g, go, none⟩) c1 4 hd rfl HL.out.1.symm o3 (by omega) (Nat.le_refl _) ?_; intro v3 w3 hown3 hg3; rw [Nat.zero_add, List.nil_append] at hown3; have b3 : Below w2.heap.size w2 w3 := (Below.refl _ w2).grown hg3 (Nat.le_refl _) (by intro k hk; cases hk); have o4 := o4.later b3; have hv3 : Hid (∀ k, v3.ownBlock = some k → w2.heap.size ≤ k ∧ k < w3.heap.size) := (fun k hk => hown3.lt k hk))
      | (at_builtin; refine wpList_append_oct rfl (.const (.slice none 0 0)) (.tmp 39) rfl w3.heap.size _ _ _ rfl (World.ownsRow_nil _ _ _ _) (some ⟨g, go + 4, none⟩) (c1 - 4) 4 s rfl HL.out.2.1.symm o4 (by omega) (Nat.le_refl _) ?_; intro v4 w4 hown4 hg4; rw [Nat.zero_add, List.nil_append] at hown4; have b4 : Below w3.heap.size w3 w4 := (Below.refl _ w3).grown hg4 (Nat.le_refl _) (by intro k hk; cases hk); have hown3 := own_stays hown3 b4; have bz := b3.trans (b4.mono b3.size); obtain ⟨b5, c5, e5, o5⟩ := own_octs (xs := s) HL.out.2.1.symm rfl (by rw [HL.out.2.1]; omega) HL.out.2.2 hown4; rw [HL.out.2.1] at e5; subst e5)
      | (go_at_call 21; (with_reducible refine (HT b5 c5 _ o5).mono ?_); rintro e w5 ⟨b6, c6, ys, c, rfl, hly, o6, hseen, hsame, hnew, b7⟩; have hown3 := own_stays hown3 b7; have hb34 := b4.size; have bz := bz.trans (b7.mono bz.size); have HY : Hid (4 = ys.length) := hly; have HS : Hid (c = 0 ↔ sumOf 0#32 s = sumOf 0#32 ys) := hseen; have HE : Hid (c = 0 → ys = s) := hsame; have HAP : Hid (∀ a, b6 = some a → v3.ownBlock ≠ some a.block) := apart_old hv3.out hb34 hnew;  clear hly hseen hsame hnew; refine hidGoal ?_))
    by_cases hc : c = 0
    · have hyp := HE.out hc
      subst hc
      rw [hyp] at o6
      have LU : Hid (4 = (s : List Int).length) := HL.out.2.1.symm
      have LY : Hid (np = (ps : List Int).length) := HNP.out
      have HZ : Hid (4 + 4 + np = (hd ++ (s ++ ps)).length ∧ (hd ++ (s ++ ps)).length = np + 8 ∧ ∀ y ∈ hd ++ (s ++ ps), 0 ≤ y ∧ y ≤ 255) := by
        refine ⟨by rw [List.length_append, List.length_append, HL.out.1, ← LU.out, ← LY.out]; omega, by rw [List.length_append, List.length_append, HL.out.1, ← LU.out, ← LY.out]; omega, ?_⟩
        intro y hy
        rcases List.mem_append.1 hy with h | h
        · exact HHB.out y h
        · rcases List.mem_append.1 h with h | h
          · exact HL.out.2.2 y h
          · exact HPB.out y h
      have KO := HO s ps HL.out.2.1 HNP.out.symm
      rw [HGOOD.out.1, HGOOD.out.2.1, HGOOD.out.2.2, ← HNP.out] at KO
      clear HO
      unfold Hid
      go_wp2_with (first
        | (at_builtin; refine wpList_append_oct_at rfl (.tmp 57) (.tmp 58) rfl w2.heap.size _ _ _ rfl hown3 b6 c6 4 s rfl LU.out o6 (by omega) bz.size ?_; intro v8 w8 hown8 hg8 hat8; have b8 := bz.grown hg8 bz.size (fun k hk => (hown3.lt k hk).1); have o7 := o1.later b8)
        | (at_builtin; refine wpList_append_oct_at rfl (.tmp 59) (.tmp 60) rfl w2.heap.size _ _ _ rfl hown8 b0 c0 np ps rfl LY.out o7 (by omega) b8.size ?_; intro v9 w9 hown9 hg9 hat9; have b9 := b8.grown hg9 b8.size (fun k hk => (hown8.lt k hk).1); have o7 := o1.later b9; have tab := tab.later b9; have bb := bb.trans (b9.mono bb.size); obtain ⟨b10, c10, e10, o10⟩ := own_octs (xs := hd ++ (s ++ ps)) HZ.out.1 (by simp) (by rw [← HZ.out.1]; omega) HZ.out.2.2 hown9; rw [HZ.out.2.1] at e10; subst e10)
        | (go_at_call 13; (with_reducible refine (KO b10 c10 _ tab o10).mono ?_); rintro e w11 ⟨b11, c11, rfl, o11, b12⟩; have bb := bb.trans (b12.mono bb.size); have o7 := o7.later b12)
        | (go_at_call 19; (with_reducible refine (HSM b11 b0 c11 c0 _ o11 o7).mono ?_); rintro e w13 ⟨rfl, b13⟩; have bb := bb.trans (b13.mono bb.size)))
      go_ret
      exact ⟨rfl, bb⟩
    · have hne : ¬ (sumN ps : Int) = num4 ys := by
        intro e
        have := HNS.out.2 ys HY.out.symm o6.2.2.2.1 e.symm
        exact hc (HS.out.2 (by rw [this]))
      have LU : Hid (4 = (ys : List Int).length) := HY.out
      have LY : Hid (np = (ps : List Int).length) := HNP.out
      have HZ : Hid (4 + 4 + np = (hd ++ (ys ++ ps)).length ∧ (hd ++ (ys ++ ps)).length = np + 8 ∧ ∀ y ∈ hd ++ (ys ++ ps), 0 ≤ y ∧ y ≤ 255) := by
        refine ⟨by rw [List.length_append, List.length_append, HL.out.1, ← LU.out, ← LY.out]; omega, by rw [List.length_append, List.length_append, HL.out.1, ← LU.out, ← LY.out]; omega, ?_⟩
        intro y hy
        rcases List.mem_append.1 hy with h | h
        · exact HHB.out y h
        · rcases List.mem_append.1 h with h | h
          · exact o6.2.2.2.1 y h
          · exact HPB.out y h
      have KO := HO ys ps HY.out.symm HNP.out.symm
      obtain ⟨k1, k2, k3⟩ := HBAD.out ys ps HY.out.symm HNP.out.symm hne
      rw [k1, k2, k3] at KO
      have hcb : ((c : Int) == 0) = false := by
        simp only [beq_eq_false_iff_ne, ne_eq]
        omega
      clear HO k1 k2 k3 hne
      unfold Hid
      go_wp2_with (first
        | (at_builtin; refine wpList_append_oct_at rfl (.tmp 57) (.tmp 58) rfl w2.heap.size _ _ _ rfl hown3 b6 c6 4 ys rfl LU.out o6 (by omega) bz.size ?_; intro v8 w8 hown8 hg8 hat8; have b8 := bz.grown hg8 bz.size (fun k hk => (hown3.lt k hk).1); have o7 := o1.later b8)
        | (at_builtin; refine wpList_append_oct_at rfl (.tmp 59) (.tmp 60) rfl w2.heap.size _ _ _ rfl hown8 b0 c0 np ps rfl LY.out o7 (by omega) b8.size ?_; intro v9 w9 hown9 hg9 hat9; have b9 := b8.grown hg9 b8.size (fun k hk => (hown8.lt k hk).1); have o7 := o1.later b9; have tab := tab.later b9; have bb := bb.trans (b9.mono bb.size); obtain ⟨b10, c10, e10, o10⟩ := own_octs (xs := hd ++ (ys ++ ps)) HZ.out.1 (by simp) (by rw [← HZ.out.1]; omega) HZ.out.2.2 hown9; rw [HZ.out.2.1] at e10; subst e10)
        | (go_at_call 13; (with_reducible refine (KO b10 c10 _ tab o10).mono ?_); rintro e w11 ⟨b11, c11, rfl, o11, b12⟩; have bb := bb.trans (b12.mono bb.size); have o7 := o7.later b12))
      go_ret
      exact ⟨rfl, bb⟩

/-! ### THE ROW's STEP: WRITTEN OUT: LEAVE IT -/
set_option maxRecDepth 100000 in
theorem lifted (os : Os) (started : os.Started) (H : Type) (enc : TypeId × Value → H) :
    ReturnsInHanded {} Tryd.checked os 8 .any (fun w args => (Rows.frameBurstSpec.pre enc Tryd.prog Tryd.f8 [] false w args ∧ laidMetH Tryd.prog [("commonhold/sum.fours", Rows.laid_commonhold_sum_fours)] w) ∧ sizedMet enc Tryd.prog Tryd.f8 (OpenSpec.ofChange Rows.frameBurstSpec) false w args) (Rows.frameBurstSpec.post enc Tryd.prog Tryd.f8 false true false false) := by
  refine returnsInHanded_of_change_and (C := Tryd.checked) (X := fun w _ => laidMetH Tryd.prog [("commonhold/sum.fours", Rows.laid_commonhold_sum_fours)] w) (fun _ _ _ hh h => h.of_heap hh) own started (by kernel_rfl) Tryd.func8
    (ChangeSpec.witness_shaped (enc := enc) (C := Tryd.checked) (os := os) (X := fun w _ => laidMetH Tryd.prog [("commonhold/sum.fours", Rows.laid_commonhold_sum_fours)] w) false (World.doorLaid Tryd.prog 14 os) #[.slice none 0 0, .int .i64 0, .int .i64 0, .bool false] 8 rfl (World.shaped_of_RefB (by kernel_rfl) (by kernel_rfl)) (by kernel_rfl) (by kernel_rfl) (by kernel_rfl) (laidMetH_of_parts3 (fuel := 8) (laidMet_of_run' 8 (by kernel_rfl) (by kernel_rfl)) (by kernel_rfl) (by kernel_rfl))) ?_
  intro W base args ds gs before hval0 hW hcnd hsz0 hL _
  have hval : ∀ (j : Nat) t v, Tryd.f8.params[j]? = some t → args[j]? = some v → Value.okWide Tryd.prog W .any base t v := hval0
  have hW' := hW
  obtain ⟨p, q, hA0, hV, rfl, hfz, hnd⟩ := hW
  have hA : DataW.TrodAll enc Tryd.prog W 0 (fun _ => true) true Tryd.f8.params.toList args.toList ds p := hA0
  have hsz : (DataW.weightsEach Tryd.prog (Tryd.f8.params.toList ++ Rows.frameBurstSpec.plain.varTypes Tryd.prog) (ds ++ gs)).all (· ≤ reachBytes) = true := hsz0
  clear hsz0
  rw [Tryd.params8] at hA hval hsz
  obtain ⟨v0, vs0, d0, ds0, p0, q0, hargs, rfl, rfl, h0, r0⟩ := trodAll_cons hA
  obtain ⟨v1, vs1, d1, ds1, p1, q1, rfl, rfl, rfl, h1, r1⟩ := trodAll_cons r0
  obtain ⟨v2, vs2, d2, ds2, p2, q2, rfl, rfl, rfl, h2, r2⟩ := trodAll_cons r1
  obtain ⟨v3, vs3, d3, ds3, p3, q3, rfl, rfl, rfl, h3, r3⟩ := trodAll_cons r2
  obtain ⟨rfl, rfl, rfl⟩ := trodAll_nil r3
  obtain rfl : args = #[v0, v1, v2, v3] := by cases args; simp_all
  obtain ⟨rfl, rfl⟩ := trodVars_none hV
  obtain ⟨a0, len0, cap0, rfl⟩ := okWide_slice Tryd.underlying22 (hval 0 22 v0 rfl rfl)
  have k0 := h0
  have lt0 : ∀ x ∈ p0, x.block < W.heap.size := by obtain ⟨m, hm⟩ := k0; exact DataW.trod_lt m _ _ _ hm
  obtain ⟨z0, w0, rr0⟩ : ∃ zs, IsRow .u8 W a0 len0 cap0 zs ∧ cap0 * 1 ≤ 140737488351232 := by
    obtain ⟨fuel, hf⟩ := h0
    rcases open_ints Tryd.underlying22 Tryd.underlying5 (by kernel_rfl) hf with ⟨hcs, _⟩ | ⟨x, l, c, zs, hcs, _, hl, hm, hz, hx, hcell, hwz⟩
    · simp [Value.cells] at hcs
      obtain ⟨rfl, rfl, rfl⟩ := hcs
      exact ⟨[], .inl ⟨rfl, rfl, rfl, rfl⟩, by omega⟩
    · simp [Value.cells] at hcs
      obtain ⟨rfl, rfl, rfl⟩ := hcs
      have hd := congrArg Prod.fst hx
      simp only at hd
      subst hd
      have hs := sized_slice hsz (j := 0) rfl rfl Tryd.underlying22
      rw [bytesOfElem] at hs
      have hz2 : zs.length = cap0 := by simpa using hz
      simp only [lits, List.length_map, List.length_take, List.length_drop, reachBytes] at hs
      exact ⟨zs, .inr ⟨_, rfl, hl, hm, by simpa using hz, hcell, hwz⟩, by omega⟩
  obtain ⟨a1, rfl, rfl, rfl, w1⟩ := open_int Tryd.underlying3 (hval 1 3 v1 rfl rfl) h1
  obtain ⟨a2, rfl, rfl, rfl, w2⟩ := open_int Tryd.underlying3 (hval 2 3 v2 rfl rfl) h2
  obtain ⟨a3, rfl, rfl, rfl⟩ := open_bool Tryd.underlying4 (hval 3 4 v3 rfl rfl) h3
  clear hA0 hval0
  refine (walk a0 len0 cap0 z0 a1 a2 a3 W (fours_of_laid hL) w0 rr0 w1 w2).mono fun e W' ⟨he, bel⟩ => ?_
  subst he
  exact ⟨_, rfl, _, _, _, [], _, [], hW', trodAll_mk1 (shut_bool Tryd.underlying4 _), (trodAll_cons_mk (Below.trod laidOut (by kernel_rfl) (of_decide_eq_true (by kernel_rfl)) k0 bel lt0) (trodAll_cons_mk (shut_int Tryd.underlying3 w1) (trodAll_cons_mk (shut_int Tryd.underlying3 w2) (trodAll_cons_mk (shut_bool Tryd.underlying4 _) trodAll_mk0)))), rfl, bel.frame _, fun h => by cases h⟩

theorem over : Rows.frameBurstRow.holds Tryd.pinned (OpenSpec.ofChange Rows.frameBurstSpec) :=
  OpenClaim.holds_of_wide 8 Tryd.f8 rfl rfl rfl rfl rfl rfl rfl ⟨rfl, rfl, rfl, rfl, rfl⟩ rfl rfl rfl rfl rfl (by kernel_rfl) Tryd.func8 (by kernel_rfl)
    (of_decide_eq_true (by kernel_rfl)) (by unfold Func.isWrapper; first | (rw [if_pos (by decide +kernel)]; kernel_rfl) | (rw [if_neg (by decide +kernel)]; exact ⟨rfl, rfl⟩))
    (fun os started H enc _ => lifted os started H enc)

/-- ████ THE STATEMENT ████ -/
theorem proved : Rows.FrameBurstSaid := over
/-- THE CARD: the row with its listed variable tied to the program's text. -/
theorem carded : Rows.FrameBurstCardSaid :=
  Claim7.holds_tied_plain_at .later [] [.data] true (true, "30a9aa1b8a23e96fbf6cf917c6077a115896583229150c0fd195c2e0055eaf84") false
    proved (fun _ h => by cases h) (by kernel_rfl) (fun _ h => by cases h) frameBurst_row_tie rfl ⟨rfl, rfl⟩ (by kernel_rfl) rfl
    (fun f fn hf hfn => by
      obtain rfl : f = 8 := Option.some.inj ((show Tryd.prog.funcNamed "commonhold/commonholdkeep.FrameBurst" = some 8 by kernel_rfl).symm.trans hf) |>.symm
      obtain rfl : fn = Tryd.f8 := (Option.some.inj (Tryd.func8.symm.trans hfn)).symm
      exact ⟨by kernel_rfl, fun j t ht => by
        rw [Tryd.params8] at ht
        rcases j with _ | _ | _ | _ | j
        all_goals first | (simp at ht; done) | (simp at ht; subst ht; kernel_rfl)⟩)
    (by kernel_rfl)
end Go.Proofs.YtjjencnnmpefbaaDoor.frameBurst
namespace Go.Proofs.YtjjencnnmpefbaaDoor
theorem frameBurst_holds : Rows.FrameBurstCardSaid := frameBurst.carded
end Go.Proofs.YtjjencnnmpefbaaDoor
