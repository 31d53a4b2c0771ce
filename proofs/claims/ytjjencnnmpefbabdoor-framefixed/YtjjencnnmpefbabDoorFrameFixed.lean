/- For every slice of bytes: what opens is what was sealed, the frame of what was opened has the same bytes: the statement FrameFixed of this seat, with no condition of ours. -/
import Derived.Test.YtjjencnnmpefbabDoorRows
import Derived.Test.YtjjencnnmpefbabDoorFrameSeal
import Derived.Test.YtjjencnnmpefbabDoorFrameOpen
import Derived.Test.YtjjencnnmpefbabDoorOctetsKeep
import Derived.Test.YtjjencnnmpefbabDoorSameKeep
import Derived.WalkKit
import Derived.ProofKit
import Derived.OpenShut
import Derived.ShutString
import Derived.ChangeOld
import Derived.Below
import Derived.LaidMore
import Derived.MakeChecks
import Derived.SevenTiedAt
import Derived.Test.YtjjencnnmpefbabDoorCards
import Derived.Test.YtjjencnnmpefbabDoorTie
import Derived.SizedLaws
namespace Go.Proofs.YtjjencnnmpefbabDoor.frameFixed
open Go.ChangeShapes Go.WideShapes Go.ChangeAt Go.RowKit
open Go.ChangeMaps (open_string shut_string)
set_option linter.unusedVariables false

theorem own : ownKnob Tryd.prog.godebug = none := by kernel_rfl
theorem bytesOfElem : Tryd.prog.bytesOf 5 = 1 := by kernel_rfl
theorem laidOut : laidOutB Tryd.prog = true := by kernel_rfl

/-- WHAT THE WALK IS TOLD OF A SLICE OF INTEGERS THAT CAME IN: it is nil; or it leads to a row of 'cap' cells, the numbers 'zs' (the first 'len' are its elements, the rest its spare room), each fitting its kind. -/
def IsRow (k : IntKind) (w : World) (a : Option Addr) (len cap : Nat) (zs : List Int) : Prop :=
  (a = none ∧ len = 0 ∧ cap = 0 ∧ zs = []) ∨
  ∃ x, a = some x ∧ len ≤ cap ∧ cap ≤ maxLen ∧ zs.length = cap ∧ (∀ i, i < zs.length → w.cell? (x.add i) = some (.int k (zs.getD i 0))) ∧ ∀ n ∈ zs, (Lit.int k n).wf = true

/-! ### STEP 1: THE WALK: the Go text returns true, AND WRITES NOTHING THAT WAS THERE: 'Below w.heap.size w w'' (Derived/Below.lean: '.refl', '.alloc', '.drew', '.setCell' at a new block, '.trans'). Open each 'IsRow' by 'rcases' AHEAD of 'go_enter'; part every test ahead of the walk. -/
set_option maxHeartbeats 2000000 in
theorem walk (a0 : Option Addr) (len0 cap0 : Nat) (z0 : List Int) (w : World) (tab : Fours w) (w0 : IsRow .u8 w a0 len0 cap0 z0) (rr0 : cap0 * 1 ≤ 140737488351232) :
    Calls Tryd.prog 3 #[.slice a0 len0 cap0] w fun e w' => e = .returned (.bool true) ∧ Below w.heap.size w w' := by
  obtain ⟨xs, rfl, he0⟩ := row_octs (by omega) w0
  clear w0
  have h0 : Calls Tryd.prog 6 #[.slice a0 xs.length cap0, .int .i64 8000] w fun e w' => ∃ ao' cap', e = .returned (.slice ao' (xs.take 8000).length cap') ∧ Octs w' ao' cap' (xs.take 8000) ∧ Below w.heap.size w w' := Octets_any a0 cap0 xs 8000 (by omega) w he0
  have hl := he0.2.1
  have htl : (xs.take 8000).length ≤ 8000 ∧ (xs.take 8000).length ≤ xs.length := by rw [List.length_take]; omega
  have htb : ∀ y ∈ xs.take 8000, 0 ≤ y ∧ y ≤ 255 := fun y hy => he0.2.2.2.1 y (List.mem_of_mem_take hy)
  have htt : ∀ m, m ≤ (xs.take 8000).length → (xs.take 8000).take m = xs.take m := by
    intro m hm
    rw [List.take_take, Nat.min_eq_left (by omega)]
  have HE : Hid (Octs w a0 cap0 xs) := he0
  have hcap := he0.1
  have HZ : ∀ v1, Fours v1 → Calls Tryd.prog 7 #[.slice none 0 0] v1 fun e w' => ∃ ao' cap', e = .returned (.tuple #[.slice ao' 8 cap', .int .i64 0]) ∧ Octs w' ao' cap' (frameOf []) ∧ Below v1.heap.size v1 w' := fun v1 t => Seal_any none 0 [] v1 t (Octs.nil _ _ _ (fun _ => rfl))
  obtain ⟨ts, hts⟩ : ∃ ts, ts = xs.take 8000 := ⟨_, rfl⟩
  rw [← hts] at h0 htl htb htt
  have HO : ∀ a cap v1, Fours v1 → Octs v1 a cap ts → _ := fun a cap v1 t h => Open_any a cap ts v1 t h
  obtain ⟨nt, hnt⟩ : ∃ n, n = ts.length := ⟨_, rfl⟩
  by_cases hz : openErr ts = 0
  · obtain ⟨f1, f2, f3, f4, f5⟩ := open_fixed htb hz
    rw [htt _ f2] at f5
    rw [hz] at HO
    obtain ⟨vs, hvs⟩ : ∃ vs, vs = openVal ts := ⟨_, rfl⟩
    obtain ⟨m, hm⟩ : ∃ m, m = openLen ts := ⟨_, rfl⟩
    rw [← hm] at HO f2 f3 f4 f5
    rw [← hvs] at HO f1 f5
    have HX : ∀ a cap v1, Fours v1 → Octs v1 a cap vs → Calls Tryd.prog 7 #[.slice a vs.length cap] v1 fun e w' => ∃ ao' cap', e = .returned (.tuple #[.slice ao' m cap', .int .i64 0]) ∧ Octs w' ao' cap' (xs.take m) ∧ Below v1.heap.size v1 w' := by
      intro a cap v1 t h
      have := Seal_any a cap vs v1 t h
      rw [show sealVal vs = xs.take m by rw [← f5]; exact if_neg (by omega), show sealErr vs = 0 from if_neg (by omega), List.length_take, Nat.min_eq_left (by omega)] at this
      exact this
    have HS : ∀ a a' d d' v1, Octs v1 a d (xs.take m) → Octs v1 a' d' (xs.take m) → Calls Tryd.prog 8 #[.slice a m d, .slice a' m d'] v1 fun e w' => e = .returned (.bool true) ∧ Below v1.heap.size v1 w' := by
      intro a a' d d' v1 h h'
      have := sameKeep_any a a' d d' _ _ v1 h h'
      rw [decide_eq_true rfl, List.length_take, Nat.min_eq_left (by omega)] at this
      exact this
    obtain ⟨b, off, rfl, -⟩ := HE.out.at (k := 0) (by omega)
    have HT : Hid (Octs w (some ⟨b, off, none⟩) cap0 (xs.take m)) := HE.out.take m
    have hmx : m ≤ xs.length := by omega
    obtain ⟨n0, hn0⟩ : ∃ n, n = xs.length := ⟨_, rfl⟩
    rw [← hn0] at h0 hl hmx hcap
    rw [← hn0]
    rw [← hnt] at h0 HO
    generalize xs.take m = ms at HX HS HT
    generalize vs.length = nv at HO HX
    have hm0 : ¬ cap0 = 0 := by omega
    clear hts hnt htl htb htt hz f1 f2 f5 hvs hm hn0 HE
    go_enter Tryd.func3, Tryd.ntmps3
    go_wp2_with (first
      | (go_at_call 6; (with_reducible refine h0.mono ?_); rintro e w1 ⟨b0, c0, rfl, o1, bb⟩; have tab := tab.later bb)
      | (go_at_call 5; (with_reducible refine (HO b0 c0 _ tab o1).mono ?_); rintro e w2 ⟨b1, c1, rfl, o2, b2⟩; have tab := tab.later b2; have bb := bb.trans (b2.mono bb.size))
      | (go_at_call 7; (with_reducible refine (HZ _ tab).mono ?_); rintro e w3 ⟨b3, c3, rfl, o3, b4⟩; have tab := tab.later b4; have o2 := o2.later b4; have bb := bb.trans (b4.mono bb.size))
      | (go_at_call 7; (with_reducible refine (HX b1 c1 _ tab o2).mono ?_); rintro e w4 ⟨b5, c5, rfl, o5, b6⟩; have bb := bb.trans (b6.mono bb.size))
      | (go_at_call 8; (with_reducible refine (HS b5 _ c5 _ _ o5 (HT.out.later bb)).mono ?_); rintro e w7 ⟨rfl, b7⟩; have bb := bb.trans (b7.mono bb.size)))
    all_goals
      go_ret
      exact ⟨rfl, bb⟩
  · obtain ⟨e2, e3⟩ := open_bad hz
    rw [e2, e3] at HO
    obtain ⟨c, hc⟩ : ∃ c, c = openErr ts := ⟨_, rfl⟩
    rw [← hc] at HO hz
    rw [← hnt] at h0 HO
    have hcb : (c == 0) = false := by simpa using hz
    obtain ⟨n0, hn0⟩ : ∃ n, n = xs.length := ⟨_, rfl⟩
    rw [← hn0] at h0 hl
    rw [← hn0]
    clear hts hnt htl htb htt hz hc hn0 HE e2 e3 hcap
    go_enter Tryd.func3, Tryd.ntmps3
    go_wp2_with (first
      | (go_at_call 6; (with_reducible refine h0.mono ?_); rintro e w1 ⟨b0, c0, rfl, o1, bb⟩; have tab := tab.later bb)
      | (go_at_call 5; (with_reducible refine (HO b0 c0 _ tab o1).mono ?_); rintro e w2 ⟨b1, c1, rfl, o2, b2⟩; have tab := tab.later b2; have bb := bb.trans (b2.mono bb.size))
      | (go_at_call 7; (with_reducible refine (HZ _ tab).mono ?_); rintro e w3 ⟨b3, c3, rfl, o3, b4⟩; have tab := tab.later b4; have bb := bb.trans (b4.mono bb.size)))
    go_ret
    exact ⟨rfl, bb⟩

/-! ### THE ROW's STEP: WRITTEN OUT: LEAVE IT -/
set_option maxRecDepth 100000 in
theorem lifted (os : Os) (started : os.Started) (H : Type) (enc : TypeId × Value → H) :
    ReturnsInHanded {} Tryd.checked os 3 .any (fun w args => (Rows.frameFixedSpec.pre enc Tryd.prog Tryd.f3 [] false w args ∧ laidMetH Tryd.prog [("commonhold/sum.fours", Rows.laid_commonhold_sum_fours)] w) ∧ sizedMet enc Tryd.prog Tryd.f3 (OpenSpec.ofChange Rows.frameFixedSpec) false w args) (Rows.frameFixedSpec.post enc Tryd.prog Tryd.f3 false true false false) := by
  refine returnsInHanded_of_change_and (C := Tryd.checked) (X := fun w _ => laidMetH Tryd.prog [("commonhold/sum.fours", Rows.laid_commonhold_sum_fours)] w) (fun _ _ _ hh h => h.of_heap hh) own started (by kernel_rfl) Tryd.func3
    (ChangeSpec.witness_shaped (enc := enc) (C := Tryd.checked) (os := os) (X := fun w _ => laidMetH Tryd.prog [("commonhold/sum.fours", Rows.laid_commonhold_sum_fours)] w) false (World.doorLaid Tryd.prog 14 os) #[.slice none 0 0] 8 rfl (World.shaped_of_RefB (by kernel_rfl) (by kernel_rfl)) (by kernel_rfl) (by kernel_rfl) (by kernel_rfl) (laidMetH_of_parts3 (fuel := 8) (laidMet_of_run' 8 (by kernel_rfl) (by kernel_rfl)) (by kernel_rfl) (by kernel_rfl))) ?_
  intro W base args ds gs before hval0 hW hcnd hsz0 hL _
  have hval : ∀ (j : Nat) t v, Tryd.f3.params[j]? = some t → args[j]? = some v → Value.okWide Tryd.prog W .any base t v := hval0
  have hW' := hW
  obtain ⟨p, q, hA0, hV, rfl, hfz, hnd⟩ := hW
  have hA : DataW.TrodAll enc Tryd.prog W 0 (fun _ => true) true Tryd.f3.params.toList args.toList ds p := hA0
  have hsz : (DataW.weightsEach Tryd.prog (Tryd.f3.params.toList ++ Rows.frameFixedSpec.plain.varTypes Tryd.prog) (ds ++ gs)).all (· ≤ reachBytes) = true := hsz0
  clear hsz0
  rw [Tryd.params3] at hA hval hsz
  obtain ⟨v0, vs0, d0, ds0, p0, q0, hargs, rfl, rfl, h0, r0⟩ := trodAll_cons hA
  obtain ⟨rfl, rfl, rfl⟩ := trodAll_nil r0
  obtain rfl : args = #[v0] := by cases args; simp_all
  obtain ⟨rfl, rfl⟩ := trodVars_none hV
  obtain ⟨a0, len0, cap0, rfl⟩ := okWide_slice Tryd.underlying22 (hval 0 22 v0 rfl rfl)
  have k0 := h0
  have lt0 : ∀ x ∈ p0, x.block < W.heap.size := by obtain ⟨m, hm⟩ := k0; exact DataW.trod_lt m _ _ _ hm
  obtain ⟨z0, w0, rr0⟩ : ∃ zs, IsRow .u8 W a0 len0 cap0 zs ∧ cap0 * 1 ≤ 140737488351232 := by
    obtain ⟨fuel, hf⟩ := h0
    rcases open_ints Tryd.underlying22 Tryd.underlying5 (by kernel_rfl) hf with ⟨hcs, _⟩ | ⟨x, l, c, zs, hcs, _, hl, hm, hz, hx, hcell, hwz⟩
    · simp [Value.cells] at hcs
      obtain ⟨rfl, rfl, rfl⟩ := hcs
      exact ⟨[], .inl ⟨rfl, rfl, rfl, rfl⟩, by omega⟩
    · simp [Value.cells] at hcs
      obtain ⟨rfl, rfl, rfl⟩ := hcs
      have hd := congrArg Prod.fst hx
      simp only at hd
      subst hd
      have hs := sized_slice hsz (j := 0) rfl rfl Tryd.underlying22
      rw [bytesOfElem] at hs
      have hz2 : zs.length = cap0 := by simpa using hz
      simp only [lits, List.length_map, List.length_take, List.length_drop, reachBytes] at hs
      exact ⟨zs, .inr ⟨_, rfl, hl, hm, by simpa using hz, hcell, hwz⟩, by omega⟩
  clear hA0 hval0
  refine (walk a0 len0 cap0 z0 W (fours_of_laid hL) w0 rr0).mono fun e W' ⟨he, bel⟩ => ?_
  subst he
  exact ⟨_, rfl, _, _, _, [], _, [], hW', trodAll_mk1 (shut_bool Tryd.underlying4 _), (trodAll_cons_mk (Below.trod laidOut (by kernel_rfl) (of_decide_eq_true (by kernel_rfl)) k0 bel lt0) trodAll_mk0), rfl, bel.frame _, fun h => by cases h⟩

theorem over : Rows.frameFixedRow.holds Tryd.pinned (OpenSpec.ofChange Rows.frameFixedSpec) :=
  OpenClaim.holds_of_wide 3 Tryd.f3 rfl rfl rfl rfl rfl rfl rfl ⟨rfl, rfl, rfl, rfl, rfl⟩ rfl rfl rfl rfl rfl (by kernel_rfl) Tryd.func3 (by kernel_rfl)
    (of_decide_eq_true (by kernel_rfl)) (by unfold Func.isWrapper; first | (rw [if_pos (by decide +kernel)]; kernel_rfl) | (rw [if_neg (by decide +kernel)]; exact ⟨rfl, rfl⟩))
    (fun os started H enc _ => lifted os started H enc)

/-- ████ THE STATEMENT ████ -/
theorem proved : Rows.FrameFixedSaid := over
/-- THE CARD: the row with its listed variable tied to the program's text. -/
theorem carded : Rows.FrameFixedCardSaid :=
  Claim7.holds_tied_plain_at .later [] [.data] true (true, "3aa297948c619c08ea27e74c58a48264ee21c2b14804e508ea82fd70383b6e32") false
    proved (fun _ h => by cases h) (by kernel_rfl) (fun _ h => by cases h) frameFixed_row_tie rfl ⟨rfl, rfl⟩ (by kernel_rfl) rfl
    (fun f fn hf hfn => by
      obtain rfl : f = 3 := Option.some.inj ((show Tryd.prog.funcNamed "commonhold/commonholdkeep.FrameFixed" = some 3 by kernel_rfl).symm.trans hf) |>.symm
      obtain rfl : fn = Tryd.f3 := (Option.some.inj (Tryd.func3.symm.trans hfn)).symm
      exact ⟨by kernel_rfl, fun j t ht => by
        rw [Tryd.params3] at ht
        rcases j with _ | j
        all_goals first | (simp at ht; done) | (simp at ht; subst ht; kernel_rfl)⟩)
    (by kernel_rfl)
end Go.Proofs.YtjjencnnmpefbabDoor.frameFixed
namespace Go.Proofs.YtjjencnnmpefbabDoor
theorem frameFixed_holds : Rows.FrameFixedCardSaid := frameFixed.carded
end Go.Proofs.YtjjencnnmpefbabDoor
