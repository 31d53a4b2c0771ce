/- SumBurst: for every input the law returns true, at whatever slice of bytes, place and pattern; its listed table is tied to the text of the program. -/
import Derived.Test.YtibdgjkmlomgcaaDoorRows
import Derived.Test.YtibdgjkmlomgcaaDoorFoursLaid
import Derived.Test.YtibdgjkmlomgcaaDoorOctetsKeep
import Derived.Test.YtibdgjkmlomgcaaDoorUnguard
import Derived.Test.YtibdgjkmlomgcaaDoorLitOcts
import Derived.Test.YtibdgjkmlomgcaaDoorTurned
import Derived.WalkKit
import Derived.ProofKit
import Derived.OpenShut
import Derived.ShutString
import Derived.ChangeOld
import Derived.Below
import Derived.LaidMore
import Derived.MakeChecks
import Derived.SevenTiedAt
import Derived.Test.YtibdgjkmlomgcaaDoorCards
import Derived.Test.YtibdgjkmlomgcaaDoorTie
import Derived.SizedLaws
namespace Go.Proofs.YtibdgjkmlomgcaaDoor.sumBurst
open Go.ChangeShapes Go.WideShapes Go.ChangeAt Go.RowKit
open Go.ChangeMaps (open_string shut_string)
set_option linter.unusedVariables false

theorem own : ownKnob Tryd.prog.godebug = none := by kernel_rfl
theorem bytesOfElem : Tryd.prog.bytesOf 5 = 1 := by kernel_rfl
theorem laidOut : laidOutB Tryd.prog = true := by kernel_rfl

/-- WHAT THE WALK IS TOLD OF A SLICE OF INTEGERS THAT CAME IN: it is nil; or it leads to a row of 'cap' cells, the numbers 'zs' (the first 'len' are its elements, the rest its spare room), each fitting its kind. -/
def IsRow (k : IntKind) (w : World) (a : Option Addr) (len cap : Nat) (zs : List Int) : Prop :=
  (a = none ∧ len = 0 ∧ cap = 0 ∧ zs = []) ∨
  ∃ x, a = some x ∧ len ≤ cap ∧ cap ≤ maxLen ∧ zs.length = cap ∧ (∀ i, i < zs.length → w.cell? (x.add i) = some (.int k (zs.getD i 0))) ∧ ∀ n ∈ zs, (Lit.int k n).wf = true

/-! ### STEP 1: THE WALK: the Go text returns true, AND WRITES NOTHING THAT WAS THERE: 'Below w.heap.size w w'' (Derived/Below.lean: '.refl', '.alloc', '.drew', '.setCell' at a new block, '.trans'). Open each 'IsRow' by 'rcases' AHEAD of 'go_enter'; part every test ahead of the walk. -/
set_option maxHeartbeats 2000000 in
theorem walk (a0 : Option Addr) (len0 cap0 : Nat) (z0 : List Int) (a1 : Int) (a2 : Int) (w : World) (tab : Fours w) (w0 : IsRow .u8 w a0 len0 cap0 z0) (rr0 : cap0 * 1 ≤ 140737488351232) (w1 : (Lit.int .i64 a1).wf = true) (w2 : (Lit.int .i64 a2).wf = true) :
    Calls Tryd.prog 7 #[.slice a0 len0 cap0, .int .i64 a1, .int .i64 a2] w fun e w' => e = .returned (.bool true) ∧ Below w.heap.size w w' := by
  obtain ⟨xs, rfl, he0⟩ := row_octs (by omega) w0
  clear w0
  have h0 : Calls Tryd.prog 13 #[.slice a0 xs.length cap0, .int .i64 2000] w fun e w' => ∃ ao' cap', e = .returned (.slice ao' (xs.take 2000).length cap') ∧ Octs w' ao' cap' (xs.take 2000) ∧ Below w.heap.size w w' := Octets_any a0 cap0 xs 2000 (by omega) w he0
  have hpl : (xs.take 2000).length ≤ 2000 := by simp; omega
  obtain ⟨ps, hps⟩ : ∃ ps, ps = xs.take 2000 := ⟨_, rfl⟩
  rw [← hps] at h0 hpl
  clear hps he0
  obtain ⟨n0, hn0⟩ : ∃ n, n = xs.length := ⟨_, rfl⟩
  rw [← hn0] at h0
  rw [← hn0]
  clear hn0
  have HT : ∀ a cap v1, Octs v1 a cap ps → _ := fun a cap v1 h => turned_any a cap ps a1 a2 hpl v1 h
  have H1 : ∀ a cap v1, Fours v1 → Octs v1 a cap ps → _ := fun a cap v1 t h => Of_any a cap ps v1 t h
  have H2 : ∀ a cap v1 ys, Fours v1 → Octs v1 a cap ys → ps.length = ys.length → Calls Tryd.prog 8 #[.slice a ps.length cap] v1 fun e w' => e = .returned (.int .i64 (wd (sumOf 0#32 ys))) ∧ w' = v1 := by
    intro a cap v1 ys t h hl
    rw [hl]
    exact Of_any a cap ys v1 t h
  have H4 : ∀ a cap v1, Fours v1 → Octs v1 a cap [97] → Calls Tryd.prog 8 #[.slice a 1 cap] v1 fun e w' => e = .returned (.int .i64 3904355907) ∧ w' = v1 := by
    intro a cap v1 t h
    have q := Of_any a cap _ v1 t h
    rw [show wd (sumOf 0#32 [97]) = 3904355907 by decide +kernel] at q
    exact q
  obtain ⟨np, hnp⟩ : ∃ n, n = ps.length := ⟨_, rfl⟩
  rw [← hnp] at h0 HT H1 H2 hpl
  clear hnp
  have kc := Tryd.convertLit
  go_enter Tryd.func7, Tryd.ntmps7
  go_wp2_with (first
    | (go_at_call 13; (with_reducible refine h0.mono ?_); rintro e w1 ⟨b0, c0, rfl, o1, bb⟩; have tab := tab.later bb)
    | (go_at_call 14; (with_reducible refine (HT b0 c0 _ o1).mono ?_); rintro e w2 ⟨b1, c1, ys, c, rfl, hly, o2, hseen, b2⟩; have o1 := o1.later b2; have tab := tab.later b2; have bb := bb.trans (b2.mono bb.size); have HY : Hid (np = ys.length) := hly; have HS : Hid (c = 0 ↔ sumOf 0#32 ps = sumOf 0#32 ys) := hseen; clear hly hseen))
  have K2 := fun a cap v1 t h => H2 a cap v1 ys t h HY.out
  clear H2 HT
  by_cases hc : c = 0
  · have hs := HS.out.1 hc
    rw [← hs] at K2
    subst hc
    clear hs HS
    generalize sumOf 0#32 ps = s at H1 K2
    go_wp2_with (first
      | (go_at_call 8; (with_reducible refine (H1 b0 c0 _ tab o1).mono ?_); rintro e w3 ⟨rfl, rfl⟩)
      | (go_at_call 8; (with_reducible refine (K2 b1 c1 _ tab o2).mono ?_); rintro e w4 ⟨rfl, rfl⟩)
      | (go_at_call 8; refine (H4 _ _ _ (tab.later ((Below.refl _ _).alloc (Nat.le_refl _) _)) (octs_alloc _ _ _ _ _ _ rfl (by decide) (by decide) (by decide))).mono ?_; rintro e w8 ⟨rfl, rfl⟩; have bb := bb.alloc bb.size (.cells #[.int .u8 97] 5 (1, 2))))
    go_ret
    exact ⟨rfl, bb⟩
  · have hs : ¬ sumOf 0#32 ps = sumOf 0#32 ys := fun e => hc (HS.out.2 e)
    generalize sumOf 0#32 ps = s at H1 hs
    generalize sumOf 0#32 ys = u at K2 hs
    have hne : (wd s == wd u) = false := by
      simp only [beq_eq_false_iff_ne, ne_eq]
      exact fun e => hs (wd_inj e)
    have hcb : ((c : Int) == 0) = false := by
      simp only [beq_eq_false_iff_ne, ne_eq]
      omega
    clear hs HS
    go_wp2_with (first
      | (go_at_call 8; (with_reducible refine (H1 b0 c0 _ tab o1).mono ?_); rintro e w3 ⟨rfl, rfl⟩)
      | (go_at_call 8; (with_reducible refine (K2 b1 c1 _ tab o2).mono ?_); rintro e w4 ⟨rfl, rfl⟩)
      | (go_at_call 8; refine (H4 _ _ _ (tab.later ((Below.refl _ _).alloc (Nat.le_refl _) _)) (octs_alloc _ _ _ _ _ _ rfl (by decide) (by decide) (by decide))).mono ?_; rintro e w8 ⟨rfl, rfl⟩; have bb := bb.alloc bb.size (.cells #[.int .u8 97] 5 (1, 2))))
    go_ret
    exact ⟨rfl, bb⟩

/-! ### THE ROW's STEP: WRITTEN OUT: LEAVE IT -/
set_option maxRecDepth 100000 in
theorem lifted (os : Os) (started : os.Started) (H : Type) (enc : TypeId × Value → H) :
    ReturnsInHanded {} Tryd.checked os 7 .any (fun w args => (Rows.sumBurstSpec.pre enc Tryd.prog Tryd.f7 [] false w args ∧ laidMetH Tryd.prog [("commonhold/sum.fours", Rows.laid_commonhold_sum_fours)] w) ∧ sizedMet enc Tryd.prog Tryd.f7 (OpenSpec.ofChange Rows.sumBurstSpec) false w args) (Rows.sumBurstSpec.post enc Tryd.prog Tryd.f7 false true false false) := by
  refine returnsInHanded_of_change_and (C := Tryd.checked) (X := fun w _ => laidMetH Tryd.prog [("commonhold/sum.fours", Rows.laid_commonhold_sum_fours)] w) (fun _ _ _ hh h => h.of_heap hh) own started (by kernel_rfl) Tryd.func7
    (ChangeSpec.witness_shaped (enc := enc) (C := Tryd.checked) (os := os) (X := fun w _ => laidMetH Tryd.prog [("commonhold/sum.fours", Rows.laid_commonhold_sum_fours)] w) false (World.doorLaid Tryd.prog 14 os) #[.slice none 0 0, .int .i64 0, .int .i64 0] 8 rfl (World.shaped_of_RefB (by kernel_rfl) (by kernel_rfl)) (by kernel_rfl) (by kernel_rfl) (by kernel_rfl) (laidMetH_of_parts3 (fuel := 8) (laidMet_of_run' 8 (by kernel_rfl) (by kernel_rfl)) (by kernel_rfl) (by kernel_rfl))) ?_
  intro W base args ds gs before hval0 hW hcnd hsz0 hL _
  have hval : ∀ (j : Nat) t v, Tryd.f7.params[j]? = some t → args[j]? = some v → Value.okWide Tryd.prog W .any base t v := hval0
  have hW' := hW
  obtain ⟨p, q, hA0, hV, rfl, hfz, hnd⟩ := hW
  have hA : DataW.TrodAll enc Tryd.prog W 0 (fun _ => true) true Tryd.f7.params.toList args.toList ds p := hA0
  have hsz : (DataW.weightsEach Tryd.prog (Tryd.f7.params.toList ++ Rows.sumBurstSpec.plain.varTypes Tryd.prog) (ds ++ gs)).all (· ≤ reachBytes) = true := hsz0
  clear hsz0
  rw [Tryd.params7] at hA hval hsz
  obtain ⟨v0, vs0, d0, ds0, p0, q0, hargs, rfl, rfl, h0, r0⟩ := trodAll_cons hA
  obtain ⟨v1, vs1, d1, ds1, p1, q1, rfl, rfl, rfl, h1, r1⟩ := trodAll_cons r0
  obtain ⟨v2, vs2, d2, ds2, p2, q2, rfl, rfl, rfl, h2, r2⟩ := trodAll_cons r1
  obtain ⟨rfl, rfl, rfl⟩ := trodAll_nil r2
  obtain rfl : args = #[v0, v1, v2] := by cases args; simp_all
  obtain ⟨rfl, rfl⟩ := trodVars_none hV
  obtain ⟨a0, len0, cap0, rfl⟩ := okWide_slice Tryd.underlying22 (hval 0 22 v0 rfl rfl)
  have k0 := h0
  have lt0 : ∀ x ∈ p0, x.block < W.heap.size := by obtain ⟨m, hm⟩ := k0; exact DataW.trod_lt m _ _ _ hm
  obtain ⟨z0, w0, rr0⟩ : ∃ zs, IsRow .u8 W a0 len0 cap0 zs ∧ cap0 * 1 ≤ 140737488351232 := by
    obtain ⟨fuel, hf⟩ := h0
    rcases open_ints Tryd.underlying22 Tryd.underlying5 (by kernel_rfl) hf with ⟨hcs, _⟩ | ⟨x, l, c, zs, hcs, _, hl, hm, hz, hx, hcell, hwz⟩
    · simp [Value.cells] at hcs
      obtain ⟨rfl, rfl, rfl⟩ := hcs
      exact ⟨[], .inl ⟨rfl, rfl, rfl, rfl⟩, by omega⟩
    · simp [Value.cells] at hcs
      obtain ⟨rfl, rfl, rfl⟩ := hcs
      have hd := congrArg Prod.fst hx
      simp only at hd
      subst hd
      have hs := sized_slice hsz (j := 0) rfl rfl Tryd.underlying22
      rw [bytesOfElem] at hs
      have hz2 : zs.length = cap0 := by simpa using hz
      simp only [lits, List.length_map, List.length_take, List.length_drop, reachBytes] at hs
      exact ⟨zs, .inr ⟨_, rfl, hl, hm, by simpa using hz, hcell, hwz⟩, by omega⟩
  obtain ⟨a1, rfl, rfl, rfl, w1⟩ := open_int Tryd.underlying3 (hval 1 3 v1 rfl rfl) h1
  obtain ⟨a2, rfl, rfl, rfl, w2⟩ := open_int Tryd.underlying3 (hval 2 3 v2 rfl rfl) h2
  clear hA0 hval0
  refine (walk a0 len0 cap0 z0 a1 a2 W (fours_of_laid hL) w0 rr0 w1 w2).mono fun e W' ⟨he, bel⟩ => ?_
  subst he
  exact ⟨_, rfl, _, _, _, [], _, [], hW', trodAll_mk1 (shut_bool Tryd.underlying4 _), (trodAll_cons_mk (Below.trod laidOut (by kernel_rfl) (of_decide_eq_true (by kernel_rfl)) k0 bel lt0) (trodAll_cons_mk (shut_int Tryd.underlying3 w1) (trodAll_cons_mk (shut_int Tryd.underlying3 w2) trodAll_mk0))), rfl, bel.frame _, fun h => by cases h⟩

theorem over : Rows.sumBurstRow.holds Tryd.pinned (OpenSpec.ofChange Rows.sumBurstSpec) :=
  OpenClaim.holds_of_wide 7 Tryd.f7 rfl rfl rfl rfl rfl rfl rfl ⟨rfl, rfl, rfl, rfl, rfl⟩ rfl rfl rfl rfl rfl (by kernel_rfl) Tryd.func7 (by kernel_rfl)
    (of_decide_eq_true (by kernel_rfl)) (by unfold Func.isWrapper; first | (rw [if_pos (by decide +kernel)]; kernel_rfl) | (rw [if_neg (by decide +kernel)]; exact ⟨rfl, rfl⟩))
    (fun os started H enc _ => lifted os started H enc)

/-- ████ THE STATEMENT ████ -/
theorem proved : Rows.SumBurstSaid := over
/-- THE CARD: the row with its listed variable tied to the program's text. -/
theorem carded : Rows.SumBurstCardSaid :=
  Claim7.holds_tied_plain_at .later [] [.data] true (true, "52a8b3aea4e653344220f6b5ae5d6275540cebf81699a40d0f480d3ea6befea3") false
    proved (fun _ h => by cases h) (by kernel_rfl) (fun _ h => by cases h) sumBurst_row_tie rfl ⟨rfl, rfl⟩ (by kernel_rfl) rfl
    (fun f fn hf hfn => by
      obtain rfl : f = 7 := Option.some.inj ((show Tryd.prog.funcNamed "commonhold/commonholdkeep.SumBurst" = some 7 by kernel_rfl).symm.trans hf) |>.symm
      obtain rfl : fn = Tryd.f7 := (Option.some.inj (Tryd.func7.symm.trans hfn)).symm
      exact ⟨by kernel_rfl, fun j t ht => by
        rw [Tryd.params7] at ht
        rcases j with _ | _ | _ | j
        all_goals first | (simp at ht; done) | (simp at ht; subst ht; kernel_rfl)⟩)
    (by kernel_rfl)
end Go.Proofs.YtibdgjkmlomgcaaDoor.sumBurst
namespace Go.Proofs.YtibdgjkmlomgcaaDoor
theorem sumBurst_holds : Rows.SumBurstCardSaid := sumBurst.carded
end Go.Proofs.YtibdgjkmlomgcaaDoor
