/- For every slice of bytes and every whole number: the frame of the bytes (up to 2000 of them), cut wherever the number picks, is none (ErrShort): the statement FrameTorn of this seat, with no condition of ours. -/
import Derived.Test.YtjjencnnmpefbaaDoorRows
import Derived.Test.YtjjencnnmpefbaaDoorFrameSeal
import Derived.Test.YtjjencnnmpefbaaDoorFrameOpen
import Derived.Test.YtjjencnnmpefbaaDoorOctetsKeep
import Derived.Test.YtjjencnnmpefbaaDoorPicked
import Derived.WalkKit
import Derived.ProofKit
import Derived.OpenShut
import Derived.ShutString
import Derived.ChangeOld
import Derived.Below
import Derived.LaidMore
import Derived.MakeChecks
import Derived.SevenTiedAt
import Derived.Test.YtjjencnnmpefbaaDoorCards
import Derived.Test.YtjjencnnmpefbaaDoorTie
import Derived.SizedLaws
namespace Go.Proofs.YtjjencnnmpefbaaDoor.frameTorn
open Go.ChangeShapes Go.WideShapes Go.ChangeAt Go.RowKit
open Go.ChangeMaps (open_string shut_string)
set_option linter.unusedVariables false

theorem own : ownKnob Tryd.prog.godebug = none := by kernel_rfl
theorem bytesOfElem : Tryd.prog.bytesOf 5 = 1 := by kernel_rfl
theorem laidOut : laidOutB Tryd.prog = true := by kernel_rfl

/-- WHAT THE WALK IS TOLD OF A SLICE OF INTEGERS THAT CAME IN: it is nil; or it leads to a row of 'cap' cells, the numbers 'zs' (the first 'len' are its elements, the rest its spare room), each fitting its kind. -/
def IsRow (k : IntKind) (w : World) (a : Option Addr) (len cap : Nat) (zs : List Int) : Prop :=
  (a = none ∧ len = 0 ∧ cap = 0 ∧ zs = []) ∨
  ∃ x, a = some x ∧ len ≤ cap ∧ cap ≤ maxLen ∧ zs.length = cap ∧ (∀ i, i < zs.length → w.cell? (x.add i) = some (.int k (zs.getD i 0))) ∧ ∀ n ∈ zs, (Lit.int k n).wf = true

/-! ### STEP 1: THE WALK: the Go text returns true, AND WRITES NOTHING THAT WAS THERE: 'Below w.heap.size w w'' (Derived/Below.lean: '.refl', '.alloc', '.drew', '.setCell' at a new block, '.trans'). Open each 'IsRow' by 'rcases' AHEAD of 'go_enter'; part every test ahead of the walk. -/
set_option maxHeartbeats 2000000 in
theorem walk (a0 : Option Addr) (len0 cap0 : Nat) (z0 : List Int) (a1 : Int) (w : World) (tab : Fours w) (w0 : IsRow .u8 w a0 len0 cap0 z0) (rr0 : cap0 * 1 ≤ 140737488351232) (w1 : (Lit.int .i64 a1).wf = true) :
    Calls Tryd.prog 7 #[.slice a0 len0 cap0, .int .i64 a1] w fun e w' => e = .returned (.bool true) ∧ Below w.heap.size w w' := by
  obtain ⟨xs, rfl, he0⟩ := row_octs (by omega) w0
  clear w0
  have h0 : Calls Tryd.prog 18 #[.slice a0 xs.length cap0, .int .i64 2000] w fun e w' => ∃ ao' cap', e = .returned (.slice ao' (xs.take 2000).length cap') ∧ Octs w' ao' cap' (xs.take 2000) ∧ Below w.heap.size w w' := Octets_any a0 cap0 xs 2000 (by omega) w he0
  have hpl : (xs.take 2000).length ≤ 2000 := by simp; omega
  obtain ⟨ps, hps⟩ : ∃ ps, ps = xs.take 2000 := ⟨_, rfl⟩
  rw [← hps] at h0 hpl
  clear hps he0
  obtain ⟨n0, hn0⟩ : ∃ n, n = xs.length := ⟨_, rfl⟩
  rw [← hn0] at h0
  rw [← hn0]
  clear hn0
  obtain ⟨fs, hfs⟩ : ∃ fs, fs = frameOf ps := ⟨_, rfl⟩
  have hfl : fs.length = ps.length + 8 := by rw [hfs]; exact frameOf_length ps
  have HX : ∀ a cap v1, Fours v1 → Octs v1 a cap ps → Calls Tryd.prog 9 #[.slice a ps.length cap] v1 fun e w' => ∃ ao' cap', e = .returned (.tuple #[.slice ao' (ps.length + 8) cap', .int .i64 0]) ∧ Octs w' ao' cap' fs ∧ Below v1.heap.size v1 w' := by
    intro a cap v1 t h
    have := Seal_any a cap ps v1 t h
    rw [show sealVal ps = fs by rw [hfs]; exact if_neg (by omega), show sealErr ps = 0 from if_neg (by omega), hfl] at this
    exact this
  obtain ⟨k, hk⟩ : ∃ k : Nat, (k : Int) = a1 % ((ps.length + 8 : Nat) : Int) := ⟨(a1 % ((ps.length + 8 : Nat) : Int)).toNat, Int.toNat_of_nonneg (Int.emod_nonneg _ (by omega))⟩
  have hlt : k < ps.length + 8 := by
    have := Int.emod_lt_of_pos a1 (b := ((ps.length + 8 : Nat) : Int)) (by omega)
    omega
  have HK : ∀ v1, Calls Tryd.prog 20 #[.int .i64 a1, .int .i64 ((ps.length : Int) + 8)] v1 fun e w' => e = .returned (.int .i64 (k : Int)) ∧ v1 = w' := by
    intro v1
    have := Picked_any a1 ((ps.length + 8 : Nat) : Int) (by omega) (by omega) v1
    rw [← hk] at this
    exact this
  have HP : ∀ a cap v1, Fours v1 → Octs v1 a cap fs → Calls Tryd.prog 13 #[.slice a k cap] v1 fun e w' => ∃ ao' cap', e = .returned (.tuple #[.slice ao' 0 cap', .int .i64 0, .int .i64 5]) ∧ Octs w' ao' cap' [] ∧ Below v1.heap.size v1 w' := by
    intro a cap v1 t h
    have := Open_any a cap (fs.take k) v1 t (h.take k)
    obtain ⟨q1, q2, q3⟩ := open_cut ps (by omega) k hlt
    rw [← hfs] at q1 q2 q3
    rw [q1, q2, q3, List.length_take, hfl, Nat.min_eq_left (by omega)] at this
    exact this
  have HC : Hid (∀ a cap v1, Octs v1 a cap fs → ps.length + 8 ≤ cap) := by
    intro a cap v1 h
    rw [← hfl]
    exact h.1
  obtain ⟨np, hnp⟩ : ∃ n, n = ps.length := ⟨_, rfl⟩
  rw [← hnp] at h0 HX HK hpl hlt HC
  clear hfs hfl hnp hk
  go_enter Tryd.func7, Tryd.ntmps7
  go_wp2_with (first
    | (go_at_call 18; (with_reducible refine h0.mono ?_); rintro e w1 ⟨b0, c0, rfl, o1, bb⟩; have tab := tab.later bb)
    | (go_at_call 9; (with_reducible refine (HX b0 c0 _ tab o1).mono ?_); rintro e w2 ⟨b1, c1, rfl, o2, b2⟩; have tab := tab.later b2; have bb := bb.trans (b2.mono bb.size); have hc1 := HC.out _ _ _ o2)
    | (go_at_call 20; (with_reducible refine (HK _).mono ?_); rintro e w3 ⟨rfl, rfl⟩)
    | (go_at_call 13; (with_reducible refine (HP b1 c1 _ tab o2).mono ?_); rintro e w9 ⟨b9, c9, rfl, o9, b10⟩; have bb := bb.trans (b10.mono bb.size)))
  go_ret
  exact ⟨rfl, bb⟩

/-! ### THE ROW's STEP: WRITTEN OUT: LEAVE IT -/
set_option maxRecDepth 100000 in
theorem lifted (os : Os) (started : os.Started) (H : Type) (enc : TypeId × Value → H) :
    ReturnsInHanded {} Tryd.checked os 7 .any (fun w args => (Rows.frameTornSpec.pre enc Tryd.prog Tryd.f7 [] false w args ∧ laidMetH Tryd.prog [("commonhold/sum.fours", Rows.laid_commonhold_sum_fours)] w) ∧ sizedMet enc Tryd.prog Tryd.f7 (OpenSpec.ofChange Rows.frameTornSpec) false w args) (Rows.frameTornSpec.post enc Tryd.prog Tryd.f7 false true false false) := by
  refine returnsInHanded_of_change_and (C := Tryd.checked) (X := fun w _ => laidMetH Tryd.prog [("commonhold/sum.fours", Rows.laid_commonhold_sum_fours)] w) (fun _ _ _ hh h => h.of_heap hh) own started (by kernel_rfl) Tryd.func7
    (ChangeSpec.witness_shaped (enc := enc) (C := Tryd.checked) (os := os) (X := fun w _ => laidMetH Tryd.prog [("commonhold/sum.fours", Rows.laid_commonhold_sum_fours)] w) false (World.doorLaid Tryd.prog 14 os) #[.slice none 0 0, .int .i64 0] 8 rfl (World.shaped_of_RefB (by kernel_rfl) (by kernel_rfl)) (by kernel_rfl) (by kernel_rfl) (by kernel_rfl) (laidMetH_of_parts3 (fuel := 8) (laidMet_of_run' 8 (by kernel_rfl) (by kernel_rfl)) (by kernel_rfl) (by kernel_rfl))) ?_
  intro W base args ds gs before hval0 hW hcnd hsz0 hL _
  have hval : ∀ (j : Nat) t v, Tryd.f7.params[j]? = some t → args[j]? = some v → Value.okWide Tryd.prog W .any base t v := hval0
  have hW' := hW
  obtain ⟨p, q, hA0, hV, rfl, hfz, hnd⟩ := hW
  have hA : DataW.TrodAll enc Tryd.prog W 0 (fun _ => true) true Tryd.f7.params.toList args.toList ds p := hA0
  have hsz : (DataW.weightsEach Tryd.prog (Tryd.f7.params.toList ++ Rows.frameTornSpec.plain.varTypes Tryd.prog) (ds ++ gs)).all (· ≤ reachBytes) = true := hsz0
  clear hsz0
  rw [Tryd.params7] at hA hval hsz
  obtain ⟨v0, vs0, d0, ds0, p0, q0, hargs, rfl, rfl, h0, r0⟩ := trodAll_cons hA
  obtain ⟨v1, vs1, d1, ds1, p1, q1, rfl, rfl, rfl, h1, r1⟩ := trodAll_cons r0
  obtain ⟨rfl, rfl, rfl⟩ := trodAll_nil r1
  obtain rfl : args = #[v0, v1] := by cases args; simp_all
  obtain ⟨rfl, rfl⟩ := trodVars_none hV
  obtain ⟨a0, len0, cap0, rfl⟩ := okWide_slice Tryd.underlying22 (hval 0 22 v0 rfl rfl)
  have k0 := h0
  have lt0 : ∀ x ∈ p0, x.block < W.heap.size := by obtain ⟨m, hm⟩ := k0; exact DataW.trod_lt m _ _ _ hm
  obtain ⟨z0, w0, rr0⟩ : ∃ zs, IsRow .u8 W a0 len0 cap0 zs ∧ cap0 * 1 ≤ 140737488351232 := by
    obtain ⟨fuel, hf⟩ := h0
    rcases open_ints Tryd.underlying22 Tryd.underlying5 (by kernel_rfl) hf with ⟨hcs, _⟩ | ⟨x, l, c, zs, hcs, _, hl, hm, hz, hx, hcell, hwz⟩
    · simp [Value.cells] at hcs
      obtain ⟨rfl, rfl, rfl⟩ := hcs
      exact ⟨[], .inl ⟨rfl, rfl, rfl, rfl⟩, by omega⟩
    · simp [Value.cells] at hcs
      obtain ⟨rfl, rfl, rfl⟩ := hcs
      have hd := congrArg Prod.fst hx
      simp only at hd
      subst hd
      have hs := sized_slice hsz (j := 0) rfl rfl Tryd.underlying22
      rw [bytesOfElem] at hs
      have hz2 : zs.length = cap0 := by simpa using hz
      simp only [lits, List.length_map, List.length_take, List.length_drop, reachBytes] at hs
      exact ⟨zs, .inr ⟨_, rfl, hl, hm, by simpa using hz, hcell, hwz⟩, by omega⟩
  obtain ⟨a1, rfl, rfl, rfl, w1⟩ := open_int Tryd.underlying3 (hval 1 3 v1 rfl rfl) h1
  clear hA0 hval0
  refine (walk a0 len0 cap0 z0 a1 W (fours_of_laid hL) w0 rr0 w1).mono fun e W' ⟨he, bel⟩ => ?_
  subst he
  exact ⟨_, rfl, _, _, _, [], _, [], hW', trodAll_mk1 (shut_bool Tryd.underlying4 _), (trodAll_cons_mk (Below.trod laidOut (by kernel_rfl) (of_decide_eq_true (by kernel_rfl)) k0 bel lt0) (trodAll_cons_mk (shut_int Tryd.underlying3 w1) trodAll_mk0)), rfl, bel.frame _, fun h => by cases h⟩

theorem over : Rows.frameTornRow.holds Tryd.pinned (OpenSpec.ofChange Rows.frameTornSpec) :=
  OpenClaim.holds_of_wide 7 Tryd.f7 rfl rfl rfl rfl rfl rfl rfl ⟨rfl, rfl, rfl, rfl, rfl⟩ rfl rfl rfl rfl rfl (by kernel_rfl) Tryd.func7 (by kernel_rfl)
    (of_decide_eq_true (by kernel_rfl)) (by unfold Func.isWrapper; first | (rw [if_pos (by decide +kernel)]; kernel_rfl) | (rw [if_neg (by decide +kernel)]; exact ⟨rfl, rfl⟩))
    (fun os started H enc _ => lifted os started H enc)

/-- ████ THE STATEMENT ████ -/
theorem proved : Rows.FrameTornSaid := over
/-- THE CARD: the row with its listed variable tied to the program's text. -/
theorem carded : Rows.FrameTornCardSaid :=
  Claim7.holds_tied_plain_at .later [] [.data] true (true, "30a9aa1b8a23e96fbf6cf917c6077a115896583229150c0fd195c2e0055eaf84") false
    proved (fun _ h => by cases h) (by kernel_rfl) (fun _ h => by cases h) frameTorn_row_tie rfl ⟨rfl, rfl⟩ (by kernel_rfl) rfl
    (fun f fn hf hfn => by
      obtain rfl : f = 7 := Option.some.inj ((show Tryd.prog.funcNamed "commonhold/commonholdkeep.FrameTorn" = some 7 by kernel_rfl).symm.trans hf) |>.symm
      obtain rfl : fn = Tryd.f7 := (Option.some.inj (Tryd.func7.symm.trans hfn)).symm
      exact ⟨by kernel_rfl, fun j t ht => by
        rw [Tryd.params7] at ht
        rcases j with _ | _ | j
        all_goals first | (simp at ht; done) | (simp at ht; subst ht; kernel_rfl)⟩)
    (by kernel_rfl)
end Go.Proofs.YtjjencnnmpefbaaDoor.frameTorn
namespace Go.Proofs.YtjjencnnmpefbaaDoor
theorem frameTorn_holds : Rows.FrameTornCardSaid := frameTorn.carded
end Go.Proofs.YtjjencnnmpefbaaDoor
