/- The next bytes are what the document says, at every slice of bytes. -/
import Derived.Test.YtbidmjadmjphgaaRows
import Derived.Test.YtbidmjadmjphgaaNextOwn
import Derived.Test.YtbidmjadmjphgaaSameOct
import Derived.Test.YtbidmjadmjphgaaOctets
import Derived.Test.YtbidmjadmjphgaaBehindRef
import Derived.WalkKit
import Derived.ProofKit
import Derived.OpenShut
import Derived.ShutString
import Derived.ChangeOld
import Derived.Below
import Derived.SizedLaws
namespace Go.Proofs.Ytbidmjadmjphgaa.keyNexts
open Go.ChangeShapes Go.WideShapes Go.ChangeAt Go.RowKit
open Go.ChangeMaps (open_string shut_string)
set_option linter.unusedVariables false

theorem own : ownKnob Try.prog.godebug = none := by kernel_rfl
theorem bytesOfElem : Try.prog.bytesOf 5 = 1 := by kernel_rfl
theorem laidOut : laidOutB Try.prog = true := by kernel_rfl

/-- WHAT THE WALK IS TOLD OF A SLICE OF INTEGERS THAT CAME IN: it is nil; or it leads to a row of 'cap' cells, the numbers 'zs' (the first 'len' are its elements, the rest its spare room), each fitting its kind. -/
def IsRow (k : IntKind) (w : World) (a : Option Addr) (len cap : Nat) (zs : List Int) : Prop :=
  (a = none ∧ len = 0 ∧ cap = 0 ∧ zs = []) ∨
  ∃ x, a = some x ∧ len ≤ cap ∧ cap ≤ maxLen ∧ zs.length = cap ∧ (∀ i, i < zs.length → w.cell? (x.add i) = some (.int k (zs.getD i 0))) ∧ ∀ n ∈ zs, (Lit.int k n).wf = true

/-! ### STEP 1: THE WALK: the Go text returns true, AND WRITES NOTHING THAT WAS THERE: 'Below w.heap.size w w'' (Derived/Below.lean: '.refl', '.alloc', '.drew', '.setCell' at a new block, '.trans'). Open each 'IsRow' by 'rcases' AHEAD of 'go_enter'; part every test ahead of the walk. -/
theorem walk (a0 : Option Addr) (len0 cap0 : Nat) (z0 : List Int) (w : World) (w0 : IsRow .u8 w a0 len0 cap0 z0) (rr0 : cap0 * 1 ≤ 140737488351232) :
    Calls Try.prog 3 #[.slice a0 len0 cap0] w fun e w' => e = .returned (.bool true) ∧ Below w.heap.size w w' := by
  obtain ⟨xs, rfl, he⟩ := row_octs (by omega) w0
  have ho := octets_any a0 cap0 xs w he
  have HE : Hid (Octs w a0 cap0 xs) := he
  clear he w0
  obtain ⟨n, hn⟩ : ∃ n, n = xs.length := ⟨_, rfl⟩
  rw [← hn] at ho
  rw [← hn]
  have HN : Hid (n = xs.length) := hn
  clear hn
  obtain ⟨ys, hys⟩ : ∃ ys, ys = nextVal xs := ⟨_, rfl⟩
  obtain ⟨c, hc⟩ : ∃ c, c = nextErr xs := ⟨_, rfl⟩
  have HX : ∀ a cap w1, Octs w1 a cap xs → Calls Try.prog 4 #[.slice a n cap] w1 fun e w' => ∃ ao' cap', e = .returned (.tuple #[.slice ao' ys.length cap', .int .i64 c]) ∧ Octs w' ao' cap' ys ∧ Below w1.heap.size w1 w' := by
    intro a cap w1 h
    rw [hys, hc, HN.out]
    exact Next_any a cap xs w1 h
  have HY : ∀ a cap w1, Octs w1 a cap xs → Calls Try.prog 6 #[.slice a n cap] w1 fun e w' => ∃ ao' cap', e = .returned (.tuple #[.slice ao' ys.length cap', .int .i64 c]) ∧ Octs w' ao' cap' ys ∧ Below w1.heap.size w1 w' := by
    intro a cap w1 h
    rw [hys, hc, HN.out]
    exact Behind_any a cap xs w1 h
  clear hys hc
  go_enter Try.func3, Try.ntmps3
  go_wp2_with (first
    | (go_at_call 5; refine ho.mono ?_; rintro e w1 ⟨a1, cap1, rfl, o1, b1⟩)
    | (go_at_call 4; refine (HX a1 cap1 w1 o1).mono ?_; rintro e w2 ⟨a2, cap2, rfl, o2, b2⟩; have b3 := b1.trans (b2.mono b1.size))
    | (go_at_call 6; refine (HY a0 cap0 w2 (HE.out.later b3)).mono ?_; rintro e w3 ⟨a3, cap3, rfl, o3, b4⟩; have b5 := b3.trans (b4.mono b3.size))
    | (go_at_call 7; refine (sameBytes_any a2 a3 cap2 cap3 ys ys w3 (o2.later b4) o3).mono ?_; rintro e w4 ⟨rfl, b6⟩))
  all_goals
    go_ret
    refine ⟨?_, b5.trans (b6.mono b5.size)⟩
    simp

/-! ### THE ROW's STEP: WRITTEN OUT: LEAVE IT -/
set_option maxRecDepth 100000 in
theorem lifted (os : Os) (started : os.Started) (H : Type) (enc : TypeId × Value → H) :
    ReturnsInHanded {} Try.checked os 3 .any (Rows.keyNextsSpec.pre6 enc Try.prog Try.f3 Rows.keyNextsRow.domain false) (Rows.keyNextsSpec.post enc Try.prog Try.f3 false true false false) := by
  refine returnsInHanded_of_change_sized (C := Try.checked) own started (by kernel_rfl) Try.func3
    (ChangeSpec.witness6 (enc := enc) (C := Try.checked) false ⟨#[], #[.slice none 0 0], []⟩ 8 (by kernel_rfl) (by kernel_rfl) (by kernel_rfl) (by kernel_rfl)) ?_
  intro W base args ds gs before hval0 hW hcnd hsz0 _
  have hval : ∀ (j : Nat) t v, Try.f3.params[j]? = some t → args[j]? = some v → Value.okWide Try.prog W .any base t v := hval0
  have hW' := hW
  obtain ⟨p, q, hA0, hV, rfl, hfz, hnd⟩ := hW
  have hA : DataW.TrodAll enc Try.prog W 0 (fun _ => true) true Try.f3.params.toList args.toList ds p := hA0
  have hsz : (DataW.weightsEach Try.prog (Try.f3.params.toList ++ Rows.keyNextsSpec.plain.varTypes Try.prog) (ds ++ gs)).all (· ≤ reachBytes) = true := hsz0
  clear hsz0
  rw [Try.params3] at hA hval hsz
  obtain ⟨v0, vs0, d0, ds0, p0, q0, hargs, rfl, rfl, h0, r0⟩ := trodAll_cons hA
  obtain ⟨rfl, rfl, rfl⟩ := trodAll_nil r0
  obtain rfl : args = #[v0] := by cases args; simp_all
  obtain ⟨rfl, rfl⟩ := trodVars_none hV
  obtain ⟨a0, len0, cap0, rfl⟩ := okWide_slice Try.underlying22 (hval 0 22 v0 rfl rfl)
  have k0 := h0
  have lt0 : ∀ x ∈ p0, x.block < W.heap.size := by obtain ⟨m, hm⟩ := k0; exact DataW.trod_lt m _ _ _ hm
  obtain ⟨z0, w0, rr0⟩ : ∃ zs, IsRow .u8 W a0 len0 cap0 zs ∧ cap0 * 1 ≤ 140737488351232 := by
    obtain ⟨fuel, hf⟩ := h0
    rcases open_ints Try.underlying22 Try.underlying5 (by kernel_rfl) hf with ⟨hcs, _⟩ | ⟨x, l, c, zs, hcs, _, hl, hm, hz, hx, hcell, hwz⟩
    · simp [Value.cells] at hcs
      obtain ⟨rfl, rfl, rfl⟩ := hcs
      exact ⟨[], .inl ⟨rfl, rfl, rfl, rfl⟩, by omega⟩
    · simp [Value.cells] at hcs
      obtain ⟨rfl, rfl, rfl⟩ := hcs
      have hd := congrArg Prod.fst hx
      simp only at hd
      subst hd
      have hs := sized_slice hsz (j := 0) rfl rfl Try.underlying22
      rw [bytesOfElem] at hs
      have hz2 : zs.length = cap0 := by simpa using hz
      simp only [lits, List.length_map, List.length_take, List.length_drop, reachBytes] at hs
      exact ⟨zs, .inr ⟨_, rfl, hl, hm, by simpa using hz, hcell, hwz⟩, by omega⟩
  clear hA0 hval0
  refine (walk a0 len0 cap0 z0 W w0 rr0).mono fun e W' ⟨he, bel⟩ => ?_
  subst he
  exact ⟨_, rfl, _, _, _, [], _, [], hW', trodAll_mk1 (shut_bool Try.underlying4 _), (trodAll_cons_mk (Below.trod laidOut (by kernel_rfl) (of_decide_eq_true (by kernel_rfl)) k0 bel lt0) trodAll_mk0), rfl, bel.frame _, fun h => by cases h⟩

theorem over : Rows.keyNextsRow.holds Try.pinned (OpenSpec.ofChange Rows.keyNextsSpec) :=
  OpenClaim.holds_of_wide 3 Try.f3 rfl rfl rfl rfl rfl rfl rfl ⟨rfl, rfl, rfl, rfl, rfl⟩ rfl rfl rfl rfl rfl (by kernel_rfl) Try.func3 (by kernel_rfl)
    (of_decide_eq_true (by kernel_rfl)) (by unfold Func.isWrapper; first | (rw [if_pos (by decide +kernel)]; kernel_rfl) | (rw [if_neg (by decide +kernel)]; exact ⟨rfl, rfl⟩))
    (fun os started H enc _ => lifted os started H enc)

/-- ████ THE STATEMENT ████ -/
theorem proved : Rows.KeyNextsSaid := over
end Go.Proofs.Ytbidmjadmjphgaa.keyNexts
namespace Go.Proofs.Ytbidmjadmjphgaa
theorem keyNexts_holds : Rows.KeyNextsSaid := keyNexts.proved
end Go.Proofs.Ytbidmjadmjphgaa
