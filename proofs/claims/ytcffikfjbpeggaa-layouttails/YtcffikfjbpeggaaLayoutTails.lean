/- layout.Tail answers what P20.3 says. -/
import Derived.Test.YtcffikfjbpeggaaRows
import Derived.Test.YtcffikfjbpeggaaLayArg
import Derived.Test.YtcffikfjbpeggaaLyBaseB
import Derived.Test.YtcffikfjbpeggaaLyTail
import Derived.Test.YtcffikfjbpeggaaRfTail
import Derived.WalkKit
import Derived.ProofKit
import Derived.OpenShut
import Derived.ShutString
import Derived.ChangeOld
import Derived.Below
import Derived.SizedLaws
namespace Go.Proofs.Ytcffikfjbpeggaa.layoutTails
open Go.ChangeShapes Go.WideShapes Go.ChangeAt Go.RowKit
open Go.ChangeMaps (open_string shut_string)
set_option linter.unusedVariables false

theorem own : ownKnob Try.prog.godebug = none := by kernel_rfl
theorem bytesOfElem : Try.prog.bytesOf 3 = 8 := by kernel_rfl
theorem laidOut : laidOutB Try.prog = true := by kernel_rfl

/-- WHAT THE WALK IS TOLD OF A SLICE OF INTEGERS THAT CAME IN: it is nil; or it leads to a row of 'cap' cells, the numbers 'zs' (the first 'len' are its elements, the rest its spare room), each fitting its kind. -/
def IsRow (k : IntKind) (w : World) (a : Option Addr) (len cap : Nat) (zs : List Int) : Prop :=
  (a = none ∧ len = 0 ∧ cap = 0 ∧ zs = []) ∨
  ∃ x, a = some x ∧ len ≤ cap ∧ cap ≤ maxLen ∧ zs.length = cap ∧ (∀ i, i < zs.length → w.cell? (x.add i) = some (.int k (zs.getD i 0))) ∧ ∀ n ∈ zs, (Lit.int k n).wf = true

/-! ### STEP 1: THE WALK: the Go text returns true, AND WRITES NOTHING THAT WAS THERE: 'Below w.heap.size w w'' (Derived/Below.lean: '.refl', '.alloc', '.drew', '.setCell' at a new block, '.trans'). Open each 'IsRow' by 'rcases' AHEAD of 'go_enter'; part every test ahead of the walk. -/
set_option maxHeartbeats 4000000 in
theorem walk (v0 : Value) (a1 : Option Addr) (len1 cap1 : Nat) (z1 : List Int) (w : World) (w0 : LayArg w v0) (w1 : IsRow .i64 w a1 len1 cap1 z1) (rr1 : cap1 * 8 ≤ 140737488351232) :
    Calls Try.prog 6 #[v0, .slice a1 len1 cap1] w fun e w' => e = .returned (.bool true) ∧ Below w.heap.size w w' := by
  obtain ⟨ep, cs, a, c, rfl, hf, hL, -, -⟩ := w0
  obtain ⟨ts, hts, h8, -, hT⟩ := row_ints rr1 w1
  subst hts
  obtain ⟨x, y, ht⟩ : ∃ x y : Int, two (tlc (mayL ep cs) cs.length ts) = .tuple #[.int .i64 x, .int .i64 y] := ⟨_, _, rfl⟩
  have c1 : Hid (∀ V b n d, Below w.heap.size w V → (n = ts.length ∧ Lies kInt (fun _ => True) V b d ts) → Calls Try.prog 15 #[.agg #[.int .i64 ep, .slice a cs.length c], .slice b n d] V fun e w' => e = .returned (.tuple #[.int .i64 x, .int .i64 y]) ∧ Below V.heap.size V w') := fun V b n d hV ⟨hn, hl⟩ => by
    rw [← ht, hn]
    exact Tail_any ep a b c d cs ts hf (by omega) V (hL.move (Kept.of_below hV) (fun b hb _ => Nat.lt_of_lt_of_le hb hV.size)) hl
  have c2 : Hid (∀ V, Below w.heap.size w V → Calls Try.prog 16 #[.agg #[.int .i64 ep, .slice a cs.length c], .slice a1 ts.length cap1] V fun e w' => e = .returned (.tuple #[.int .i64 x, .int .i64 y]) ∧ Below V.heap.size V w') := fun V hV => by
    rw [← ht]
    exact TailOf_any (ok := fun _ => True) ep a a1 c cap1 cs ts hf (by omega) V (hL.move (Kept.of_below hV) (fun b hb _ => Nat.lt_of_lt_of_le hb hV.size)) (hT.move (Kept.of_below hV) (fun _ _ _ => trivial))
  clear hf hL ht rr1 w1
  generalize cs.length = n1 at c1 c2 ⊢
  obtain ⟨m, hm⟩ : ∃ m, m = ts.length := ⟨_, rfl⟩
  rw [← hm] at c1 c2 h8 ⊢
  have HT := put_by (And.intro hm hT)
  clear hm hT
  have HA := put_by ((Below.refl w.heap.size w).alloc (Nat.le_refl _) (.cells #[.int .i64 ep, .slice a n1 c] 24))
  have HK : Hid (∀ V, Below (w.alloc (.cells #[.int .i64 ep, .slice a n1 c] 24)).heap.size (w.alloc (.cells #[.int .i64 ep, .slice a n1 c] 24)) V → V.cell? ⟨w.heap.size, 0, none⟩ = some (.int .i64 ep) ∧ V.cell? ⟨w.heap.size, 1, none⟩ = some (.slice a n1 c)) := fun V hV => ⟨(hV.cell (p := ⟨w.heap.size, 0, none⟩) (by simp)).trans (by simp), (hV.cell (p := ⟨w.heap.size, 1, none⟩) (by simp)).trans (by simp)⟩
  have HSZ : Hid (w.heap.size < (w.alloc (.cells #[.int .i64 ep, .slice a n1 c] 24)).heap.size) := put_by (by simp)
  go_enter Try.func6, Try.ntmps6
  go_upto_region 1 with (fail)
  generalize w.alloc (.cells #[.int .i64 ep, .slice a n1 c] 24) = W0 at HA HK HSZ ⊢
  have HT0 : Hid (Lies kInt (fun b => b < w.heap.size) W0.drew a1 cap1 ts) := put_by (HT.out.2.move (Kept.of_below HA.out.drew) (fun _ _ h => h))
  obtain ⟨k0, k1⟩ := HK.out W0 (Below.refl _ _)
  go_region_held3 (fun V => V.cell? ⟨w.heap.size, 0, none⟩ = some (.int .i64 ep) ∧ V.cell? ⟨w.heap.size, 1, none⟩ = some (.slice a n1 c)) (go_keep) (first
    | (rw [if_pos (by rfl)]; refine wp_of_list rfl (by rintro ⟨_, _, hh⟩; cases hh.1) (wpList_append_rowsB (K := kInt) (ok := fun _ => True) (ok2 := fun b => b < w.heap.size) eltI rfl (.const (.slice none 0 0)) (.tmp 11) rfl W0.heap.size (.slice none 0 0) [] rfl (Rows.nil _ _ _ _ _) a1 cap1 m ts rfl HT.out.1 HT0.out (fun _ _ _ _ => trivial) (fun _ _ _ => by simp [Value.ownBlock]) (by simp only [List.length_nil]; omega) (by decide) (Nat.le_refl _) (fun v1 w1 r1 r2 r3 => ?_)); obtain ⟨b1, d1, rfl⟩ := rows_form r1; obtain ⟨-, q2, -, -⟩ := rows_lies r1 (fun _ _ => trivial); have H1 : Hid (Below W0.heap.size W0 w1 ∧ ([] ++ ts).length = ts.length ∧ Lies kInt (fun _ => True) w1 b1 d1 ts) := put_by ⟨(Below.refl _ W0).drew.grown r2 (Nat.le_refl _) (fun k e => by cases e), rfl, q2⟩; clear r1 r2 r3 q2; obtain ⟨j0, j1⟩ := HK.out _ H1.out.1; refine list_end ?_)
    | (go_at_call 15; (refine (c1.out _ _ _ _ (HA.out.trans (H1.out.1.mono HA.out.size)) ⟨H1.out.2.1.trans HT.out.1.symm, H1.out.2.2⟩).mono ?_); clear c1; rintro e w2 ⟨rfl, h2⟩; have H2 := put_by (H1.out.1.trans (h2.mono H1.out.1.size)); clear h2; obtain ⟨i0, i1⟩ := HK.out _ H2.out))
  all_goals
    go_wp2_with (go_at_call 16; (refine (c2.out _ (HA.out.trans (H2.out.mono HA.out.size))).mono ?_); clear c2; rintro e w3 ⟨rfl, h3⟩; have H3 := put_by (H2.out.trans (h3.mono H2.out.size)); clear h3)
    go_ret
    exact ⟨by simp, HA.out.trans (H3.out.mono HA.out.size)⟩

/-! ### THE ROW's STEP: WRITTEN OUT: LEAVE IT -/
set_option maxRecDepth 100000 in
theorem lifted (os : Os) (started : os.Started) (H : Type) (enc : TypeId × Value → H) :
    ReturnsInHanded {} Try.checked os 6 .any (Rows.layoutTailsSpec.pre6 enc Try.prog Try.f6 Rows.layoutTailsRow.domain false) (Rows.layoutTailsSpec.post enc Try.prog Try.f6 false true false false) := by
  refine returnsInHanded_of_change_sized (C := Try.checked) own started (by kernel_rfl) Try.func6
    (ChangeSpec.witness6 (enc := enc) (C := Try.checked) false ⟨#[], #[.agg #[.int .i64 0, .slice none 0 0], .slice none 0 0], []⟩ 8 (by kernel_rfl) (by kernel_rfl) (by kernel_rfl) (by kernel_rfl)) ?_
  intro W base args ds gs before hval0 hW hcnd hsz0 _
  have hval : ∀ (j : Nat) t v, Try.f6.params[j]? = some t → args[j]? = some v → Value.okWide Try.prog W .any base t v := hval0
  have hW' := hW
  obtain ⟨p, q, hA0, hV, rfl, hfz, hnd⟩ := hW
  have hA : DataW.TrodAll enc Try.prog W 0 (fun _ => true) true Try.f6.params.toList args.toList ds p := hA0
  have hsz : (DataW.weightsEach Try.prog (Try.f6.params.toList ++ Rows.layoutTailsSpec.plain.varTypes Try.prog) (ds ++ gs)).all (· ≤ reachBytes) = true := hsz0
  clear hsz0
  rw [Try.params6] at hA hval hsz
  obtain ⟨v0, vs0, d0, ds0, p0, q0, hargs, rfl, rfl, h0, r0⟩ := trodAll_cons hA
  obtain ⟨v1, vs1, d1, ds1, p1, q1, rfl, rfl, rfl, h1, r1⟩ := trodAll_cons r0
  obtain ⟨rfl, rfl, rfl⟩ := trodAll_nil r1
  obtain rfl : args = #[v0, v1] := by cases args; simp_all
  obtain ⟨rfl, rfl⟩ := trodVars_none hV
  have k0 := h0
  have lt0 : ∀ x ∈ p0, x.block < W.heap.size := by obtain ⟨m, hm⟩ := k0; exact DataW.trod_lt m _ _ _ hm
  have w0 : LayArg W v0 := lay_arg hsz (j := 0) rfl rfl (hval 0 24 v0 rfl rfl) h0
  obtain ⟨a1, len1, cap1, rfl⟩ := okWide_slice Try.underlying33 (hval 1 33 v1 rfl rfl)
  have k1 := h1
  have lt1 : ∀ x ∈ p1, x.block < W.heap.size := by obtain ⟨m, hm⟩ := k1; exact DataW.trod_lt m _ _ _ hm
  obtain ⟨z1, w1, rr1⟩ : ∃ zs, IsRow .i64 W a1 len1 cap1 zs ∧ cap1 * 8 ≤ 140737488351232 := by
    obtain ⟨fuel, hf⟩ := h1
    rcases open_ints Try.underlying33 Try.underlying3 (by kernel_rfl) hf with ⟨hcs, _⟩ | ⟨x, l, c, zs, hcs, _, hl, hm, hz, hx, hcell, hwz⟩
    · simp [Value.cells] at hcs
      obtain ⟨rfl, rfl, rfl⟩ := hcs
      exact ⟨[], .inl ⟨rfl, rfl, rfl, rfl⟩, by omega⟩
    · simp [Value.cells] at hcs
      obtain ⟨rfl, rfl, rfl⟩ := hcs
      have hd := congrArg Prod.fst hx
      simp only at hd
      subst hd
      have hs := sized_slice hsz (j := 1) rfl rfl Try.underlying33
      rw [bytesOfElem] at hs
      have hz2 : zs.length = cap1 := by simpa using hz
      simp only [lits, List.length_map, List.length_take, List.length_drop, reachBytes] at hs
      exact ⟨zs, .inr ⟨_, rfl, hl, hm, by simpa using hz, hcell, hwz⟩, by omega⟩
  clear hA0 hval0
  refine (walk v0 a1 len1 cap1 z1 W w0 w1 rr1).mono fun e W' ⟨he, bel⟩ => ?_
  subst he
  exact ⟨_, rfl, _, _, _, [], _, [], hW', trodAll_mk1 (shut_bool Try.underlying4 _), (trodAll_cons_mk (Below.trod laidOut (by kernel_rfl) (of_decide_eq_true (by kernel_rfl)) k0 bel lt0) (trodAll_cons_mk (Below.trod laidOut (by kernel_rfl) (of_decide_eq_true (by kernel_rfl)) k1 bel lt1) trodAll_mk0)), rfl, bel.frame _, fun h => by cases h⟩

theorem over : Rows.layoutTailsRow.holds Try.pinned (OpenSpec.ofChange Rows.layoutTailsSpec) :=
  OpenClaim.holds_of_wide 6 Try.f6 rfl rfl rfl rfl rfl rfl rfl ⟨rfl, rfl, rfl, rfl, rfl⟩ rfl rfl rfl rfl rfl (by kernel_rfl) Try.func6 (by kernel_rfl)
    (of_decide_eq_true (by kernel_rfl)) (by unfold Func.isWrapper; first | (rw [if_pos (by decide +kernel)]; kernel_rfl) | (rw [if_neg (by decide +kernel)]; exact ⟨rfl, rfl⟩))
    (fun os started H enc _ => lifted os started H enc)

/-- ████ THE STATEMENT ████ -/
theorem proved : Rows.LayoutTailsSaid := over
end Go.Proofs.Ytcffikfjbpeggaa.layoutTails
namespace Go.Proofs.Ytcffikfjbpeggaa
theorem layoutTails_holds : Rows.LayoutTailsSaid := layoutTails.proved
end Go.Proofs.Ytcffikfjbpeggaa
