/- SumParts: for every input the law returns true, at whatever two slices of bytes; its listed table is tied to the text of the program. -/
import Derived.Test.YtibdgjkmlomgcaaDoorRows
import Derived.Test.YtibdgjkmlomgcaaDoorFoursLaid
import Derived.Test.YtibdgjkmlomgcaaDoorOctetsKeep
import Derived.Test.YtibdgjkmlomgcaaDoorUnguard
import Derived.Test.YtibdgjkmlomgcaaDoorLitOcts
import Derived.WalkKit
import Derived.ProofKit
import Derived.OpenShut
import Derived.ShutString
import Derived.ChangeOld
import Derived.Below
import Derived.LaidMore
import Derived.MakeChecks
import Derived.SevenTiedAt
import Derived.Test.YtibdgjkmlomgcaaDoorCards
import Derived.Test.YtibdgjkmlomgcaaDoorTie
import Derived.SizedLaws
namespace Go.Proofs.YtibdgjkmlomgcaaDoor.sumParts
open Go.ChangeShapes Go.WideShapes Go.ChangeAt Go.RowKit
open Go.ChangeMaps (open_string shut_string)
set_option linter.unusedVariables false

theorem own : ownKnob Tryd.prog.godebug = none := by kernel_rfl
theorem bytesOfElem : Tryd.prog.bytesOf 5 = 1 := by kernel_rfl
theorem laidOut : laidOutB Tryd.prog = true := by kernel_rfl

/-- WHAT THE WALK IS TOLD OF A SLICE OF INTEGERS THAT CAME IN: it is nil; or it leads to a row of 'cap' cells, the numbers 'zs' (the first 'len' are its elements, the rest its spare room), each fitting its kind. -/
def IsRow (k : IntKind) (w : World) (a : Option Addr) (len cap : Nat) (zs : List Int) : Prop :=
  (a = none ∧ len = 0 ∧ cap = 0 ∧ zs = []) ∨
  ∃ x, a = some x ∧ len ≤ cap ∧ cap ≤ maxLen ∧ zs.length = cap ∧ (∀ i, i < zs.length → w.cell? (x.add i) = some (.int k (zs.getD i 0))) ∧ ∀ n ∈ zs, (Lit.int k n).wf = true

/-! ### STEP 1: THE WALK: the Go text returns true, AND WRITES NOTHING THAT WAS THERE: 'Below w.heap.size w w'' (Derived/Below.lean: '.refl', '.alloc', '.drew', '.setCell' at a new block, '.trans'). Open each 'IsRow' by 'rcases' AHEAD of 'go_enter'; part every test ahead of the walk. -/
set_option maxHeartbeats 2000000 in
theorem walk (a0 : Option Addr) (len0 cap0 : Nat) (z0 : List Int) (a1 : Option Addr) (len1 cap1 : Nat) (z1 : List Int) (w : World) (tab : Fours w) (w0 : IsRow .u8 w a0 len0 cap0 z0) (rr0 : cap0 * 1 ≤ 140737488351232) (w1 : IsRow .u8 w a1 len1 cap1 z1) (rr1 : cap1 * 1 ≤ 140737488351232) :
    Calls Tryd.prog 5 #[.slice a0 len0 cap0, .slice a1 len1 cap1] w fun e w' => e = .returned (.bool true) ∧ Below w.heap.size w w' := by
  obtain ⟨xs, rfl, he0⟩ := row_octs (by omega) w0
  obtain ⟨ys, rfl, he1⟩ := row_octs (by omega) w1
  clear w0 w1
  have h0 : Calls Tryd.prog 13 #[.slice a0 xs.length cap0, .int .i64 2000] w fun e w' => ∃ ao' cap', e = .returned (.slice ao' (xs.take 2000).length cap') ∧ Octs w' ao' cap' (xs.take 2000) ∧ Below w.heap.size w w' := Octets_any a0 cap0 xs 2000 (by omega) w he0
  have HO : ∀ v1, Octs v1 a1 cap1 ys → Calls Tryd.prog 13 #[.slice a1 ys.length cap1, .int .i64 2000] v1 fun e w' => ∃ ao' cap', e = .returned (.slice ao' (ys.take 2000).length cap') ∧ Octs w' ao' cap' (ys.take 2000) ∧ Below v1.heap.size v1 w' := fun v1 h => Octets_any a1 cap1 ys 2000 (by omega) v1 h
  have HE : Hid (Octs w a1 cap1 ys) := he1
  have hpl : (xs.take 2000).length ≤ 2000 := by simp; omega
  have hbl : (ys.take 2000).length ≤ 2000 := by simp; omega
  obtain ⟨ps, hps⟩ : ∃ ps, ps = xs.take 2000 := ⟨_, rfl⟩
  obtain ⟨bs, hbs⟩ : ∃ bs, bs = ys.take 2000 := ⟨_, rfl⟩
  rw [← hps] at h0 hpl
  rw [← hbs] at HO hbl
  clear hps hbs he0 he1
  obtain ⟨n0, hn0⟩ : ∃ n, n = xs.length := ⟨_, rfl⟩
  obtain ⟨n1, hn1⟩ : ∃ n, n = ys.length := ⟨_, rfl⟩
  rw [← hn0] at h0
  rw [← hn1] at HO
  rw [← hn0, ← hn1]
  clear hn0 hn1
  obtain ⟨s, hs⟩ : ∃ s, s = sumOf 0#32 ps := ⟨_, rfl⟩
  obtain ⟨u, hu⟩ : ∃ u, u = sumOf s bs := ⟨_, rfl⟩
  have hu2 : sumOf 0#32 (ps ++ bs) = u := by rw [sumOf_append, ← hs, hu]
  have H1 : ∀ a cap v1, Fours v1 → Octs v1 a cap ps → Calls Tryd.prog 8 #[.slice a ps.length cap] v1 fun e w' => e = .returned (.int .i64 (wd s)) ∧ w' = v1 := by
    intro a cap v1 t h; rw [hs]; exact Of_any a cap ps v1 t h
  have H2 : ∀ a cap v1, Fours v1 → Octs v1 a cap bs → Calls Tryd.prog 11 #[.int .i64 (wd s), .slice a bs.length cap] v1 fun e w' => e = .returned (.tuple #[.int .i64 (wd u), .int .i64 0]) ∧ w' = v1 := by
    intro a cap v1 t h; rw [hu]; exact More_any s a cap bs v1 t h
  have H3 : ∀ a cap v1, Fours v1 → Octs v1 a cap (ps ++ bs) → Calls Tryd.prog 8 #[.slice a (ps ++ bs).length cap] v1 fun e w' => e = .returned (.int .i64 (wd u)) ∧ w' = v1 := by
    intro a cap v1 t h; rw [← hu2]; exact Of_any a cap _ v1 t h
  have H4 : ∀ a cap v1, Fours v1 → Octs v1 a cap [49, 50, 51, 52, 53, 54, 55, 56, 57] → Calls Tryd.prog 8 #[.slice a 9 cap] v1 fun e w' => e = .returned (.int .i64 3421780262) ∧ w' = v1 := by
    intro a cap v1 t h
    have := Of_any a cap _ v1 t h
    rw [show wd (sumOf 0#32 [49, 50, 51, 52, 53, 54, 55, 56, 57]) = 3421780262 by decide +kernel] at this
    exact this
  have hsum : (ps ++ bs).length = ps.length + bs.length := List.length_append
  obtain ⟨np, hnp⟩ : ∃ n, n = ps.length := ⟨_, rfl⟩
  obtain ⟨nb, hnb⟩ : ∃ n, n = bs.length := ⟨_, rfl⟩
  rw [← hnp, ← hnb] at hsum
  rw [hsum] at H3
  rw [← hnp] at h0 H1 hpl
  rw [← hnb] at HO H2 hbl
  have HP : Hid (np = ps.length) := hnp
  have HNB : Hid (nb = bs.length) := hnb
  have HSM : Hid ((ps ++ bs).length = np + nb) := hsum
  clear hs hu hu2 hsum hnp hnb
  have kc := Tryd.convertLit
  go_enter Tryd.func5, Tryd.ntmps5
  go_wp2_with (first
    | (go_at_call 13; with_reducible refine h0.mono ?_; rintro e w1 ⟨b0, c0, rfl, o1, bb⟩; have tab := tab.later bb)
    | (go_at_call 13; with_reducible refine (HO _ (HE.out.later bb)).mono ?_; rintro e w2 ⟨b1, c1, rfl, o2, b2⟩; have o1 := o1.later b2; have tab := tab.later b2; have bb := bb.trans (b2.mono bb.size))
    | (go_at_call 8; with_reducible refine (H1 b0 c0 _ tab o1).mono ?_; rintro e w3 ⟨rfl, rfl⟩)
    | (go_at_call 11; with_reducible refine (H2 b1 c1 _ tab o2).mono ?_; rintro e w4 ⟨rfl, rfl⟩)
    | (at_builtin; refine wpList_unguard rfl rfl ?_; refine wpList_append_oct rfl (.const (.slice none 0 0)) (.tmp 24) rfl w4.heap.size _ _ _ rfl (World.ownsRow_nil _ _ _ _) b0 c0 np ps rfl HP.out o1 (by omega) (Nat.le_refl _) ?_; intro v3 w3 hown3 hg3; rw [Nat.zero_add, List.nil_append] at hown3; have b3 : Below w4.heap.size w4 w3 := (Below.refl _ w4).grown hg3 (Nat.le_refl _) (by intro k hk; cases hk))
    | (at_builtin; refine wpList_unguard rfl rfl ?_; refine wpList_append_oct rfl (.tmp 25) (.tmp 26) rfl w4.heap.size _ _ _ rfl hown3 b1 c1 nb bs rfl HNB.out (o2.later b3) (by omega) b3.size ?_; intro v5 w5 hown5 hg5; have b5 : Below w4.heap.size w4 w5 := b3.grown hg5 b3.size (fun k hk => (hown3.lt k hk).1); have tab := tab.later b5; have bb := bb.trans (b5.mono bb.size); obtain ⟨b6, c6, e6, o6⟩ := own_octs (xs := ps ++ bs) HSM.out.symm (by rw [List.map_append]) (by rw [HSM.out]; omega) (by intro y hy; rcases List.mem_append.1 hy with h | h; exact o1.2.2.2.1 y h; exact o2.2.2.2.1 y h) hown5; rw [HSM.out] at e6; subst e6)
    | (go_at_call 8; with_reducible refine (H3 b6 c6 _ tab o6).mono ?_; rintro e w7 ⟨rfl, rfl⟩)
    | (go_at_call 8; refine (H4 _ _ _ (tab.later ((Below.refl _ _).alloc (Nat.le_refl _) _)) (octs_alloc _ _ _ _ _ _ rfl (by decide) (by decide) (by decide))).mono ?_; rintro e w8 ⟨rfl, rfl⟩; have bb := bb.alloc bb.size (.cells #[.int .u8 49, .int .u8 50, .int .u8 51, .int .u8 52, .int .u8 53, .int .u8 54, .int .u8 55, .int .u8 56, .int .u8 57] 5 (9, 10)))
    )
  go_ret
  exact ⟨rfl, bb⟩

/-! ### THE ROW's STEP: WRITTEN OUT: LEAVE IT -/
set_option maxRecDepth 100000 in
theorem lifted (os : Os) (started : os.Started) (H : Type) (enc : TypeId × Value → H) :
    ReturnsInHanded {} Tryd.checked os 5 .any (fun w args => (Rows.sumPartsSpec.pre enc Tryd.prog Tryd.f5 [] false w args ∧ laidMetH Tryd.prog [("commonhold/sum.fours", Rows.laid_commonhold_sum_fours)] w) ∧ sizedMet enc Tryd.prog Tryd.f5 (OpenSpec.ofChange Rows.sumPartsSpec) false w args) (Rows.sumPartsSpec.post enc Tryd.prog Tryd.f5 false true false false) := by
  refine returnsInHanded_of_change_and (C := Tryd.checked) (X := fun w _ => laidMetH Tryd.prog [("commonhold/sum.fours", Rows.laid_commonhold_sum_fours)] w) (fun _ _ _ hh h => h.of_heap hh) own started (by kernel_rfl) Tryd.func5
    (ChangeSpec.witness_shaped (enc := enc) (C := Tryd.checked) (os := os) (X := fun w _ => laidMetH Tryd.prog [("commonhold/sum.fours", Rows.laid_commonhold_sum_fours)] w) false (World.doorLaid Tryd.prog 14 os) #[.slice none 0 0, .slice none 0 0] 8 rfl (World.shaped_of_RefB (by kernel_rfl) (by kernel_rfl)) (by kernel_rfl) (by kernel_rfl) (by kernel_rfl) (laidMetH_of_parts3 (fuel := 8) (laidMet_of_run' 8 (by kernel_rfl) (by kernel_rfl)) (by kernel_rfl) (by kernel_rfl))) ?_
  intro W base args ds gs before hval0 hW hcnd hsz0 hL _
  have hval : ∀ (j : Nat) t v, Tryd.f5.params[j]? = some t → args[j]? = some v → Value.okWide Tryd.prog W .any base t v := hval0
  have hW' := hW
  obtain ⟨p, q, hA0, hV, rfl, hfz, hnd⟩ := hW
  have hA : DataW.TrodAll enc Tryd.prog W 0 (fun _ => true) true Tryd.f5.params.toList args.toList ds p := hA0
  have hsz : (DataW.weightsEach Tryd.prog (Tryd.f5.params.toList ++ Rows.sumPartsSpec.plain.varTypes Tryd.prog) (ds ++ gs)).all (· ≤ reachBytes) = true := hsz0
  clear hsz0
  rw [Tryd.params5] at hA hval hsz
  obtain ⟨v0, vs0, d0, ds0, p0, q0, hargs, rfl, rfl, h0, r0⟩ := trodAll_cons hA
  obtain ⟨v1, vs1, d1, ds1, p1, q1, rfl, rfl, rfl, h1, r1⟩ := trodAll_cons r0
  obtain ⟨rfl, rfl, rfl⟩ := trodAll_nil r1
  obtain rfl : args = #[v0, v1] := by cases args; simp_all
  obtain ⟨rfl, rfl⟩ := trodVars_none hV
  obtain ⟨a0, len0, cap0, rfl⟩ := okWide_slice Tryd.underlying22 (hval 0 22 v0 rfl rfl)
  have k0 := h0
  have lt0 : ∀ x ∈ p0, x.block < W.heap.size := by obtain ⟨m, hm⟩ := k0; exact DataW.trod_lt m _ _ _ hm
  obtain ⟨z0, w0, rr0⟩ : ∃ zs, IsRow .u8 W a0 len0 cap0 zs ∧ cap0 * 1 ≤ 140737488351232 := by
    obtain ⟨fuel, hf⟩ := h0
    rcases open_ints Tryd.underlying22 Tryd.underlying5 (by kernel_rfl) hf with ⟨hcs, _⟩ | ⟨x, l, c, zs, hcs, _, hl, hm, hz, hx, hcell, hwz⟩
    · simp [Value.cells] at hcs
      obtain ⟨rfl, rfl, rfl⟩ := hcs
      exact ⟨[], .inl ⟨rfl, rfl, rfl, rfl⟩, by omega⟩
    · simp [Value.cells] at hcs
      obtain ⟨rfl, rfl, rfl⟩ := hcs
      have hd := congrArg Prod.fst hx
      simp only at hd
      subst hd
      have hs := sized_slice hsz (j := 0) rfl rfl Tryd.underlying22
      rw [bytesOfElem] at hs
      have hz2 : zs.length = cap0 := by simpa using hz
      simp only [lits, List.length_map, List.length_take, List.length_drop, reachBytes] at hs
      exact ⟨zs, .inr ⟨_, rfl, hl, hm, by simpa using hz, hcell, hwz⟩, by omega⟩
  obtain ⟨a1, len1, cap1, rfl⟩ := okWide_slice Tryd.underlying22 (hval 1 22 v1 rfl rfl)
  have k1 := h1
  have lt1 : ∀ x ∈ p1, x.block < W.heap.size := by obtain ⟨m, hm⟩ := k1; exact DataW.trod_lt m _ _ _ hm
  obtain ⟨z1, w1, rr1⟩ : ∃ zs, IsRow .u8 W a1 len1 cap1 zs ∧ cap1 * 1 ≤ 140737488351232 := by
    obtain ⟨fuel, hf⟩ := h1
    rcases open_ints Tryd.underlying22 Tryd.underlying5 (by kernel_rfl) hf with ⟨hcs, _⟩ | ⟨x, l, c, zs, hcs, _, hl, hm, hz, hx, hcell, hwz⟩
    · simp [Value.cells] at hcs
      obtain ⟨rfl, rfl, rfl⟩ := hcs
      exact ⟨[], .inl ⟨rfl, rfl, rfl, rfl⟩, by omega⟩
    · simp [Value.cells] at hcs
      obtain ⟨rfl, rfl, rfl⟩ := hcs
      have hd := congrArg Prod.fst hx
      simp only at hd
      subst hd
      have hs := sized_slice hsz (j := 1) rfl rfl Tryd.underlying22
      rw [bytesOfElem] at hs
      have hz2 : zs.length = cap1 := by simpa using hz
      simp only [lits, List.length_map, List.length_take, List.length_drop, reachBytes] at hs
      exact ⟨zs, .inr ⟨_, rfl, hl, hm, by simpa using hz, hcell, hwz⟩, by omega⟩
  clear hA0 hval0
  refine (walk a0 len0 cap0 z0 a1 len1 cap1 z1 W (fours_of_laid hL) w0 rr0 w1 rr1).mono fun e W' ⟨he, bel⟩ => ?_
  subst he
  exact ⟨_, rfl, _, _, _, [], _, [], hW', trodAll_mk1 (shut_bool Tryd.underlying4 _), (trodAll_cons_mk (Below.trod laidOut (by kernel_rfl) (of_decide_eq_true (by kernel_rfl)) k0 bel lt0) (trodAll_cons_mk (Below.trod laidOut (by kernel_rfl) (of_decide_eq_true (by kernel_rfl)) k1 bel lt1) trodAll_mk0)), rfl, bel.frame _, fun h => by cases h⟩

theorem over : Rows.sumPartsRow.holds Tryd.pinned (OpenSpec.ofChange Rows.sumPartsSpec) :=
  OpenClaim.holds_of_wide 5 Tryd.f5 rfl rfl rfl rfl rfl rfl rfl ⟨rfl, rfl, rfl, rfl, rfl⟩ rfl rfl rfl rfl rfl (by kernel_rfl) Tryd.func5 (by kernel_rfl)
    (of_decide_eq_true (by kernel_rfl)) (by unfold Func.isWrapper; first | (rw [if_pos (by decide +kernel)]; kernel_rfl) | (rw [if_neg (by decide +kernel)]; exact ⟨rfl, rfl⟩))
    (fun os started H enc _ => lifted os started H enc)

/-- ████ THE STATEMENT ████ -/
theorem proved : Rows.SumPartsSaid := over
/-- THE CARD: the row with its listed variable tied to the program's text. -/
theorem carded : Rows.SumPartsCardSaid :=
  Claim7.holds_tied_plain_at .later [] [.data] true (true, "52a8b3aea4e653344220f6b5ae5d6275540cebf81699a40d0f480d3ea6befea3") false
    proved (fun _ h => by cases h) (by kernel_rfl) (fun _ h => by cases h) sumParts_row_tie rfl ⟨rfl, rfl⟩ (by kernel_rfl) rfl
    (fun f fn hf hfn => by
      obtain rfl : f = 5 := Option.some.inj ((show Tryd.prog.funcNamed "commonhold/commonholdkeep.SumParts" = some 5 by kernel_rfl).symm.trans hf) |>.symm
      obtain rfl : fn = Tryd.f5 := (Option.some.inj (Tryd.func5.symm.trans hfn)).symm
      exact ⟨by kernel_rfl, fun j t ht => by
        rw [Tryd.params5] at ht
        rcases j with _ | _ | j
        all_goals first | (simp at ht; done) | (simp at ht; subst ht; kernel_rfl)⟩)
    (by kernel_rfl)
end Go.Proofs.YtibdgjkmlomgcaaDoor.sumParts
namespace Go.Proofs.YtibdgjkmlomgcaaDoor
theorem sumParts_holds : Rows.SumPartsCardSaid := sumParts.carded
end Go.Proofs.YtibdgjkmlomgcaaDoor
