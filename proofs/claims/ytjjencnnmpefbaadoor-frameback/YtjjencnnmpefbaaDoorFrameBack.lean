/- For every two slices of bytes: what was sealed (of the first, up to 4000 bytes of it) is opened, whatever stands behind it: the statement FrameBack of this seat, with no condition of ours. -/
import Derived.Test.YtjjencnnmpefbaaDoorRows
import Derived.Test.YtjjencnnmpefbaaDoorFrameSeal
import Derived.Test.YtjjencnnmpefbaaDoorFrameOpen
import Derived.Test.YtjjencnnmpefbaaDoorOctetsKeep
import Derived.Test.YtjjencnnmpefbaaDoorSameKeep
import Derived.Test.YtjjencnnmpefbaaDoorOwnLater
import Derived.WalkKit
import Derived.ProofKit
import Derived.OpenShut
import Derived.ShutString
import Derived.ChangeOld
import Derived.Below
import Derived.LaidMore
import Derived.MakeChecks
import Derived.SevenTiedAt
import Derived.Test.YtjjencnnmpefbaaDoorCards
import Derived.Test.YtjjencnnmpefbaaDoorTie
import Derived.SizedLaws
namespace Go.Proofs.YtjjencnnmpefbaaDoor.frameBack
open Go.ChangeShapes Go.WideShapes Go.ChangeAt Go.RowKit
open Go.ChangeMaps (open_string shut_string)
set_option linter.unusedVariables false

theorem own : ownKnob Tryd.prog.godebug = none := by kernel_rfl
theorem bytesOfElem : Tryd.prog.bytesOf 5 = 1 := by kernel_rfl
theorem laidOut : laidOutB Tryd.prog = true := by kernel_rfl

/-- WHAT THE WALK IS TOLD OF A SLICE OF INTEGERS THAT CAME IN: it is nil; or it leads to a row of 'cap' cells, the numbers 'zs' (the first 'len' are its elements, the rest its spare room), each fitting its kind. -/
def IsRow (k : IntKind) (w : World) (a : Option Addr) (len cap : Nat) (zs : List Int) : Prop :=
  (a = none ∧ len = 0 ∧ cap = 0 ∧ zs = []) ∨
  ∃ x, a = some x ∧ len ≤ cap ∧ cap ≤ maxLen ∧ zs.length = cap ∧ (∀ i, i < zs.length → w.cell? (x.add i) = some (.int k (zs.getD i 0))) ∧ ∀ n ∈ zs, (Lit.int k n).wf = true

/-! ### STEP 1: THE WALK: the Go text returns true, AND WRITES NOTHING THAT WAS THERE: 'Below w.heap.size w w'' (Derived/Below.lean: '.refl', '.alloc', '.drew', '.setCell' at a new block, '.trans'). Open each 'IsRow' by 'rcases' AHEAD of 'go_enter'; part every test ahead of the walk. -/
set_option maxHeartbeats 2000000 in
theorem walk (a0 : Option Addr) (len0 cap0 : Nat) (z0 : List Int) (a1 : Option Addr) (len1 cap1 : Nat) (z1 : List Int) (w : World) (tab : Fours w) (w0 : IsRow .u8 w a0 len0 cap0 z0) (rr0 : cap0 * 1 ≤ 140737488351232) (w1 : IsRow .u8 w a1 len1 cap1 z1) (rr1 : cap1 * 1 ≤ 140737488351232) :
    Calls Tryd.prog 6 #[.slice a0 len0 cap0, .slice a1 len1 cap1] w fun e w' => e = .returned (.bool true) ∧ Below w.heap.size w w' := by
  obtain ⟨xs, rfl, he0⟩ := row_octs (by omega) w0
  obtain ⟨ks, rfl, he1⟩ := row_octs (by omega) w1
  clear w0 w1
  have h0 : Calls Tryd.prog 18 #[.slice a0 xs.length cap0, .int .i64 4000] w fun e w' => ∃ ao' cap', e = .returned (.slice ao' (xs.take 4000).length cap') ∧ Octs w' ao' cap' (xs.take 4000) ∧ Below w.heap.size w w' := Octets_any a0 cap0 xs 4000 (by omega) w he0
  have HO : ∀ v1, Octs v1 a1 cap1 ks → Calls Tryd.prog 18 #[.slice a1 ks.length cap1, .int .i64 2000] v1 fun e w' => ∃ ao' cap', e = .returned (.slice ao' (ks.take 2000).length cap') ∧ Octs w' ao' cap' (ks.take 2000) ∧ Below v1.heap.size v1 w' := fun v1 h => Octets_any a1 cap1 ks 2000 (by omega) v1 h
  have hpb : ∀ y ∈ xs.take 4000, 0 ≤ y ∧ y ≤ 255 := fun y hy => he0.2.2.2.1 y (List.mem_of_mem_take hy)
  have hbb : ∀ y ∈ ks.take 2000, 0 ≤ y ∧ y ≤ 255 := fun y hy => he1.2.2.2.1 y (List.mem_of_mem_take hy)
  have HE : Hid (Octs w a1 cap1 ks) := he1
  have hpl : (xs.take 4000).length ≤ 4000 := by simp; omega
  have hbl : (ks.take 2000).length ≤ 2000 := by simp; omega
  obtain ⟨ps, hps⟩ : ∃ ps, ps = xs.take 4000 := ⟨_, rfl⟩
  obtain ⟨bs, hbs⟩ : ∃ bs, bs = ks.take 2000 := ⟨_, rfl⟩
  rw [← hps] at h0 hpb hpl
  rw [← hbs] at HO hbb hbl
  clear hps hbs he0 he1
  obtain ⟨n0, hn0⟩ : ∃ n, n = xs.length := ⟨_, rfl⟩
  obtain ⟨n1, hn1⟩ : ∃ n, n = ks.length := ⟨_, rfl⟩
  rw [← hn0] at h0
  rw [← hn1] at HO
  rw [← hn0, ← hn1]
  clear hn0 hn1
  obtain ⟨fs, hfs⟩ : ∃ fs, fs = frameOf ps := ⟨_, rfl⟩
  have hfl : fs.length = ps.length + 8 := by rw [hfs]; exact frameOf_length ps
  have hfb : ∀ y ∈ fs, 0 ≤ y ∧ y ≤ 255 := by rw [hfs]; exact frameOf_byte hpb
  have HX : ∀ a cap v1, Fours v1 → Octs v1 a cap ps → Calls Tryd.prog 9 #[.slice a ps.length cap] v1 fun e w' => ∃ ao' cap', e = .returned (.tuple #[.slice ao' (ps.length + 8) cap', .int .i64 0]) ∧ Octs w' ao' cap' fs ∧ Below v1.heap.size v1 w' := by
    intro a cap v1 t h
    have := Seal_any a cap ps v1 t h
    rw [show sealVal ps = fs by rw [hfs]; exact if_neg (by omega), show sealErr ps = 0 from if_neg (by omega), hfl] at this
    exact this
  have HP : ∀ a cap v1, Fours v1 → Octs v1 a cap (fs ++ bs) → Calls Tryd.prog 13 #[.slice a (ps.length + 8 + bs.length) cap] v1 fun e w' => ∃ ao' cap', e = .returned (.tuple #[.slice ao' ps.length cap', .int .i64 ((ps.length : Int) + 8), .int .i64 0]) ∧ Octs w' ao' cap' ps ∧ Below v1.heap.size v1 w' := by
    intro a cap v1 t h
    have := Open_any a cap (fs ++ bs) v1 t h
    obtain ⟨q1, q2, q3⟩ := open_frame ps bs hpl
    rw [← hfs] at q1 q2 q3
    rw [q1, q2, q3, List.length_append, hfl] at this
    exact this
  have HS : ∀ a a' d d' v1, Octs v1 a d ps → Octs v1 a' d' ps → Calls Tryd.prog 19 #[.slice a ps.length d, .slice a' ps.length d'] v1 fun e w' => e = .returned (.bool true) ∧ Below v1.heap.size v1 w' := by
    intro a a' d d' v1 h h'
    have := sameKeep_any a a' d d' ps ps v1 h h'
    rwa [decide_eq_true rfl] at this
  obtain ⟨np, hnp⟩ : ∃ n, n = ps.length := ⟨_, rfl⟩
  obtain ⟨nb, hnb⟩ : ∃ n, n = bs.length := ⟨_, rfl⟩
  rw [← hnp] at h0 HX HP HS hpl hfl
  rw [← hnb] at HO HP hbl
  have HFL : Hid (np + 8 = fs.length) := hfl.symm
  have HNB : Hid (nb = bs.length) := hnb
  have HZB : Hid (∀ y ∈ fs ++ bs, 0 ≤ y ∧ y ≤ 255) := by
    intro y hy
    rcases List.mem_append.1 hy with h | h
    · exact hfb y h
    · exact hbb y h
  clear hfs hfl hfb hpb hbb hnp hnb
  go_enter Tryd.func6, Tryd.ntmps6
  go_wp2_with (first
    | (go_at_call 18; (with_reducible refine h0.mono ?_); rintro e w1 ⟨b0, c0, rfl, o1, bb⟩; have tab := tab.later bb)
    | (go_at_call 9; (with_reducible refine (HX b0 c0 _ tab o1).mono ?_); rintro e w2 ⟨b1, c1, rfl, o2, b2⟩; have o1 := o1.later b2; have tab := tab.later b2; have bb := bb.trans (b2.mono bb.size))
    | (at_builtin; refine wpList_append_oct rfl (.const (.slice none 0 0)) (.tmp 29) rfl w2.heap.size _ _ _ rfl (World.ownsRow_nil _ _ _ _) b1 c1 (np + 8) fs rfl HFL.out o2 (by omega) (Nat.le_refl _) ?_; intro v3 w3 hown3 hg3; rw [Nat.zero_add, List.nil_append] at hown3; have b3 : Below w2.heap.size w2 w3 := (Below.refl _ w2).grown hg3 (Nat.le_refl _) (by intro k hk; cases hk))
    | (go_at_call 18; (with_reducible refine (HO _ ((HE.out.later bb).later b3)).mono ?_); rintro e w4 ⟨b4, c4, rfl, o4, b5⟩; have hown4 := own_stays hown3 b5; have b6 := b3.trans (b5.mono b3.size))
    | (at_builtin; refine wpList_append_oct rfl (.tmp 30) (.tmp 32) rfl w2.heap.size _ _ _ rfl hown4 b4 c4 nb bs rfl HNB.out o4 (by omega) b6.size ?_; intro v7 w7 hown7 hg7; have b7 : Below w2.heap.size w2 w7 := b6.grown hg7 b6.size (fun k hk => (hown4.lt k hk).1); have o1 := o1.later b7; have tab := tab.later b7; have bb := bb.trans (b7.mono bb.size); obtain ⟨b8, c8, e8, o8⟩ := own_octs (xs := fs ++ bs) (by rw [List.length_append, ← HFL.out, ← HNB.out]) (by rw [List.map_append]) (by rw [List.length_append, ← HFL.out, ← HNB.out]; omega) HZB.out hown7; rw [List.length_append, ← HFL.out, ← HNB.out] at e8; subst e8)
    | (go_at_call 13; (with_reducible refine (HP b8 c8 _ tab o8).mono ?_); rintro e w9 ⟨b9, c9, rfl, o9, b10⟩; have o1 := o1.later b10; have bb := bb.trans (b10.mono bb.size))
    | (go_at_call 19; (with_reducible refine (HS b9 b0 c9 c0 _ o9 o1).mono ?_); rintro e w11 ⟨rfl, b11⟩; have bb := bb.trans (b11.mono bb.size)))
  go_ret
  exact ⟨rfl, bb⟩

/-! ### THE ROW's STEP: WRITTEN OUT: LEAVE IT -/
set_option maxRecDepth 100000 in
theorem lifted (os : Os) (started : os.Started) (H : Type) (enc : TypeId × Value → H) :
    ReturnsInHanded {} Tryd.checked os 6 .any (fun w args => (Rows.frameBackSpec.pre enc Tryd.prog Tryd.f6 [] false w args ∧ laidMetH Tryd.prog [("commonhold/sum.fours", Rows.laid_commonhold_sum_fours)] w) ∧ sizedMet enc Tryd.prog Tryd.f6 (OpenSpec.ofChange Rows.frameBackSpec) false w args) (Rows.frameBackSpec.post enc Tryd.prog Tryd.f6 false true false false) := by
  refine returnsInHanded_of_change_and (C := Tryd.checked) (X := fun w _ => laidMetH Tryd.prog [("commonhold/sum.fours", Rows.laid_commonhold_sum_fours)] w) (fun _ _ _ hh h => h.of_heap hh) own started (by kernel_rfl) Tryd.func6
    (ChangeSpec.witness_shaped (enc := enc) (C := Tryd.checked) (os := os) (X := fun w _ => laidMetH Tryd.prog [("commonhold/sum.fours", Rows.laid_commonhold_sum_fours)] w) false (World.doorLaid Tryd.prog 14 os) #[.slice none 0 0, .slice none 0 0] 8 rfl (World.shaped_of_RefB (by kernel_rfl) (by kernel_rfl)) (by kernel_rfl) (by kernel_rfl) (by kernel_rfl) (laidMetH_of_parts3 (fuel := 8) (laidMet_of_run' 8 (by kernel_rfl) (by kernel_rfl)) (by kernel_rfl) (by kernel_rfl))) ?_
  intro W base args ds gs before hval0 hW hcnd hsz0 hL _
  have hval : ∀ (j : Nat) t v, Tryd.f6.params[j]? = some t → args[j]? = some v → Value.okWide Tryd.prog W .any base t v := hval0
  have hW' := hW
  obtain ⟨p, q, hA0, hV, rfl, hfz, hnd⟩ := hW
  have hA : DataW.TrodAll enc Tryd.prog W 0 (fun _ => true) true Tryd.f6.params.toList args.toList ds p := hA0
  have hsz : (DataW.weightsEach Tryd.prog (Tryd.f6.params.toList ++ Rows.frameBackSpec.plain.varTypes Tryd.prog) (ds ++ gs)).all (· ≤ reachBytes) = true := hsz0
  clear hsz0
  rw [Tryd.params6] at hA hval hsz
  obtain ⟨v0, vs0, d0, ds0, p0, q0, hargs, rfl, rfl, h0, r0⟩ := trodAll_cons hA
  obtain ⟨v1, vs1, d1, ds1, p1, q1, rfl, rfl, rfl, h1, r1⟩ := trodAll_cons r0
  obtain ⟨rfl, rfl, rfl⟩ := trodAll_nil r1
  obtain rfl : args = #[v0, v1] := by cases args; simp_all
  obtain ⟨rfl, rfl⟩ := trodVars_none hV
  obtain ⟨a0, len0, cap0, rfl⟩ := okWide_slice Tryd.underlying22 (hval 0 22 v0 rfl rfl)
  have k0 := h0
  have lt0 : ∀ x ∈ p0, x.block < W.heap.size := by obtain ⟨m, hm⟩ := k0; exact DataW.trod_lt m _ _ _ hm
  obtain ⟨z0, w0, rr0⟩ : ∃ zs, IsRow .u8 W a0 len0 cap0 zs ∧ cap0 * 1 ≤ 140737488351232 := by
    obtain ⟨fuel, hf⟩ := h0
    rcases open_ints Tryd.underlying22 Tryd.underlying5 (by kernel_rfl) hf with ⟨hcs, _⟩ | ⟨x, l, c, zs, hcs, _, hl, hm, hz, hx, hcell, hwz⟩
    · simp [Value.cells] at hcs
      obtain ⟨rfl, rfl, rfl⟩ := hcs
      exact ⟨[], .inl ⟨rfl, rfl, rfl, rfl⟩, by omega⟩
    · simp [Value.cells] at hcs
      obtain ⟨rfl, rfl, rfl⟩ := hcs
      have hd := congrArg Prod.fst hx
      simp only at hd
      subst hd
      have hs := sized_slice hsz (j := 0) rfl rfl Tryd.underlying22
      rw [bytesOfElem] at hs
      have hz2 : zs.length = cap0 := by simpa using hz
      simp only [lits, List.length_map, List.length_take, List.length_drop, reachBytes] at hs
      exact ⟨zs, .inr ⟨_, rfl, hl, hm, by simpa using hz, hcell, hwz⟩, by omega⟩
  obtain ⟨a1, len1, cap1, rfl⟩ := okWide_slice Tryd.underlying22 (hval 1 22 v1 rfl rfl)
  have k1 := h1
  have lt1 : ∀ x ∈ p1, x.block < W.heap.size := by obtain ⟨m, hm⟩ := k1; exact DataW.trod_lt m _ _ _ hm
  obtain ⟨z1, w1, rr1⟩ : ∃ zs, IsRow .u8 W a1 len1 cap1 zs ∧ cap1 * 1 ≤ 140737488351232 := by
    obtain ⟨fuel, hf⟩ := h1
    rcases open_ints Tryd.underlying22 Tryd.underlying5 (by kernel_rfl) hf with ⟨hcs, _⟩ | ⟨x, l, c, zs, hcs, _, hl, hm, hz, hx, hcell, hwz⟩
    · simp [Value.cells] at hcs
      obtain ⟨rfl, rfl, rfl⟩ := hcs
      exact ⟨[], .inl ⟨rfl, rfl, rfl, rfl⟩, by omega⟩
    · simp [Value.cells] at hcs
      obtain ⟨rfl, rfl, rfl⟩ := hcs
      have hd := congrArg Prod.fst hx
      simp only at hd
      subst hd
      have hs := sized_slice hsz (j := 1) rfl rfl Tryd.underlying22
      rw [bytesOfElem] at hs
      have hz2 : zs.length = cap1 := by simpa using hz
      simp only [lits, List.length_map, List.length_take, List.length_drop, reachBytes] at hs
      exact ⟨zs, .inr ⟨_, rfl, hl, hm, by simpa using hz, hcell, hwz⟩, by omega⟩
  clear hA0 hval0
  refine (walk a0 len0 cap0 z0 a1 len1 cap1 z1 W (fours_of_laid hL) w0 rr0 w1 rr1).mono fun e W' ⟨he, bel⟩ => ?_
  subst he
  exact ⟨_, rfl, _, _, _, [], _, [], hW', trodAll_mk1 (shut_bool Tryd.underlying4 _), (trodAll_cons_mk (Below.trod laidOut (by kernel_rfl) (of_decide_eq_true (by kernel_rfl)) k0 bel lt0) (trodAll_cons_mk (Below.trod laidOut (by kernel_rfl) (of_decide_eq_true (by kernel_rfl)) k1 bel lt1) trodAll_mk0)), rfl, bel.frame _, fun h => by cases h⟩

theorem over : Rows.frameBackRow.holds Tryd.pinned (OpenSpec.ofChange Rows.frameBackSpec) :=
  OpenClaim.holds_of_wide 6 Tryd.f6 rfl rfl rfl rfl rfl rfl rfl ⟨rfl, rfl, rfl, rfl, rfl⟩ rfl rfl rfl rfl rfl (by kernel_rfl) Tryd.func6 (by kernel_rfl)
    (of_decide_eq_true (by kernel_rfl)) (by unfold Func.isWrapper; first | (rw [if_pos (by decide +kernel)]; kernel_rfl) | (rw [if_neg (by decide +kernel)]; exact ⟨rfl, rfl⟩))
    (fun os started H enc _ => lifted os started H enc)

/-- ████ THE STATEMENT ████ -/
theorem proved : Rows.FrameBackSaid := over
/-- THE CARD: the row with its listed variable tied to the program's text. -/
theorem carded : Rows.FrameBackCardSaid :=
  Claim7.holds_tied_plain_at .later [] [.data] true (true, "30a9aa1b8a23e96fbf6cf917c6077a115896583229150c0fd195c2e0055eaf84") false
    proved (fun _ h => by cases h) (by kernel_rfl) (fun _ h => by cases h) frameBack_row_tie rfl ⟨rfl, rfl⟩ (by kernel_rfl) rfl
    (fun f fn hf hfn => by
      obtain rfl : f = 6 := Option.some.inj ((show Tryd.prog.funcNamed "commonhold/commonholdkeep.FrameBack" = some 6 by kernel_rfl).symm.trans hf) |>.symm
      obtain rfl : fn = Tryd.f6 := (Option.some.inj (Tryd.func6.symm.trans hfn)).symm
      exact ⟨by kernel_rfl, fun j t ht => by
        rw [Tryd.params6] at ht
        rcases j with _ | _ | j
        all_goals first | (simp at ht; done) | (simp at ht; subst ht; kernel_rfl)⟩)
    (by kernel_rfl)
end Go.Proofs.YtjjencnnmpefbaaDoor.frameBack
namespace Go.Proofs.YtjjencnnmpefbaaDoor
theorem frameBack_holds : Rows.FrameBackCardSaid := frameBack.carded
end Go.Proofs.YtjjencnnmpefbaaDoor
