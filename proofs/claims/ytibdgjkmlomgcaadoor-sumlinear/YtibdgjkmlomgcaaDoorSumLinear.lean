/- SumLinear: for every input the law returns true, at whatever three slices of bytes; its listed table is tied to the text of the program. -/
import Derived.Test.YtibdgjkmlomgcaaDoorRows
import Derived.Test.YtibdgjkmlomgcaaDoorFoursLaid
import Derived.Test.YtibdgjkmlomgcaaDoorOctetsKeep
import Derived.Test.YtibdgjkmlomgcaaDoorUnguard
import Derived.Test.YtibdgjkmlomgcaaDoorLitOcts
import Derived.Test.YtibdgjkmlomgcaaDoorLinPlain
import Derived.Test.YtibdgjkmlomgcaaDoorMinFour
import Derived.WalkKit
import Derived.ProofKit
import Derived.OpenShut
import Derived.ShutString
import Derived.ChangeOld
import Derived.Below
import Derived.LaidMore
import Derived.MakeChecks
import Derived.SevenTiedAt
import Derived.Test.YtibdgjkmlomgcaaDoorCards
import Derived.Test.YtibdgjkmlomgcaaDoorTie
import Derived.SizedLaws
namespace Go.Proofs.YtibdgjkmlomgcaaDoor.sumLinear
open Go.ChangeShapes Go.WideShapes Go.ChangeAt Go.RowKit
open Go.ChangeMaps (open_string shut_string)
set_option linter.unusedVariables false

theorem own : ownKnob Tryd.prog.godebug = none := by kernel_rfl
theorem bytesOfElem : Tryd.prog.bytesOf 5 = 1 := by kernel_rfl
theorem laidOut : laidOutB Tryd.prog = true := by kernel_rfl

/-- WHAT THE WALK IS TOLD OF A SLICE OF INTEGERS THAT CAME IN: it is nil; or it leads to a row of 'cap' cells, the numbers 'zs' (the first 'len' are its elements, the rest its spare room), each fitting its kind. -/
def IsRow (k : IntKind) (w : World) (a : Option Addr) (len cap : Nat) (zs : List Int) : Prop :=
  (a = none ∧ len = 0 ∧ cap = 0 ∧ zs = []) ∨
  ∃ x, a = some x ∧ len ≤ cap ∧ cap ≤ maxLen ∧ zs.length = cap ∧ (∀ i, i < zs.length → w.cell? (x.add i) = some (.int k (zs.getD i 0))) ∧ ∀ n ∈ zs, (Lit.int k n).wf = true

/-! ### STEP 1: THE WALK: the Go text returns true, AND WRITES NOTHING THAT WAS THERE: 'Below w.heap.size w w'' (Derived/Below.lean: '.refl', '.alloc', '.drew', '.setCell' at a new block, '.trans'). Open each 'IsRow' by 'rcases' AHEAD of 'go_enter'; part every test ahead of the walk. -/
set_option maxHeartbeats 2000000 in
theorem walk (a0 : Option Addr) (len0 cap0 : Nat) (z0 : List Int) (a1 : Option Addr) (len1 cap1 : Nat) (z1 : List Int) (a2 : Option Addr) (len2 cap2 : Nat) (z2 : List Int) (w : World) (tab : Fours w) (w0 : IsRow .u8 w a0 len0 cap0 z0) (rr0 : cap0 * 1 ≤ 140737488351232) (w1 : IsRow .u8 w a1 len1 cap1 z1) (rr1 : cap1 * 1 ≤ 140737488351232) (w2 : IsRow .u8 w a2 len2 cap2 z2) (rr2 : cap2 * 1 ≤ 140737488351232) :
    Calls Tryd.prog 6 #[.slice a0 len0 cap0, .slice a1 len1 cap1, .slice a2 len2 cap2] w fun e w' => e = .returned (.bool true) ∧ Below w.heap.size w w' := by
  obtain ⟨xs, rfl, he0⟩ := row_octs (by omega) w0
  obtain ⟨ys, rfl, he1⟩ := row_octs (by omega) w1
  obtain ⟨zs, rfl, he2⟩ := row_octs (by omega) w2
  clear w0 w1 w2
  obtain ⟨n, hn⟩ : ∃ n : Nat, n = min (min (min xs.length ys.length) zs.length) 2000 := ⟨_, rfl⟩
  have hx : n ≤ xs.length := by omega
  have hy : n ≤ ys.length := by omega
  have hz : n ≤ zs.length := by omega
  have h2 : n ≤ 2000 := by omega
  have kmin : ∀ (v : World) (ts : Array TypeId) (t : TypeId), (Builtin.min_ ts t #[.int .i64 xs.length, .int .i64 ys.length, .int .i64 zs.length, .int .i64 2000]).run Tryd.prog v = .ok (.int .i64 (n : Int)) v := by
    intro v ts t
    rw [run_min_int4]
    congr 2
    omega
  clear hn
  obtain ⟨n0, hn0⟩ : ∃ m, m = xs.length := ⟨_, rfl⟩
  obtain ⟨n1, hn1⟩ : ∃ m, m = ys.length := ⟨_, rfl⟩
  obtain ⟨n2, hn2⟩ : ∃ m, m = zs.length := ⟨_, rfl⟩
  rw [← hn0, ← hn1, ← hn2] at kmin
  rw [← hn0] at hx
  rw [← hn1] at hy
  rw [← hn2] at hz
  rw [← hn0, ← hn1, ← hn2]
  have HN0 : Hid (n0 = xs.length) := hn0
  have HN1 : Hid (n1 = ys.length) := hn1
  have HN2 : Hid (n2 = zs.length) := hn2
  have HE0 : Hid (Octs w a0 cap0 xs) := he0
  have HE1 : Hid (Octs w a1 cap1 ys) := he1
  have HE2 : Hid (Octs w a2 cap2 zs) := he2
  clear hn0 hn1 hn2 he0 he1 he2
  obtain ⟨i0, hi, hz0, hz1, hz2⟩ := info_parts Tryd.infoApp
  have kc := Tryd.convertLit
  obtain ⟨sa, hsa⟩ : ∃ s, s = sumOf 0#32 (xs.take n) := ⟨_, rfl⟩
  obtain ⟨sb, hsb⟩ : ∃ s, s = sumOf 0#32 (ys.take n) := ⟨_, rfl⟩
  obtain ⟨sc, hsc⟩ : ∃ s, s = sumOf 0#32 (zs.take n) := ⟨_, rfl⟩
  obtain ⟨mx, hmx⟩ : ∃ mx : Nat → Int, mx = fun j => bits .xor .u8 (bits .xor .u8 (xs.getD j 0) (ys.getD j 0)) (zs.getD j 0) := ⟨_, rfl⟩
  have hbyte : ∀ (l : List Int) (v : World) (ao : Option Addr) (c : Nat), Octs v ao c l → ∀ j, j < l.length → 0 ≤ l.getD j 0 ∧ l.getD j 0 ≤ 255 := by
    intro l v ao c h j hj
    obtain ⟨_, _, _, _, h1, h2⟩ := h.at hj
    exact ⟨h1, h2⟩
  have HMB : Hid ((∀ j, j < n → 0 ≤ mx j ∧ mx j ≤ 255) ∧ sumOf 0#32 (rowOf n mx) = sa ^^^ sb ^^^ sc) := by
    have q : ∀ j, j < n → 0 ≤ mx j ∧ mx j ≤ 255 ∧ BitVec.ofNat 32 (mx j).toNat = BitVec.ofNat 32 (xs.getD j 0).toNat ^^^ BitVec.ofNat 32 (ys.getD j 0).toNat ^^^ BitVec.ofNat 32 (zs.getD j 0).toNat := by
      intro j hj
      have p1 := xor_byte (hbyte xs _ _ _ HE0.out j (by rw [← HN0.out]; omega)) (hbyte ys _ _ _ HE1.out j (by rw [← HN1.out]; omega))
      have p2 := xor_byte ⟨p1.1, p1.2.1⟩ (hbyte zs _ _ _ HE2.out j (by rw [← HN2.out]; omega))
      rw [hmx]
      refine ⟨p2.1, p2.2.1, ?_⟩
      rw [p2.2.2, p1.2.2]
    refine ⟨fun j hj => ⟨(q j hj).1, (q j hj).2.1⟩, ?_⟩
    rw [sumOf_three n _ _ _ mx (fun j hj => (q j hj).2.2), hsa, hsb, hsc, take_rowOf xs n (by rw [← HN0.out]; exact hx), take_rowOf ys n (by rw [← HN1.out]; exact hy), take_rowOf zs n (by rw [← HN2.out]; exact hz)]
  have HMX : Hid (∀ j, mx j = bits .xor .u8 (bits .xor .u8 (xs.getD j 0) (ys.getD j 0)) (zs.getD j 0)) := by intro j; rw [hmx]
  clear hmx hbyte
  have O0 : ∀ v1, Octs v1 a0 cap0 xs → Calls Tryd.prog 13 #[.slice a0 n0 cap0, .int .i64 n] v1 fun e w' => ∃ ao' cap', e = .returned (.slice ao' n cap') ∧ Octs w' ao' cap' (xs.take n) ∧ Below v1.heap.size v1 w' := by
    intro v1 h
    have q := Octets_any a0 cap0 xs n (by omega) v1 h
    rw [List.length_take, ← HN0.out, Nat.min_eq_left hx] at q
    exact q
  have O1 : ∀ v1, Octs v1 a1 cap1 ys → Calls Tryd.prog 13 #[.slice a1 n1 cap1, .int .i64 n] v1 fun e w' => ∃ ao' cap', e = .returned (.slice ao' n cap') ∧ Octs w' ao' cap' (ys.take n) ∧ Below v1.heap.size v1 w' := by
    intro v1 h
    have q := Octets_any a1 cap1 ys n (by omega) v1 h
    rw [List.length_take, ← HN1.out, Nat.min_eq_left hy] at q
    exact q
  have O2 : ∀ v1, Octs v1 a2 cap2 zs → Calls Tryd.prog 13 #[.slice a2 n2 cap2, .int .i64 n] v1 fun e w' => ∃ ao' cap', e = .returned (.slice ao' n cap') ∧ Octs w' ao' cap' (zs.take n) ∧ Below v1.heap.size v1 w' := by
    intro v1 h
    have q := Octets_any a2 cap2 zs n (by omega) v1 h
    rw [List.length_take, ← HN2.out, Nat.min_eq_left hz] at q
    exact q
  have S0 : ∀ a cap v1, Fours v1 → Octs v1 a cap (xs.take n) → Calls Tryd.prog 8 #[.slice a n cap] v1 fun e w' => e = .returned (.int .i64 (wd sa)) ∧ w' = v1 := by
    intro a cap v1 t h
    have q := Of_any a cap _ v1 t h
    rw [List.length_take, ← HN0.out, Nat.min_eq_left hx, ← hsa] at q
    exact q
  have S1 : ∀ a cap v1, Fours v1 → Octs v1 a cap (ys.take n) → Calls Tryd.prog 8 #[.slice a n cap] v1 fun e w' => e = .returned (.int .i64 (wd sb)) ∧ w' = v1 := by
    intro a cap v1 t h
    have q := Of_any a cap _ v1 t h
    rw [List.length_take, ← HN1.out, Nat.min_eq_left hy, ← hsb] at q
    exact q
  have S2 : ∀ a cap v1, Fours v1 → Octs v1 a cap (zs.take n) → Calls Tryd.prog 8 #[.slice a n cap] v1 fun e w' => e = .returned (.int .i64 (wd sc)) ∧ w' = v1 := by
    intro a cap v1 t h
    have q := Of_any a cap _ v1 t h
    rw [List.length_take, ← HN2.out, Nat.min_eq_left hz, ← hsc] at q
    exact q
  have S3 : ∀ a cap v1, Fours v1 → Octs v1 a cap (rowOf n mx) → Calls Tryd.prog 8 #[.slice a n cap] v1 fun e w' => e = .returned (.int .i64 (wd (sa ^^^ sb ^^^ sc))) ∧ w' = v1 := by
    intro a cap v1 t h
    have q := Of_any a cap _ v1 t h
    rw [rowOf_length, HMB.out.2] at q
    exact q
  have S4 : ∀ a cap v1, Fours v1 → Octs v1 a cap [0] → Calls Tryd.prog 8 #[.slice a 1 cap] v1 fun e w' => e = .returned (.int .i64 3523407757) ∧ w' = v1 := by
    intro a cap v1 t h
    have q := Of_any a cap _ v1 t h
    rw [show wd (sumOf 0#32 [0]) = 3523407757 by decide +kernel] at q
    exact q
  have kx1 := wd_xor64 sa sb
  have kx2 := wd_xor64 (sa ^^^ sb) sc
  clear hsa hsb hsc
  go_enter Tryd.func6, Tryd.ntmps6
  go_wp2_with (at_make; refine wpList_make_full _ rfl _ _ 22 rfl w.heap.size 5 i0 (.int .u8 0) 1 Tryd.underlying22 hi hz0 hz1 .i64 .i64 _ _ n rfl rfl rfl rfl (by rw [hz2]; omega) (by unfold maxLen; omega) (Nat.le_refl _) ?_; intro w4 hown hg4; have b4 : Below w.heap.size w w4 := (Below.refl _ w).grown hg4 (Nat.le_refl _) (by intro k hk; cases hk))
  go_loopw [9] (fun i wr => ∃ k : Nat, k ≤ n ∧ i = .int .i64 k ∧ Hid (OwnOcts wr w.heap.size w.heap.size n n (fun j => if j < k then mx j else 0) ∧ Below w.heap.size w wr)) (fun i _ => n - (intOf i).toNat)
  case atStart => exact ⟨0, Nat.zero_le _, rfl, (made_ownOcts hown).congr (fun i _ => by simp), b4⟩
  case round =>
    obtain ⟨k, hk, rfl, HR⟩ := hrel
    by_cases hlt : k < n
    · obtain ⟨q0, f0, rfl, hc0, -, -⟩ := HE0.out.at (k := k) (by rw [← HN0.out]; omega)
      obtain ⟨q1, f1, rfl, hc1, -, -⟩ := HE1.out.at (k := k) (by rw [← HN1.out]; omega)
      obtain ⟨q2, f2, rfl, hc2, -, -⟩ := HE2.out.at (k := k) (by rw [← HN2.out]; omega)
      have hc0 := (HR.out.2.cell (p := ⟨q0, f0 + k, none⟩) (World.block_lt_of_cell? _ _ hc0)).trans hc0
      have hc1 := (HR.out.2.cell (p := ⟨q1, f1 + k, none⟩) (World.block_lt_of_cell? _ _ hc1)).trans hc1
      have hc2 := (HR.out.2.cell (p := ⟨q2, f2 + k, none⟩) (World.block_lt_of_cell? _ _ hc2)).trans hc2
      have hm := HMX.out k
      generalize xs.getD k 0 = x at hc0 hm
      generalize ys.getD k 0 = y at hc1 hm
      generalize zs.getD k 0 = z at hc2 hm
      have HMK : Hid (mx k = bits .xor .u8 (bits .xor .u8 x y) z) := hm
      clear hm
      have hd := HR.out.1.cell hlt
      have hf := HR.out.1.frozen k
      go_wp2_with (go_region)
      all_goals
        go_roundw
        case rel =>
          refine ⟨k + 1, by omega, by go_num, ((HR.out.1.drew.stored k _).congr ?_), (HR.out.2.drew.setCell (Nat.le_refl _) _)⟩
          intro i _
          by_cases hik : i = k
          · subst hik
            simp [HMK.out]
          · simp only [hik, if_false]
            by_cases h : i < k
            · simp [h, show i < k + 1 by omega]
            · simp [h, show ¬ i < k + 1 by omega]
        case measure => simp [intOf]; omega
    · have hkn : k = n := by omega
      subst hkn
      have bb := HR.out.2
      have od := (HR.out.1.congr (f' := mx) (fun i hi => by simp [hi])).octs (by omega) HMB.out.1
      have tab := tab.later bb
      have e0 := HE0.out.later bb
      have e1 := HE1.out.later bb
      have e2 := HE2.out.later bb
      have X0 : Hid (Octs wr a0 cap0 xs) := e0
      have X1 : Hid (Octs wr a1 cap1 ys) := e1
      have X2 : Hid (Octs wr a2 cap2 zs) := e2
      clear e0 e1 e2
      go_wp2_with (first
        | (go_at_call 13; (with_reducible refine (O0 _ X0.out).mono ?_); rintro e w5 ⟨b0, c0, rfl, o0, b5⟩; have X1 : Hid (Octs w5 a1 cap1 ys) := X1.out.later b5; have X2 : Hid (Octs w5 a2 cap2 zs) := X2.out.later b5; have od := od.later b5; have tab := tab.later b5; have bb := bb.trans (b5.mono bb.size))
        | (go_at_call 8; (with_reducible refine (S0 b0 c0 _ tab o0).mono ?_); rintro e w6 ⟨rfl, rfl⟩)
        | (go_at_call 13; (with_reducible refine (O1 _ X1.out).mono ?_); rintro e w7 ⟨b1, c1, rfl, o1, b7⟩; have X2 : Hid (Octs w7 a2 cap2 zs) := X2.out.later b7; have od := od.later b7; have tab := tab.later b7; have bb := bb.trans (b7.mono bb.size))
        | (go_at_call 8; (with_reducible refine (S1 b1 c1 _ tab o1).mono ?_); rintro e w8 ⟨rfl, rfl⟩)
        | (go_at_call 13; (with_reducible refine (O2 _ X2.out).mono ?_); rintro e w9 ⟨b2, c2, rfl, o2, b9⟩; have od := od.later b9; have tab := tab.later b9; have bb := bb.trans (b9.mono bb.size))
        | (go_at_call 8; (with_reducible refine (S2 b2 c2 _ tab o2).mono ?_); rintro e w10 ⟨rfl, rfl⟩)
        | (go_at_call 8; (with_reducible refine (S3 _ _ _ tab od).mono ?_); rintro e w11 ⟨rfl, rfl⟩)
        | (go_at_call 8; refine (S4 _ _ _ (tab.later ((Below.refl _ _).alloc (Nat.le_refl _) _)) (octs_alloc _ _ _ _ _ _ rfl (by decide) (by decide) (by decide))).mono ?_; rintro e w12 ⟨rfl, rfl⟩; have bb := bb.alloc bb.size (.cells #[.int .u8 0] 5))
        )
      go_ret
      exact ⟨rfl, bb⟩

/-! ### THE ROW's STEP: WRITTEN OUT: LEAVE IT -/
set_option maxRecDepth 100000 in
theorem lifted (os : Os) (started : os.Started) (H : Type) (enc : TypeId × Value → H) :
    ReturnsInHanded {} Tryd.checked os 6 .any (fun w args => (Rows.sumLinearSpec.pre enc Tryd.prog Tryd.f6 [] false w args ∧ laidMetH Tryd.prog [("commonhold/sum.fours", Rows.laid_commonhold_sum_fours)] w) ∧ sizedMet enc Tryd.prog Tryd.f6 (OpenSpec.ofChange Rows.sumLinearSpec) false w args) (Rows.sumLinearSpec.post enc Tryd.prog Tryd.f6 false true false false) := by
  refine returnsInHanded_of_change_and (C := Tryd.checked) (X := fun w _ => laidMetH Tryd.prog [("commonhold/sum.fours", Rows.laid_commonhold_sum_fours)] w) (fun _ _ _ hh h => h.of_heap hh) own started (by kernel_rfl) Tryd.func6
    (ChangeSpec.witness_shaped (enc := enc) (C := Tryd.checked) (os := os) (X := fun w _ => laidMetH Tryd.prog [("commonhold/sum.fours", Rows.laid_commonhold_sum_fours)] w) false (World.doorLaid Tryd.prog 14 os) #[.slice none 0 0, .slice none 0 0, .slice none 0 0] 8 rfl (World.shaped_of_RefB (by kernel_rfl) (by kernel_rfl)) (by kernel_rfl) (by kernel_rfl) (by kernel_rfl) (laidMetH_of_parts3 (fuel := 8) (laidMet_of_run' 8 (by kernel_rfl) (by kernel_rfl)) (by kernel_rfl) (by kernel_rfl))) ?_
  intro W base args ds gs before hval0 hW hcnd hsz0 hL _
  have hval : ∀ (j : Nat) t v, Tryd.f6.params[j]? = some t → args[j]? = some v → Value.okWide Tryd.prog W .any base t v := hval0
  have hW' := hW
  obtain ⟨p, q, hA0, hV, rfl, hfz, hnd⟩ := hW
  have hA : DataW.TrodAll enc Tryd.prog W 0 (fun _ => true) true Tryd.f6.params.toList args.toList ds p := hA0
  have hsz : (DataW.weightsEach Tryd.prog (Tryd.f6.params.toList ++ Rows.sumLinearSpec.plain.varTypes Tryd.prog) (ds ++ gs)).all (· ≤ reachBytes) = true := hsz0
  clear hsz0
  rw [Tryd.params6] at hA hval hsz
  obtain ⟨v0, vs0, d0, ds0, p0, q0, hargs, rfl, rfl, h0, r0⟩ := trodAll_cons hA
  obtain ⟨v1, vs1, d1, ds1, p1, q1, rfl, rfl, rfl, h1, r1⟩ := trodAll_cons r0
  obtain ⟨v2, vs2, d2, ds2, p2, q2, rfl, rfl, rfl, h2, r2⟩ := trodAll_cons r1
  obtain ⟨rfl, rfl, rfl⟩ := trodAll_nil r2
  obtain rfl : args = #[v0, v1, v2] := by cases args; simp_all
  obtain ⟨rfl, rfl⟩ := trodVars_none hV
  obtain ⟨a0, len0, cap0, rfl⟩ := okWide_slice Tryd.underlying22 (hval 0 22 v0 rfl rfl)
  have k0 := h0
  have lt0 : ∀ x ∈ p0, x.block < W.heap.size := by obtain ⟨m, hm⟩ := k0; exact DataW.trod_lt m _ _ _ hm
  obtain ⟨z0, w0, rr0⟩ : ∃ zs, IsRow .u8 W a0 len0 cap0 zs ∧ cap0 * 1 ≤ 140737488351232 := by
    obtain ⟨fuel, hf⟩ := h0
    rcases open_ints Tryd.underlying22 Tryd.underlying5 (by kernel_rfl) hf with ⟨hcs, _⟩ | ⟨x, l, c, zs, hcs, _, hl, hm, hz, hx, hcell, hwz⟩
    · simp [Value.cells] at hcs
      obtain ⟨rfl, rfl, rfl⟩ := hcs
      exact ⟨[], .inl ⟨rfl, rfl, rfl, rfl⟩, by omega⟩
    · simp [Value.cells] at hcs
      obtain ⟨rfl, rfl, rfl⟩ := hcs
      have hd := congrArg Prod.fst hx
      simp only at hd
      subst hd
      have hs := sized_slice hsz (j := 0) rfl rfl Tryd.underlying22
      rw [bytesOfElem] at hs
      have hz2 : zs.length = cap0 := by simpa using hz
      simp only [lits, List.length_map, List.length_take, List.length_drop, reachBytes] at hs
      exact ⟨zs, .inr ⟨_, rfl, hl, hm, by simpa using hz, hcell, hwz⟩, by omega⟩
  obtain ⟨a1, len1, cap1, rfl⟩ := okWide_slice Tryd.underlying22 (hval 1 22 v1 rfl rfl)
  have k1 := h1
  have lt1 : ∀ x ∈ p1, x.block < W.heap.size := by obtain ⟨m, hm⟩ := k1; exact DataW.trod_lt m _ _ _ hm
  obtain ⟨z1, w1, rr1⟩ : ∃ zs, IsRow .u8 W a1 len1 cap1 zs ∧ cap1 * 1 ≤ 140737488351232 := by
    obtain ⟨fuel, hf⟩ := h1
    rcases open_ints Tryd.underlying22 Tryd.underlying5 (by kernel_rfl) hf with ⟨hcs, _⟩ | ⟨x, l, c, zs, hcs, _, hl, hm, hz, hx, hcell, hwz⟩
    · simp [Value.cells] at hcs
      obtain ⟨rfl, rfl, rfl⟩ := hcs
      exact ⟨[], .inl ⟨rfl, rfl, rfl, rfl⟩, by omega⟩
    · simp [Value.cells] at hcs
      obtain ⟨rfl, rfl, rfl⟩ := hcs
      have hd := congrArg Prod.fst hx
      simp only at hd
      subst hd
      have hs := sized_slice hsz (j := 1) rfl rfl Tryd.underlying22
      rw [bytesOfElem] at hs
      have hz2 : zs.length = cap1 := by simpa using hz
      simp only [lits, List.length_map, List.length_take, List.length_drop, reachBytes] at hs
      exact ⟨zs, .inr ⟨_, rfl, hl, hm, by simpa using hz, hcell, hwz⟩, by omega⟩
  obtain ⟨a2, len2, cap2, rfl⟩ := okWide_slice Tryd.underlying22 (hval 2 22 v2 rfl rfl)
  have k2 := h2
  have lt2 : ∀ x ∈ p2, x.block < W.heap.size := by obtain ⟨m, hm⟩ := k2; exact DataW.trod_lt m _ _ _ hm
  obtain ⟨z2, w2, rr2⟩ : ∃ zs, IsRow .u8 W a2 len2 cap2 zs ∧ cap2 * 1 ≤ 140737488351232 := by
    obtain ⟨fuel, hf⟩ := h2
    rcases open_ints Tryd.underlying22 Tryd.underlying5 (by kernel_rfl) hf with ⟨hcs, _⟩ | ⟨x, l, c, zs, hcs, _, hl, hm, hz, hx, hcell, hwz⟩
    · simp [Value.cells] at hcs
      obtain ⟨rfl, rfl, rfl⟩ := hcs
      exact ⟨[], .inl ⟨rfl, rfl, rfl, rfl⟩, by omega⟩
    · simp [Value.cells] at hcs
      obtain ⟨rfl, rfl, rfl⟩ := hcs
      have hd := congrArg Prod.fst hx
      simp only at hd
      subst hd
      have hs := sized_slice hsz (j := 2) rfl rfl Tryd.underlying22
      rw [bytesOfElem] at hs
      have hz2 : zs.length = cap2 := by simpa using hz
      simp only [lits, List.length_map, List.length_take, List.length_drop, reachBytes] at hs
      exact ⟨zs, .inr ⟨_, rfl, hl, hm, by simpa using hz, hcell, hwz⟩, by omega⟩
  clear hA0 hval0
  refine (walk a0 len0 cap0 z0 a1 len1 cap1 z1 a2 len2 cap2 z2 W (fours_of_laid hL) w0 rr0 w1 rr1 w2 rr2).mono fun e W' ⟨he, bel⟩ => ?_
  subst he
  exact ⟨_, rfl, _, _, _, [], _, [], hW', trodAll_mk1 (shut_bool Tryd.underlying4 _), (trodAll_cons_mk (Below.trod laidOut (by kernel_rfl) (of_decide_eq_true (by kernel_rfl)) k0 bel lt0) (trodAll_cons_mk (Below.trod laidOut (by kernel_rfl) (of_decide_eq_true (by kernel_rfl)) k1 bel lt1) (trodAll_cons_mk (Below.trod laidOut (by kernel_rfl) (of_decide_eq_true (by kernel_rfl)) k2 bel lt2) trodAll_mk0))), rfl, bel.frame _, fun h => by cases h⟩

theorem over : Rows.sumLinearRow.holds Tryd.pinned (OpenSpec.ofChange Rows.sumLinearSpec) :=
  OpenClaim.holds_of_wide 6 Tryd.f6 rfl rfl rfl rfl rfl rfl rfl ⟨rfl, rfl, rfl, rfl, rfl⟩ rfl rfl rfl rfl rfl (by kernel_rfl) Tryd.func6 (by kernel_rfl)
    (of_decide_eq_true (by kernel_rfl)) (by unfold Func.isWrapper; first | (rw [if_pos (by decide +kernel)]; kernel_rfl) | (rw [if_neg (by decide +kernel)]; exact ⟨rfl, rfl⟩))
    (fun os started H enc _ => lifted os started H enc)

/-- ████ THE STATEMENT ████ -/
theorem proved : Rows.SumLinearSaid := over
/-- THE CARD: the row with its listed variable tied to the program's text. -/
theorem carded : Rows.SumLinearCardSaid :=
  Claim7.holds_tied_plain_at .later [] [.data] true (true, "52a8b3aea4e653344220f6b5ae5d6275540cebf81699a40d0f480d3ea6befea3") false
    proved (fun _ h => by cases h) (by kernel_rfl) (fun _ h => by cases h) sumLinear_row_tie rfl ⟨rfl, rfl⟩ (by kernel_rfl) rfl
    (fun f fn hf hfn => by
      obtain rfl : f = 6 := Option.some.inj ((show Tryd.prog.funcNamed "commonhold/commonholdkeep.SumLinear" = some 6 by kernel_rfl).symm.trans hf) |>.symm
      obtain rfl : fn = Tryd.f6 := (Option.some.inj (Tryd.func6.symm.trans hfn)).symm
      exact ⟨by kernel_rfl, fun j t ht => by
        rw [Tryd.params6] at ht
        rcases j with _ | _ | _ | j
        all_goals first | (simp at ht; done) | (simp at ht; subst ht; kernel_rfl)⟩)
    (by kernel_rfl)
end Go.Proofs.YtibdgjkmlomgcaaDoor.sumLinear
namespace Go.Proofs.YtibdgjkmlomgcaaDoor
theorem sumLinear_holds : Rows.SumLinearCardSaid := sumLinear.carded
end Go.Proofs.YtibdgjkmlomgcaaDoor
