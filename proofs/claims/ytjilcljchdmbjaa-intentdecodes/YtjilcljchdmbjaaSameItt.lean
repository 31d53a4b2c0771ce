/- The law's sameIntent of two that are the same. -/
import Derived.Test.YtjilcljchdmbjaaRtSameL
import Derived.Test.YtjilcljchdmbjaaItMem
import Derived.Test.YtjilcljchdmbjaaRegTake
namespace Go.Proofs.Ytjilcljchdmbjaa
open Go.ChangeShapes Go.WideShapes Go.ChangeAt Go.RowKit

theorem sameL_yes (ao bo : Option Addr) (ca cb : Nat) (xs : List Int) (w : World) (hx : Octs w ao ca xs) (hy : Octs w bo cb xs) :
    Calls Try.prog 43 #[.slice ao xs.length ca, .slice bo xs.length cb] w fun e w' => e = .returned (.bool true) ∧ Below w.heap.size w w' := by
  refine (sameBytesL_q ao bo ca cb xs xs w hx hy).mono ?_
  rintro e w' ⟨rfl, j, rfl⟩
  exact ⟨by simp, drawn_below (Below.refl _ _) j⟩

set_option maxRecDepth 100000 in
set_option maxHeartbeats 1000000 in
theorem sameRange_yes (x : Ent) (xa ya za ta : Option Addr) (xc yc zc tc : Nat) (w : World) (h1 : Octs w xa xc x.1) (h2 : Octs w ya yc x.2) (h3 : Octs w za zc x.1) (h4 : Octs w ta tc x.2) :
    Calls Try.prog 42 #[.agg #[.slice xa x.1.length xc, .slice ya x.2.length yc], .agg #[.slice za x.1.length zc, .slice ta x.2.length tc]] w fun e w' => e = .returned (.bool true) ∧ Below w.heap.size w w' := by
  have c1 : Hid (∀ V, Below w.heap.size w V → Calls Try.prog 43 #[.slice xa x.1.length xc, .slice za x.1.length zc] V fun e w' => e = .returned (.bool true) ∧ Below V.heap.size V w') := fun V hV => sameL_yes xa za xc zc x.1 V (h1.later hV) (h3.later hV)
  have c2 : Hid (∀ V, Below w.heap.size w V → Calls Try.prog 43 #[.slice ya x.2.length yc, .slice ta x.2.length tc] V fun e w' => e = .returned (.bool true) ∧ Below V.heap.size V w') := fun V hV => sameL_yes ya ta yc tc x.2 V (h2.later hV) (h4.later hV)
  clear h1 h2 h3 h4
  generalize x.1.length = i1 at c1 ⊢
  generalize x.2.length = i2 at c2 ⊢
  have HB := put_by (((Below.refl w.heap.size w).alloc (Nat.le_refl _) (.cells #[.slice xa i1 xc, .slice ya i2 yc] 49)).alloc (by simp) (.cells #[.slice za i1 zc, .slice ta i2 tc] 49))
  have HK : Hid (∀ V, Below ((w.alloc (.cells #[.slice xa i1 xc, .slice ya i2 yc] 49)).alloc (.cells #[.slice za i1 zc, .slice ta i2 tc] 49)).heap.size ((w.alloc (.cells #[.slice xa i1 xc, .slice ya i2 yc] 49)).alloc (.cells #[.slice za i1 zc, .slice ta i2 tc] 49)) V → V.cell? ⟨w.heap.size, 1, none⟩ = some (.slice ya i2 yc) ∧ V.cell? ⟨w.heap.size + 1, 1, none⟩ = some (.slice ta i2 tc)) := fun V hV => ⟨(hV.cell (p := ⟨w.heap.size, 1, none⟩) (by simp; omega)).trans (by simp), (hV.cell (p := ⟨w.heap.size + 1, 1, none⟩) (by simp)).trans (by simp)⟩
  have x0 : ((w.alloc (.cells #[.slice xa i1 xc, .slice ya i2 yc] 49)).alloc (.cells #[.slice za i1 zc, .slice ta i2 tc] 49)).cell? ⟨w.heap.size, 0, none⟩ = some (.slice xa i1 xc) := by simp
  have z0 : ((w.alloc (.cells #[.slice xa i1 xc, .slice ya i2 yc] 49)).alloc (.cells #[.slice za i1 zc, .slice ta i2 tc] 49)).cell? ⟨w.heap.size + 1, 0, none⟩ = some (.slice za i1 zc) := by simp
  go_enter Try.func42, Try.ntmps42
  go_upto_region 1 with (fail)
  generalize (w.alloc (.cells #[.slice xa i1 xc, .slice ya i2 yc] 49)).alloc (.cells #[.slice za i1 zc, .slice ta i2 tc] 49) = V at HB HK x0 z0 ⊢
  go_wp2_with (first
    | (go_at_call 43; (with_reducible refine (c1.out _ HB.out).mono ?_); clear c1; rintro e w1 ⟨rfl, b1⟩; obtain ⟨k1, k2⟩ := HK.out _ b1; have HB1 := put_by (HB.out.trans (b1.mono HB.out.size)); clear b1)
    | (go_at_call 43; (with_reducible refine (c2.out _ HB1.out).mono ?_); clear c2; rintro e w2 ⟨rfl, b2⟩; have HB2 := put_by (HB1.out.trans (b2.mono HB1.out.size)); clear b2))
  go_ret
  exact ⟨rfl, HB2.out⟩

set_option maxRecDepth 100000 in
set_option maxHeartbeats 2000000 in
theorem sameRanges_yes (ok ok2 : Nat → Prop) (l : List Ent) (hlen : l.length ≤ 140737488351232) (la ma : Option Addr) (lc mc : Nat) (w : World) (hL : Lies kEnt ok w la lc l) (hM : Lies kEnt ok2 w ma mc l) :
    Calls Try.prog 21 #[.slice la l.length lc, .slice ma l.length mc] w fun e w' => e = .returned (.bool true) ∧ Below w.heap.size w w' := by
  obtain ⟨n, hn⟩ : ∃ n, n = l.length := ⟨_, rfl⟩
  rw [← hn]
  have HN := put_by hn
  have HL := put_by (And.intro hL hM)
  have hn8 : n ≤ 140737488351232 := by omega
  clear hL hM hlen hn
  go_enter Try.func21, Try.ntmps21
  go_wp2
  go_loopw [5] (fun i wr => ∃ k : Nat, k ≤ n ∧ i = .int .i64 k ∧ Hid (Below w.heap.size w wr)) (fun i _ => n - (intOf i).toNat)
  case atStart => exact ⟨0, Nat.zero_le _, rfl, Below.refl _ _⟩
  case round =>
    obtain ⟨k, hk, rfl, HB⟩ := hrel
    rename World => wr
    by_cases hlt : k < n
    · have hx : k < l.length := by rw [← HN.out]; exact hlt
      obtain ⟨b1, o1, xa, xc, ya, yc, rfl, hx1, hx2, hc1⟩ := ent_at HL.out.1 hx
      obtain ⟨b2, o2, za, zc, ta, tc, rfl, hx3, hx4, hc2⟩ := ent_at HL.out.2 hx
      have cC : Hid (∀ V, Below wr.heap.size wr V → Calls Try.prog 42 #[.agg #[.slice xa (l[k]).1.length xc, .slice ya (l[k]).2.length yc], .agg #[.slice za (l[k]).1.length zc, .slice ta (l[k]).2.length tc]] V fun e w' => e = .returned (.bool true) ∧ Below wr.heap.size wr w') := fun V hV => by
        have hW : Below w.heap.size w V := HB.out.trans (hV.mono HB.out.size)
        obtain ⟨a1, c1, e1, p1, -⟩ := hx1
        cases e1
        obtain ⟨a2, c2, e2, p2, -⟩ := hx2
        cases e2
        obtain ⟨a3, c3, e3, p3, -⟩ := hx3
        cases e3
        obtain ⟨a4, c4, e4, p4, -⟩ := hx4
        cases e4
        exact (sameRange_yes l[k] xa ya za ta xc yc zc tc V (p1.later hW) (p2.later hW) (p3.later hW) (p4.later hW)).mono (fun e w' h => ⟨h.1, hV.trans (h.2.mono hV.size)⟩)
      have HC1 : Hid (∀ W, Below wr.heap.size wr W → W.cell? ⟨b1, o1 + k * 2, none⟩ = some (.slice xa (l[k]).1.length xc) ∧ W.cell? ⟨b1, o1 + k * 2 + 1, none⟩ = some (.slice ya (l[k]).2.length yc)) := fun W hW => hc1 W (HB.out.trans (hW.mono HB.out.size))
      have HC2 : Hid (∀ W, Below wr.heap.size wr W → W.cell? ⟨b2, o2 + k * 2, none⟩ = some (.slice za (l[k]).1.length zc) ∧ W.cell? ⟨b2, o2 + k * 2 + 1, none⟩ = some (.slice ta (l[k]).2.length tc)) := fun W hW => hc2 W (HB.out.trans (hW.mono HB.out.size))
      have ik : (k : Int) < (n : Int) := by omega
      clear hx1 hx2 hx3 hx4 hc1 hc2 HL
      generalize (l[k]).1.length = i1 at cC HC1 HC2
      generalize (l[k]).2.length = i2 at cC HC1 HC2
      go_upto_region 6 with (fail)
      have bx : Below wr.heap.size wr wr.drew := (Below.refl _ _).drew
      refine wp_region_held (S := fun W => Below wr.heap.size wr W) (by kernel_rfl) ?_
      change wpAnyH _ _ _ _ _ 10 #[false, false, false, false, false, false, false, false, false, false] _ wr.drew
      refine takeH (i := 0) 17 (v := .slice (some ⟨b1, o1, none⟩) n lc) rfl rfl (by kernel_rfl) (by kernel_rfl) (by kernel_rfl) (fun _ _ _ h => h) (Or.inl ⟨by kernel_rfl, ?_⟩) bx ?_
      · intro wq hq
        go_simp
      simp only [Act.put, List.setIfInBounds_toArray, List.set_cons_zero]
      refine takeH (i := 1) 18 (v := .int .i64 (k : Int)) rfl rfl (by kernel_rfl) (by kernel_rfl) (by kernel_rfl) (fun _ _ _ h => h) (Or.inl ⟨by kernel_rfl, ?_⟩) bx ?_
      · intro wq hq
        go_simp
      simp only [Act.put, List.setIfInBounds_toArray, List.set_cons_zero, List.set_cons_succ]
      refine takeH (i := 2) 19 (v := .pointer (some ⟨b1, o1 + k * 2, none⟩)) rfl rfl (by kernel_rfl) (by kernel_rfl) (by kernel_rfl) (fun _ _ _ h => h) (Or.inl ⟨by kernel_rfl, ?_⟩) bx ?_
      · intro wq hq
        go_simp
      simp only [Act.put, List.setIfInBounds_toArray, List.set_cons_zero, List.set_cons_succ]
      refine takeH (i := 3) 20 (v := .agg #[.slice xa i1 xc, .slice ya i2 yc]) rfl rfl (by kernel_rfl) (by kernel_rfl) (by kernel_rfl) (fun _ _ _ h => h) (Or.inl ⟨by kernel_rfl, ?_⟩) bx ?_
      · intro wq hq
        have hh := HC1.out wq hq
        clear HC1 HC2
        obtain ⟨q0, q1⟩ := hh
        go_simp
      simp only [Act.put, List.setIfInBounds_toArray, List.set_cons_zero, List.set_cons_succ]
      refine takeH (i := 4) 21 (v := .slice (some ⟨b2, o2, none⟩) n mc) rfl rfl (by kernel_rfl) (by kernel_rfl) (by kernel_rfl) (fun _ _ _ h => h) (Or.inl ⟨by kernel_rfl, ?_⟩) bx ?_
      · intro wq hq
        go_simp
      simp only [Act.put, List.setIfInBounds_toArray, List.set_cons_zero, List.set_cons_succ]
      refine takeH (i := 5) 22 (v := .int .i64 (k : Int)) rfl rfl (by kernel_rfl) (by kernel_rfl) (by kernel_rfl) (fun _ _ _ h => h) (Or.inl ⟨by kernel_rfl, ?_⟩) bx ?_
      · intro wq hq
        go_simp
      simp only [Act.put, List.setIfInBounds_toArray, List.set_cons_zero, List.set_cons_succ]
      refine takeH (i := 6) 23 (v := .pointer (some ⟨b2, o2 + k * 2, none⟩)) rfl rfl (by kernel_rfl) (by kernel_rfl) (by kernel_rfl) (fun _ _ _ h => h) (Or.inl ⟨by kernel_rfl, ?_⟩) bx ?_
      · intro wq hq
        go_simp
      simp only [Act.put, List.setIfInBounds_toArray, List.set_cons_zero, List.set_cons_succ]
      refine takeH (i := 7) 24 (v := .agg #[.slice za i1 zc, .slice ta i2 tc]) rfl rfl (by kernel_rfl) (by kernel_rfl) (by kernel_rfl) (fun _ _ _ h => h) (Or.inl ⟨by kernel_rfl, ?_⟩) bx ?_
      · intro wq hq
        have hh := HC2.out wq hq
        clear HC1 HC2
        obtain ⟨q0, q1⟩ := hh
        go_simp
      simp only [Act.put, List.setIfInBounds_toArray, List.set_cons_zero, List.set_cons_succ]
      refine wpAnyH_ready (rs := [8]) (by kernel_rfl) (by simp) ?_
      refine AllReadyH.cons rfl (fun K1 hK1 => ?_) AllReadyH.nil
      rw [if_pos (by kernel_rfl)]
      unfold Oper.wp
      go_simp
      go_wp2_with (go_at_call 42; (with_reducible refine (cC.out _ bx).mono ?_); clear cC; rintro e w1 ⟨rfl, b3⟩)
      refine hK1.out _ _ b3 (fun _ => ?_)
      simp only [List.setIfInBounds_toArray, List.set_cons_zero, List.set_cons_succ]
      refine takeH (i := 9) 26 (v := .bool false) rfl rfl (by kernel_rfl) (by kernel_rfl) (by kernel_rfl) (fun _ _ _ h => h) (Or.inl ⟨by kernel_rfl, ?_⟩) b3 ?_
      · intro wq hq
        go_simp
      simp only [Act.put, List.setIfInBounds_toArray, List.set_cons_zero, List.set_cons_succ]
      refine wpAnyH_done (by kernel_rfl) ?_ _
      go_wp2
      go_roundw
      case rel => exact ⟨k + 1, by omega, by go_num, HB.out.trans (b3.mono HB.out.size)⟩
      case measure => simp [intOf]; omega
    · have ik : ¬ (k : Int) < (n : Int) := by omega
      go_wp2
      go_ret
      exact ⟨rfl, HB.out⟩

/-- a write of a row, its cells in memory -/
theorem wt_at {ok : Nat → Prop} {w : World} {ao : Option Addr} {cap : Nat} {l : List Wt} (hL : Lies kWt ok w ao cap l) {k : Nat} (hk : k < l.length) :
    ∃ bb off a1 c1 a2 c2, ao = some ⟨bb, off, none⟩ ∧ IsBody w ok (.slice a1 (l[k]).key.length c1) (l[k]).key ∧ IsBody w ok (.slice a2 (l[k]).val.length c2) (l[k]).val ∧ bb < w.heap.size ∧ ∀ W : World, Below w.heap.size w W → W.cell? ⟨bb, off + k * 3, none⟩ = some (.slice a1 (l[k]).key.length c1) ∧ W.cell? ⟨bb, off + k * 3 + 1, none⟩ = some (.slice a2 (l[k]).val.length c2) ∧ W.cell? ⟨bb, off + k * 3 + 2, none⟩ = some (.bool (l[k]).gone) := by
  obtain ⟨bb, off, e, hb, _, cs, ⟨u, v, rfl, h1, h2⟩, hc⟩ := hL.at hk
  obtain ⟨a1, c1, rfl, _⟩ := id h1
  obtain ⟨a2, c2, rfl, _⟩ := id h2
  exact ⟨bb, off, a1, c1, a2, c2, e, h1, h2, hb, fun W hW => ⟨(hW.cell (p := ⟨bb, off + k * 3, none⟩) hb).trans (by simpa using hc 0 _ rfl), (hW.cell (p := ⟨bb, off + k * 3 + 1, none⟩) hb).trans (hc 1 _ rfl), (hW.cell (p := ⟨bb, off + k * 3 + 2, none⟩) hb).trans (hc 2 _ rfl)⟩⟩

set_option maxRecDepth 100000 in
set_option maxHeartbeats 2000000 in
theorem sameWrites_yes (ok ok2 : Nat → Prop) (l : List Wt) (hlen : l.length ≤ 140737488351232) (la ma : Option Addr) (lc mc : Nat) (w : World) (hL : Lies kWt ok w la lc l) (hM : Lies kWt ok2 w ma mc l) :
    Calls Try.prog 22 #[.slice la l.length lc, .slice ma l.length mc] w fun e w' => e = .returned (.bool true) ∧ Below w.heap.size w w' := by
  obtain ⟨n, hn⟩ : ∃ n, n = l.length := ⟨_, rfl⟩
  rw [← hn]
  have HN := put_by hn
  have HL := put_by (And.intro hL hM)
  have hn8 : n ≤ 140737488351232 := by omega
  clear hL hM hlen hn
  go_enter Try.func22, Try.ntmps22
  go_wp2
  go_loopw [5] (fun i wr => ∃ k : Nat, k ≤ n ∧ i = .int .i64 k ∧ Hid (Below w.heap.size w wr)) (fun i _ => n - (intOf i).toNat)
  case atStart => exact ⟨0, Nat.zero_le _, rfl, Below.refl _ _⟩
  case round =>
    obtain ⟨k, hk, rfl, HB⟩ := hrel
    rename World => wr
    by_cases hlt : k < n
    · have hx : k < l.length := by rw [← HN.out]; exact hlt
      obtain ⟨b1, o1, xa, xc, ya, yc, rfl, hx1, hx2, -, hc1⟩ := wt_at HL.out.1 hx
      obtain ⟨b2, o2, za, zc, ta, tc, rfl, hx3, hx4, -, hc2⟩ := wt_at HL.out.2 hx
      obtain ⟨y0, y1, y2⟩ := hc1 wr HB.out
      obtain ⟨v0, v1, v2⟩ := hc2 wr HB.out
      have cK : Hid (∀ j, Calls Try.prog 43 #[.slice xa (l[k]).key.length xc, .slice za (l[k]).key.length zc] (wr.drewN j) fun e w' => e = .returned (.bool true) ∧ ∃ i, w' = (wr.drewN j).drewN i) := fun j => by
        obtain ⟨a1, c1, e1, p1, -⟩ := hx1
        cases e1
        obtain ⟨a3, c3, e3, p3, -⟩ := hx3
        cases e3
        have hW : Below w.heap.size w (wr.drewN j) := drawn_below HB.out j
        have := sameBytesL_q xa za xc zc _ _ (wr.drewN j) (p1.later hW) (p3.later hW)
        simpa using this
      have cV : Hid (∀ j, Calls Try.prog 43 #[.slice ya (l[k]).val.length yc, .slice ta (l[k]).val.length tc] (wr.drewN j) fun e w' => e = .returned (.bool true) ∧ ∃ i, w' = (wr.drewN j).drewN i) := fun j => by
        obtain ⟨a2, c2, e2, p2, -⟩ := hx2
        cases e2
        obtain ⟨a4, c4, e4, p4, -⟩ := hx4
        cases e4
        have hW : Below w.heap.size w (wr.drewN j) := drawn_below HB.out j
        have := sameBytesL_q ya ta yc tc _ _ (wr.drewN j) (p2.later hW) (p4.later hW)
        simpa using this
      have ik : (k : Int) < (n : Int) := by omega
      clear hx1 hx2 hx3 hx4 hc1 hc2 HL
      generalize (l[k]).key.length = i1 at cK y0 v0
      generalize (l[k]).val.length = i2 at cV y1 v1
      generalize (l[k]).gone = g at y2 v2
      have hgg : (g != g) = false := by simp
      go_upto_region 6 with (fail)
      go_quiet (first
        | (go_at_call 43; with_reducible exact Calls.quiet_of (cK.out _))
        | (go_at_call 43; with_reducible exact Calls.quiet_of (cV.out _)))
      go_wp2
      go_roundw
      case rel => exact ⟨k + 1, by omega, by go_num, drawn_below HB.out _⟩
      case measure => simp [intOf]; omega
    · have ik : ¬ (k : Int) < (n : Int) := by omega
      go_wp2
      go_ret
      exact ⟨rfl, HB.out⟩

end Go.Proofs.Ytjilcljchdmbjaa
