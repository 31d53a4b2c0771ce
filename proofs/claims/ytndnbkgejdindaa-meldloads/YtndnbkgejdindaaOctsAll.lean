/- States that are the same are found so, by the law's sameState. -/
import Derived.Test.YtndnbkgejdindaaSameOct
import Derived.Test.YtndnbkgejdindaaMlMem
import Derived.Test.YtndnbkgejdindaaApBase
import Derived.Test.YtndnbkgejdindaaRdAll
import Derived.BigQuiet
import Derived.Test.YtndnbkgejdindaaLdLoadA
namespace Go.Proofs.Ytndnbkgejdindaa
open Go.ChangeShapes Go.WideShapes Go.ChangeAt Go.RowKit

set_option maxRecDepth 100000 in
set_option maxHeartbeats 4000000 in
theorem sameStateL_yes (ok ok2 : Nat → Prop) (p : Int) (cs : List Cel) (ds : List Dn) (ca cb da db : Option Addr) (cc cd dc dd : Nat) (w : World) (hI : StIs ok w cs ds ca cc da dc) (hJ : StIs ok2 w cs ds cb cd db dd) :
    Calls Try.prog 8 #[.agg #[.int .i64 p, .slice ca cs.length cc, .slice da ds.length dc], .agg #[.int .i64 p, .slice cb cs.length cd, .slice db ds.length dd]] w fun e w' => e = .returned (.bool true) ∧ Below w.heap.size w w' := by
  have HC := put_by (And.intro hI.cells hJ.cells)
  have HD := put_by (And.intro hI.dones hJ.dones)
  have hf := hI.few.2
  have hf1 := hI.few.1
  obtain ⟨n, hn⟩ : ∃ n, n = ds.length := ⟨_, rfl⟩
  obtain ⟨nc, hnc⟩ : ∃ n, n = cs.length := ⟨_, rfl⟩
  rw [← hn] at hf ⊢
  rw [← hnc] at hf1 ⊢
  have HN := put_by hn
  have HNC := put_by hnc
  have hn8 : n ≤ 140737488351232 := by omega
  have hc8 : nc ≤ 140737488351232 := by omega
  clear hI hJ hn hnc hf hf1
  have HX := put_by (Cls.new w [.int .i64 p, .slice ca nc cc, .slice da n dc] 25)
  have HB0 := put_by ((Below.refl w.heap.size w).alloc (Nat.le_refl _) (.cells #[.int .i64 p, .slice ca nc cc, .slice da n dc] 25))
  have HS : Hid ((w.alloc (.cells #[.int .i64 p, .slice ca nc cc, .slice da n dc] 25)).heap.size = w.heap.size + 1) := by simp [Hid]
  go_enter Try.func8, Try.ntmps8
  go_upto_region 1 with (fail)
  generalize hA : w.heap.size + 1 = A
  generalize w.alloc (.cells #[.int .i64 p, .slice ca nc cc, .slice da n dc] _) = W2 at HX HB0 HS ⊢
  have HY := put_by (Cls.new W2 [.int .i64 p, .slice cb nc cd, .slice db n dd] 25)
  have HB2 := put_by ((Below.refl W2.heap.size W2).alloc (Nat.le_refl _) (.cells #[.int .i64 p, .slice cb nc cd, .slice db n dd] 25))
  have HAE : Hid (A = w.heap.size + 1) := hA.symm
  clear hA
  generalize W2.alloc (.cells #[.int .i64 p, .slice cb nc cd, .slice db n dd] _) = W1 at HY HB2 ⊢
  have HXY : Hid (Cls W1 w.heap.size [.int .i64 p, .slice ca nc cc, .slice da n dc] ∧ Cls W1 A [.int .i64 p, .slice cb nc cd, .slice db n dd] ∧ Below w.heap.size w W1) := ⟨HX.out.later HB2.out, by rw [HAE.out, ← HS.out]; exact HY.out, HB0.out.trans (HB2.out.mono HB0.out.size)⟩
  clear HX HB0 HS HY HB2 HAE
  obtain ⟨x0, -⟩ := HXY.out.1 0 _ rfl
  obtain ⟨x1, -⟩ := HXY.out.1 1 _ rfl
  obtain ⟨x2, -⟩ := HXY.out.1 2 _ rfl
  obtain ⟨y0, -⟩ := HXY.out.2.1 0 _ rfl
  obtain ⟨y1, -⟩ := HXY.out.2.1 1 _ rfl
  obtain ⟨y2, -⟩ := HXY.out.2.1 2 _ rfl
  have hpp : (p != p) = false := by simp
  have HXV : Hid (∀ V, Below W1.heap.size W1 V → ((V.cell? ⟨w.heap.size, 1, none⟩ = some (.slice ca nc cc) ∧ V.cell? ⟨A, 1, none⟩ = some (.slice cb nc cd)) ∧ (V.cell? ⟨w.heap.size, 2, none⟩ = some (.slice da n dc) ∧ V.cell? ⟨A, 2, none⟩ = some (.slice db n dd))) ∧ Below w.heap.size w V) := fun V hV => ⟨⟨⟨((HXY.out.1.later hV) 1 _ rfl).1, ((HXY.out.2.1.later hV) 1 _ rfl).1⟩, ((HXY.out.1.later hV) 2 _ rfl).1, ((HXY.out.2.1.later hV) 2 _ rfl).1⟩, HXY.out.2.2.trans (hV.mono HXY.out.2.2.size)⟩
  have hcc : ((nc : Int) != (nc : Int)) = false := by simp
  have hdd : ((n : Int) != (n : Int)) = false := by simp
  go_upto_region 4 with (fail)
  clear x0 x1 x2 y0 y1 y2
  go_loopw [5] (fun i wr => ∃ k : Nat, k ≤ nc ∧ i = .int .i64 k ∧ Hid (Below W1.heap.size W1 wr)) (fun i _ => nc - (intOf i).toNat)
  case atStart => exact ⟨0, Nat.zero_le _, rfl, Below.refl _ _⟩
  case round =>
    obtain ⟨k, hk, rfl, HB⟩ := hrel
    rename World => wr
    obtain ⟨⟨⟨z0, z1⟩, -⟩, hbw⟩ := HXV.out _ HB.out
    have HBW := put_by hbw
    clear hbw
    by_cases hlt : k < nc
    · have hx : k < cs.length := by rw [← HNC.out]; exact hlt
      obtain ⟨b1, o1, xa, xc, ya, yc, rfl, hx1, hx2, -, hc1⟩ := cel_at HC.out.1 hx
      obtain ⟨b2, o2, za, zc, ta, tc, rfl, hx3, hx4, -, hc2⟩ := cel_at HC.out.2 hx
      obtain ⟨u0, u1, u2, u3⟩ := hc1 wr HBW.out
      have HU2 : Hid (∀ V, Below w.heap.size w V → V.cell? ⟨b2, o2 + k * 4, none⟩ = some (.slice za (cs[k]).key.length zc) ∧ V.cell? ⟨b2, o2 + k * 4 + 1, none⟩ = some (.slice ta (cs[k]).val.length tc) ∧ V.cell? ⟨b2, o2 + k * 4 + 2, none⟩ = some (.bool (cs[k]).gone) ∧ V.cell? ⟨b2, o2 + k * 4 + 3, none⟩ = some (.int .i64 (cs[k]).since)) := hc2
      have cK : Hid (∀ V, Below w.heap.size w V → Calls Try.prog 12 #[.slice xa (cs[k]).key.length xc, .slice za (cs[k]).key.length zc] V fun e w' => e = .returned (.bool true) ∧ Hid (Below V.heap.size V w')) := fun V hV => by
        obtain ⟨a1, c1, e1, p1, -⟩ := hx1
        cases e1
        obtain ⟨a3, c3, e3, p3, -⟩ := hx3
        cases e3
        have h := sameBytes_any xa za xc zc _ _ V (p1.later hV) (p3.later hV)
        rw [decide_eq_true rfl] at h
        exact h
      have cV : Hid (∀ V, Below w.heap.size w V → Calls Try.prog 12 #[.slice ya (cs[k]).val.length yc, .slice ta (cs[k]).val.length tc] V fun e w' => e = .returned (.bool true) ∧ Hid (Below V.heap.size V w')) := fun V hV => by
        obtain ⟨a2, c2, e2, p2, -⟩ := hx2
        cases e2
        obtain ⟨a4, c4, e4, p4, -⟩ := hx4
        cases e4
        have h := sameBytes_any ya ta yc tc _ _ V (p2.later hV) (p4.later hV)
        rw [decide_eq_true rfl] at h
        exact h
      have ik : (k : Int) < (nc : Int) := by omega
      clear hx1 hx2 hx3 hx4 hc1 hc2 HC
      generalize (cs[k]).key.length = i1 at cK u0 HU2
      generalize (cs[k]).val.length = i2 at cV u1 HU2
      generalize (cs[k]).gone = g at u2 HU2
      generalize (cs[k]).since = s at u3 HU2
      have hgg : (g != g) = false := by simp
      have hss : (s != s) = false := by simp
      go_upto_region 7 with (fail)
      have HV1 : Hid (Cls (wr.alloc (.cells #[.slice xa i1 xc, .slice ya i2 yc, .bool g, .int .i64 s] 51)) wr.heap.size [.slice xa i1 xc, .slice ya i2 yc, .bool g, .int .i64 s] ∧ Below W1.heap.size W1 (wr.alloc (.cells #[.slice xa i1 xc, .slice ya i2 yc, .bool g, .int .i64 s] 51))) := ⟨Cls.new wr [.slice xa i1 xc, .slice ya i2 yc, .bool g, .int .i64 s] 51, HB.out.trans (((Below.refl wr.heap.size wr).alloc (Nat.le_refl _) _).mono HB.out.size)⟩
      generalize wr.heap.size = X1 at HV1 ⊢
      generalize wr.alloc (.cells #[.slice xa i1 xc, .slice ya i2 yc, .bool g, .int .i64 s] _) = V1 at HV1 ⊢
      clear u0 u1 u2 u3 z0 z1
      obtain ⟨⟨⟨z0, z1⟩, -⟩, hb1⟩ := HXV.out _ HV1.out.2
      obtain ⟨u0, u1, u2, u3⟩ := HU2.out V1 hb1
      go_upto_region 8 with (fail)
      have HV2 : Hid (Cls (V1.alloc (.cells #[.slice za i1 zc, .slice ta i2 tc, .bool g, .int .i64 s] 51)) X1 [.slice xa i1 xc, .slice ya i2 yc, .bool g, .int .i64 s] ∧ Cls (V1.alloc (.cells #[.slice za i1 zc, .slice ta i2 tc, .bool g, .int .i64 s] 51)) V1.heap.size [.slice za i1 zc, .slice ta i2 tc, .bool g, .int .i64 s] ∧ Below W1.heap.size W1 (V1.alloc (.cells #[.slice za i1 zc, .slice ta i2 tc, .bool g, .int .i64 s] 51))) := ⟨HV1.out.1.later ((Below.refl V1.heap.size V1).alloc (Nat.le_refl _) _), Cls.new V1 [.slice za i1 zc, .slice ta i2 tc, .bool g, .int .i64 s] 51, HV1.out.2.trans (((Below.refl V1.heap.size V1).alloc (Nat.le_refl _) _).mono HV1.out.2.size)⟩
      generalize V1.heap.size = X2 at HV2 ⊢
      generalize V1.alloc (.cells #[.slice za i1 zc, .slice ta i2 tc, .bool g, .int .i64 s] _) = V2 at HV2 ⊢
      clear u0 u1 u2 u3 z0 z1 hb1
      obtain ⟨a0, -⟩ := HV2.out.1 0 _ rfl
      obtain ⟨a2, -⟩ := HV2.out.1 2 _ rfl
      obtain ⟨a3, -⟩ := HV2.out.1 3 _ rfl
      obtain ⟨b0, -⟩ := HV2.out.2.1 0 _ rfl
      obtain ⟨b2', -⟩ := HV2.out.2.1 2 _ rfl
      obtain ⟨b3, -⟩ := HV2.out.2.1 3 _ rfl
      have dK := put_by (cK.out V2 (HXV.out _ HV2.out.2.2).2)
      clear cK
      go_wp2_with (first
        | (go_at_call 12; (with_reducible refine dK.out.mono ?_); clear dK; rintro e w3 ⟨rfl, H3⟩; have HB3 := put_by (HV2.out.2.2.trans (H3.out.mono HV2.out.2.2.size)); obtain ⟨c1, -⟩ := (HV2.out.1.later H3.out) 1 _ rfl; obtain ⟨d1, -⟩ := (HV2.out.2.1.later H3.out) 1 _ rfl)
        | (go_at_call 12; (with_reducible refine (cV.out _ (HXV.out _ HB3.out).2).mono ?_); clear cV; rintro e w4 ⟨rfl, H4⟩))
      go_roundw
      case rel => exact ⟨k + 1, by omega, by go_num, HB3.out.trans (H4.out.mono HB3.out.size)⟩
      case measure => simp [intOf]; omega
    · have ik : ¬ (k : Int) < (nc : Int) := by omega
      have HB9 := put_by HB.out
      go_upto_region 11 with (fail)
      clear z0 z1
      go_loopw [8] (fun i wr => ∃ k : Nat, k ≤ n ∧ i = .int .i64 k ∧ Hid (Below W1.heap.size W1 wr)) (fun i _ => n - (intOf i).toNat)
      case atStart => exact ⟨0, Nat.zero_le _, rfl, HB9.out⟩
      case round =>
        obtain ⟨k, hk, rfl, HB⟩ := hrel
        rename World => wr
        obtain ⟨⟨-, z0, z1⟩, hbw⟩ := HXV.out _ HB.out
        have HBW := put_by hbw
        clear hbw
        by_cases hlt : k < n
        · have hx : k < ds.length := by rw [← HN.out]; exact hlt
          obtain ⟨b1, o1, rfl, -, hc1⟩ := dn_at HD.out.1 hx
          obtain ⟨b2, o2, rfl, -, hc2⟩ := dn_at HD.out.2 hx
          obtain ⟨y0, y1, y2, y3⟩ := hc1 wr HBW.out
          obtain ⟨v0, v1, v2, v3⟩ := hc2 wr HBW.out
          have ik : (k : Int) < (n : Int) := by omega
          clear hc1 hc2 HD
          generalize (ds[k]).client = q0 at y0 v0
          generalize (ds[k]).number = q1 at y1 v1
          generalize (ds[k]).pos = q2 at y2 v2
          generalize (ds[k]).kept = q3 at y3 v3
          have h0 : (q0 != q0) = false := by simp
          have h1 : (q1 != q1) = false := by simp
          have h2 : (q2 != q2) = false := by simp
          have h3 : (q3 != q3) = false := by simp
          go_upto_region 13 with (fail)
          go_quiet (fail)
          go_wp2
          go_roundw
          case rel => exact ⟨k + 1, by omega, by go_num, drawn_below HB.out _⟩
          case measure => simp [intOf]; omega
        · have ik : ¬ (k : Int) < (n : Int) := by omega
          go_wp2
          go_ret
          exact ⟨rfl, HBW.out⟩

end Go.Proofs.Ytndnbkgejdindaa

/- What Load comes to hangs on the bytes alone. -/
namespace Go.Proofs.Ytndnbkgejdindaa
open Go.ChangeShapes Go.WideShapes Go.ChangeAt Go.RowKit

theorem ldpost_one (xs : List Int) : ∃ (p : Int) (cs : List Cel) (ds : List Dn) (code : Int), ∀ w e w', LdPost xs w e w' → ∃ (ca : Option Addr) (cc : Nat) (da : Option Addr) (dc : Nat), e = .returned (.tuple #[.agg #[.int .i64 p, .slice ca cs.length cc, .slice da ds.length dc], .int .i64 code]) ∧ Hid (StIs (fun _ => True) w' cs ds ca cc da dc ∧ Below w.heap.size w w') := by
  by_cases h : ∃ s : Sta, MayS s ∧ FewS s ∧ encS s = xs
  · obtain ⟨⟨p, cs, ds⟩, hM, hF, he⟩ := h
    refine ⟨p, cs, ds, 0, ?_⟩
    rintro w e w' (⟨q, cs', ds', ca, n1, cc, da, n2, dc, rfl, h1, hF2, h2, rfl, rfl, h5, h6⟩ | ⟨-, h1, -⟩)
    · have e1 := encS_one hM h1 hF.1 hF.2 hF2.1 hF2.2 (he.trans h2.symm)
      simp only [Sta.mk.injEq] at e1
      obtain ⟨rfl, rfl, rfl⟩ := e1
      exact ⟨ca, cc, da, dc, rfl, ⟨h5.cells.move (Kept.of_below (Below.refl _ _)) (fun _ _ _ => trivial), h5.dones.move (Kept.of_below (Below.refl _ _)) (fun _ _ _ => trivial), h5.few⟩, h6⟩
    · exact absurd ⟨_, hM, hF, he⟩ h1
  · refine ⟨0, [], [], 4, ?_⟩
    rintro w e w' (⟨q, cs', ds', ca, n1, cc, da, n2, dc, rfl, h1, hF2, h2, -⟩ | ⟨rfl, -, h6⟩)
    · exact absurd ⟨_, h1, hF2, h2⟩ h
    · exact ⟨none, 0, none, 0, rfl, ⟨(rows_lies (Rows.nil kCel (fun _ => True) w' 0 51) (fun _ _ => trivial)).2.1, (rows_lies (Rows.nil kDn (fun _ => True) w' 0 53) (fun _ _ => trivial)).2.1, by decide⟩, h6⟩

end Go.Proofs.Ytndnbkgejdindaa

/- octets, with all that is known of what it makes. -/
namespace Go.Proofs.Ytndnbkgejdindaa
open Go.ChangeShapes Go.WideShapes Go.ChangeAt Go.RowKit


theorem own_plesL {w : World} {base n size : Nat} {e : TypeId} {a : Option Addr} {m c : Nat} {vs : List Value} (h : w.ownsRow base e size (.slice a m c) n vs) : Ples a c ∧ ∀ ad, a = some ad → ad.block < w.heap.size := by
  rcases h.2 with ⟨h1, h2⟩ | ⟨g, cap, cur, h1, -⟩
  · simp only [Value.slice.injEq] at h1
    obtain ⟨rfl, -, rfl⟩ := h1
    exact ⟨Ples.none, fun ad e => by cases e⟩
  · simp only [Value.slice.injEq] at h1
    obtain ⟨rfl, rfl, rfl⟩ := h1
    exact ⟨Ples.some _ _ _, fun ad e => by cases e; exact (h.lt g rfl).2⟩

set_option maxRecDepth 100000 in
set_option maxHeartbeats 1000000 in
theorem octets_all (ao : Option Addr) (cap : Nat) (xs : List Int) (w : World) (he : Octs w ao cap xs) :
    Calls Try.prog 14 #[.slice ao xs.length cap] w fun e w' => ∃ ao' cap', e = .returned (.slice ao' xs.length cap') ∧ Octs w' ao' cap' xs ∧ Ples ao' cap' ∧ (∀ a, ao' = some a → a.block < w'.heap.size) ∧ Below w.heap.size w w' := by
  have hb := he.2.2.2.1
  have hl := he.2.1
  obtain ⟨n, hn⟩ : ∃ n, n = xs.length := ⟨_, rfl⟩
  rw [← hn] at hl ⊢
  have HN : Hid (n = xs.length) := hn
  clear hn
  go_enter Try.func14, Try.ntmps14
  go_wp2_with (at_builtin; refine wpList_append_oct rfl (.const (.slice none 0 0)) (.tmp 3) rfl w.heap.size (.slice none 0 0) 0 [] rfl (World.ownsRow_nil _ _ _ _) ao cap n xs rfl HN.out he (by omega) (Nat.le_refl _) ?_; intro v' w' hown hg)
  rw [Nat.zero_add, List.nil_append] at hown
  obtain ⟨ao', cap', rfl, ho⟩ := own_octs HN.out rfl (by rw [← HN.out]; exact hl) hb hown
  obtain ⟨g1, g2⟩ := own_plesL hown
  rw [← HN.out]
  go_wp2
  go_ret
  exact ⟨_, _, rfl, ho, g1, g2, (Below.refl _ w).grown hg (Nat.le_refl _) (fun g h => by cases h)⟩


end Go.Proofs.Ytndnbkgejdindaa
