/- The reference reads a state's bytes. -/
import Derived.Test.YtndnbkgejdindaaLsMem
namespace Go.Proofs.Ytndnbkgejdindaa
open Go.ChangeShapes Go.WideShapes Go.ChangeAt Go.RowKit

set_option maxRecDepth 100000 in
set_option maxHeartbeats 1000000 in
theorem LoadedState_short (a : Option Addr) (cap : Nat) (xs : List Int) (w : World) (h12 : xs.length < 12) :
    Calls Try.prog 15 #[.slice a xs.length cap] w fun e w' => LdPost xs w e w' := by
  have HB := put_by (lbad_short h12)
  have hV := put_by ((Below.refl w.heap.size w).alloc (Nat.le_refl _) (.cells #[.int .i64 0, .slice none 0 0, .slice none 0 0] 25))
  generalize hpost : (fun e w' => LdPost xs w e w') = Q
  have HP : Hid (∀ w', Below w.heap.size w w' → Q (.returned (.tuple #[.agg #[.int .i64 0, .slice none 0 0, .slice none 0 0], .int .i64 4])) w') := fun w' h => by rw [← hpost]; exact .inr ⟨rfl, HB.out, h⟩
  clear hpost
  generalize xs.length = m at h12
  have i1 : (m : Int) < 12 := by omega
  go_enter Try.func15, Try.ntmps15
  go_wp2
  exact bodyPost_ret (v := .tuple #[.agg #[.int .i64 0, .slice none 0 0, .slice none 0 0], .int .i64 4]) (by simp [results, Try.results15, go_sem]) rfl (HP.out _ hV.out)

set_option maxRecDepth 100000 in
set_option maxHeartbeats 40000000 in
theorem LoadedState_any (a : Option Addr) (cap : Nat) (xs : List Int) (w : World) (ho : Octs w a cap xs) (hf : xs.length ≤ 140737488351232) :
    Calls Try.prog 15 #[.slice a xs.length cap] w fun e w' => LdPost xs w e w' := by
  by_cases h12 : xs.length < 12
  · exact LoadedState_short a cap xs w h12
  obtain ⟨b0, off, rfl, -⟩ := ho.at (k := 0) (by omega)
  generalize hpost : (fun e w' => LdPost xs w e w') = Q
  have HP1 : Hid (LoadBad xs → ∀ w', Below w.heap.size w w' → Q (.returned (.tuple #[.agg #[.int .i64 0, .slice none 0 0, .slice none 0 0], .int .i64 4])) w') := fun hb w' h => by rw [← hpost]; exact .inr ⟨rfl, hb, h⟩
  have HP2 : Hid (∀ (p : Nat) cs ds ca n1 cc da n2 dc w', (MayS ⟨(p : Int), cs, ds⟩ ∧ FewS ⟨(p : Int), cs, ds⟩ ∧ encS ⟨(p : Int), cs, ds⟩ = xs ∧ n1 = cs.length ∧ n2 = ds.length ∧ StIs (fun b => w.heap.size ≤ b) w' cs ds ca cc da dc ∧ Below w.heap.size w w') → Q (.returned (.tuple #[.agg #[.int .i64 (p : Int), .slice ca n1 cc, .slice da n2 dc], .int .i64 0])) w') := fun p cs ds ca n1 cc da n2 dc w' h => by rw [← hpost]; exact .inl ⟨p, cs, ds, ca, n1, cc, da, n2, dc, rfl, h⟩
  have HQ : Hid (∀ w', ¬ Q .outgrown w') := fun w' hh => by
    rw [← hpost] at hh
    rcases hh with ⟨_, _, _, _, _, _, _, _, _, h, _⟩ | ⟨h, _⟩ <;> cases h
  clear hpost
  have HO : Hid (∀ V, Below w.heap.size w V → Octs V (some ⟨b0, off, none⟩) cap xs) := fun V hV => ho.later hV
  have HZ : Hid (∀ V, Below w.heap.size w V → Below w.heap.size w (((V.setCell ⟨w.heap.size, 0, none⟩ (.int .i64 0)).setCell ⟨w.heap.size, 1, none⟩ (.slice none 0 0)).setCell ⟨w.heap.size, 2, none⟩ (.slice none 0 0))) := fun V hV => ((hV.setCell (Nat.le_refl _) _).setCell (Nat.le_refl _) _).setCell (Nat.le_refl _) _
  have cT : Hid (∀ (k : Nat) (V : World), k ≤ xs.length → Below w.heap.size w V → Calls Try.prog 25 #[.slice (some ⟨b0, off, none⟩) xs.length cap, .int .i64 (k : Int)] V fun e w' => ∃ (a1 : Option Addr) (m c : Nat) (p : Int), e = .returned (.tuple #[.slice a1 m c, .int .i64 p]) ∧ Hid (Below V.heap.size V w') ∧ ((p = -1 ∧ Hid (cutT (xs.drop k) = none)) ∨ (∃ k1 : Nat, p = (k1 : Int) ∧ k1 ≤ xs.length ∧ Hid (∃ ts, k1 = k + 4 + ts.length ∧ m = ts.length ∧ Octs w' a1 c ts ∧ (∀ ad, a1 = some ad → V.heap.size ≤ ad.block) ∧ cutT (xs.drop k) = some (ts, xs.drop k1))))) := fun k V hk hV => by
    refine (cut_place _ cap xs k hk V (ho.later hV) hf).mono ?_
    rintro e w' ⟨a1, m, c, p, rfl, ⟨rfl, h1⟩ | ⟨rfl, h1, ts, h2, h3, h4, h5, h6⟩⟩
    · exact ⟨a1, m, c, _, rfl, h1.out.2, .inl ⟨rfl, h1.out.1⟩⟩
    · exact ⟨a1, m, c, _, rfl, h6, .inr ⟨_, rfl, h1, ts, by rw [h2], h2, h3, h4, h5⟩⟩
  have cL : Hid (∀ (k : Nat) (V : World), k + 4 ≤ xs.length → Below w.heap.size w V → Calls Try.prog 24 #[.slice (some ⟨b0, off + k, none⟩) (xs.length - k) (cap - k)] V fun e w' => ∃ q : Nat, e = .returned (.int .i64 (q : Int)) ∧ q ≤ 4294967295 ∧ Hid (cut4 (xs.drop k) = some (q, xs.drop (k + 4)) ∧ Below V.heap.size V w')) := fun k V hk hV => by
    refine (little_at b0 off cap xs k hk V (ho.later hV)).mono ?_
    rintro e w' ⟨q, rfl, h1, h2, h3⟩
    exact ⟨q, rfl, h1, h2, h3⟩
  have cL0 : Hid (∀ (V : World), Below w.heap.size w V → Calls Try.prog 24 #[.slice (some ⟨b0, off, none⟩) xs.length cap] V fun e w' => ∃ q : Nat, e = .returned (.int .i64 (q : Int)) ∧ q ≤ 4294967295 ∧ Hid (cut4 xs = some (q, xs.drop 4) ∧ Below V.heap.size V w' ∧ w'.heap.size = V.heap.size)) := fun V hV => by
    have h4 : 4 ≤ xs.length := by omega
    refine (fromLittle_any _ cap xs h4 V (ho.later hV)).mono ?_
    rintro e w' ⟨rfl, j, rfl⟩
    obtain ⟨n0, n1⟩ := num4_bounds h4 ho.2.2.2.1
    obtain ⟨q, hq⟩ := Int.eq_ofNat_of_zero_le n0
    exact ⟨q, by rw [hq], by omega, by rw [cut4, if_pos h4, hq]; rfl, drawn_below (Below.refl _ V) j, rfl⟩
  have cX : Hid (∀ (k : Nat) (V : World), k < xs.length → Below w.heap.size w V → V.cell? ⟨b0, off + k, none⟩ = some (.int .u8 (xs.getD k 0))) := fun k V hk hV => by
    obtain ⟨b', off', e, h1, -⟩ := (ho.later hV).at hk
    cases e
    exact h1
  have hcap := ho.1
  have HS := put_by (fun (p n : Nat) (hn : n ≤ 4294967295) (h1 : cut4 xs = some (p, xs.drop 4)) (h2 : cut4 (xs.drop 4) = some (n, xs.drop 8)) => lcells_start hn h1 h2)
  have HD0 := put_by (fun (p m : Nat) (hm : m ≤ 4294967295) (l : List Cel) (k : Nat) (h : LCells xs p l 0 k) (hc : cut4 (xs.drop k) = some (m, xs.drop (k + 4))) => ldones_start hm h hc)
  obtain ⟨m, hm⟩ : ∃ m, m = xs.length := ⟨_, rfl⟩
  have HM := put_by hm
  rw [← hm] at hcap hf h12 cT cL cL0 cX ⊢
  clear ho hm
  have h12' : ¬ (m : Int) < 12 := by omega
  have hV0 : Below w.heap.size w (w.alloc (.cells #[.int .i64 0, .slice none 0 0, .slice none 0 0] 25)) := (Below.refl w.heap.size w).alloc (Nat.le_refl _) _
  have d0 := put_by (cL0.out _ hV0)
  have HC0 := put_by (And.intro (Cls.new w [.int .i64 0, .slice none 0 0, .slice none 0 0] 25) hV0)
  clear hV0
  go_enter Try.func15, Try.ntmps15
  go_upto_region 3 with (fail)
  have HS0 : Hid ((w.alloc (.cells #[.int .i64 0, .slice none 0 0, .slice none 0 0] 25)).heap.size = w.heap.size + 1) := by simp [Hid]
  generalize w.alloc (.cells #[.int .i64 0, .slice none 0 0, .slice none 0 0] _) = W0 at d0 HC0 HS0 ⊢
  go_upto_region 4 with (first
    | (go_at_call 24; (with_reducible refine d0.out.mono ?_); clear d0; rintro e w1 ⟨p, rfl, hp, H1⟩))
  have hs1 : w1.heap.size = w.heap.size + 1 := H1.out.2.2.trans HS0.out
  have I0 : Hid (LfI w p (.slice none 0 0) [] (w1.alloc (.cells #[.int .i64 (p : Int), .slice none 0 0, .slice none 0 0] 25))) := by
    have b1 := (Below.refl w1.heap.size w1).alloc (Nat.le_refl _) (.cells #[.int .i64 (p : Int), .slice none 0 0, .slice none 0 0] 25)
    have b2 := H1.out.2.1.trans (b1.mono H1.out.2.1.size)
    have n1 := Cls.new w1 [.int .i64 (p : Int), .slice none 0 0, .slice none 0 0] 25
    rw [hs1] at n1
    exact ⟨HC0.out.1.later b2, n1, Rows.nil _ _ _ _ _, HC0.out.2.trans (b2.mono (by rw [HS0.out]; omega)), by simp [hs1]⟩
  have HC1 : Hid (cut4 xs = some (p, xs.drop 4)) := H1.out.1
  rw [hs1]
  clear hs1 H1 HC0 HS0
  generalize w1.alloc (.cells #[.int .i64 (p : Int), .slice none 0 0, .slice none 0 0] _) = W1 at I0 ⊢
  have d1 := put_by (cL.out 4 W1 (by omega) I0.out.below)
  go_upto_region 6 with (first
    | (go_at_call 24; (with_reducible refine d1.out.mono ?_); clear d1; rintro e w2 ⟨n, rfl, hn, H2⟩))
  have I1 := put_by (I0.out.later H2.out.2)
  have L0 := put_by (HS.out p n hn HC1.out H2.out.1)
  clear I0 HC1 H2 HS cL0
  go_loopw [5, 6] (fun pos i wr => ∃ (q k : Nat) (ca : Option Addr) (n1 cc : Nat), q ≤ 4294967295 ∧ k ≤ m ∧ pos = .int .i64 (k : Int) ∧ i = .int .i64 (q : Int) ∧ Hid (∃ l, LCells xs p l q k ∧ LfI w p (.slice ca n1 cc) l wr)) (fun _ i _ => (intOf i).toNat)
  case atStart => exact ⟨n, 8, none, 0, 0, hn, by omega, rfl, rfl, [], L0.out, I1.out⟩
  case round =>
    obtain ⟨q, k, ca, n1, cc, hq, hk, rfl, rfl, HR⟩ := hrel
    rename World => wr
    obtain ⟨l, hl⟩ := HR.out
    have HL := put_by hl
    clear HR hl
    by_cases hq0 : q = 0
    · subst hq0
      have iq : ¬ (0 : Int) < (0 : Int) := by decide
      by_cases h4 : k + 4 ≤ m
      case neg =>
        have i2 : (m : Int) < (k : Int) + 4 := by omega
        have hmk : xs.length < k + 4 := by rw [← HM.out]; omega
        have hz := put_by (HP1.out (ld_fall0 HL.out.1 hmk) _ (HZ.out _ HL.out.2.below))
        have hq9 := HL.out.2.hv
        obtain ⟨q0, g0⟩ := hq9 0 _ rfl
        obtain ⟨q1, g1⟩ := hq9 1 _ rfl
        obtain ⟨q2, g2⟩ := hq9 2 _ rfl
        clear hq9
        go_wp2
        exact bodyPost_ret (v := .tuple #[.agg #[.int .i64 0, .slice none 0 0, .slice none 0 0], .int .i64 4]) (by simp [results, Try.results15, go_sem, q0, q1, q2]) rfl hz.out
      have i2 : ¬ (m : Int) < (k : Int) + 4 := by omega
      have T3 := put_by (cL.out k wr h4 HL.out.2.below)
      go_upto_region 23 with (first
        | (go_at_call 24; (with_reducible refine T3.out.mono ?_); clear T3; rintro e w3 ⟨n2, rfl, hn2, H3⟩))
      have I2 := put_by (HL.out.2.later H3.out.2)
      have D0 := put_by (HD0.out p n2 hn2 l k HL.out.1 H3.out.1)
      have hlen : l.length ≤ 4294967295 := by
        have h2 := HL.out.1.1
        omega
      have hG := LgI.start I2.out
      obtain ⟨rfl, hG⟩ := hG
      have G0 := put_by hG
      clear hG I2 H3 HL HD0
      generalize w3.heap.size = M at G0
      go_loopw [5, 8] (fun pos i wr => ∃ (q k : Nat) (da : Option Addr) (n3 dc : Nat), q ≤ 4294967295 ∧ k ≤ m ∧ pos = .int .i64 (k : Int) ∧ i = .int .i64 (q : Int) ∧ Hid (∃ ds, LDones xs p l ds q k ∧ LgI w p M l ca l.length cc (.slice da n3 dc) ds wr)) (fun _ i _ => (intOf i).toNat)
      case atStart => exact ⟨n2, k + 4, none, 0, 0, hn2, h4, by go_num, rfl, [], D0.out, G0.out⟩
      case round =>
        obtain ⟨q, k, da, n3, dc, hq, hk, rfl, rfl, HR⟩ := hrel
        rename World => wr
        obtain ⟨ds, hl⟩ := HR.out
        have HL := put_by hl
        clear HR hl
        by_cases hq0 : q = 0
        · subst hq0
          have iq : ¬ (0 : Int) < (0 : Int) := by decide
          by_cases hkm : k = m
          case neg =>
            have i5 : ((k : Int) != (m : Int)) = true := by simp; omega
            have hbad : LoadBad xs := by
              rintro ⟨s, hs⟩
              have h1 := (ld_end HL.out.1 s hs).2
              rw [← HM.out] at h1
              omega
            have hz := put_by (HP1.out (hbad) _ (HZ.out _ HL.out.2.below))
            have hq9 := HL.out.2.hv
            obtain ⟨q0, g0⟩ := hq9 0 _ rfl
            obtain ⟨q1, g1⟩ := hq9 1 _ rfl
            obtain ⟨q2, g2⟩ := hq9 2 _ rfl
            clear hq9
            go_wp2
            exact bodyPost_ret (v := .tuple #[.agg #[.int .i64 0, .slice none 0 0, .slice none 0 0], .int .i64 4]) (by simp [results, Try.results15, go_sem, q0, q1, q2]) rfl hz.out
          subst hkm
          have i5 : ((k : Int) != (k : Int)) = false := by simp
          have hlen3 : ds.length ≤ 4294967295 := by
            have h2 := HL.out.1.1
            omega
          obtain ⟨rfl, hSt⟩ := HL.out.2.ends rfl hlen hlen3
          obtain ⟨R, hR⟩ := bool_of (MayS ⟨(p : Int), l, ds⟩)
          have HRR := put_by hR
          have hT : (encS ⟨(p : Int), l, ds⟩).length ≤ 140737488351232 := by rw [ld_len HL.out.1]; omega
          have c6 := put_by (StateMay_any _ (p : Int) l ds ca cc da dc wr hSt R hR)
          have c7 : Hid (R = true → ∀ V, Below wr.heap.size wr V → Calls Try.prog 22 #[.agg #[.int .i64 (p : Int), .slice ca l.length cc, .slice da ds.length dc]] V fun e w' => ∃ (a : Option Addr) (m k : Nat), e = .returned (.slice a m k) ∧ Hid (m = (encS ⟨(p : Int), l, ds⟩).length ∧ Octs w' a k (encS ⟨(p : Int), l, ds⟩) ∧ Below wr.heap.size wr w')) := fun hr V hW => by
            refine (stateBytes_any _ p l ds ca cc da dc V (hSt.later hW) (hR.1 hr) hT ⟨Nat.lt_succ_of_le hlen, Nat.lt_succ_of_le hlen3⟩).mono ?_
            rintro e w' ⟨a, m, k, h1, h2, h3, h4, h5⟩
            exact ⟨a, m, k, h1, h2, h3, hW.trans (h5.mono hW.size)⟩
          have HST := put_by hSt
          clear hSt hT hR
          obtain ⟨s0, -⟩ := HL.out.2.sv 0 _ rfl
          obtain ⟨s1, -⟩ := HL.out.2.sv 1 _ rfl
          obtain ⟨s2, -⟩ := HL.out.2.sv 2 _ rfl
          cases R with
          | false =>
            have hbad : LoadBad xs := by
              rintro ⟨s, hs⟩
              have h1 := (ld_end HL.out.1 s hs).1
              have h2 := hs.1
              rw [h1] at h2
              cases HRR.out.2 h2
            have hz := put_by (fun w' h => HP1.out hbad w' h)
            clear c7
            go_wp2_with (first
              | (go_at_call 19; (with_reducible refine c6.out.mono ?_); clear c6; rintro e w6 ⟨rfl, H6⟩; have G6 := put_by (HL.out.2.later H6); obtain ⟨q0, g0⟩ := G6.out.hv 0 _ rfl; obtain ⟨q1, g1⟩ := G6.out.hv 1 _ rfl; obtain ⟨q2, g2⟩ := G6.out.hv 2 _ rfl))
            exact bodyPost_ret (v := .tuple #[.agg #[.int .i64 0, .slice none 0 0, .slice none 0 0], .int .i64 4]) (by simp [results, Try.results15, go_sem, q0, q1, q2]) rfl (hz.out _ (HZ.out _ G6.out.below))
          | true =>
            have HY1 := put_by (HRR.out.1 rfl)
            have c8 := put_by (c7.out rfl)
            clear c7
            obtain ⟨D, hD⟩ : ∃ D, D = decide (encS ⟨(p : Int), l, ds⟩ = xs) := ⟨_, rfl⟩
            have c9 : Hid (∀ (V : World) (a2 : Option Addr) (m2 c2 : Nat), (m2 = (encS ⟨(p : Int), l, ds⟩).length ∧ Octs V a2 c2 (encS ⟨(p : Int), l, ds⟩) ∧ Below wr.heap.size wr V) → Calls Try.prog 26 #[.slice a2 m2 c2, .slice (some ⟨b0, off, none⟩) k cap] V fun e w' => e = .returned (.bool D) ∧ w' = V) := by
              rintro V a2 m2 c2 ⟨rfl, h2, h3⟩
              have h := bytesSame_any a2 (some ⟨b0, off, none⟩) c2 cap _ xs V h2 (HO.out V (HL.out.2.below.trans (h3.mono HL.out.2.below.size)))
              rw [← hD, ← HM.out] at h
              exact h
            have HDD := put_by hD
            clear hD
            cases D with
            | false =>
              have hbad : LoadBad xs := by
                rintro ⟨s, hs⟩
                have h1 := (ld_end HL.out.1 s hs).1
                have h2 := hs.2.2
                rw [h1] at h2
                have h3 := HDD.out
                rw [h2] at h3
                simp at h3
              have hz := put_by (fun w' h => HP1.out hbad w' h)
              go_wp2_with (first
                | (go_at_call 19; (with_reducible refine c6.out.mono ?_); clear c6; rintro e w6 ⟨rfl, H6⟩; have G6 := put_by (HL.out.2.later H6); obtain ⟨t0, -⟩ := G6.out.sv 0 _ rfl; obtain ⟨t1, -⟩ := G6.out.sv 1 _ rfl; obtain ⟨t2, -⟩ := G6.out.sv 2 _ rfl)
                | (go_at_call 22; (with_reducible refine (c8.out _ H6).mono ?_); clear c8; rintro e w7 ⟨a2, m2, c2, rfl, H7⟩; have G7 := put_by (HL.out.2.later H7.out.2.2); obtain ⟨q0, g0⟩ := G7.out.hv 0 _ rfl; obtain ⟨q1, g1⟩ := G7.out.hv 1 _ rfl; obtain ⟨q2, g2⟩ := G7.out.hv 2 _ rfl)
                | (go_at_call 26; (with_reducible refine (c9.out _ _ _ _ H7.out).mono ?_); clear c9; rintro e w8 ⟨rfl, rfl⟩))
              exact bodyPost_ret (v := .tuple #[.agg #[.int .i64 0, .slice none 0 0, .slice none 0 0], .int .i64 4]) (by simp [results, Try.results15, go_sem, q0, q1, q2]) rfl (hz.out _ (HZ.out _ G7.out.below))
            | true =>
              have HE : Hid (encS ⟨(p : Int), l, ds⟩ = xs) := (by simpa using HDD.out.symm : encS ⟨(p : Int), l, ds⟩ = xs)
              go_wp2_with (first
                | (go_at_call 19; (with_reducible refine c6.out.mono ?_); clear c6; rintro e w6 ⟨rfl, H6⟩; have G6 := put_by (HL.out.2.later H6); obtain ⟨t0, -⟩ := G6.out.sv 0 _ rfl; obtain ⟨t1, -⟩ := G6.out.sv 1 _ rfl; obtain ⟨t2, -⟩ := G6.out.sv 2 _ rfl)
                | (go_at_call 22; (with_reducible refine (c8.out _ H6).mono ?_); clear c8; rintro e w7 ⟨a2, m2, c2, rfl, H7⟩; have G7 := put_by (HL.out.2.later H7.out.2.2); obtain ⟨q0, g0⟩ := G7.out.hv 0 _ rfl; obtain ⟨q1, g1⟩ := G7.out.hv 1 _ rfl; obtain ⟨q2, g2⟩ := G7.out.hv 2 _ rfl; obtain ⟨r0, -⟩ := G7.out.sv 0 _ rfl; obtain ⟨r1, -⟩ := G7.out.sv 1 _ rfl; obtain ⟨r2, -⟩ := G7.out.sv 2 _ rfl)
                | (go_at_call 26; (with_reducible refine (c9.out _ _ _ _ H7.out).mono ?_); clear c9; rintro e w8 ⟨rfl, rfl⟩))
              have HW9 : Hid (StIs (fun b => w.heap.size ≤ b) (((w8.setCell ⟨w.heap.size, 0, none⟩ (.int .i64 (p : Int))).setCell ⟨w.heap.size, 1, none⟩ (.slice ca l.length cc)).setCell ⟨w.heap.size, 2, none⟩ (.slice da ds.length dc)) l ds ca cc da dc ∧ Below w.heap.size w (((w8.setCell ⟨w.heap.size, 0, none⟩ (.int .i64 (p : Int))).setCell ⟨w.heap.size, 1, none⟩ (.slice ca l.length cc)).setCell ⟨w.heap.size, 2, none⟩ (.slice da ds.length dc))) := by
                have hs8 := HST.out.later H7.out.2.2
                have hb : ∀ b, w.heap.size + 1 < b → some w.heap.size ≠ some b := fun b hb e => by have h1 := Option.some.inj e; omega
                have hk : Kept (fun b => w.heap.size + 1 < b) w8 (((w8.setCell ⟨w.heap.size, 0, none⟩ (.int .i64 (p : Int))).setCell ⟨w.heap.size, 1, none⟩ (.slice ca l.length cc)).setCell ⟨w.heap.size, 2, none⟩ (.slice da ds.length dc)) := ((Kept.of_grown (grown_set _) hb).trans (Kept.of_grown (grown_set _) hb)).trans (Kept.of_grown (grown_set _) hb)
                exact ⟨⟨hs8.cells.move hk (fun b _ hb => by have h2 : w.heap.size + 1 < b := hb; show w.heap.size ≤ b; omega), hs8.dones.move hk (fun b _ hb => by have h2 : w.heap.size + 1 < b := hb; show w.heap.size ≤ b; omega), hs8.few⟩, ((G7.out.below.setCell (Nat.le_refl _) _).setCell (Nat.le_refl _) _).setCell (Nat.le_refl _) _⟩
              exact bodyPost_ret (v := .tuple #[.agg #[.int .i64 (p : Int), .slice ca l.length cc, .slice da ds.length dc], .int .i64 0]) (by simp [results, Try.results15, go_sem, q0, q1, q2]) rfl (HP2.out p l ds ca _ cc da _ dc _ ⟨HY1.out, ⟨Nat.lt_succ_of_le hlen, Nat.lt_succ_of_le hlen3⟩, HE.out, rfl, rfl, HW9.out.1, HW9.out.2⟩)
        · obtain ⟨q, rfl⟩ : ∃ r, q = r + 1 := ⟨q - 1, by omega⟩
          have iq : (0 : Int) < ((q + 1 : Nat) : Int) := by omega
          by_cases h13 : k + 13 ≤ m
          case neg =>
            have i2 : (m : Int) < (k : Int) + 13 := by omega
            have hmk : xs.length < k + 13 := by rw [← HM.out]; omega
            have hz := put_by (HP1.out (ld_fall1 HL.out.1 hmk) _ (HZ.out _ HL.out.2.below))
            have hq9 := HL.out.2.hv
            obtain ⟨q0, g0⟩ := hq9 0 _ rfl
            obtain ⟨q1, g1⟩ := hq9 1 _ rfl
            obtain ⟨q2, g2⟩ := hq9 2 _ rfl
            clear hq9
            go_wp2
            exact bodyPost_ret (v := .tuple #[.agg #[.int .i64 0, .slice none 0 0, .slice none 0 0], .int .i64 4]) (by simp [results, Try.results15, go_sem, q0, q1, q2]) rfl hz.out
          have i2 : ¬ (m : Int) < (k : Int) + 13 := by omega
          have T1 := put_by (fun V hV => cL.out k V (by omega) hV)
          have T2 : Hid (∀ V, Below w.heap.size w V → Calls Try.prog 24 #[.slice (some ⟨b0, off + ((k : Int) + 4).toNat, none⟩) (m - ((k : Int) + 4).toNat) (cap - ((k : Int) + 4).toNat)] V fun e w' => ∃ q : Nat, e = .returned (.int .i64 (q : Int)) ∧ q ≤ 4294967295 ∧ Hid (cut4 (xs.drop (k + 4)) = some (q, xs.drop (k + 4 + 4)) ∧ Below V.heap.size V w')) := fun V hV => by
            rw [show ((k : Int) + 4).toNat = k + 4 by omega]
            exact cL.out (k + 4) V (by omega) hV
          have T3 : Hid (∀ V, Below w.heap.size w V → Calls Try.prog 24 #[.slice (some ⟨b0, off + ((k : Int) + 8).toNat, none⟩) (m - ((k : Int) + 8).toNat) (cap - ((k : Int) + 8).toNat)] V fun e w' => ∃ q : Nat, e = .returned (.int .i64 (q : Int)) ∧ q ≤ 4294967295 ∧ Hid (cut4 (xs.drop (k + 8)) = some (q, xs.drop (k + 8 + 4)) ∧ Below V.heap.size V w')) := fun V hV => by
            rw [show ((k : Int) + 8).toNat = k + 8 by omega]
            exact cL.out (k + 8) V (by omega) hV
          have TY : Hid (∀ V, Below w.heap.size w V → V.cell? ⟨b0, off + ((k : Int) + 12).toNat, none⟩ = some (.int .u8 (xs.getD (k + 12) 0))) := fun V hV => by
            rw [show ((k : Int) + 12).toNat = k + 12 by omega]
            exact cX.out (k + 12) V (by omega) hV
          obtain ⟨y, hy⟩ : ∃ y, y = xs.getD (k + 12) 0 := ⟨_, rfl⟩
          rw [← hy] at TY
          have HYY := put_by hy
          clear hy
          have u4 : IntKind.i64.wrap ((k : Int) + 4) = (k : Int) + 4 := by rw [IntKind.wrap_i64]; omega
          have u8 : IntKind.i64.wrap ((k : Int) + 8) = (k : Int) + 8 := by rw [IntKind.wrap_i64]; omega
          have u12 : IntKind.i64.wrap ((k : Int) + 12) = (k : Int) + 12 := by rw [IntKind.wrap_i64]; omega
          have n0 : ¬ cap = k := by omega
          have n4 : ¬ cap = ((k : Int) + 4).toNat := by omega
          have n8 : ¬ cap = ((k : Int) + 8).toNat := by omega
          have p4 : (0 : Int) ≤ (k : Int) + 4 := by omega
          have p8 : (0 : Int) ≤ (k : Int) + 8 := by omega
          have p12 : (0 : Int) ≤ (k : Int) + 12 := by omega
          have j4 : (k : Int) + 4 ≤ (m : Int) := by omega
          have j8 : (k : Int) + 8 ≤ (m : Int) := by omega
          have j12 : (k : Int) + 12 < (m : Int) := by omega
          have hlen3 : ds.length ≤ 4294967295 := by
            have h2 := HL.out.1.1
            omega
          go_upto_region 27 with (fail)
          have HD := put_by (HL.out.2.later (Below.refl _ _).drew)
          obtain ⟨z2, -⟩ := HL.out.2.sv 2 _ rfl
          have x12 := TY.out wr HL.out.2.below
          have hS0 : (fun V : World => V.cell? ⟨w.heap.size + 1, 2, none⟩ = some (.slice da n3 dc) ∧ V.cell? ⟨b0, off + ((k : Int) + 12).toNat, none⟩ = some (.int .u8 y)) wr.drew := ⟨z2, x12⟩
          refine region_plain (fun V : World => V.cell? ⟨w.heap.size + 1, 2, none⟩ = some (.slice da n3 dc) ∧ V.cell? ⟨b0, off + ((k : Int) + 12).toNat, none⟩ = some (.int .u8 y)) 26 (by kernel_rfl) ?_
          change wpAnyU _ _ _ _ _ 27 #[false, false, false, false, false, false, false, false, false, false, false, false, false, false, false, false, false, false, false, false, false, false, false, false, false, false, false] _ wr.drew
          refine V_takeS [26] 98 (k := 0) (v := .pointer (some ⟨w.heap.size + 1, 2, none⟩)) rfl rfl (by kernel_rfl) (by kernel_rfl) (by kernel_rfl) (by kernel_rfl) (by kernel_rfl) (by kernel_rfl) (fun _ _ _ h => h) (Or.inl ⟨by rfl, fun V hV => ?_⟩) hS0 ?_
          · obtain ⟨y0, y1⟩ := hV; go_simp
          try simp only [Act.put, List.setIfInBounds_toArray, List.set_cons_zero, List.set_cons_succ]
          refine V_takeS [26] 99 (k := 1) (v := .slice da n3 dc) rfl rfl (by kernel_rfl) (by kernel_rfl) (by kernel_rfl) (by kernel_rfl) (by kernel_rfl) (by kernel_rfl) (fun _ _ _ h => h) (Or.inl ⟨by rfl, fun V hV => ?_⟩) hS0 ?_
          · obtain ⟨y0, y1⟩ := hV; go_simp
          try simp only [Act.put, List.setIfInBounds_toArray, List.set_cons_zero, List.set_cons_succ]
          refine V_takeS [26] 100 (k := 2) (v := .slice (some ⟨b0, off, none⟩) m cap) rfl rfl (by kernel_rfl) (by kernel_rfl) (by kernel_rfl) (by kernel_rfl) (by kernel_rfl) (by kernel_rfl) (fun _ _ _ h => h) (Or.inl ⟨by rfl, fun V hV => ?_⟩) hS0 ?_
          · obtain ⟨y0, y1⟩ := hV; go_simp
          try simp only [Act.put, List.setIfInBounds_toArray, List.set_cons_zero, List.set_cons_succ]
          refine V_takeS [26] 101 (k := 3) (v := .int .i64 (k : Int)) rfl rfl (by kernel_rfl) (by kernel_rfl) (by kernel_rfl) (by kernel_rfl) (by kernel_rfl) (by kernel_rfl) (fun _ _ _ h => h) (Or.inl ⟨by rfl, fun V hV => ?_⟩) hS0 ?_
          · obtain ⟨y0, y1⟩ := hV; go_simp
          try simp only [Act.put, List.setIfInBounds_toArray, List.set_cons_zero, List.set_cons_succ]
          refine V_takeS [26] 102 (k := 4) (v := .slice (some ⟨b0, off + k, none⟩) (m - k) (cap - k)) rfl rfl (by kernel_rfl) (by kernel_rfl) (by kernel_rfl) (by kernel_rfl) (by kernel_rfl) (by kernel_rfl) (fun _ _ _ h => h) (Or.inl ⟨by rfl, fun V hV => ?_⟩) hS0 ?_
          · obtain ⟨y0, y1⟩ := hV; go_simp
          try simp only [Act.put, List.setIfInBounds_toArray, List.set_cons_zero, List.set_cons_succ]
          refine V_takeS [26] 104 (k := 6) (v := .slice (some ⟨b0, off, none⟩) m cap) rfl rfl (by kernel_rfl) (by kernel_rfl) (by kernel_rfl) (by kernel_rfl) (by kernel_rfl) (by kernel_rfl) (fun _ _ _ h => h) (Or.inl ⟨by rfl, fun V hV => ?_⟩) hS0 ?_
          · obtain ⟨y0, y1⟩ := hV; go_simp
          try simp only [Act.put, List.setIfInBounds_toArray, List.set_cons_zero, List.set_cons_succ]
          refine V_takeS [26] 105 (k := 7) (v := .int .i64 (k : Int)) rfl rfl (by kernel_rfl) (by kernel_rfl) (by kernel_rfl) (by kernel_rfl) (by kernel_rfl) (by kernel_rfl) (fun _ _ _ h => h) (Or.inl ⟨by rfl, fun V hV => ?_⟩) hS0 ?_
          · obtain ⟨y0, y1⟩ := hV; go_simp
          try simp only [Act.put, List.setIfInBounds_toArray, List.set_cons_zero, List.set_cons_succ]
          refine V_takeS [26] 106 (k := 8) (v := .int .i64 ((k : Int) + 4)) rfl rfl (by kernel_rfl) (by kernel_rfl) (by kernel_rfl) (by kernel_rfl) (by kernel_rfl) (by kernel_rfl) (fun _ _ _ h => h) (Or.inl ⟨by rfl, fun V hV => ?_⟩) hS0 ?_
          · obtain ⟨y0, y1⟩ := hV; go_simp
          try simp only [Act.put, List.setIfInBounds_toArray, List.set_cons_zero, List.set_cons_succ]
          refine V_takeS [26] 107 (k := 9) (v := .slice (some ⟨b0, off + ((k : Int) + 4).toNat, none⟩) (m - ((k : Int) + 4).toNat) (cap - ((k : Int) + 4).toNat)) rfl rfl (by kernel_rfl) (by kernel_rfl) (by kernel_rfl) (by kernel_rfl) (by kernel_rfl) (by kernel_rfl) (fun _ _ _ h => h) (Or.inl ⟨by rfl, fun V hV => ?_⟩) hS0 ?_
          · obtain ⟨y0, y1⟩ := hV; go_simp
          try simp only [Act.put, List.setIfInBounds_toArray, List.set_cons_zero, List.set_cons_succ]
          refine V_takeS [26] 109 (k := 11) (v := .slice (some ⟨b0, off, none⟩) m cap) rfl rfl (by kernel_rfl) (by kernel_rfl) (by kernel_rfl) (by kernel_rfl) (by kernel_rfl) (by kernel_rfl) (fun _ _ _ h => h) (Or.inl ⟨by rfl, fun V hV => ?_⟩) hS0 ?_
          · obtain ⟨y0, y1⟩ := hV; go_simp
          try simp only [Act.put, List.setIfInBounds_toArray, List.set_cons_zero, List.set_cons_succ]
          refine V_takeS [26] 110 (k := 12) (v := .int .i64 (k : Int)) rfl rfl (by kernel_rfl) (by kernel_rfl) (by kernel_rfl) (by kernel_rfl) (by kernel_rfl) (by kernel_rfl) (fun _ _ _ h => h) (Or.inl ⟨by rfl, fun V hV => ?_⟩) hS0 ?_
          · obtain ⟨y0, y1⟩ := hV; go_simp
          try simp only [Act.put, List.setIfInBounds_toArray, List.set_cons_zero, List.set_cons_succ]
          refine V_takeS [26] 111 (k := 13) (v := .int .i64 ((k : Int) + 8)) rfl rfl (by kernel_rfl) (by kernel_rfl) (by kernel_rfl) (by kernel_rfl) (by kernel_rfl) (by kernel_rfl) (fun _ _ _ h => h) (Or.inl ⟨by rfl, fun V hV => ?_⟩) hS0 ?_
          · obtain ⟨y0, y1⟩ := hV; go_simp
          try simp only [Act.put, List.setIfInBounds_toArray, List.set_cons_zero, List.set_cons_succ]
          refine V_takeS [26] 112 (k := 14) (v := .slice (some ⟨b0, off + ((k : Int) + 8).toNat, none⟩) (m - ((k : Int) + 8).toNat) (cap - ((k : Int) + 8).toNat)) rfl rfl (by kernel_rfl) (by kernel_rfl) (by kernel_rfl) (by kernel_rfl) (by kernel_rfl) (by kernel_rfl) (fun _ _ _ h => h) (Or.inl ⟨by rfl, fun V hV => ?_⟩) hS0 ?_
          · obtain ⟨y0, y1⟩ := hV; go_simp
          try simp only [Act.put, List.setIfInBounds_toArray, List.set_cons_zero, List.set_cons_succ]
          refine V_takeS [26] 114 (k := 16) (v := .slice (some ⟨b0, off, none⟩) m cap) rfl rfl (by kernel_rfl) (by kernel_rfl) (by kernel_rfl) (by kernel_rfl) (by kernel_rfl) (by kernel_rfl) (fun _ _ _ h => h) (Or.inl ⟨by rfl, fun V hV => ?_⟩) hS0 ?_
          · obtain ⟨y0, y1⟩ := hV; go_simp
          try simp only [Act.put, List.setIfInBounds_toArray, List.set_cons_zero, List.set_cons_succ]
          refine V_takeS [26] 115 (k := 17) (v := .int .i64 (k : Int)) rfl rfl (by kernel_rfl) (by kernel_rfl) (by kernel_rfl) (by kernel_rfl) (by kernel_rfl) (by kernel_rfl) (fun _ _ _ h => h) (Or.inl ⟨by rfl, fun V hV => ?_⟩) hS0 ?_
          · obtain ⟨y0, y1⟩ := hV; go_simp
          try simp only [Act.put, List.setIfInBounds_toArray, List.set_cons_zero, List.set_cons_succ]
          refine V_takeS [26] 116 (k := 18) (v := .int .i64 ((k : Int) + 12)) rfl rfl (by kernel_rfl) (by kernel_rfl) (by kernel_rfl) (by kernel_rfl) (by kernel_rfl) (by kernel_rfl) (fun _ _ _ h => h) (Or.inl ⟨by rfl, fun V hV => ?_⟩) hS0 ?_
          · obtain ⟨y0, y1⟩ := hV; go_simp
          try simp only [Act.put, List.setIfInBounds_toArray, List.set_cons_zero, List.set_cons_succ]
          refine V_takeS [26] 117 (k := 19) (v := .pointer (some ⟨b0, off + ((k : Int) + 12).toNat, none⟩)) rfl rfl (by kernel_rfl) (by kernel_rfl) (by kernel_rfl) (by kernel_rfl) (by kernel_rfl) (by kernel_rfl) (fun _ _ _ h => h) (Or.inl ⟨by rfl, fun V hV => ?_⟩) hS0 ?_
          · obtain ⟨y0, y1⟩ := hV; go_simp
          try simp only [Act.put, List.setIfInBounds_toArray, List.set_cons_zero, List.set_cons_succ]
          refine V_takeS [26] 118 (k := 20) (v := .int .u8 y) rfl rfl (by kernel_rfl) (by kernel_rfl) (by kernel_rfl) (by kernel_rfl) (by kernel_rfl) (by kernel_rfl) (fun _ _ _ h => h) (Or.inl ⟨by rfl, fun V hV => ?_⟩) hS0 ?_
          · obtain ⟨y0, y1⟩ := hV; go_simp
          try simp only [Act.put, List.setIfInBounds_toArray, List.set_cons_zero, List.set_cons_succ]
          refine V_takeS [26] 119 (k := 21) (v := .bool (y == 1)) rfl rfl (by kernel_rfl) (by kernel_rfl) (by kernel_rfl) (by kernel_rfl) (by kernel_rfl) (by kernel_rfl) (fun _ _ _ h => h) (Or.inl ⟨by rfl, fun V hV => ?_⟩) hS0 ?_
          · obtain ⟨y0, y1⟩ := hV; go_simp
          try simp only [Act.put, List.setIfInBounds_toArray, List.set_cons_zero, List.set_cons_succ]
          refine U_one (i := 5) (listed' := #[true, true, true, true, true, true, true, true, true, true, false, true, true, true, true, false, true, true, true, true, true, true, false, false, false, false, false]) (by kernel_rfl) rfl (by kernel_rfl) rfl (fun K hK => ?_)
          go_simp
          refine (T1.out _ HD.out.below).mono ?_
          clear T1
          rintro e w1 ⟨v1, rfl, hv1, H1⟩
          have G1 := put_by (HD.out.later H1.out.2)
          have hS1 : (fun V : World => V.cell? ⟨w.heap.size + 1, 2, none⟩ = some (.slice da n3 dc) ∧ V.cell? ⟨b0, off + ((k : Int) + 12).toNat, none⟩ = some (.int .u8 y)) w1 := ⟨(G1.out.sv 2 _ rfl).1, TY.out w1 G1.out.below⟩
          refine hK _ _ (fun _ => hS1) ?_
          clear hK K
          try simp only [Act.put, List.setIfInBounds_toArray, List.set_cons_zero, List.set_cons_succ]
          clear hS0
          refine U_one (i := 10) (listed' := #[true, true, true, true, true, true, true, true, true, true, true, true, true, true, true, false, true, true, true, true, true, true, false, false, false, false, false]) (by kernel_rfl) rfl (by kernel_rfl) rfl (fun K hK => ?_)
          go_simp
          refine (T2.out _ G1.out.below).mono ?_
          clear T2
          rintro e w2 ⟨v2, rfl, hv2, H2⟩
          have G2 := put_by (G1.out.later H2.out.2)
          have hS2 : (fun V : World => V.cell? ⟨w.heap.size + 1, 2, none⟩ = some (.slice da n3 dc) ∧ V.cell? ⟨b0, off + ((k : Int) + 12).toNat, none⟩ = some (.int .u8 y)) w2 := ⟨(G2.out.sv 2 _ rfl).1, TY.out w2 G2.out.below⟩
          refine hK _ _ (fun _ => hS2) ?_
          clear hK K
          try simp only [Act.put, List.setIfInBounds_toArray, List.set_cons_zero, List.set_cons_succ]
          clear hS1
          refine U_one (i := 15) (listed' := #[true, true, true, true, true, true, true, true, true, true, true, true, true, true, true, true, true, true, true, true, true, true, false, false, false, false, false]) (by kernel_rfl) rfl (by kernel_rfl) rfl (fun K hK => ?_)
          go_simp
          refine (T3.out _ G2.out.below).mono ?_
          clear T3
          rintro e w3 ⟨v3, rfl, hv3, H3⟩
          have G3 := put_by (G2.out.later H3.out.2)
          have hS3 : (fun V : World => V.cell? ⟨w.heap.size + 1, 2, none⟩ = some (.slice da n3 dc) ∧ V.cell? ⟨b0, off + ((k : Int) + 12).toNat, none⟩ = some (.int .u8 y)) w3 := ⟨(G3.out.sv 2 _ rfl).1, TY.out w3 G3.out.below⟩
          refine hK _ _ (fun _ => hS3) ?_
          clear hK K
          try simp only [Act.put, List.setIfInBounds_toArray, List.set_cons_zero, List.set_cons_succ]
          clear hS2
          refine V_takeS [26] 120 (k := 22) (v := .agg #[.int .i64 (v1 : Int), .int .i64 (v2 : Int), .int .i64 (v3 : Int), .bool (y == 1)]) rfl rfl (by kernel_rfl) (by kernel_rfl) (by kernel_rfl) (by kernel_rfl) (by kernel_rfl) (by kernel_rfl) (fun _ _ _ h => h) (Or.inl ⟨by rfl, fun V hV => ?_⟩) hS3 ?_
          · obtain ⟨y0, y1⟩ := hV; go_simp
          try simp only [Act.put, List.setIfInBounds_toArray, List.set_cons_zero, List.set_cons_succ]
          refine U_one (i := 23) (listed' := #[true, true, true, true, true, true, true, true, true, true, true, true, true, true, true, true, true, true, true, true, true, true, true, true, false, false, false]) (by kernel_rfl) rfl (by kernel_rfl) rfl (fun K hK => ?_)
          go_simp
          have hba : Below w3.heap.size w3 (w3.alloc (.cells #[.int .i64 (v1 : Int), .int .i64 (v2 : Int), .int .i64 (v3 : Int), .bool (y == 1)] 53)) := (Below.refl _ _).alloc (Nat.le_refl _) _
          have G4 := put_by (G3.out.later hba)
          have hS4 : (fun V : World => V.cell? ⟨w.heap.size + 1, 2, none⟩ = some (.slice da n3 dc) ∧ V.cell? ⟨b0, off + ((k : Int) + 12).toNat, none⟩ = some (.int .u8 y)) (w3.alloc (.cells #[.int .i64 (v1 : Int), .int .i64 (v2 : Int), .int .i64 (v3 : Int), .bool (y == 1)] 53)) := ⟨(G4.out.sv 2 _ rfl).1, TY.out _ G4.out.below⟩
          refine hK _ _ (fun _ => hS4) ?_
          clear hK K
          try simp only [Act.put, List.setIfInBounds_toArray, List.set_cons_zero, List.set_cons_succ]
          clear hS3 G4 hba
          refine U_one (i := 24) (listed' := #[true, true, true, true, true, true, true, true, true, true, true, true, true, true, true, true, true, true, true, true, true, true, true, true, true, false, false]) (by kernel_rfl) rfl (by kernel_rfl) rfl (fun K hK => ?_)
          refine wp_of_list rfl ?_ (wpList_append_oneB (K := kDn) (ok := fun b => M ≤ b) eltD rfl (.tmp 99) (.tmp 121) rfl M (.slice da n3 dc) ds rfl G3.out.rows (⟨(v1 : Int), (v2 : Int), (v3 : Int), y == 1⟩ : Dn) [.int .i64 (v1 : Int), .int .i64 (v2 : Int), .int .i64 (v3 : Int), .bool (y == 1)] _ _ rfl rfl rfl (fun b hb => Nat.le_trans G3.out.ord.2 hb) (by omega) (by decide) G3.out.ord.2 (fun v9 w5 r1 r2 r3 => ?_))
          · first | (rintro ⟨_, _, hh⟩; exact HQ.out _ hh) | (rintro ⟨_, hh⟩; exact HQ.out _ hh) | (rintro ⟨_, _, _, hh⟩; exact HQ.out _ hh) | (rintro ⟨_, _, _, _, hh⟩; exact HQ.out _ hh) | (intro hh; exact HQ.out _ hh)
          have HM9 := put_by (G3.out.more r1 r2)
          have hb5 : Below w.heap.size w w5 := below_grown G3.out.below G3.out.below.size r2 (fun r e => by have h1 := (rows_lt G3.out.rows r e).1; have h2 := G3.out.ord.1; omega)
          obtain ⟨z9, g9⟩ := HM9.out.1 2 _ rfl
          obtain ⟨a9, c9, e9⟩ := rows_form r1
          have hm9 : (ds ++ [(⟨(v1 : Int), (v2 : Int), (v3 : Int), y == 1⟩ : Dn)]).length = ds.length + 1 := by rw [List.length_append]; rfl
          rw [hm9] at e9
          subst e9
          clear hm9 r1 r2 r3
          have hS5 : (fun V : World => V.cell? ⟨w.heap.size + 1, 2, none⟩ = some (.slice da n3 dc) ∧ V.cell? ⟨b0, off + ((k : Int) + 12).toNat, none⟩ = some (.int .u8 y)) w5 := ⟨z9, TY.out w5 hb5⟩
          refine list_end ?_
          refine hK _ _ (fun _ => hS5) ?_
          clear hK K
          try simp only [Act.put, List.setIfInBounds_toArray]
          clear hS4
          refine V_takeS [26] 123 (k := 25) (v := .pointer (some ⟨w.heap.size + 1, 2, none⟩)) rfl rfl (by kernel_rfl) (by kernel_rfl) (by kernel_rfl) (by kernel_rfl) (by kernel_rfl) (by kernel_rfl) (fun _ _ _ h => h) (Or.inl ⟨by rfl, fun V hV => ?_⟩) hS5 ?_
          · obtain ⟨y0, y1⟩ := hV; go_simp
          try simp only [Act.put, List.setIfInBounds_toArray, List.set_cons_zero, List.set_cons_succ]
          refine U_one (i := 26) (listed' := #[true, true, true, true, true, true, true, true, true, true, true, true, true, true, true, true, true, true, true, true, true, true, true, true, true, true, true]) (by kernel_rfl) rfl (by kernel_rfl) rfl (fun K hK => ?_)
          go_simp
          refine hK _ _ (fun hh => by cases (show true = false from hh)) ?_
          clear hK K
          try simp only [Act.put, List.setIfInBounds_toArray, List.set_cons_zero, List.set_cons_succ]
          refine U_done (by kernel_rfl) ?_ _
          have DN : Hid (LDones xs p l (ds ++ [(⟨(v1 : Int), (v2 : Int), (v3 : Int), y == 1⟩ : Dn)]) q (k + 13)) := by
            rw [HYY.out]
            exact ld_step HL.out.1 H1.out.1 H2.out.1 H3.out.1
          clear hS5 hb5 H1 H2 H3 G1 G2 G3 HD HL
          generalize w5.setCell ⟨w.heap.size + 1, 2, none⟩ (.slice a9 (ds.length + 1) c9) = W9 at HM9 ⊢
          go_wp2
          go_roundw
          case rel => exact ⟨q, k + 13, a9, _, c9, by omega, h13, by go_num, by go_num, ds ++ [(⟨(v1 : Int), (v2 : Int), (v3 : Int), y == 1⟩ : Dn)], DN.out, HM9.out.2⟩
          case measure => simp [intOf]
    · obtain ⟨q, rfl⟩ : ∃ r, q = r + 1 := ⟨q - 1, by omega⟩
      have iq : (0 : Int) < ((q + 1 : Nat) : Int) := by omega
      have J0 := put_by (LxI.start HL.out.2 [.slice none 0 0, .slice none 0 0, .bool false, .int .i64 0] 51)
      have K0 : Hid (LCells xs p l (q + 1) k) := HL.out.1
      go_upto_region 9 with (fail)
      generalize wr.heap.size = X at J0 ⊢
      generalize wr.alloc (.cells #[.slice none 0 0, .slice none 0 0, .bool false, .int .i64 0] _) = V0 at J0 ⊢
      have T1 := put_by (cT.out k V0 hk J0.out.below)
      go_upto_region 10 with (first
        | (go_at_call 25; (with_reducible refine T1.out.mono ?_); clear T1; rintro e w1 ⟨a1, m1, c1, p1, rfl, HB1, HT1⟩; have J1 := put_by (J0.out.later HB1.out); obtain ⟨x0, f0⟩ := J1.out.var 0 _ rfl))
      have J2 := put_by (J1.out.store (k := 0) (.slice a1 m1 c1))
      rcases HT1 with ⟨rfl, hno⟩ | ⟨k1, rfl, hk1, H1⟩
      · clear x0 f0 J1 J0 HB1
        generalize w1.setCell ⟨X, 0, none⟩ (.slice a1 m1 c1) = V1 at J2 ⊢
        have hz := put_by (HP1.out (lc_fall1 K0.out hno.out) _ (HZ.out _ J2.out.below))
        have hq9 := J2.out.hv
        obtain ⟨q0, g0⟩ := hq9 0 _ rfl
        obtain ⟨q1, g1⟩ := hq9 1 _ rfl
        obtain ⟨q2, g2⟩ := hq9 2 _ rfl
        clear hq9
        go_wp2
        exact bodyPost_ret (v := .tuple #[.agg #[.int .i64 0, .slice none 0 0, .slice none 0 0], .int .i64 4]) (by simp [results, Try.results15, go_sem, q0, q1, q2]) rfl hz.out
      obtain ⟨t1, ht1⟩ := H1.out
      have G1 := put_by (And.intro ht1.1 ht1.2.2.2.2)
      have B1 : Hid (IsBody (w1.setCell ⟨X, 0, none⟩ (.slice a1 m1 c1)) (fun b => X < b) (.slice a1 m1 c1) t1) := body_store ⟨a1, c1, by rw [ht1.2.1], ht1.2.2.1, fun _ ad e => by have h1 := ht1.2.2.2.1 ad e; have h2 := J0.out.ord.2; show X < ad.block; omega⟩
      clear x0 f0 J1 J0 HB1 H1 ht1
      generalize w1.setCell ⟨X, 0, none⟩ (.slice a1 m1 c1) = V1 at J2 B1 ⊢
      by_cases hlt : k1 < m
      case neg =>
        have i1 : (m : Int) ≤ (k1 : Int) := by omega
        have hmk : xs.length ≤ k1 := by rw [← HM.out]; omega
        have hz := put_by (HP1.out (lc_fall2 K0.out G1.out.2 hmk) _ (HZ.out _ J2.out.below))
        have hq9 := J2.out.hv
        obtain ⟨q0, g0⟩ := hq9 0 _ rfl
        obtain ⟨q1, g1⟩ := hq9 1 _ rfl
        obtain ⟨q2, g2⟩ := hq9 2 _ rfl
        clear hq9
        go_wp2
        exact bodyPost_ret (v := .tuple #[.agg #[.int .i64 0, .slice none 0 0, .slice none 0 0], .int .i64 4]) (by simp [results, Try.results15, go_sem, q0, q1, q2]) rfl hz.out
      have i1 : ¬ (m : Int) ≤ (k1 : Int) := by omega
      have hx1 := cX.out k1 V1 hlt J2.out.below
      obtain ⟨y, hy⟩ : ∃ y, y = xs.getD k1 0 := ⟨_, rfl⟩
      rw [← hy] at hx1
      have HY := put_by hy
      clear hy
      obtain ⟨x2, f2⟩ := J2.out.var 2 _ rfl
      have ik1 : (k1 : Int) < (m : Int) := by omega
      go_upto_region 13 with (fail)
      have J3 := put_by (J2.out.store (k := 2) (.bool (y == 1)))
      have B3 : Hid (IsBody (V1.setCell ⟨X, 2, none⟩ (.bool (y == 1))) (fun b => X < b) (.slice a1 m1 c1) t1) := body_store B1.out
      clear x2 f2 hx1 J2 B1
      generalize V1.setCell ⟨X, 2, none⟩ (.bool (y == 1)) = V3 at J3 B3 ⊢
      have T2 := cT.out (k1 + 1) V3 (by omega) J3.out.below
      rw [show (((k1 + 1 : Nat)) : Int) = (k1 : Int) + 1 by omega] at T2
      have T2 := put_by T2
      go_upto_region 14 with (first
        | (go_at_call 25; (with_reducible refine T2.out.mono ?_); clear T2; rintro e w4 ⟨a2, m2, c2, p2, rfl, HB2, HT2⟩; have J4 := put_by (J3.out.later HB2.out); obtain ⟨x1, f1⟩ := J4.out.var 1 _ rfl))
      have J5 := put_by (J4.out.store (k := 1) (.slice a2 m2 c2))
      rcases HT2 with ⟨rfl, hno⟩ | ⟨k2, rfl, hk2, H2⟩
      · clear x1 f1 J3 J4 HB2 B3
        generalize w4.setCell ⟨X, 1, none⟩ (.slice a2 m2 c2) = V5 at J5 ⊢
        have hz := put_by (HP1.out (lc_fall3 K0.out G1.out.2 hno.out) _ (HZ.out _ J5.out.below))
        have hq9 := J5.out.hv
        obtain ⟨q0, g0⟩ := hq9 0 _ rfl
        obtain ⟨q1, g1⟩ := hq9 1 _ rfl
        obtain ⟨q2, g2⟩ := hq9 2 _ rfl
        clear hq9
        go_wp2
        exact bodyPost_ret (v := .tuple #[.agg #[.int .i64 0, .slice none 0 0, .slice none 0 0], .int .i64 4]) (by simp [results, Try.results15, go_sem, q0, q1, q2]) rfl hz.out
      obtain ⟨t2, ht2⟩ := H2.out
      have G2 := put_by (And.intro ht2.1 ht2.2.2.2.2)
      have B5 : Hid (IsBody (w4.setCell ⟨X, 1, none⟩ (.slice a2 m2 c2)) (fun b => X < b) (.slice a1 m1 c1) t1 ∧ IsBody (w4.setCell ⟨X, 1, none⟩ (.slice a2 m2 c2)) (fun b => X < b) (.slice a2 m2 c2) t2) := ⟨body_store (B3.out.move (Kept.of_below HB2.out) (fun _ _ h => h)), body_store ⟨a2, c2, by rw [ht2.2.1], ht2.2.2.1, fun _ ad e => by have h1 := ht2.2.2.2.1 ad e; have h2 := J3.out.ord.2; show X < ad.block; omega⟩⟩
      clear x1 f1 J3 J4 HB2 H2 ht2 B3
      generalize w4.setCell ⟨X, 1, none⟩ (.slice a2 m2 c2) = V5 at J5 B5 ⊢
      by_cases h24 : k2 + 4 ≤ m
      case neg =>
        have i2 : (m : Int) < (k2 : Int) + 4 := by omega
        have hmk : xs.length < k2 + 4 := by rw [← HM.out]; omega
        have hz := put_by (HP1.out (lc_fall4 K0.out G1.out.2 G2.out.2 hmk) _ (HZ.out _ J5.out.below))
        have hq9 := J5.out.hv
        obtain ⟨q0, g0⟩ := hq9 0 _ rfl
        obtain ⟨q1, g1⟩ := hq9 1 _ rfl
        obtain ⟨q2, g2⟩ := hq9 2 _ rfl
        clear hq9
        go_wp2
        exact bodyPost_ret (v := .tuple #[.agg #[.int .i64 0, .slice none 0 0, .slice none 0 0], .int .i64 4]) (by simp [results, Try.results15, go_sem, q0, q1, q2]) rfl hz.out
      have i2 : ¬ (m : Int) < (k2 : Int) + 4 := by omega
      have T3 := put_by (cL.out k2 V5 h24 J5.out.below)
      go_upto_region 17 with (first
        | (go_at_call 24; (with_reducible refine T3.out.mono ?_); clear T3; rintro e w6 ⟨v3, rfl, hv3, H3⟩; have J6 := put_by (J5.out.later H3.out.2); obtain ⟨x3, f3⟩ := J6.out.var 3 _ rfl))
      have J7 := put_by (J6.out.store (k := 3) (.int .i64 (v3 : Int)))
      have B7 : Hid (IsBody (w6.setCell ⟨X, 3, none⟩ (.int .i64 (v3 : Int))) (fun b => X < b) (.slice a1 m1 c1) t1 ∧ IsBody (w6.setCell ⟨X, 3, none⟩ (.int .i64 (v3 : Int))) (fun b => X < b) (.slice a2 m2 c2) t2) := ⟨body_store (B5.out.1.move (Kept.of_below H3.out.2) (fun _ _ h => h)), body_store (B5.out.2.move (Kept.of_below H3.out.2) (fun _ _ h => h))⟩
      have LN : Hid (LCells xs p (l ++ [(⟨t1, t2, y == 1, (v3 : Int)⟩ : Cel)]) q (k2 + 4)) := by
        rw [HY.out]
        exact lc_step4 K0.out G1.out.2 G2.out.2 H3.out.1 G1.out.1 G2.out.1
      have hlen : l.length ≤ 4294967295 := by
        have h2 := K0.out.1
        omega
      clear x3 f3 J6 J5 H3 B5 G1 G2 K0 HY
      generalize w6.setCell ⟨X, 3, none⟩ (.int .i64 (v3 : Int)) = V7 at J7 B7 ⊢
      obtain ⟨y0, -⟩ := J7.out.var 0 _ rfl
      obtain ⟨y1, -⟩ := J7.out.var 1 _ rfl
      obtain ⟨y2, -⟩ := J7.out.var 2 _ rfl
      obtain ⟨y3, -⟩ := J7.out.var 3 _ rfl
      obtain ⟨s1, -⟩ := J7.out.sv 1 _ rfl
      have HREL : Hid (kCel.rel (fun b => (w.heap.size + 1 < b ∧ b ≠ X) ∧ (Value.slice ca n1 cc).ownBlock ≠ some b) V7 (⟨t1, t2, y == 1, (v3 : Int)⟩ : Cel) [.slice a1 m1 c1, .slice a2 m2 c2, .bool (y == 1), .int .i64 (v3 : Int)]) := by
        have h1 := J7.out.ord
        have ho : ∀ b, b < V7.heap.size → X < b → (w.heap.size + 1 < b ∧ b ≠ X) ∧ (Value.slice ca n1 cc).ownBlock ≠ some b := fun b _ hb => ⟨⟨by omega, by omega⟩, fun e => by have h2 := J7.out.own b e; omega⟩
        exact ⟨_, _, rfl, B7.out.1.move (Kept.of_below (Below.refl _ _)) ho, B7.out.2.move (Kept.of_below (Below.refl _ _)) ho⟩
      have i3 : (k2 : Int) + 4 ≤ (m : Int) := by omega
      go_wp2_with (first
        | (at_builtin; refine wpList_append_oneB (K := kCel) (ok := fun b => w.heap.size + 1 < b ∧ b ≠ X) eltC rfl (.tmp 71) (.tmp 73) rfl (w.heap.size + 2) (.slice ca n1 cc) l rfl J7.out.rows (⟨t1, t2, y == 1, (v3 : Int)⟩ : Cel) [.slice a1 m1 c1, .slice a2 m2 c2, .bool (y == 1), .int .i64 (v3 : Int)] _ _ rfl rfl HREL.out (fun b hb => by have h1 := J7.out.ord; constructor <;> omega) (by omega) (by decide) (by have h1 := J7.out.ord; omega) ?_; intro v9 w9 r1 r2 r3; have HM9 := put_by (J7.out.more r1 r2); obtain ⟨z9, g9⟩ := HM9.out.1 1 _ rfl; obtain ⟨a9, c9, e9⟩ := rows_form r1; have hm9 : (l ++ [(⟨t1, t2, y == 1, (v3 : Int)⟩ : Cel)]).length = l.length + 1 := (by rw [List.length_append]; rfl); rw [hm9] at e9; subst e9; clear hm9 r1 r2 r3))
      go_roundw
      case rel => exact ⟨q, k2 + 4, a9, _, c9, by omega, h24, by go_num, by go_num, l ++ [(⟨t1, t2, y == 1, (v3 : Int)⟩ : Cel)], LN.out, HM9.out.2⟩
      case measure => simp [intOf]

end Go.Proofs.Ytndnbkgejdindaa
