/- The bytes of an intent that may be: what tellIntent comes to. -/
import Derived.Test.YtjjdednlddnllaaRdTake
namespace Go.Proofs.Ytjjdednlddnllaa
open Go.ChangeShapes Go.WideShapes Go.ChangeAt Go.RowKit

/-- the bytes of an intent, in new memory -/
def EncPost (c n s : Int) (rs : List Ent) (ws : List Wt) (w : World) (e : Ending) (w' : World) : Prop := ∃ (a : Option Addr) (m k : Nat), e = .returned (.slice a m k) ∧ m = (encI ⟨c, n, s, rs, ws⟩).length ∧ Octs w' a k (encI ⟨c, n, s, rs, ws⟩) ∧ (∀ ad, a = some ad → w.heap.size ≤ ad.block) ∧ Below w.heap.size w w'

set_option maxRecDepth 100000 in
set_option maxHeartbeats 8000000 in
theorem tellIntent_any (ok : Nat → Prop) (c n s : Nat) (rs : List Ent) (ws : List Wt) (ra : Option Addr) (rc : Nat) (wa : Option Addr) (wc : Nat) (w : World) (hI : ItIs ok w rs ws ra rc wa wc) (hM : MayI ⟨c, n, s, rs, ws⟩) :
    Calls Try.prog 71 #[.agg #[.int .i64 c, .int .i64 n, .int .i64 s, .slice ra rs.length rc, .slice wa ws.length wc]] w fun e w' => EncPost c n s rs ws w e w' := by
  generalize hpost : (fun e w' => EncPost c n s rs ws w e w') = R
  have HP : Hid (∀ e w', EncPost c n s rs ws w e w' → R e w') := fun e w' h => by rw [← hpost]; exact h
  have HO : Hid (∀ w', ¬ R .outgrown w') := fun w' hh => by
    rw [← hpost] at hh
    obtain ⟨a, m, k, h, -⟩ := hh
    cases h
  clear hpost
  have hc : c < 4294967296 := by have := hM.client.2; simp only at this; omega
  have hn : n < 4294967296 := by have := hM.number.2; simp only at this; omega
  have hs : s < 4294967296 := by have := hM.base.2; simp only at this; omega
  have HM := put_by hM
  have HI := put_by hI
  have HBY := put_by (hI.bytes c n s)
  obtain ⟨nr, hnr⟩ : ∃ nr, nr = rs.length := ⟨_, rfl⟩
  obtain ⟨nw, hnw⟩ : ∃ nw, nw = ws.length := ⟨_, rfl⟩
  have h4 : nr ≤ 400 := by rw [hnr]; exact hM.few.1
  have h5 : nw ≤ 400 := by rw [hnw]; exact hM.few.2
  rw [← hnr, ← hnw]
  have HN := put_by (And.intro hnr hnw)
  have HA := put_by ((Below.refl w.heap.size w).alloc (Nat.le_refl _) (.cells #[.int .i64 c, .int .i64 n, .int .i64 s, .slice ra nr rc, .slice wa nw wc] 77))
  have HK : Hid (∀ V, Below (w.alloc (.cells #[.int .i64 c, .int .i64 n, .int .i64 s, .slice ra nr rc, .slice wa nw wc] 77)).heap.size (w.alloc (.cells #[.int .i64 c, .int .i64 n, .int .i64 s, .slice ra nr rc, .slice wa nw wc] 77)) V → V.cell? ⟨w.heap.size, 0, none⟩ = some (.int .i64 c) ∧ V.cell? ⟨w.heap.size, 1, none⟩ = some (.int .i64 n) ∧ V.cell? ⟨w.heap.size, 2, none⟩ = some (.int .i64 s) ∧ V.cell? ⟨w.heap.size, 3, none⟩ = some (.slice ra nr rc) ∧ V.cell? ⟨w.heap.size, 4, none⟩ = some (.slice wa nw wc)) := fun V hV => by
    have hb : w.heap.size < (w.alloc (.cells #[.int .i64 c, .int .i64 n, .int .i64 s, .slice ra nr rc, .slice wa nw wc] 77)).heap.size := by simp
    exact ⟨(hV.cell (p := ⟨w.heap.size, 0, none⟩) hb).trans (by simp), (hV.cell (p := ⟨w.heap.size, 1, none⟩) hb).trans (by simp), (hV.cell (p := ⟨w.heap.size, 2, none⟩) hb).trans (by simp), (hV.cell (p := ⟨w.heap.size, 3, none⟩) hb).trans (by simp), (hV.cell (p := ⟨w.heap.size, 4, none⟩) hb).trans (by simp)⟩
  clear hI hM hnr hnw
  go_enter Try.func71, Try.ntmps71
  go_upto_region 2 with (fail)
  generalize w.alloc (.cells #[.int .i64 c, .int .i64 n, .int .i64 s, .slice ra nr rc, .slice wa nw wc] 77) = W1 at HA HK ⊢
  have cN : Hid (∀ (V : World) (a : Option Addr) (m k : Nat) (xs : List Int) (K q : Nat), q < 4294967296 → K ≤ 900000000 → (Told w.heap.size W1 V (.slice none 0 0) (.slice a m k) m xs ∧ xs.length ≤ K) → Calls Try.prog 89 #[.slice a m k, .int .i64 (q : Int)] V fun e w' => ∃ (a' : Option Addr) (m' k' : Nat), e = .returned (.slice a' m' k') ∧ (w'.cell? ⟨w.heap.size, 0, none⟩ = some (.int .i64 c) ∧ w'.cell? ⟨w.heap.size, 1, none⟩ = some (.int .i64 n) ∧ w'.cell? ⟨w.heap.size, 2, none⟩ = some (.int .i64 s) ∧ w'.cell? ⟨w.heap.size, 3, none⟩ = some (.slice ra nr rc) ∧ w'.cell? ⟨w.heap.size, 4, none⟩ = some (.slice wa nw wc)) ∧ Hid (Told w.heap.size W1 w' (.slice none 0 0) (.slice a' m' k') m' (xs ++ le4 q) ∧ (xs ++ le4 q).length ≤ K + 4)) := fun V a m k xs K q hq hK ⟨h1, h2⟩ => by
    refine (tellNumber_any w.heap.size xs (by omega) a m k q hq V (Nat.le_trans HA.out.size h1.grown.size) h1.len h1.own).mono ?_
    rintro e w' ⟨a', m', k', rfl, h⟩
    have h3 := h1.trans h
    exact ⟨a', m', k', rfl, HK.out _ h3.from, h3, by rw [List.length_append, le4_length]; omega⟩
  obtain ⟨k0, k1, k2, k3, k4⟩ := HK.out W1 (Below.refl _ _)
  have H0 : Hid (Told w.heap.size W1 W1 (.slice none 0 0) (.slice none 0 0) 0 [] ∧ ([] : List Int).length ≤ 0) := ⟨Told.nil _ _, by simp⟩
  go_wp2_with (first
    | (go_at_call 89; (with_reducible refine (cN.out _ _ _ _ _ _ c hc (by omega) H0.out).mono ?_); rintro e w1 ⟨a1, m1, p1, rfl, ⟨k0, k1, k2, k3, k4⟩, H1⟩)
    | (go_at_call 89; (with_reducible refine (cN.out _ _ _ _ _ _ n hn (by omega) H1.out).mono ?_); rintro e w2 ⟨a2, m2, p2, rfl, ⟨k0, k1, k2, k3, k4⟩, H2⟩)
    | (go_at_call 89; (with_reducible refine (cN.out _ _ _ _ _ _ s hs (by omega) H2.out).mono ?_); rintro e w3 ⟨a3, m3, p3, rfl, ⟨k0, k1, k2, k3, k4⟩, H3⟩)
    | (go_at_call 89; (with_reducible refine (cN.out _ _ _ _ _ _ nr (by omega) (by omega) H3.out).mono ?_); rintro e w4 ⟨a4, m4, p4, rfl, ⟨k0, k1, k2, k3, k4⟩, H4⟩))
  obtain ⟨hd, hhd⟩ : ∃ hd, hd = [] ++ le4 c ++ le4 n ++ le4 s ++ le4 nr := ⟨_, rfl⟩
  rw [← hhd] at H4
  have HHD := put_by hhd
  clear hhd H0 H1 H2 H3
  go_loopw [3, 28] (fun b i wr => ∃ (k : Nat) (a : Option Addr) (m p : Nat), k ≤ nr ∧ i = .int .i64 k ∧ b = .slice a m p ∧ Hid (Told w.heap.size W1 wr (.slice none 0 0) (.slice a m p) m (hd ++ (rs.take k).flatMap encRd) ∧ (hd ++ (rs.take k).flatMap encRd).length ≤ 16 + k * 2410)) (fun _ i _ => nr - (intOf i).toNat)
  case atStart => exact ⟨0, a4, m4, p4, Nat.zero_le _, rfl, rfl, put_by (by simpa using H4.out)⟩
  case round =>
    clear H4 k0 k1 k2 k3 k4
    obtain ⟨k, a, m, p, hk, rfl, rfl, HB⟩ := hrel
    rename World => wr
    by_cases hlt : k < nr
    · have hx : k < rs.length := by rw [← HN.out.1]; exact hlt
      have HBW := put_by (HA.out.trans (HB.out.1.from.mono HA.out.size))
      have hok := HM.out.reads _ (List.getElem_mem hx)
      obtain ⟨b4, off, rfl, hb, _, cs, ⟨u, v, rfl, hu, hw⟩, hc9⟩ := HI.out.reads.at hx
      obtain ⟨xa, xc, rfl, hxo, -⟩ := id hu
      obtain ⟨ya, yc, rfl, hyo, -⟩ := id hw
      have d0 : wr.cell? ⟨b4, off + k * 2, none⟩ = some (.slice xa (rs[k]).1.length xc) := (HBW.out.cell (p := ⟨b4, off + k * 2, none⟩) hb).trans (by simpa using hc9 0 _ rfl)
      have d1 : wr.cell? ⟨b4, off + k * 2 + 1, none⟩ = some (.slice ya (rs[k]).2.length yc) := (HBW.out.cell (p := ⟨b4, off + k * 2 + 1, none⟩) hb).trans (hc9 1 _ rfl)
      have HIN : Hid (InL w.heap.size W1 wr.heap.size [.slice xa (rs[k]).1.length xc, .slice ya (rs[k]).2.length yc] (.slice a m p) m (hd ++ (rs.take k).flatMap encRd) (16 + k * 2410) (wr.alloc (.cells #[.slice xa (rs[k]).1.length xc, .slice ya (rs[k]).2.length yc] 97))) := InL.start HB.out.1 HB.out.2 #[.slice xa (rs[k]).1.length xc, .slice ya (rs[k]).2.length yc] _
      have HS : Hid (hd ++ (rs.take (k + 1)).flatMap encRd = hd ++ (rs.take k).flatMap encRd ++ txt4 (rs[k]).1 ++ txt4 (rs[k]).2) := by
        rw [take_succ' hx, List.flatMap_append]
        simp [encRd, Hid]
      have cT : Hid (∀ (ta : Option Addr) (tc : Nat) (ts : List Int), ts.length ≤ 1201 → Octs w ta tc ts → ∀ (V : World) (a : Option Addr) (m k' : Nat) (xs : List Int) (K : Nat), K ≤ 900000000 → InL w.heap.size W1 wr.heap.size [.slice xa (rs[k]).1.length xc, .slice ya (rs[k]).2.length yc] (.slice a m k') m xs K V → Calls Try.prog 90 #[.slice a m k', .slice ta ts.length tc] V fun e w' => ∃ (a' : Option Addr) (m' p' : Nat), e = .returned (.slice a' m' p') ∧ w'.cell? ⟨wr.heap.size, 1, none⟩ = some (.slice ya (rs[k]).2.length yc) ∧ Hid (InL w.heap.size W1 wr.heap.size [.slice xa (rs[k]).1.length xc, .slice ya (rs[k]).2.length yc] (.slice a' m' p') m' (xs ++ txt4 ts) (K + 1205) w')) := fun ta tc ts hts ho V a m k' xs K hK h => by
        have hV := HA.out.trans (h.told.from.mono HA.out.size)
        refine (tellText_any w.heap.size xs (by have := h.few; omega) a m k' ta tc ts (by omega) V hV.size h.told.len h.told.own (ho.later hV) ho.blocks).mono ?_
        rintro e w' ⟨a', m', p', rfl, h9⟩
        have h8 := h.next h9 (K' := K + 1205) (by have := h.few; rw [List.length_append, txt4_length]; omega)
        exact ⟨a', m', p', rfl, h8.cell 1 _ rfl, h8⟩
      have c1 := put_by (cT.out xa xc (rs[k]).1 hok.1 hxo)
      have c2 := put_by (cT.out ya yc (rs[k]).2 hok.2 hyo)
      have ik : (k : Int) < (nr : Int) := by omega
      clear hc9 hu hw hxo hyo HB cT hok
      generalize (rs[k]).1.length = i1 at d0 HIN c1 c2
      generalize (rs[k]).2.length = i2 at d1 HIN c1 c2
      go_wp2_with (first
        | (go_at_call 90; (with_reducible refine (c1.out _ _ _ _ _ _ (by omega) HIN.out).mono ?_); clear c1; rintro e w5 ⟨a5, m5, p5, rfl, k5, H5⟩)
        | (go_at_call 90; (with_reducible refine (c2.out _ _ _ _ _ _ (by omega) H5.out).mono ?_); clear c2; rintro e w6 ⟨a6, m6, p6, rfl, k6, H6⟩))
      go_roundw
      case rel => exact ⟨k + 1, a6, m6, p6, by omega, by go_num, rfl, by rw [HS.out]; exact H6.out.told, by rw [HS.out]; have := H6.out.few; omega⟩
      case measure => simp [intOf]; omega
    · obtain rfl : k = nr := by omega
      have HT : Hid (Told w.heap.size W1 wr (.slice none 0 0) (.slice a m p) m (hd ++ rs.flatMap encRd) ∧ (hd ++ rs.flatMap encRd).length ≤ 964016) := by
        have h := HB.out
        rw [List.take_of_length_le (by rw [← HN.out.1]; exact Nat.le_refl _)] at h
        exact ⟨h.1, by have := h.2; omega⟩
      obtain ⟨k0, k1, k2, k3, k4⟩ := HK.out wr HB.out.1.from
      clear HB
      go_wp2_with (first
        | (go_at_call 89; (with_reducible refine (cN.out _ _ _ _ _ _ nw (by omega) (by omega) HT.out).mono ?_); rintro e w5 ⟨a5, m5, p5, rfl, ⟨k0, k1, k2, k3, k4⟩, H5⟩))
      obtain ⟨he, hhe⟩ : ∃ he, he = hd ++ rs.flatMap encRd ++ le4 nw := ⟨_, rfl⟩
      rw [← hhe] at H5
      have HHE := put_by hhe
      clear hhe HT
      go_loopw [3, 49] (fun b i wr => ∃ (k : Nat) (a : Option Addr) (m p : Nat), k ≤ nw ∧ i = .int .i64 k ∧ b = .slice a m p ∧ Hid (Told w.heap.size W1 wr (.slice none 0 0) (.slice a m p) m (he ++ (ws.take k).flatMap encWt) ∧ (he ++ (ws.take k).flatMap encWt).length ≤ 964020 + k * 5209)) (fun _ i _ => nw - (intOf i).toNat)
      case atStart => exact ⟨0, a5, m5, p5, Nat.zero_le _, rfl, rfl, put_by (by simpa using H5.out)⟩
      case round =>
        clear H5 k0 k1 k2 k3 k4 hk hlt
        obtain ⟨j, a, m, p, hk, rfl, rfl, HB⟩ := hrel
        rename World => wr
        by_cases hlt : j < nw
        · have hx : j < ws.length := by rw [← HN.out.2]; exact hlt
          have HBW := put_by (HA.out.trans (HB.out.1.from.mono HA.out.size))
          have hok := HM.out.writes _ (List.getElem_mem hx)
          obtain ⟨b4, off, rfl, hb, _, cs, ⟨u, v, rfl, hu, hw⟩, hc9⟩ := HI.out.writes.at hx
          obtain ⟨xa, xc, rfl, hxo, -⟩ := id hu
          obtain ⟨ya, yc, rfl, hyo, -⟩ := id hw
          have d0 : wr.cell? ⟨b4, off + j * 3, none⟩ = some (.slice xa (ws[j]).key.length xc) := (HBW.out.cell (p := ⟨b4, off + j * 3, none⟩) hb).trans (by simpa using hc9 0 _ rfl)
          have d1 : wr.cell? ⟨b4, off + j * 3 + 1, none⟩ = some (.slice ya (ws[j]).val.length yc) := (HBW.out.cell (p := ⟨b4, off + j * 3 + 1, none⟩) hb).trans (hc9 1 _ rfl)
          have d2 : wr.cell? ⟨b4, off + j * 3 + 2, none⟩ = some (.bool (ws[j]).gone) := (HBW.out.cell (p := ⟨b4, off + j * 3 + 2, none⟩) hb).trans (hc9 2 _ rfl)
          have HIN : Hid (InL w.heap.size W1 wr.heap.size [.slice xa (ws[j]).key.length xc, .slice ya (ws[j]).val.length yc, .bool (ws[j]).gone] (.slice a m p) m (he ++ (ws.take j).flatMap encWt) (964020 + j * 5209) (wr.alloc (.cells #[.slice xa (ws[j]).key.length xc, .slice ya (ws[j]).val.length yc, .bool (ws[j]).gone] 100))) := InL.start HB.out.1 HB.out.2 #[.slice xa (ws[j]).key.length xc, .slice ya (ws[j]).val.length yc, .bool (ws[j]).gone] _
          have HS : Hid (he ++ (ws.take (j + 1)).flatMap encWt = he ++ (ws.take j).flatMap encWt ++ txt4 (ws[j]).key ++ [flagB (ws[j]).gone] ++ txt4 (ws[j]).val) := by
            rw [take_succ' hx, List.flatMap_append]
            simp [encWt, Hid]
          have cT : Hid (∀ (ta : Option Addr) (tc : Nat) (ts : List Int) (N : Nat), ts.length ≤ N → N ≤ 4000 → Octs w ta tc ts → ∀ (V : World) (a : Option Addr) (m k' : Nat) (xs : List Int) (K : Nat), K ≤ 900000000 → InL w.heap.size W1 wr.heap.size [.slice xa (ws[j]).key.length xc, .slice ya (ws[j]).val.length yc, .bool (ws[j]).gone] (.slice a m k') m xs K V → Calls Try.prog 90 #[.slice a m k', .slice ta ts.length tc] V fun e w' => ∃ (a' : Option Addr) (m' p' : Nat), e = .returned (.slice a' m' p') ∧ w'.cell? ⟨wr.heap.size, 2, none⟩ = some (.bool (ws[j]).gone) ∧ Hid (InL w.heap.size W1 wr.heap.size [.slice xa (ws[j]).key.length xc, .slice ya (ws[j]).val.length yc, .bool (ws[j]).gone] (.slice a' m' p') m' (xs ++ txt4 ts) (K + (N + 4)) w')) := fun ta tc ts N hts hN ho V a m k' xs K hK h => by
            have hV := HA.out.trans (h.told.from.mono HA.out.size)
            refine (tellText_any w.heap.size xs (by have := h.few; omega) a m k' ta tc ts (by omega) V hV.size h.told.len h.told.own (ho.later hV) ho.blocks).mono ?_
            rintro e w' ⟨a', m', p', rfl, h9⟩
            have h8 := h.next h9 (K' := K + (N + 4)) (by have := h.few; rw [List.length_append, txt4_length]; omega)
            exact ⟨a', m', p', rfl, h8.cell 2 _ rfl, h8⟩
          have c1 := put_by (cT.out xa xc (ws[j]).key 1200 hok.2.1 (by omega) hxo)
          have c2 := put_by (cT.out ya yc (ws[j]).val 4000 hok.2.2.1 (by omega) hyo)
          have cG : Hid (∀ V, Calls Try.prog 91 #[.bool (ws[j]).gone] V fun e w' => e = .returned (.int .u8 (flagB (ws[j]).gone)) ∧ V = w') := fun V => (goneByte_any _ V).mono (fun e w' h => ⟨h.1, h.2.symm⟩)
          have HF : Hid (∀ y ∈ [flagB (ws[j]).gone], 0 ≤ y ∧ y ≤ 255) := fun y hy => by rw [List.mem_singleton.1 hy]; exact flagB_byte _
          have ik : (j : Int) < (nw : Int) := by omega
          clear hc9 hu hw hxo hyo HB cT hok
          generalize (ws[j]).key.length = i1 at d0 HIN c1 c2
          generalize (ws[j]).val.length = i2 at d1 HIN c1 c2
          obtain ⟨g, hg⟩ : ∃ g, g = (ws[j]).gone := ⟨_, rfl⟩
          obtain ⟨f, hf⟩ : ∃ f, f = flagB (ws[j]).gone := ⟨_, rfl⟩
          rw [← hf] at HS HF cG
          rw [← hg] at d2 HIN c1 c2 cG
          clear hf hg
          go_wp2_with (first
            | (go_at_call 90; (with_reducible refine (c1.out _ _ _ _ _ _ (by omega) HIN.out).mono ?_); clear c1; rintro e w5 ⟨a5, m5, p5, rfl, k5, H5⟩)
            | (go_at_call 91; (with_reducible refine (cG.out _).mono ?_); rintro e w7 ⟨rfl, rfl⟩)
            | (at_builtin; refine wpList_append_oct_at rfl (.tmp 57) (.tmp 61) rfl w.heap.size (.slice a5 m5 p5) m5 _ rfl (own_stays H5.out.told.own ((Below.refl _ w5).alloc (Nat.le_refl _) _)) (some ⟨w5.heap.size, 0, none⟩) 1 1 [f] rfl rfl (octs_alloc w5 [f] 1 5 (0, 0) _ rfl (by simp) (by simp) HF.out) (by have := H5.out.told.len; have := H5.out.few; omega) (Nat.le_trans (HA.out.trans (H5.out.told.from.mono HA.out.size)).size (by simp)) ?_; intro v' w8 h1 h2 h3; obtain ⟨a8, p8, rfl⟩ := own_val h1; have H8 := put_by (H5.out.next (told_alloc (xs := he ++ (ws.take j).flatMap encWt ++ txt4 (ws[j]).key ++ [f]) h1 (by simp) (by have h9 := H5.out.told.len; rw [List.length_append, ← h9]; rfl) h2 h3) (K' := 964020 + j * 5209 + (1200 + 4) + 1) (by have h9 := H5.out.few; rw [List.length_append]; simp only [List.length_singleton]; omega)); have k8 := H8.out.cell 1 _ rfl; clear h1 h2 h3)
            | (go_at_call 90; (with_reducible refine (c2.out _ _ _ _ _ _ (by omega) H8.out).mono ?_); clear c2; rintro e w6 ⟨a6, m6, p6, rfl, k6, H6⟩))
          go_roundw
          case rel => exact ⟨j + 1, a6, m6, p6, by omega, by go_num, rfl, by rw [HS.out]; exact H6.out.told, by rw [HS.out]; have := H6.out.few; omega⟩
          case measure => simp [intOf]; omega
        · have hjn : j = nw := by omega
          have HT : Hid (EncPost c n s rs ws w (.returned (.slice a m p)) wr) := by
            have h := HB.out.1
            rw [List.take_of_length_le (by rw [← HN.out.2]; omega)] at h
            have e : he ++ ws.flatMap encWt = encI ⟨c, n, s, rs, ws⟩ := by
              rw [HHE.out, HHD.out, encI, HN.out.1, HN.out.2]
              simp
            rw [e] at h
            have hW := HA.out.trans (h.from.mono HA.out.size)
            obtain ⟨a9, p9, e9, o9⟩ := own_octs (xs := encI ⟨c, n, s, rs, ws⟩) h.len rfl (by have := encI_le HM.out; omega) HBY.out h.own
            simp only [Value.slice.injEq] at e9
            obtain ⟨rfl, -, rfl⟩ := e9
            exact ⟨a, m, p, rfl, h.len, o9, own_new h.own, hW⟩
          have ik : ¬ (j : Int) < (nw : Int) := by omega
          clear HB
          go_wp2
          exact HP.out _ _ HT.out

end Go.Proofs.Ytjjdednlddnllaa
