/- The bytes of an intent that may be, by the document: what the reference's intentBytes comes to. -/
import Derived.Test.YtjilcljchdmbjaaItRefTell
import Derived.Test.YtjilcljchdmbjaaItTellI
import Derived.Test.YtjilcljchdmbjaaRegTake
namespace Go.Proofs.Ytjilcljchdmbjaa
open Go.ChangeShapes Go.WideShapes Go.ChangeAt Go.RowKit

set_option maxRecDepth 100000 in
set_option maxHeartbeats 8000000 in
theorem intentBytes_any (ok : Nat → Prop) (c n s : Nat) (rs : List Ent) (ws : List Wt) (ra : Option Addr) (rc : Nat) (wa : Option Addr) (wc : Nat) (w : World) (hI : ItIs ok w rs ws ra rc wa wc) (hM : MayI ⟨c, n, s, rs, ws⟩) :
    Calls Try.prog 20 #[.agg #[.int .i64 c, .int .i64 n, .int .i64 s, .slice ra rs.length rc, .slice wa ws.length wc]] w fun e w' => EncPost c n s rs ws w e w' := by
  generalize hpost : (fun e w' => EncPost c n s rs ws w e w') = R
  have HP : Hid (∀ e w', EncPost c n s rs ws w e w' → R e w') := fun e w' h => by rw [← hpost]; exact h
  have HO : Hid (∀ w', ¬ R .outgrown w') := fun w' hh => by
    rw [← hpost] at hh
    obtain ⟨a, m, k, h, -⟩ := hh
    cases h
  clear hpost
  have hc : c < 4294967296 := by have := hM.client.2; simp only at this; omega
  have hn : n < 4294967296 := by have := hM.number.2; simp only at this; omega
  have hs : s < 4294967296 := by have := hM.base.2; simp only at this; omega
  have HM := put_by hM
  have HI := put_by hI
  have HBY := put_by (hI.bytes c n s)
  obtain ⟨nr, hnr⟩ : ∃ nr, nr = rs.length := ⟨_, rfl⟩
  obtain ⟨nw, hnw⟩ : ∃ nw, nw = ws.length := ⟨_, rfl⟩
  have h4 : nr ≤ 400 := by rw [hnr]; exact hM.few.1
  have h5 : nw ≤ 400 := by rw [hnw]; exact hM.few.2
  rw [← hnr, ← hnw]
  have HN := put_by (And.intro hnr hnw)
  have HA := put_by ((Below.refl w.heap.size w).alloc (Nat.le_refl _) (.cells #[.int .i64 c, .int .i64 n, .int .i64 s, .slice ra nr rc, .slice wa nw wc] 26))
  have HK : Hid (∀ V, Below (w.alloc (.cells #[.int .i64 c, .int .i64 n, .int .i64 s, .slice ra nr rc, .slice wa nw wc] 26)).heap.size (w.alloc (.cells #[.int .i64 c, .int .i64 n, .int .i64 s, .slice ra nr rc, .slice wa nw wc] 26)) V → V.cell? ⟨w.heap.size, 0, none⟩ = some (.int .i64 c) ∧ V.cell? ⟨w.heap.size, 1, none⟩ = some (.int .i64 n) ∧ V.cell? ⟨w.heap.size, 2, none⟩ = some (.int .i64 s) ∧ V.cell? ⟨w.heap.size, 3, none⟩ = some (.slice ra nr rc) ∧ V.cell? ⟨w.heap.size, 4, none⟩ = some (.slice wa nw wc)) := fun V hV => by
    have hb : w.heap.size < (w.alloc (.cells #[.int .i64 c, .int .i64 n, .int .i64 s, .slice ra nr rc, .slice wa nw wc] 26)).heap.size := by simp
    exact ⟨(hV.cell (p := ⟨w.heap.size, 0, none⟩) hb).trans (by simp), (hV.cell (p := ⟨w.heap.size, 1, none⟩) hb).trans (by simp), (hV.cell (p := ⟨w.heap.size, 2, none⟩) hb).trans (by simp), (hV.cell (p := ⟨w.heap.size, 3, none⟩) hb).trans (by simp), (hV.cell (p := ⟨w.heap.size, 4, none⟩) hb).trans (by simp)⟩
  clear hI hM hnr hnw
  go_enter Try.func20, Try.ntmps20
  go_upto_region 2 with (fail)
  generalize w.alloc (.cells #[.int .i64 c, .int .i64 n, .int .i64 s, .slice ra nr rc, .slice wa nw wc] 26) = W1 at HA HK ⊢
  have cL : Hid (∀ (V : World) (q : Nat), q < 4294967296 → Calls Try.prog 39 #[.int .i64 (q : Int)] V fun e w' => e = .returned (.slice (some ⟨V.heap.size, 0, none⟩) 4 4) ∧ Hid (Octs w' (some ⟨V.heap.size, 0, none⟩) 4 (le4 q) ∧ Below V.heap.size V w')) := fun V q hq => (little_new q hq V).mono (fun e w' h => ⟨h.1, h.2⟩)
  have HSZ : Hid (∀ V, Below W1.heap.size W1 V → w.heap.size ≤ V.heap.size) := fun V hV => Nat.le_trans HA.out.size hV.size
  obtain ⟨k0, k1, k2, k3, k4⟩ := HK.out W1 (Below.refl _ _)
  have H0 : Hid (Told w.heap.size W1 W1 (.slice none 0 0) (.slice none 0 0) 0 [] ∧ ([] : List Int).length ≤ 0) := ⟨Told.nil _ _, by simp⟩
  go_wp2_with (first
    | (go_at_call 39; (with_reducible refine (cL.out _ c (by omega)).mono ?_); rintro e u1 ⟨rfl, L1⟩)
    | (at_builtin; refine wpList_append_oct_at rfl (.tmp 8) (.tmp 11) rfl w.heap.size (.slice none 0 0) 0 _ rfl (own_stays H0.out.1.own L1.out.2) (some ⟨W1.heap.size, 0, none⟩) 4 4 (le4 c) rfl rfl L1.out.1 (by have h9 := H0.out.2; have h8 := H0.out.1.len; omega) (Nat.le_trans (HSZ.out _ H0.out.1.from) L1.out.2.size) ?_; intro v' w1 h1 h2 h3; obtain ⟨a1, p1, rfl⟩ := own_val h1; obtain ⟨m1, hm9⟩ : ∃ m9, m9 = 0 + 4 := ⟨_, rfl⟩; rw [← hm9] at h1; rw [← hm9]; have H1 : Hid (Told w.heap.size W1 w1 (.slice none 0 0) (.slice a1 m1 p1) m1 (([] : List Int) ++ le4 c) ∧ (([] : List Int) ++ le4 c).length ≤ 0 + 4) := put_by ⟨H0.out.1.trans (told_later L1.out.2 (by rw [hm9]; rw [hm9] at h1; exact h1) (by simp) (by rw [hm9, List.length_append, le4_length, ← H0.out.1.len]) h2 (by rw [hm9]; exact h3)), by have h9 := H0.out.2; rw [List.length_append, le4_length]; omega⟩; obtain ⟨k0, k1, k2, k3, k4⟩ := HK.out _ H1.out.1.from; clear h1 h2 h3 L1 hm9)
    | (go_at_call 39; (with_reducible refine (cL.out _ n (by omega)).mono ?_); rintro e u2 ⟨rfl, L2⟩)
    | (at_builtin; refine wpList_append_oct_at rfl (.tmp 13) (.tmp 16) rfl w.heap.size (.slice a1 m1 p1) m1 _ rfl (own_stays H1.out.1.own L2.out.2) (some ⟨w1.heap.size, 0, none⟩) 4 4 (le4 n) rfl rfl L2.out.1 (by have h9 := H1.out.2; have h8 := H1.out.1.len; omega) (Nat.le_trans (HSZ.out _ H1.out.1.from) L2.out.2.size) ?_; intro v' w2 h1 h2 h3; obtain ⟨a2, p2, rfl⟩ := own_val h1; obtain ⟨m2, hm9⟩ : ∃ m9, m9 = m1 + 4 := ⟨_, rfl⟩; rw [← hm9] at h1; rw [← hm9]; have H2 : Hid (Told w.heap.size W1 w2 (.slice none 0 0) (.slice a2 m2 p2) m2 ((([] : List Int) ++ le4 c) ++ le4 n) ∧ ((([] : List Int) ++ le4 c) ++ le4 n).length ≤ 4 + 4) := put_by ⟨H1.out.1.trans (told_later L2.out.2 (by rw [hm9]; rw [hm9] at h1; exact h1) (by simp) (by rw [hm9, List.length_append, le4_length, ← H1.out.1.len]) h2 (by rw [hm9]; exact h3)), by have h9 := H1.out.2; rw [List.length_append, le4_length]; omega⟩; obtain ⟨k0, k1, k2, k3, k4⟩ := HK.out _ H2.out.1.from; clear h1 h2 h3 L2 hm9)
    | (go_at_call 39; (with_reducible refine (cL.out _ s (by omega)).mono ?_); rintro e u3 ⟨rfl, L3⟩)
    | (at_builtin; refine wpList_append_oct_at rfl (.tmp 18) (.tmp 21) rfl w.heap.size (.slice a2 m2 p2) m2 _ rfl (own_stays H2.out.1.own L3.out.2) (some ⟨w2.heap.size, 0, none⟩) 4 4 (le4 s) rfl rfl L3.out.1 (by have h9 := H2.out.2; have h8 := H2.out.1.len; omega) (Nat.le_trans (HSZ.out _ H2.out.1.from) L3.out.2.size) ?_; intro v' w3 h1 h2 h3; obtain ⟨a3, p3, rfl⟩ := own_val h1; obtain ⟨m3, hm9⟩ : ∃ m9, m9 = m2 + 4 := ⟨_, rfl⟩; rw [← hm9] at h1; rw [← hm9]; have H3 : Hid (Told w.heap.size W1 w3 (.slice none 0 0) (.slice a3 m3 p3) m3 (((([] : List Int) ++ le4 c) ++ le4 n) ++ le4 s) ∧ (((([] : List Int) ++ le4 c) ++ le4 n) ++ le4 s).length ≤ 8 + 4) := put_by ⟨H2.out.1.trans (told_later L3.out.2 (by rw [hm9]; rw [hm9] at h1; exact h1) (by simp) (by rw [hm9, List.length_append, le4_length, ← H2.out.1.len]) h2 (by rw [hm9]; exact h3)), by have h9 := H2.out.2; rw [List.length_append, le4_length]; omega⟩; obtain ⟨k0, k1, k2, k3, k4⟩ := HK.out _ H3.out.1.from; clear h1 h2 h3 L3 hm9)
    | (go_at_call 39; (with_reducible refine (cL.out _ nr (by omega)).mono ?_); rintro e u4 ⟨rfl, L4⟩)
    | (at_builtin; refine wpList_append_oct_at rfl (.tmp 23) (.tmp 27) rfl w.heap.size (.slice a3 m3 p3) m3 _ rfl (own_stays H3.out.1.own L4.out.2) (some ⟨w3.heap.size, 0, none⟩) 4 4 (le4 nr) rfl rfl L4.out.1 (by have h9 := H3.out.2; have h8 := H3.out.1.len; omega) (Nat.le_trans (HSZ.out _ H3.out.1.from) L4.out.2.size) ?_; intro v' w4 h1 h2 h3; obtain ⟨a4, p4, rfl⟩ := own_val h1; obtain ⟨m4, hm9⟩ : ∃ m9, m9 = m3 + 4 := ⟨_, rfl⟩; rw [← hm9] at h1; rw [← hm9]; have H4 : Hid (Told w.heap.size W1 w4 (.slice none 0 0) (.slice a4 m4 p4) m4 ((((([] : List Int) ++ le4 c) ++ le4 n) ++ le4 s) ++ le4 nr) ∧ ((((([] : List Int) ++ le4 c) ++ le4 n) ++ le4 s) ++ le4 nr).length ≤ 12 + 4) := put_by ⟨H3.out.1.trans (told_later L4.out.2 (by rw [hm9]; rw [hm9] at h1; exact h1) (by simp) (by rw [hm9, List.length_append, le4_length, ← H3.out.1.len]) h2 (by rw [hm9]; exact h3)), by have h9 := H3.out.2; rw [List.length_append, le4_length]; omega⟩; obtain ⟨k0, k1, k2, k3, k4⟩ := HK.out _ H4.out.1.from; clear h1 h2 h3 L4 hm9))
  obtain ⟨hd, hhd⟩ : ∃ hd, hd = [] ++ le4 c ++ le4 n ++ le4 s ++ le4 nr := ⟨_, rfl⟩
  rw [← hhd] at H4
  have HHD := put_by hhd
  clear hhd H0 H1 H2 H3
  go_loopw [3, 32] (fun b i wr => ∃ (k : Nat) (a : Option Addr) (m p : Nat), k ≤ nr ∧ i = .int .i64 k ∧ b = .slice a m p ∧ Hid (Told w.heap.size W1 wr (.slice none 0 0) (.slice a m p) m (hd ++ (rs.take k).flatMap encRd) ∧ (hd ++ (rs.take k).flatMap encRd).length ≤ 16 + k * 2410)) (fun _ i _ => nr - (intOf i).toNat)
  case atStart => exact ⟨0, a4, m4, p4, Nat.zero_le _, rfl, rfl, put_by (by simpa using H4.out)⟩
  case round =>
    clear H4 k0 k1 k2 k3 k4
    obtain ⟨k, a, m, p, hk, rfl, rfl, HB⟩ := hrel
    rename World => wr
    by_cases hlt : k < nr
    · have hx : k < rs.length := by rw [← HN.out.1]; exact hlt
      have HBW := put_by (HA.out.trans (HB.out.1.from.mono HA.out.size))
      have hok := HM.out.reads _ (List.getElem_mem hx)
      obtain ⟨b4, off, rfl, hb, _, cs, ⟨u, v, rfl, hu, hw⟩, hc9⟩ := HI.out.reads.at hx
      obtain ⟨xa, xc, rfl, hxo, -⟩ := id hu
      obtain ⟨ya, yc, rfl, hyo, -⟩ := id hw
      have d0 : wr.cell? ⟨b4, off + k * 2, none⟩ = some (.slice xa (rs[k]).1.length xc) := (HBW.out.cell (p := ⟨b4, off + k * 2, none⟩) hb).trans (by simpa using hc9 0 _ rfl)
      have d1 : wr.cell? ⟨b4, off + k * 2 + 1, none⟩ = some (.slice ya (rs[k]).2.length yc) := (HBW.out.cell (p := ⟨b4, off + k * 2 + 1, none⟩) hb).trans (hc9 1 _ rfl)
      have HIN : Hid (InL w.heap.size W1 wr.heap.size [.slice xa (rs[k]).1.length xc, .slice ya (rs[k]).2.length yc] (.slice a m p) m (hd ++ (rs.take k).flatMap encRd) (16 + k * 2410) (wr.alloc (.cells #[.slice xa (rs[k]).1.length xc, .slice ya (rs[k]).2.length yc] 49))) := InL.start HB.out.1 HB.out.2 #[.slice xa (rs[k]).1.length xc, .slice ya (rs[k]).2.length yc] _
      have HS : Hid (hd ++ (rs.take (k + 1)).flatMap encRd = hd ++ (rs.take k).flatMap encRd ++ txt4 (rs[k]).1 ++ txt4 (rs[k]).2) := by
        rw [take_succ' hx, List.flatMap_append]
        simp [encRd, Hid]
      have cT : Hid (∀ (ta : Option Addr) (tc : Nat) (ts : List Int), ts.length ≤ 1201 → Octs w ta tc ts → ∀ (V : World) (a : Option Addr) (m k' : Nat) (xs : List Int) (K : Nat), K ≤ 900000000 → InL w.heap.size W1 wr.heap.size [.slice xa (rs[k]).1.length xc, .slice ya (rs[k]).2.length yc] (.slice a m k') m xs K V → Calls Try.prog 40 #[.slice a m k', .slice ta ts.length tc] V fun e w' => ∃ (a' : Option Addr) (m' p' : Nat), e = .returned (.slice a' m' p') ∧ (w'.cell? ⟨wr.heap.size, 0, none⟩ = some (.slice xa (rs[k]).1.length xc) ∧ w'.cell? ⟨wr.heap.size, 1, none⟩ = some (.slice ya (rs[k]).2.length yc)) ∧ Hid (InL w.heap.size W1 wr.heap.size [.slice xa (rs[k]).1.length xc, .slice ya (rs[k]).2.length yc] (.slice a' m' p') m' (xs ++ txt4 ts) (K + 1205) w')) := fun ta tc ts hts ho V a m k' xs K hK h => by
        have hV := HA.out.trans (h.told.from.mono HA.out.size)
        refine (withText_any w.heap.size xs (by have := h.few; omega) a m k' ta tc ts (by omega) V hV.size h.told.len h.told.own (ho.later hV) ho.blocks).mono ?_
        rintro e w' ⟨a', m', p', rfl, h9⟩
        have h8 := h.next h9 (K' := K + 1205) (by have := h.few; rw [List.length_append, txt4_length]; omega)
        exact ⟨a', m', p', rfl, ⟨h8.cell 0 _ rfl, h8.cell 1 _ rfl⟩, h8⟩
      have c1 := put_by (cT.out xa xc (rs[k]).1 hok.1 hxo)
      have c2 := put_by (cT.out ya yc (rs[k]).2 hok.2 hyo)
      have ik : (k : Int) < (nr : Int) := by omega
      clear hc9 hu hw hxo hyo HB cT hok
      generalize (rs[k]).1.length = i1 at d0 HIN c1 c2
      generalize (rs[k]).2.length = i2 at d1 HIN c1 c2
      go_upto_region 9 with (fail)
      generalize wr.alloc (.cells #[.slice xa i1 xc, .slice ya i2 yc] 49) = W0 at HIN ⊢
      have HIN2 := put_by (HIN.out.later (Below.refl W0.heap.size W0).drew)
      have l0 := HIN.out.cell 0 _ rfl
      have l1 := HIN.out.cell 1 _ rfl
      go_region_held3 (fun V => V.cell? ⟨wr.heap.size, 0, none⟩ = some (.slice xa i1 xc) ∧ V.cell? ⟨wr.heap.size, 1, none⟩ = some (.slice ya i2 yc)) (go_keep) (first
        | (go_at_call 40; (with_reducible refine (c1.out _ _ _ _ _ _ (by omega) HIN2.out).mono ?_); clear c1; rintro e w5 ⟨a5, m5, p5, rfl, ⟨j0, j1⟩, H5⟩)
        | (go_at_call 40; (with_reducible refine (c2.out _ _ _ _ _ _ (by omega) H5.out).mono ?_); clear c2; rintro e w6 ⟨a6, m6, p6, rfl, ⟨n0, n1⟩, H6⟩))
      go_wp2
      go_roundw
      case rel => exact ⟨k + 1, a6, m6, p6, by omega, by go_num, rfl, by rw [HS.out]; exact H6.out.told, by rw [HS.out]; have := H6.out.few; omega⟩
      case measure => simp [intOf]; omega
    · obtain rfl : k = nr := by omega
      have HT : Hid (Told w.heap.size W1 wr (.slice none 0 0) (.slice a m p) m (hd ++ rs.flatMap encRd) ∧ (hd ++ rs.flatMap encRd).length ≤ 964016) := by
        have h := HB.out
        rw [List.take_of_length_le (by rw [← HN.out.1]; exact Nat.le_refl _)] at h
        exact ⟨h.1, by have := h.2; omega⟩
      obtain ⟨k0, k1, k2, k3, k4⟩ := HK.out wr HB.out.1.from
      clear HB
      go_wp2_with (first
        | (go_at_call 39; (with_reducible refine (cL.out _ nw (by omega)).mono ?_); rintro e u5 ⟨rfl, L5⟩)
        | (at_builtin; refine wpList_append_oct_at rfl (.tmp 44) (.tmp 48) rfl w.heap.size (.slice a m p) m _ rfl (own_stays HT.out.1.own L5.out.2) (some ⟨wr.heap.size, 0, none⟩) 4 4 (le4 nw) rfl rfl L5.out.1 (by have h9 := HT.out.2; have h8 := HT.out.1.len; omega) (Nat.le_trans (HSZ.out _ HT.out.1.from) L5.out.2.size) ?_; intro v' w5 h1 h2 h3; obtain ⟨a5, p5, rfl⟩ := own_val h1; obtain ⟨m5, hm9⟩ : ∃ m9, m9 = m + 4 := ⟨_, rfl⟩; rw [← hm9] at h1; rw [← hm9]; have H5 : Hid (Told w.heap.size W1 w5 (.slice none 0 0) (.slice a5 m5 p5) m5 ((hd ++ rs.flatMap encRd) ++ le4 nw) ∧ ((hd ++ rs.flatMap encRd) ++ le4 nw).length ≤ 964016 + 4) := put_by ⟨HT.out.1.trans (told_later L5.out.2 (by rw [hm9]; rw [hm9] at h1; exact h1) (by simp) (by rw [hm9, List.length_append, le4_length, ← HT.out.1.len]) h2 (by rw [hm9]; exact h3)), by have h9 := HT.out.2; rw [List.length_append, le4_length]; omega⟩; obtain ⟨k0, k1, k2, k3, k4⟩ := HK.out _ H5.out.1.from; clear h1 h2 h3 L5 hm9))
      obtain ⟨he, hhe⟩ : ∃ he, he = hd ++ rs.flatMap encRd ++ le4 nw := ⟨_, rfl⟩
      rw [← hhe] at H5
      have HHE := put_by hhe
      clear hhe HT
      go_loopw [3, 53] (fun b i wr => ∃ (k : Nat) (a : Option Addr) (m p : Nat), k ≤ nw ∧ i = .int .i64 k ∧ b = .slice a m p ∧ Hid (Told w.heap.size W1 wr (.slice none 0 0) (.slice a m p) m (he ++ (ws.take k).flatMap encWt) ∧ (he ++ (ws.take k).flatMap encWt).length ≤ 964020 + k * 5209)) (fun _ i _ => nw - (intOf i).toNat)
      case atStart => exact ⟨0, a5, m5, p5, Nat.zero_le _, rfl, rfl, put_by (by simpa using H5.out)⟩
      case round =>
        clear H5 k0 k1 k2 k3 k4 hk hlt
        obtain ⟨j, a, m, p, hk, rfl, rfl, HB⟩ := hrel
        rename World => wr
        by_cases hlt : j < nw
        · have hx : j < ws.length := by rw [← HN.out.2]; exact hlt
          have HBW := put_by (HA.out.trans (HB.out.1.from.mono HA.out.size))
          have hok := HM.out.writes _ (List.getElem_mem hx)
          obtain ⟨b4, off, rfl, hb, _, cs, ⟨u, v, rfl, hu, hw⟩, hc9⟩ := HI.out.writes.at hx
          obtain ⟨xa, xc, rfl, hxo, -⟩ := id hu
          obtain ⟨ya, yc, rfl, hyo, -⟩ := id hw
          have d0 : wr.cell? ⟨b4, off + j * 3, none⟩ = some (.slice xa (ws[j]).key.length xc) := (HBW.out.cell (p := ⟨b4, off + j * 3, none⟩) hb).trans (by simpa using hc9 0 _ rfl)
          have d1 : wr.cell? ⟨b4, off + j * 3 + 1, none⟩ = some (.slice ya (ws[j]).val.length yc) := (HBW.out.cell (p := ⟨b4, off + j * 3 + 1, none⟩) hb).trans (hc9 1 _ rfl)
          have d2 : wr.cell? ⟨b4, off + j * 3 + 2, none⟩ = some (.bool (ws[j]).gone) := (HBW.out.cell (p := ⟨b4, off + j * 3 + 2, none⟩) hb).trans (hc9 2 _ rfl)
          have HIN : Hid (InL w.heap.size W1 wr.heap.size [.slice xa (ws[j]).key.length xc, .slice ya (ws[j]).val.length yc, .bool (ws[j]).gone] (.slice a m p) m (he ++ (ws.take j).flatMap encWt) (964020 + j * 5209) (wr.alloc (.cells #[.slice xa (ws[j]).key.length xc, .slice ya (ws[j]).val.length yc, .bool (ws[j]).gone] 43))) := InL.start HB.out.1 HB.out.2 #[.slice xa (ws[j]).key.length xc, .slice ya (ws[j]).val.length yc, .bool (ws[j]).gone] _
          have HS : Hid (he ++ (ws.take (j + 1)).flatMap encWt = he ++ (ws.take j).flatMap encWt ++ txt4 (ws[j]).key ++ [flagB (ws[j]).gone] ++ txt4 (ws[j]).val) := by
            rw [take_succ' hx, List.flatMap_append]
            simp [encWt, Hid]
          have cT : Hid (∀ (ta : Option Addr) (tc : Nat) (ts : List Int) (N : Nat), ts.length ≤ N → N ≤ 4000 → Octs w ta tc ts → ∀ (V : World) (a : Option Addr) (m k' : Nat) (xs : List Int) (K : Nat), K ≤ 900000000 → InL w.heap.size W1 wr.heap.size [.slice xa (ws[j]).key.length xc, .slice ya (ws[j]).val.length yc, .bool (ws[j]).gone] (.slice a m k') m xs K V → Calls Try.prog 40 #[.slice a m k', .slice ta ts.length tc] V fun e w' => ∃ (a' : Option Addr) (m' p' : Nat), e = .returned (.slice a' m' p') ∧ Told w.heap.size V w' (.slice a m k') (.slice a' m' p') m' (xs ++ txt4 ts) ∧ Hid (InL w.heap.size W1 wr.heap.size [.slice xa (ws[j]).key.length xc, .slice ya (ws[j]).val.length yc, .bool (ws[j]).gone] (.slice a' m' p') m' (xs ++ txt4 ts) (K + (N + 4)) w')) := fun ta tc ts N hts hN ho V a m k' xs K hK h => by
            have hV := HA.out.trans (h.told.from.mono HA.out.size)
            refine (withText_any w.heap.size xs (by have := h.few; omega) a m k' ta tc ts (by omega) V hV.size h.told.len h.told.own (ho.later hV) ho.blocks).mono ?_
            rintro e w' ⟨a', m', p', rfl, h9⟩
            have h8 := h.next h9 (K' := K + (N + 4)) (by have := h.few; rw [List.length_append, txt4_length]; omega)
            exact ⟨a', m', p', rfl, h9, h8⟩
          have c1 := put_by (cT.out xa xc (ws[j]).key 1200 hok.2.1 (by omega) hxo)
          have c2 := put_by (cT.out ya yc (ws[j]).val 4000 hok.2.2.1 (by omega) hyo)
          have cG : Hid (∀ V, Calls Try.prog 41 #[.bool (ws[j]).gone] V fun e w' => e = .returned (.int .i64 (flagB (ws[j]).gone)) ∧ V = w') := fun V => flag_any _ V
          have HF : Hid (∀ y ∈ [flagB (ws[j]).gone], 0 ≤ y ∧ y ≤ 255) := fun y hy => by rw [List.mem_singleton.1 hy]; exact flagB_byte _
          have ik : (j : Int) < (nw : Int) := by omega
          clear hc9 hu hw hxo hyo HB cT hok
          generalize (ws[j]).key.length = i1 at d0 HIN c1 c2
          generalize (ws[j]).val.length = i2 at d1 HIN c1 c2
          obtain ⟨g, hg⟩ : ∃ g, g = (ws[j]).gone := ⟨_, rfl⟩
          obtain ⟨f, hf⟩ : ∃ f, f = flagB (ws[j]).gone := ⟨_, rfl⟩
          rw [← hf] at HS HF cG
          rw [← hg] at d2 HIN c1 c2 cG
          clear hf hg
          have hwf : IntKind.u8.wrap f = f := by have h9 := HF.out f (by simp); rw [IntKind.wrap_u8]; omega
          go_upto_region 15 with (fail)
          generalize wr.alloc (.cells #[.slice xa i1 xc, .slice ya i2 yc, .bool g] 43) = W0 at HIN ⊢
          replace HIN := put_by (HIN.out.later (Below.refl W0.heap.size W0).drew)
          have bx : W0.drew.cell? ⟨wr.heap.size, 0, none⟩ = some (.slice xa i1 xc) ∧ W0.drew.cell? ⟨wr.heap.size, 1, none⟩ = some (.slice ya i2 yc) ∧ W0.drew.cell? ⟨wr.heap.size, 2, none⟩ = some (.bool g) := ⟨HIN.out.cell 0 _ rfl, HIN.out.cell 1 _ rfl, HIN.out.cell 2 _ rfl⟩
          obtain ⟨WD, hWD⟩ : ∃ WD, WD = W0.drew := ⟨_, rfl⟩
          refine wp_region_held (S := fun V => V.cell? ⟨wr.heap.size, 0, none⟩ = some (.slice xa i1 xc) ∧ V.cell? ⟨wr.heap.size, 1, none⟩ = some (.slice ya i2 yc) ∧ V.cell? ⟨wr.heap.size, 2, none⟩ = some (.bool g)) (by kernel_rfl) ?_
          change wpAnyH _ _ _ _ _ 11 #[false, false, false, false, false, false, false, false, false, false, false] _ W0.drew
          rw [← hWD] at HIN bx ⊢
          clear hWD
          refine takeH (i := 0) 57 (v := .slice a m p) rfl rfl (by kernel_rfl) (by kernel_rfl) (by kernel_rfl) (fun _ _ _ h => h) (Or.inl ⟨by kernel_rfl, ?_⟩) bx ?_
          · intro wq hq
            obtain ⟨q0, q1, q2⟩ := hq
            go_simp
          simp only [Act.put, List.setIfInBounds_toArray, List.set_cons_zero]
          refine takeH (i := 1) 58 (v := .pointer (some ⟨wr.heap.size, 0, none⟩)) rfl rfl (by kernel_rfl) (by kernel_rfl) (by kernel_rfl) (fun _ _ _ h => h) (Or.inl ⟨by kernel_rfl, ?_⟩) bx ?_
          · intro wq hq
            obtain ⟨q0, q1, q2⟩ := hq
            go_simp
          simp only [Act.put, List.setIfInBounds_toArray, List.set_cons_zero, List.set_cons_succ]
          refine takeH (i := 2) 59 (v := .slice xa i1 xc) rfl rfl (by kernel_rfl) (by kernel_rfl) (by kernel_rfl) (fun _ _ _ h => h) (Or.inl ⟨by kernel_rfl, ?_⟩) bx ?_
          · intro wq hq
            obtain ⟨q0, q1, q2⟩ := hq
            go_simp
          simp only [Act.put, List.setIfInBounds_toArray, List.set_cons_zero, List.set_cons_succ]
          refine takeH (i := 4) 61 (v := .pointer (some ⟨wr.heap.size, 2, none⟩)) rfl rfl (by kernel_rfl) (by kernel_rfl) (by kernel_rfl) (fun _ _ _ h => h) (Or.inl ⟨by kernel_rfl, ?_⟩) bx ?_
          · intro wq hq
            obtain ⟨q0, q1, q2⟩ := hq
            go_simp
          simp only [Act.put, List.setIfInBounds_toArray, List.set_cons_zero, List.set_cons_succ]
          refine takeH (i := 5) 62 (v := .bool g) rfl rfl (by kernel_rfl) (by kernel_rfl) (by kernel_rfl) (fun _ _ _ h => h) (Or.inl ⟨by kernel_rfl, ?_⟩) bx ?_
          · intro wq hq
            obtain ⟨q0, q1, q2⟩ := hq
            go_simp
          simp only [Act.put, List.setIfInBounds_toArray, List.set_cons_zero, List.set_cons_succ]
          refine wpAnyH_ready (rs := [3]) (by kernel_rfl) (by simp) ?_
          refine AllReadyH.cons rfl (fun K1 hK1 => ?_) AllReadyH.nil
          rw [if_pos (by kernel_rfl)]
          unfold Oper.wp
          go_simp
          go_wp2_with (go_at_call 40; refine (c1.out _ _ _ _ _ _ (by omega) HIN.out).mono ?_; rintro e w5 ⟨a5, m5, p5, rfl, T5, H5⟩)
          refine hK1.out _ _ ⟨H5.out.cell 0 _ rfl, H5.out.cell 1 _ rfl, H5.out.cell 2 _ rfl⟩ (fun _ => ?_)
          simp only [List.setIfInBounds_toArray, List.set_cons_zero, List.set_cons_succ]
          refine wpAnyH_ready (rs := [6]) (by kernel_rfl) (by simp) ?_
          refine AllReadyH.cons rfl (fun K3 hK3 => ?_) AllReadyH.nil
          rw [if_pos (by kernel_rfl)]
          unfold Oper.wp
          go_simp
          go_wp2_with (go_at_call 41; refine (cG.out _).mono ?_; rintro e w7 ⟨rfl, rfl⟩)
          refine hK3.out _ _ ⟨H5.out.cell 0 _ rfl, H5.out.cell 1 _ rfl, H5.out.cell 2 _ rfl⟩ (fun _ => ?_)
          simp only [List.setIfInBounds_toArray, List.set_cons_zero, List.set_cons_succ]
          refine takeH (i := 7) 64 (v := .int .u8 f) rfl rfl (by kernel_rfl) (by kernel_rfl) (by kernel_rfl) (fun _ _ _ h => h) (Or.inl ⟨by kernel_rfl, ?_⟩) ⟨H5.out.cell 0 _ rfl, H5.out.cell 1 _ rfl, H5.out.cell 2 _ rfl⟩ ?_
          · intro wq hq
            obtain ⟨q0, q1, q2⟩ := hq
            go_simp
          simp only [Act.put, List.setIfInBounds_toArray, List.set_cons_zero, List.set_cons_succ]
          refine wpAnyH_ready (rs := [8]) (by kernel_rfl) (by simp) ?_
          refine AllReadyH.cons rfl (fun K4 hK4 => ?_) AllReadyH.nil
          have HAL := put_by (H5.out.later ((Below.refl w5.heap.size w5).alloc (Nat.le_refl _) (.cells #[.int .u8 f] 5)))
          rw [if_pos (by kernel_rfl)]
          unfold Oper.wp
          go_simp
          refine hK4.out _ _ ⟨HAL.out.cell 0 _ rfl, HAL.out.cell 1 _ rfl, HAL.out.cell 2 _ rfl⟩ (fun _ => ?_)
          simp only [List.setIfInBounds_toArray, List.set_cons_zero, List.set_cons_succ]
          have HSW := HSZ.out _ HAL.out.told.from
          refine wpAnyH_ready (rs := [9]) (by kernel_rfl) (by simp) ?_
          refine AllReadyH.cons rfl (fun K5 hK5 => ?_) AllReadyH.nil
          rw [if_pos (by kernel_rfl)]
          refine wp_of_list rfl (by rintro ⟨_, _, hh⟩; exact HO.out _ hh) (wpList_append_oct_at rfl (.tmp 60) (.tmp 65) rfl w.heap.size (.slice a5 m5 p5) m5 _ rfl HAL.out.told.own (some ⟨w5.heap.size, 0, none⟩) 1 1 [f] rfl rfl (octs_alloc w5 [f] 1 5 (0, 0) _ rfl (by simp) (by simp) HF.out) (by have := H5.out.told.len; have := H5.out.few; omega) HSW ?_)
          intro v' w8 h1 h2 h3
          obtain ⟨a8, p8, rfl⟩ := own_val h1
          have H8 := put_by (H5.out.next (told_alloc (xs := he ++ (ws.take j).flatMap encWt ++ txt4 (ws[j]).key ++ [f]) h1 (by simp) (by have h9 := H5.out.told.len; rw [List.length_append, ← h9]; rfl) h2 h3) (K' := 964020 + j * 5209 + (1200 + 4) + 1) (by have h9 := H5.out.few; rw [List.length_append]; simp only [List.length_singleton]; omega))
          clear h1 h2 h3
          refine list_end ?_
          refine hK5.out _ _ ⟨H8.out.cell 0 _ rfl, H8.out.cell 1 _ rfl, H8.out.cell 2 _ rfl⟩ (fun _ => ?_)
          simp only [Act.put, List.setIfInBounds_toArray, List.set_cons_zero, List.set_cons_succ]
          refine takeH (i := 10) 3 (v := .slice a8 (m5 + 1) p8) rfl rfl (by kernel_rfl) (by kernel_rfl) (by kernel_rfl) (fun _ _ _ h => h) (Or.inl ⟨by kernel_rfl, ?_⟩) ⟨H8.out.cell 0 _ rfl, H8.out.cell 1 _ rfl, H8.out.cell 2 _ rfl⟩ ?_
          · intro wq hq
            go_simp
          simp only [Act.put, List.setIfInBounds_toArray, List.set_cons_zero, List.set_cons_succ]
          refine wpAnyH_done (by kernel_rfl) ?_ _
          have k8 := H8.out.cell 1 _ rfl
          go_wp2_with (first
            | (go_at_call 40; (with_reducible refine (c2.out _ _ _ _ _ _ (by omega) H8.out).mono ?_); clear c2; rintro e w6 ⟨a6, m6, p6, rfl, T6, H6⟩))
          go_roundw
          case rel => exact ⟨j + 1, a6, m6, p6, by omega, by go_num, rfl, by rw [HS.out]; exact H6.out.told, by rw [HS.out]; have := H6.out.few; omega⟩
          case measure => simp [intOf]; omega
        · have hjn : j = nw := by omega
          have HT : Hid (EncPost c n s rs ws w (.returned (.slice a m p)) wr) := by
            have h := HB.out.1
            rw [List.take_of_length_le (by rw [← HN.out.2]; omega)] at h
            have e : he ++ ws.flatMap encWt = encI ⟨c, n, s, rs, ws⟩ := by
              rw [HHE.out, HHD.out, encI, HN.out.1, HN.out.2]
              simp
            rw [e] at h
            have hW := HA.out.trans (h.from.mono HA.out.size)
            obtain ⟨a9, p9, e9, o9⟩ := own_octs (xs := encI ⟨c, n, s, rs, ws⟩) h.len rfl (by have := encI_le HM.out; omega) HBY.out h.own
            simp only [Value.slice.injEq] at e9
            obtain ⟨rfl, -, rfl⟩ := e9
            exact ⟨a, m, p, rfl, h.len, o9, own_new h.own, hW⟩
          have ik : ¬ (j : Int) < (nw : Int) := by omega
          clear HB
          go_wp2
          exact HP.out _ _ HT.out

end Go.Proofs.Ytjilcljchdmbjaa
