/- Whether a key lies in a range, and what lies in it: within, piece. -/
import Derived.Test.YtjjdednlddnllabReadsP
import Derived.Test.YtjjdednlddnllabLessBytes
import Derived.Test.YtjjdednlddnllabMlSnap
namespace Go.Proofs.Ytjjdednlddnllab
open Go.ChangeShapes Go.WideShapes Go.ChangeAt Go.RowKit

set_option maxRecDepth 100000 in
set_option maxHeartbeats 1000000 in
theorem withinK_any (ok1 ok2 ok3 : Nat → Prop) (k lo hi : Value) (ks ls hs : List Int) (w : World) (hk : IsBody w ok1 k ks) (hl : IsBody w ok2 lo ls) (hh : IsBody w ok3 hi hs) :
    Calls Try.prog 13 #[k, .agg #[lo, hi]] w fun e w' => e = .returned (.bool (inRng ks (ls, hs))) ∧ Below w.heap.size w w' := by
  obtain ⟨ka, kc, rfl, ko, -⟩ := hk
  obtain ⟨a1, c1, rfl, o1, -⟩ := hl
  obtain ⟨a2, c2, rfl, o2, -⟩ := hh
  have hb : Below w.heap.size w (w.alloc (.cells #[.slice a1 ls.length c1, .slice a2 hs.length c2] 41)) := (Below.refl _ w).alloc (Nat.le_refl _) _
  have HV := put_by (Cls.new w [.slice a1 ls.length c1, .slice a2 hs.length c2] 41)
  have cL : Hid (∀ V, Below w.heap.size w V → Calls Try.prog 29 #[.slice ka ks.length kc, .slice a1 ls.length c1] V fun e w' => e = .returned (.bool (ahead ks ls)) ∧ Hid (Below V.heap.size V w')) := fun V hV => lessBytes_any ka a1 kc c1 ks ls V (ko.later hV) (o1.later hV)
  have cH : Hid (∀ V, Below w.heap.size w V → Calls Try.prog 29 #[.slice ka ks.length kc, .slice a2 hs.length c2] V fun e w' => e = .returned (.bool (ahead ks hs)) ∧ Hid (Below V.heap.size V w')) := fun V hV => lessBytes_any ka a2 kc c2 ks hs V (ko.later hV) (o2.later hV)
  have HB := put_by hb
  have HP : Hid (inRng ks (ls, hs) = (!ahead ks ls && ahead ks hs)) := rfl
  clear ko o1 o2 hb
  generalize inRng ks (ls, hs) = r at HP ⊢
  generalize ks.length = n at cL cH ⊢
  generalize ls.length = n1 at HV HB cL ⊢
  generalize hs.length = n2 at HV HB cH ⊢
  go_enter Try.func13, Try.ntmps13
  go_upto_region 1 with (fail)
  generalize w.alloc (.cells #[.slice a1 n1 c1, .slice a2 n2 c2] _) = W at HV HB ⊢
  obtain ⟨x0, -⟩ := HV.out 0 _ rfl
  obtain ⟨t1, ht1⟩ : ∃ t, t = ahead ks ls := ⟨_, rfl⟩
  obtain ⟨t2, ht2⟩ : ∃ t, t = ahead ks hs := ⟨_, rfl⟩
  rw [← ht1] at cL HP
  rw [← ht2] at cH HP
  clear ht1 ht2
  cases t1 with
  | true =>
    go_wp2_with (first
      | (go_at_call 29; (with_reducible refine (cL.out _ HB.out).mono ?_); clear cL; rintro e w1 ⟨rfl, H1⟩))
    go_ret
    exact ⟨by rw [HP.out]; simp, HB.out.trans (H1.out.mono HB.out.size)⟩
  | false =>
    go_wp2_with (first
      | (go_at_call 29; (with_reducible refine (cL.out _ HB.out).mono ?_); clear cL; rintro e w1 ⟨rfl, H1⟩; have H1b := put_by (HB.out.trans (H1.out.mono HB.out.size)); obtain ⟨x1, -⟩ := (HV.out.later H1.out) 1 _ rfl)
      | (go_at_call 29; (with_reducible refine (cH.out _ H1b.out).mono ?_); clear cH; rintro e w2 ⟨rfl, H2⟩))
    go_ret
    exact ⟨by rw [HP.out]; simp, H1b.out.trans (H2.out.mono H1b.out.size)⟩

/-- what lies in a range -/
def PiPost (l : List Ent) (w : World) (e : Ending) (w' : World) : Prop := ∃ (a : Option Addr) (n c : Nat), e = .returned (.slice a n c) ∧ n = l.length ∧ Lies kEnt (fun _ => True) w' a c l ∧ Below w.heap.size w w'

set_option maxRecDepth 100000 in
set_option maxHeartbeats 2000000 in
theorem piece_any (ok ok2 ok3 : Nat → Prop) (l : List Ent) (hlen : l.length * 48 ≤ 140737488351232) (la : Option Addr) (lc : Nat) (lo hi : Value) (ls hs : List Int) (w : World) (hL : Lies kEnt ok w la lc l) (hl : IsBody w ok2 lo ls) (hh : IsBody w ok3 hi hs) :
    Calls Try.prog 11 #[.slice la l.length lc, .agg #[lo, hi]] w fun e w' => PiPost (pieceK l (ls, hs)) w e w' := by
  generalize hpost : (fun e w' => PiPost (pieceK l (ls, hs)) w e w') = Q
  have HO : Hid (∀ w', ¬ Q .outgrown w') := fun w' hh => by
    rw [← hpost] at hh
    obtain ⟨_, _, _, h, -⟩ := hh
    cases h
  have HP : Hid (∀ e w', PiPost (pieceK l (ls, hs)) w e w' → Q e w') := fun e w' h => by rw [← hpost]; exact h
  clear hpost
  obtain ⟨n, hn⟩ : ∃ n, n = l.length := ⟨_, rfl⟩
  rw [← hn] at hlen ⊢
  have hn8 : n ≤ 140737488351232 := by omega
  have HN := put_by hn
  have HLE := put_by hlen
  have HL := put_by hL
  have HR := put_by (And.intro hl hh)
  have HV := put_by (Cls.new w [lo, hi] 41)
  have HB := put_by ((Below.refl w.heap.size w).alloc (Nat.le_refl _) (.cells #[lo, hi] 41))
  obtain ⟨a1, c1, e1, -⟩ := id hl
  obtain ⟨a2, c2, e2, -⟩ := id hh
  obtain ⟨k1, hk1⟩ : ∃ k, k = ls.length := ⟨_, rfl⟩
  obtain ⟨k2, hk2⟩ : ∃ k, k = hs.length := ⟨_, rfl⟩
  rw [← hk1] at e1
  rw [← hk2] at e2
  subst e1 e2
  clear hL hl hh hn hlen hk1 hk2
  go_enter Try.func11, Try.ntmps11
  go_upto_region 1 with (fail)
  generalize w.alloc (.cells #[.slice a1 k1 c1, .slice a2 k2 c2] _) = W0 at HV HB ⊢
  have HVV : Hid (∀ V, Below W0.heap.size W0 V → Below w.heap.size w V ∧ V.cell? ⟨w.heap.size, 0, none⟩ = some (.slice a1 k1 c1) ∧ V.cell? ⟨w.heap.size, 1, none⟩ = some (.slice a2 k2 c2)) := fun V hV => ⟨HB.out.trans (hV.mono HB.out.size), ((HV.out.later hV) 0 _ rfl).1, ((HV.out.later hV) 1 _ rfl).1⟩
  go_upto_region 3 with (fail)
  go_loopw [5, 6] (fun v i wr => ∃ (k : Nat) (a : Option Addr) (m c : Nat), k ≤ n ∧ i = .int .i64 k ∧ v = .slice a m c ∧ Hid (m = (pieceK (l.take k) (ls, hs)).length ∧ Rows kEnt (fun _ => True) wr W0.heap.size 77 (.slice a m c) (pieceK (l.take k) (ls, hs)) ∧ Below W0.heap.size W0 wr)) (fun _ i _ => n - (intOf i).toNat)
  case atStart => exact ⟨0, none, 0, 0, Nat.zero_le _, rfl, rfl, rfl, Rows.nil _ _ _ _ _, Below.refl _ _⟩
  case round =>
    obtain ⟨k, a, m, c, hk, rfl, rfl, HRW⟩ := hrel
    rename World => wr
    by_cases hlt : k < n
    · have hx : k < l.length := by rw [← HN.out]; exact hlt
      obtain ⟨hbw, r0, r1⟩ := HVV.out wr HRW.out.2.2
      obtain ⟨bb, off, xa, xc, ya, yc, rfl, hx1, hx2, hc⟩ := ent_at HL.out hx
      obtain ⟨d0, d1⟩ := hc wr hbw
      have ik : (k : Int) < (n : Int) := by omega
      obtain ⟨t, ht⟩ : ∃ t, t = inRng (l[k]).1 (ls, hs) := ⟨_, rfl⟩
      have cW : Hid (∀ V, Below wr.heap.size wr V → Calls Try.prog 13 #[.slice xa (l[k]).1.length xc, .agg #[.slice a1 k1 c1, .slice a2 k2 c2]] V fun e w' => e = .returned (.bool t) ∧ Hid (Below V.heap.size V w')) := fun V hV => by
        have hb := hbw.trans (hV.mono hbw.size)
        rw [ht]
        exact withinK_any ok ok2 ok3 _ _ _ (l[k]).1 ls hs V (hx1.move (Kept.of_below hb) (fun _ _ h => h)) (HR.out.1.move (Kept.of_below hb) (fun _ _ h => h)) (HR.out.2.move (Kept.of_below hb) (fun _ _ h => h))
      have hpk : pieceK (l.take (k + 1)) (ls, hs) = pieceK (l.take k) (ls, hs) ++ (if t then [l[k]] else []) := by
        rw [take_succ' hx, pieceK, List.filter_append, ht]
        congr 1
        by_cases h : inRng (l[k]).1 (ls, hs) = true
        · rw [if_pos h, List.filter_cons, if_pos h]; rfl
        · rw [if_neg h, List.filter_cons, if_neg h]; rfl
      have HPK := put_by hpk
      have HCC : Hid (∀ V, Below wr.heap.size wr V → V.cell? ⟨bb, off + k * 2, none⟩ = some (.slice xa (l[k]).1.length xc) ∧ V.cell? ⟨bb, off + k * 2 + 1, none⟩ = some (.slice ya (l[k]).2.length yc)) := fun V hV => hc V (hbw.trans (hV.mono hbw.size))
      have HREL : Hid (∀ V, Below wr.heap.size wr V → kEnt.rel (fun b => True ∧ (Value.slice a m c).ownBlock ≠ some b) V l[k] [.slice xa (l[k]).1.length xc, .slice ya (l[k]).2.length yc]) := fun V hV => by
        have hb := hbw.trans (hV.mono hbw.size)
        have hn : ∀ b, b < w.heap.size → ok b → True ∧ (Value.slice a m c).ownBlock ≠ some b := fun b hb2 _ => ⟨trivial, fun e => by have h1 := (rows_lt HRW.out.2.1 b e).1; have h2 := HB.out.size; omega⟩
        exact ⟨_, _, rfl, hx1.move (Kept.of_below hb) hn, hx2.move (Kept.of_below hb) hn⟩
      have HFW : Hid ((pieceK (l.take k) (ls, hs)).length ≤ k) := by
        have h : (pieceK (l.take k) (ls, hs)).length ≤ (l.take k).length := List.length_filter_le _ _
        rw [List.length_take] at h
        show _ ≤ _
        omega
      clear hc hx1 hx2 hpk ht hbw
      generalize (l[k]).1.length = i1 at d0 cW HCC HREL
      generalize (l[k]).2.length = i2 at d1 HCC HREL
      obtain ⟨x, hxe⟩ : ∃ x, x = l[k] := ⟨_, rfl⟩
      rw [← hxe] at HPK HREL
      clear hxe
      go_upto_region 5 with (fail)
      go_region_held3 (fun V => V.cell? ⟨w.heap.size, 0, none⟩ = some (.slice a1 k1 c1) ∧ V.cell? ⟨w.heap.size, 1, none⟩ = some (.slice a2 k2 c2) ∧ V.cell? ⟨bb, off + k * 2, none⟩ = some (.slice xa i1 xc)) (go_keep) (first
        | (go_at_call 13; (with_reducible refine (cW.out _ (Below.refl _ _).drew).mono ?_); clear cW; rintro e w5 ⟨rfl, H5⟩; have H5b : Hid (Below wr.heap.size wr w5) := (Below.refl _ _).drew.trans H5.out; obtain ⟨t0, t1, t2⟩ := HVV.out _ (HRW.out.2.2.trans (H5b.out.mono HRW.out.2.2.size)); obtain ⟨t3, t4⟩ := HCC.out _ H5b.out))
      clear r0 r1 d0 d1 t0 t1 t2
      cases t with
      | false =>
        have HPF : Hid (pieceK (l.take (k + 1)) (ls, hs) = pieceK (l.take k) (ls, hs)) := by rw [HPK.out]; show _ = _; simp
        go_wp2
        go_roundw
        case rel => exact ⟨k + 1, a, m, c, by omega, by go_num, rfl, by rw [HPF.out]; exact ⟨HRW.out.1, HRW.out.2.1.later H5b.out, HRW.out.2.2.trans (H5b.out.mono HRW.out.2.2.size)⟩⟩
        case measure => simp [intOf]; omega
      | true =>
        have HPT : Hid (pieceK (l.take (k + 1)) (ls, hs) = pieceK (l.take k) (ls, hs) ++ [x]) := by rw [HPK.out]; show _ = _; simp
        go_wp2_with ((at_builtin; refine wpList_append_oneB (K := kEnt) (ok := fun _ => True) eltEn rfl (.tmp 20) (.tmp 25) rfl W0.heap.size (.slice a m c) (pieceK (l.take k) (ls, hs)) rfl (HRW.out.2.1.later H5b.out) x [.slice xa i1 xc, .slice ya i2 yc] _ _ rfl rfl (HREL.out _ H5b.out) (fun _ _ => trivial) (by have h1 := HFW.out; have h2 := HLE.out; omega) (by decide) (Nat.le_trans HRW.out.2.2.size H5b.out.size) ?_; intro v6 w6 r1 r2 r3; have H6 := put_by (And.intro r1 (below_grown (HRW.out.2.2.trans (H5b.out.mono HRW.out.2.2.size)) (Nat.le_trans HRW.out.2.2.size H5b.out.size) r2 (fun r e => (rows_lt HRW.out.2.1 r e).1))); obtain ⟨a6, c6, e6⟩ := rows_form r1; obtain ⟨m6, hm6⟩ : ∃ m6, m6 = (pieceK (l.take k) (ls, hs) ++ [x]).length := ⟨_, rfl⟩; rw [← hm6] at e6; subst e6; have HM6 := put_by hm6; clear hm6 r1 r2 r3))
        go_roundw
        case rel => exact ⟨k + 1, a6, m6, c6, by omega, by go_num, rfl, by rw [HM6.out, HPT.out], by rw [HPT.out]; exact H6.out.1, H6.out.2⟩
        case measure => simp [intOf]; omega
    · have hkn : k = n := by omega
      subst hkn
      have HE : Hid (PiPost (pieceK l (ls, hs)) w (.returned (.slice a m c)) wr) := by
        have h := HRW.out
        rw [List.take_of_length_le (by rw [← HN.out]; exact Nat.le_refl _)] at h
        exact ⟨a, m, c, rfl, h.1, (rows_lies h.2.1 (fun _ _ => trivial)).2.1, HB.out.trans (h.2.2.mono HB.out.size)⟩
      have HE2 := put_by (HP.out _ _ HE.out)
      have ikk : ¬ (k : Int) < (k : Int) := by omega
      clear HE HP HRW
      go_wp2
      exact HE2.out

end Go.Proofs.Ytjjdednlddnllab
