/- A letter is handed: to a round. -/
import Derived.Test.YtppcikfhhmiipaaBlHand
import Derived.Deep.RegionWith
namespace Go.Proofs.Ytppcikfhhmiipaa
open Go.ChangeShapes Go.WideShapes Go.ChangeAt Go.RowKit Go.Maps

theorem setR_setR (b : Bl) (r : Int) (x y : Rn) : (b.setR r x).setR r y = b.setR r y := by
  simp only [Bl.setR]
  congr 1
  funext k
  split <;> rfl

theorem setR_same {b : Bl} {r : Int} {x : Rn} (h : b.rs r = some x) : b.setR r x = b := by
  unfold Bl.setR
  congr 1
  funext k
  split
  · rename_i e
    rw [e, h]
  · rfl

theorem setR_at (b : Bl) (r : Int) (x : Rn) : (b.setR r x).rs r = some x := by simp [Bl.setR]

section
variable {B V M : Nat} {tg : Nat → Int} {ad : Int → Nat} {f : Value} {b : Bl} {W : World}

theorem BlI.tagR (h : BlI B V M tg ad f b W) {r : Int} {x : Rn} (hr : b.rs r = some x) : tg (ad r) ≠ 0 := by
  have := h.tr r x hr
  omega

theorem crC_put (c : Nat → Bool) (v : Nat) (hv : v < 5) : ((crC c).set v (.bool true)).set 5 (.int .i64 (cnt (put1 c v) : Nat)) = crC (put1 c v) := by
  have : v = 0 ∨ v = 1 ∨ v = 2 ∨ v = 3 ∨ v = 4 := by omega
  rcases this with rfl | rfl | rfl | rfl | rfl <;> simp [crC, put1]

theorem rnC_pr (x : Rn) : rnC x = [.int .i64 x.rd, .int .i64 x.va] ++ (crC x.pr ++ (crC x.ch ++ [.bool x.stopped, .bool x.told])) := by simp [rnC]

theorem set_mid (p q s : List Value) (i : Nat) (v : Value) (hi : i < q.length) : (p ++ (q ++ s)).set (p.length + i) v = p ++ (q.set i v ++ s) := by
  rw [List.set_append_right _ _ (by omega), Nat.add_sub_cancel_left, List.set_append_left _ _ hi]

theorem Cs.mid {W : World} {B o : Nat} {p q s : List Value} (h : Cs W B o (p ++ (q ++ s))) : Cs W B (o + p.length) q := fun i v hv => by
  have hi := (List.getElem?_eq_some_iff.1 hv).1
  have := h (p.length + i) v (by rw [List.getElem?_append_right (by omega), Nat.add_sub_cancel_left, List.getElem?_append_left hi]; exact hv)
  rwa [← Nat.add_assoc] at this

/-- a round's block is written -/
theorem BlI.turnR (h : BlI B V M tg ad f b W) {r : Int} {x : Rn} (hr : b.rs r = some x) (y : Rn) {W' : World} (hs : W.heap.size ≤ W'.heap.size) (hne : ∀ k, k ≠ ad r → W'.heap[k]? = W.heap[k]?) (hy : Cs W' (ad r) 0 (rnC y)) : BlI B V M tg ad f (b.setR r y) W' := by
  obtain ⟨t1, t2⟩ := h.tr r x hr
  have ht : ∀ k, tg k ≠ r → W'.heap[k]? = W.heap[k]? := fun k hk => hne k (fun e => hk (by rw [e, t1]))
  refine ⟨h.top.move (ht B (by rw [h.tB]; omega)), fun j u hu => (h.vs j u hu).move (ht V (by rw [h.tV]; omega)), ?_, fun k z hk => ?_, ?_, h.tB, h.tV, h.tM, h.tf, fun k z hk => ?_, fun k hk => h.out k (by omega)⟩
  · obtain ⟨D, ⟨es, clock, h1, h2⟩, h3⟩ := h.map
    refine ⟨D, ⟨es, clock, (ht M (by rw [h.tM]; omega)).trans h1, h2⟩, fun k => ?_⟩
    rw [h3 k]
    simp only [Bl.setR]
    split
    · rename_i e
      rw [e, hr]
      rfl
    · rfl
  · simp only [Bl.setR] at hk
    split at hk
    · rename_i e
      subst e
      cases hk
      exact hy
    · rename_i e
      obtain ⟨t3, t4⟩ := h.tr k z hk
      exact (h.rs k z hk).move (ht _ (by rw [t3]; exact e))
  · obtain ⟨css, h1, h2⟩ := h.ls
    exact ⟨css, own_kept h1 (fun g hg => ht g (by rw [h.tf g hg]; omega)), All2.imp (fun _ _ q => q) h2⟩
  · simp only [Bl.setR] at hk
    split at hk
    · rename_i e
      rw [e]
      exact ⟨t1, t2⟩
    · exact h.tr k z hk

theorem rnC_ch (x : Rn) : rnC x = ([.int .i64 x.rd, .int .i64 x.va] ++ crC x.pr) ++ (crC x.ch ++ [.bool x.stopped, .bool x.told]) := by simp [rnC]

theorem add_pr (h : BlI B V M tg ad f b W) {r : Int} {x : Rn} (hr : b.rs r = some x) (v : Nat) (hv : v < 5) :
    Calls Try.prog 28 #[.pointer (some ⟨ad r, 2, none⟩), .int .i64 (v : Int)] W fun e w' => e = .returned (.tuple #[]) ∧ BlI B V M tg ad f (b.setR r { x with pr := put1 x.pr v }) w' ∧ Trn tg tg W w' := by
  have hc := h.rs r x hr
  have hm0 := h.rs r x hr
  rw [rnC_pr] at hc
  have hm := hc.mid
  refine (add_any (ad r) _ x.pr v hv W hm).mono ?_
  rintro e w' ⟨rfl, rfl⟩
  refine ⟨rfl, ?_⟩
  split
  · rename_i e
    rw [put_same e, setR_same hr]
    exact ⟨h, Trn.refl _ _⟩
  · have h5 : (crC x.pr).length = 6 := rfl
    have s1 := set_mid [.int .i64 x.rd, .int .i64 x.va] (crC x.pr) (crC x.ch ++ [.bool x.stopped, .bool x.told]) v (.bool true) (by rw [h5]; omega)
    have s2 := set_mid [.int .i64 x.rd, .int .i64 x.va] ((crC x.pr).set v (.bool true)) (crC x.ch ++ [.bool x.stopped, .bool x.told]) 5 (.int .i64 (cnt (put1 x.pr v) : Nat)) (by rw [List.length_set, h5]; omega)
    rw [crC_put _ _ hv] at s2
    refine ⟨?_, (Trn.set (h.tagR hr)).trans (Trn.set (h.tagR hr))⟩
    rw [rnC_pr] at hm0
    have c1 := (hm0.set (2 + v) (.bool true)).set 7 (.int .i64 (cnt (put1 x.pr v) : Nat))
    refine h.turnR hr _ (by simp) (fun k hk => (heap_setCell_other _ _ _ _ hk).trans (heap_setCell_other _ _ _ _ hk)) ?_
    rw [rnC_pr]
    rw [show (2 + v) = ([Value.int .i64 x.rd, .int .i64 x.va] : List Value).length + v from rfl, s1, show (7 : Nat) = ([Value.int .i64 x.rd, .int .i64 x.va] : List Value).length + 5 from rfl, s2] at c1
    simpa using c1

theorem add_ch (h : BlI B V M tg ad f b W) {r : Int} {x : Rn} (hr : b.rs r = some x) (v : Nat) (hv : v < 5) :
    Calls Try.prog 28 #[.pointer (some ⟨ad r, 8, none⟩), .int .i64 (v : Int)] W fun e w' => e = .returned (.tuple #[]) ∧ BlI B V M tg ad f (b.setR r { x with ch := put1 x.ch v }) w' ∧ Trn tg tg W w' := by
  have hc := h.rs r x hr
  have hm0 := h.rs r x hr
  rw [rnC_ch] at hc
  have hm := hc.mid
  refine (add_any (ad r) _ x.ch v hv W hm).mono ?_
  rintro e w' ⟨rfl, rfl⟩
  refine ⟨rfl, ?_⟩
  split
  · rename_i e
    rw [put_same e, setR_same hr]
    exact ⟨h, Trn.refl _ _⟩
  · have h5 : (crC x.ch).length = 6 := rfl
    have s1 := set_mid ([.int .i64 x.rd, .int .i64 x.va] ++ crC x.pr) (crC x.ch) [.bool x.stopped, .bool x.told] v (.bool true) (by rw [h5]; omega)
    have s2 := set_mid ([.int .i64 x.rd, .int .i64 x.va] ++ crC x.pr) ((crC x.ch).set v (.bool true)) [.bool x.stopped, .bool x.told] 5 (.int .i64 (cnt (put1 x.ch v) : Nat)) (by rw [List.length_set, h5]; omega)
    rw [crC_put _ _ hv] at s2
    refine ⟨?_, (Trn.set (h.tagR hr)).trans (Trn.set (h.tagR hr))⟩
    rw [rnC_ch] at hm0
    have c1 := (hm0.set (8 + v) (.bool true)).set 13 (.int .i64 (cnt (put1 x.ch v) : Nat))
    refine h.turnR hr _ (by simp) (fun k hk => (heap_setCell_other _ _ _ _ hk).trans (heap_setCell_other _ _ _ _ hk)) ?_
    rw [rnC_ch]
    rw [show (8 + v) = ([Value.int .i64 x.rd, .int .i64 x.va] ++ crC x.pr : List Value).length + v from rfl, s1, show (13 : Nat) = ([Value.int .i64 x.rd, .int .i64 x.va] ++ crC x.pr : List Value).length + 5 from rfl, s2] at c1
    simpa using c1

theorem most_at (h : BlI B V M tg ad f b W) (n : Nat) (hb : b.Ok n) (c : Nat → Bool) : Calls Try.prog 29 #[.pointer (some ⟨B, 0, none⟩), .agg #[.bool (c 0), .bool (c 1), .bool (c 2), .bool (c 3), .bool (c 4), .int .i64 (cnt c : Nat)]] W fun e w' => e = .returned (.bool (b.most c)) ∧ BlI B V M tg ad f b w' ∧ Trn tg tg W w' := by
  refine (most_any B V M tg ad f b n hb c W h).mono ?_
  rintro e w' ⟨rfl, h2⟩
  exact ⟨rfl, h.later h2, Trn.of_below h2⟩

end

set_option maxRecDepth 20000 in
set_option maxHeartbeats 1000000 in
theorem handChosen_any (B V M : Nat) (tg : Nat → Int) (ad : Int → Nat) (f : Value) (b : Bl) (n : Nat) (hb : b.Ok n) (l : Lt) (hl : 0 ≤ l.vo ∧ l.vo < n) (hr : b.rs l.ro ≠ none) (w : World) (h : BlI B V M tg ad f b w) :
    Calls Try.prog 26 #[.pointer (some ⟨B, 0, none⟩), ltV l] w fun e w' => e = .returned (.int .i64 (b.handChosen l).1) ∧ BlPost B V M tg w (b.handChosen l).2 w' := by
  obtain ⟨k, hk⟩ : ∃ k : Nat, l.vo = (k : Int) := ⟨l.vo.toNat, by omega⟩
  have hk5 : k < 5 := by have := hb.few.2; omega
  obtain ⟨x, hx⟩ : ∃ x, b.rs l.ro = some x := by
    cases e : b.rs l.ro with
    | none => exact absurd e hr
    | some x => exact ⟨x, rfl⟩
  have hrb := hb.rnd _ _ hx
  have ha : b.handChosen l = (if b.most (put1 x.ch k) then x.va else 0, b.setR l.ro { x with ch := put1 x.ch k }) := by simp [Bl.handChosen, Rn.choice, hk, hx]
  rw [ha]
  unfold ltV
  rw [hk]
  obtain ⟨c1, -⟩ := h.top 1 _ rfl
  simp only [Nat.zero_add] at c1
  have hBl := h.ltB
  have hM := h.ltM
  have hBM : M ≠ w.heap.size := by omega
  have HT0 := put_by (h.out w.heap.size (Nat.le_refl _))
  have hbe := (Below.refl w.heap.size w).alloc (Nat.le_refl _) (.cells #[.int .i64 l.rd, .int .i64 l.va, .int .i64 l.kd, .int .i64 (k : Int), .int .i64 l.ro, .bool l.lost] 78)
  have hlk : ∀ i, (Instr.lookup 41 (.map (some M)) (.int .i64 l.ro) false).run Try.prog ((w.alloc (.cells #[.int .i64 l.rd, .int .i64 l.va, .int .i64 l.kd, .int .i64 (k : Int), .int .i64 l.ro, .bool l.lost] 78)).drewN i) = .ok (.pointer (some ⟨ad l.ro, 0, none⟩)) ((w.alloc (.cells #[.int .i64 l.rd, .int .i64 l.va, .int .i64 l.kd, .int .i64 (k : Int), .int .i64 l.ro, .bool l.lost] 78)).drewN i) := fun i => by
    have := h.look l.ro (by omega) ((w.alloc (.cells #[.int .i64 l.rd, .int .i64 l.va, .int .i64 l.kd, .int .i64 (k : Int), .int .i64 l.ro, .bool l.lost] 78)).drewN i) (hbe.block M hM)
    rw [hx] at this
    exact this
  have H := put_by h
  have cA : Hid (∀ W, BlI B V M tg ad f b W → Calls Try.prog 28 #[.pointer (some ⟨ad l.ro, 8, none⟩), .int .i64 (k : Int)] W fun e w' => e = .returned (.tuple #[]) ∧ Hid (BlI B V M tg ad f (b.setR l.ro { x with ch := put1 x.ch k }) w' ∧ Trn tg tg W w')) := put_by fun W hW => add_ch hW hx k hk5
  have hb2 := hb.setR (r := l.ro) { x with ch := put1 x.ch k } hrb
  have cM : Hid (∀ W, BlI B V M tg ad f (b.setR l.ro { x with ch := put1 x.ch k }) W → Calls Try.prog 29 #[.pointer (some ⟨B, 0, none⟩), .agg #[.bool (put1 x.ch k 0), .bool (put1 x.ch k 1), .bool (put1 x.ch k 2), .bool (put1 x.ch k 3), .bool (put1 x.ch k 4), .int .i64 (cnt (put1 x.ch k) : Nat)]] W fun e w' => e = .returned (.bool (b.most (put1 x.ch k))) ∧ Hid (BlI B V M tg ad f (b.setR l.ro { x with ch := put1 x.ch k }) w' ∧ Trn tg tg W w')) := put_by fun W hW => most_at hW n hb2 (put1 x.ch k)
  have HCS : Hid (∀ W, BlI B V M tg ad f (b.setR l.ro { x with ch := put1 x.ch k }) W → Cs W (ad l.ro) 0 (rnC { x with ch := put1 x.ch k })) := put_by fun W hW => hW.rs _ _ (setR_at _ _ _)
  clear h hb hb2 hx hr ha hk hrb hl hbe
  go_enter Try.func26, Try.ntmps26
  go_upto_region 1 with (fail)
  go_quiet (fail)
  go_upto_region 2 with (fail)
  go_region_with (go_at_call 28; refine (cA.out _ (by first | exact (H.out.later ((Below.refl _ _).alloc (Nat.le_refl _) _)).drewN _ | exact ((H.out.later ((Below.refl _ _).alloc (Nat.le_refl _) _)).drewN _).drew)).mono ?_; rintro e w2 ⟨rfl, H2⟩)
  have hc := HCS.out _ H2.out.1
  obtain ⟨e1, -⟩ := hc 1 _ rfl
  obtain ⟨e8, -⟩ := hc 8 _ rfl
  obtain ⟨e9, -⟩ := hc 9 _ rfl
  obtain ⟨e10, -⟩ := hc 10 _ rfl
  obtain ⟨e11, -⟩ := hc 11 _ rfl
  obtain ⟨e12, -⟩ := hc 12 _ rfl
  obtain ⟨e13, -⟩ := hc 13 _ rfl
  simp only [Nat.zero_add] at e1 e8 e9 e10 e11 e12 e13
  clear hc
  have HT2 : Hid (Trn tg tg w w2) := put_by ((Trn.of_below ((Below.refl w.heap.size w).alloc (Nat.le_refl _) (.cells #[.int .i64 l.rd, .int .i64 l.va, .int .i64 l.kd, .int .i64 (k : Int), .int .i64 l.ro, .bool l.lost] 78))).trans ((Trn.of_below (belowR (Below.refl _ _) _)).trans H2.out.2))
  cases hm : b.most (put1 x.ch k) with
  | false =>
    rw [hm] at cM
    go_wp2_with (go_at_call 29; refine (cM.out _ H2.out.1).mono ?_; rintro e w3 ⟨rfl, H3⟩)
    all_goals exact bodyPost_ret (v := .int .i64 0) (by simp [results, Try.results26, go_sem]) rfl ⟨rfl, H3.out.1.post (HT2.out.trans H3.out.2)⟩
  | true =>
    rw [hm] at cM
    go_upto_region 5 with (go_at_call 29; refine (cM.out _ H2.out.1).mono ?_; rintro e w3 ⟨rfl, H3⟩)
    obtain ⟨g1, -⟩ := HCS.out _ H3.out.1 1 _ rfl
    simp only [Nat.zero_add] at g1
    go_wp2
    exact bodyPost_ret (v := .int .i64 x.va) (by simp [results, Try.results26, go_sem]) rfl ⟨rfl, H3.out.1.post (HT2.out.trans H3.out.2)⟩

end Go.Proofs.Ytppcikfhhmiipaa
