/- A tree without a key: what the program's without comes to, at a node with kids. -/
import Derived.Test.YtcegkgobkpakiaaTrDrop2P
namespace Go.Proofs.Ytcegkgobkpakiaa
open Go.ChangeShapes Go.WideShapes Go.ChangeAt Go.RowKit

theorem nd_deg {ok : Nat → Prop} {w : World} : ∀ {h : Nat} {t : Tr h} {a : Option Addr} {n c : Nat} {b : Option Addr} {m d : Nat}, (kNd h).rel ok w t [.slice a n c, .slice b m d] → n + m = deg h t
  | 0, es, _, _, _, _, _, _, ⟨_, _, _, _, e, _⟩ => by
    simp only [List.cons.injEq, Value.slice.injEq, and_true, List.length_nil] at e
    obtain ⟨⟨_, e1, _⟩, _, e2, _⟩ := e
    rw [e1, e2, Nat.add_zero]
    rfl
  | h + 1, ks, _, _, _, _, _, _, ⟨_, _, _, _, e, _⟩ => by
    simp only [List.cons.injEq, Value.slice.injEq, and_true, List.length_nil] at e
    obtain ⟨⟨_, e1, _⟩, _, e2, _⟩ := e
    rw [e1, e2, Nat.zero_add]
    rfl

theorem joinT_len : ∀ (h : Nat) (x y : Tr h), (joinT h x y).length ≤ 2
  | 0, _, _ => (halvesL_one _).2
  | _ + 1, _, _ => (halvesL_one _).2

/-- the kids of a node, the one from which the key was dropped among them -/
def Mid (ok : Nat → Prop) (h : Nat) (ks : List (Tr h)) (key : List Int) (i q : Nat) (W : World) (a : Option Addr) (c : Nat) : Prop :=
  ∃ l k r k', KidCut h ks key l k r ∧ l.length = i ∧ Shrunk h k key k' ∧ q = deg h k' ∧ Lies (kNd h) ok W a c (l ++ [k'] ++ r) ∧ Ples a c

theorem Mid.later {ok : Nat → Prop} {h : Nat} {ks : List (Tr h)} {key : List Int} {i q : Nat} {W W' : World} {a : Option Addr} {c : Nat} (hm : Mid ok h ks key i q W a c) (hb : Below W.heap.size W W') : Mid ok h ks key i q W' a c := by
  obtain ⟨l, k, r, k', h1, h2, h3, h4, h5, h6⟩ := hm
  exact ⟨l, k, r, k', h1, h2, h3, h4, h5.later hb, h6⟩

set_option maxHeartbeats 16000000 in
theorem without_inner (ok : Nat → Prop) (key : List Int) (h : Nat) (ks : List (Tr h)) (hq : Wd (h + 1) ks) (hh : hasK (flat (h + 1) ks) key = true) (u v : Value) (ka : Option Addr) (kc : Nat) (w : World) (hok : Fresh ok w) (hr : (kNd (h + 1)).rel ok w ks [u, v]) (ho : Octs w ka kc key)
    (ih : ∀ (ok : Nat → Prop) (t : Tr h) (_ : Wd h t) (_ : hasK (flat h t) key = true) (u v : Value) (W : World) (_ : Fresh ok W) (_ : (kNd h).rel ok W t [u, v]) (_ : Octs W ka kc key), Calls Try.prog 30 #[.agg #[u, v], .slice ka key.length kc] W fun e w' => DropPost ok h t key W e w') :
    Calls Try.prog 30 #[.agg #[u, v], .slice ka key.length kc] w fun e w' => DropPost ok (h + 1) ks key w e w' := by
  obtain ⟨a, c, b, d, e, -, -, hL, hP⟩ := (show Both (kNd h) ok w [] ks _ from hr)
  simp only [List.cons.injEq, List.length_nil, and_true] at e
  obtain ⟨rfl, rfl⟩ := e
  have h4 : ks.length ≤ 4 := hq.most
  have hpos : 0 < ks.length := by have := hq.some (Nat.succ_pos _); rw [deg_node] at this; omega
  obtain ⟨bb, off, rfl, hbb, -⟩ := hL.at hpos
  obtain ⟨m, hm⟩ : ∃ m, m = ks.length := ⟨_, rfl⟩
  obtain ⟨km, hkm⟩ : ∃ km, km = key.length := ⟨_, rfl⟩
  obtain ⟨n, hn⟩ : ∃ n : Nat, n = 0 := ⟨_, rfl⟩
  have hL' : Lies (kNd h) (fun b => ok b ∧ b ≠ w.heap.size + 1) w (some ⟨bb, off, none⟩) d ks := hL.move (Kept.of_below (Below.refl _ _)) (fun b hb ho => ⟨ho, by omega⟩)
  have hfr : ∀ W : World, (Four w (.slice a n c) (.slice (some ⟨bb, off, none⟩) m d) (.slice none 0 0) (.slice none 0 0) W) → Fresh (fun b => ok b ∧ b ≠ w.heap.size + 1) W := fun W hW b hb => ⟨hok b (Nat.le_trans hW.below.size hb), fun e => by have := World.block_lt_of_cell? _ _ hW.two.c0; simp at this; omega⟩
  have cI : Hid (∀ W : World, (Four w (.slice a n c) (.slice (some ⟨bb, off, none⟩) m d) (.slice none 0 0) (.slice none 0 0) W) → Calls Try.prog 33 #[.agg #[.slice a n c, .slice (some ⟨bb, off, none⟩) m d]] W fun e w' => e = .returned (.bool false) ∧ Hid ((Four w (.slice a n c) (.slice (some ⟨bb, off, none⟩) m d) (.slice none 0 0) (.slice none 0 0) w'))) := fun W hW =>
    (isLeaf_any a _ n m c d W).mono fun e w' hh => ⟨by rw [hh.1, decide_eq_false (by omega)], hW.later hh.2⟩
  have cK : Hid (∀ W : World, (Four w (.slice a n c) (.slice (some ⟨bb, off, none⟩) m d) (.slice none 0 0) (.slice none 0 0) W) → Calls Try.prog 37 #[.agg #[.slice a n c, .slice (some ⟨bb, off, none⟩) m d], .slice ka km kc] W fun e w' =>
      ∃ (i : Nat) (a1 : Option Addr) (n1 c1 : Nat) (b1 : Option Addr) (m1 d1 : Nat), e = .returned (.int .i64 i) ∧ i < m ∧ Hid ((Four w (.slice a n c) (.slice (some ⟨bb, off, none⟩) m d) (.slice none 0 0) (.slice none 0 0) w')) ∧ (w'.cell? ⟨bb, off + i * 2, none⟩ = some (.slice a1 n1 c1) ∧ w'.cell? ⟨bb, off + i * 2 + 1, none⟩ = some (.slice b1 m1 d1)) ∧
        Hid (∃ l k r, KidCut h ks key l k r ∧ l.length = i ∧ (kNd h).rel (fun b => ok b ∧ b ≠ w.heap.size + 1) w k [.slice a1 n1 c1, .slice b1 m1 d1])) := fun W hW => by
    have := kidOf_any ok h ks hpos (by omega) ((Wk_node ks).1 hq.kids) hq.asc a (some ⟨bb, off, none⟩) n c d ka kc key W (hL.later hW.below) (ho.later hW.below)
    rw [← hm, ← hkm] at this
    refine this.mono ?_
    rintro e w' ⟨l, k, r, hC, rfl, hb⟩
    obtain ⟨hi, a1, n1, c1, b1, m1, d1, hr, hc⟩ := kid_at hL' hC
    exact ⟨l.length, a1, n1, c1, b1, m1, d1, rfl, by omega, hW.later hb, hc w' (hW.later hb).below, l, k, r, hC, rfl, hr⟩
  have cW : Hid (∀ (W : World) (i : Nat) (a1 : Option Addr) (n1 c1 : Nat) (b1 : Option Addr) (m1 d1 : Nat), (Four w (.slice a n c) (.slice (some ⟨bb, off, none⟩) m d) (.slice none 0 0) (.slice none 0 0) W) → (∃ l k r, KidCut h ks key l k r ∧ l.length = i ∧ (kNd h).rel (fun b => ok b ∧ b ≠ w.heap.size + 1) w k [.slice a1 n1 c1, .slice b1 m1 d1]) → Calls Try.prog 30 #[.agg #[.slice a1 n1 c1, .slice b1 m1 d1], .slice ka km kc] W fun e w' =>
      ∃ (x1 : Option Addr) (y1 z1 : Nat) (x2 : Option Addr) (y2 z2 : Nat), e = .returned (.agg #[.slice x1 y1 z1, .slice x2 y2 z2]) ∧ y1 ≤ 4 ∧ y2 ≤ 4 ∧ Hid ((Four w (.slice a n c) (.slice (some ⟨bb, off, none⟩) m d) (.slice none 0 0) (.slice none 0 0) w')) ∧ Hid (∃ l k r k', KidCut h ks key l k r ∧ l.length = i ∧ Shrunk h k key k' ∧ (kNd h).rel (fun b => ok b ∧ b ≠ w.heap.size + 1) w' k' [.slice x1 y1 z1, .slice x2 y2 z2])) := fun W i a1 n1 c1 b1 m1 d1 hW ⟨l, k, r, hC, hi, hr⟩ => by
    have := ih (fun b => ok b ∧ b ≠ w.heap.size + 1) k (hq.kid hC.eq) (hC.has hh) (.slice a1 n1 c1) (.slice b1 m1 d1) W (hfr W hW) ((kNd h).move (Kept.of_below hW.below) (fun _ _ q => q) hr) (ho.later hW.below)
    rw [← hkm] at this
    refine this.mono ?_
    rintro e w' ⟨k', p1, p2, hs, rfl, hrel, hb⟩
    obtain ⟨x1, y1, z1, x2, y2, z2, e2⟩ := nd_form hrel
    simp only [List.cons.injEq, and_true] at e2
    obtain ⟨rfl, rfl⟩ := e2
    have hdg := nd_deg hrel
    have := hs.most
    exact ⟨x1, y1, z1, x2, y2, z2, rfl, by omega, by omega, hW.later hb, l, k, r, k', hC, hi, hs, hrel⟩
  have cR : Hid (∀ (W : World) (i : Nat) (tI : Int) (x1 : Option Addr) (y1 z1 : Nat) (x2 : Option Addr) (y2 z2 : Nat), tI = (i : Int) + 1 → i < m → (Four w (.slice a n c) (.slice (some ⟨bb, off, none⟩) m d) (.slice none 0 0) (.slice none 0 0) W) → (∃ l k r k', KidCut h ks key l k r ∧ l.length = i ∧ Shrunk h k key k' ∧ (kNd h).rel (fun b => ok b ∧ b ≠ w.heap.size + 1) W k' [.slice x1 y1 z1, .slice x2 y2 z2]) →
      Calls Try.prog 38 #[.slice (some ⟨bb, off, none⟩) m d, .int .i64 i, .int .i64 tI, .slice (some ⟨W.heap.size + 1, 0, none⟩) 1 1] ((W.alloc (.cells #[.slice x1 y1 z1, .slice x2 y2 z2] 53)).alloc (.cells #[.slice x1 y1 z1, .slice x2 y2 z2] 53)) fun e w' =>
      ∃ (a' : Option Addr) (c' : Nat), e = .returned (.slice a' m c') ∧ Hid ((Four w (.slice a n c) (.slice (some ⟨bb, off, none⟩) m d) (.slice none 0 0) (.slice none 0 0) w')) ∧ (w'.cell? ⟨W.heap.size, 0, none⟩ = some (.slice x1 y1 z1) ∧ w'.cell? ⟨W.heap.size, 1, none⟩ = some (.slice x2 y2 z2)) ∧ Hid (Mid (fun b => ok b ∧ b ≠ w.heap.size + 1) h ks key i (y1 + y2) w' a' c')) := fun W i tI x1 y1 z1 x2 y2 z2 htI hi hW ⟨l, k, r, k', hC, hli, hs, hrel⟩ => by
    have hb1 : Below W.heap.size W (W.alloc (.cells #[.slice x1 y1 z1, .slice x2 y2 z2] 53)) := (Below.refl _ W).alloc (Nat.le_refl _) _
    have hW1 := hW.later hb1
    have hT := Two.new W (.slice x1 y1 z1) (.slice x2 y2 z2) 53
    have hVs := alloc_size W (.cells #[.slice x1 y1 z1, .slice x2 y2 z2] 53)
    generalize W.alloc (.cells #[.slice x1 y1 z1, .slice x2 y2 z2] 53) = V at hb1 hW1 hT hVs ⊢
    have hb2 : Below V.heap.size V (V.alloc (.cells #[.slice x1 y1 z1, .slice x2 y2 z2] 53)) := (Below.refl _ V).alloc (Nat.le_refl _) _
    have h1 : Lies (kNd h) (fun b => ok b ∧ b ≠ w.heap.size + 1) (V.alloc (.cells #[.slice x1 y1 z1, .slice x2 y2 z2] 53)) (some ⟨V.heap.size, 0, none⟩) 1 [k'] :=
      lies_one (cs := [.slice x1 y1 z1, .slice x2 y2 z2]) _ rfl _ ((kNd h).move (Kept.of_below hb1) (fun _ _ q => q) hrel) (hfr V hW1 _ (Nat.le_refl _))
    rw [hVs] at h1
    have := replacedN_any (kNd h) (fun b => ok b ∧ b ≠ w.heap.size + 1) ks [k'] i (i + 1) (by omega) (by omega) (by omega) (by simp) (some ⟨bb, off, none⟩) (some ⟨W.heap.size + 1, 0, none⟩) d 1 _ (hfr _ (hW1.later hb2)) ((hL'.later hW1.below).later hb2) hP h1 (Ples.some _ _ _)
    have ht : ks.take i = l := by rw [hC.eq, ← hli, List.take_left]
    have hd : ks.drop (i + 1) = r := by
      rw [hC.eq, ← hli, ← List.drop_drop, List.drop_left]
      rfl
    have hlen : (l ++ [k'] ++ r).length = m := by rw [hm, hC.eq]; simp
    rw [← hm, show ((i + 1 : Nat) : Int) = tI by omega, ht, hd, hlen] at this
    refine this.mono ?_
    rintro e w' ⟨a', c', rfl, q1, q2, q3⟩
    have hT2 := (hT.later hb2).later q3
    exact ⟨a', c', rfl, (hW1.later hb2).later q3, ⟨hT2.c0, hT2.c1⟩, l, k, r, k', hC, hli, hs, nd_deg hrel, q1, q2⟩
  have cZ : Hid (∀ (W : World) (x1 : Option Addr) (y1 z1 : Nat) (x2 : Option Addr) (y2 z2 : Nat), y1 ≤ 4 → y2 ≤ 4 → (Four w (.slice a n c) (.slice (some ⟨bb, off, none⟩) m d) (.slice none 0 0) (.slice none 0 0) W) → Calls Try.prog 39 #[.agg #[.slice x1 y1 z1, .slice x2 y2 z2]] W fun e w' => e = .returned (.int .i64 (y1 + y2 : Nat)) ∧ Hid ((Four w (.slice a n c) (.slice (some ⟨bb, off, none⟩) m d) (.slice none 0 0) (.slice none 0 0) w') ∧ Below W.heap.size W w')) := fun W x1 y1 z1 x2 y2 z2 hy1 hy2 hW =>
    (size_any x1 x2 y1 y2 z1 z2 (by omega) (by omega) W).mono fun e w' hh => ⟨hh.1, hW.later hh.2, hh.2⟩
  have cJ : Hid (∀ (w5 : World) (x y : Tr h) (a1 : Option Addr) (n1 c1 : Nat) (b1 : Option Addr) (m1 d1 : Nat) (a2 : Option Addr) (n2 c2 : Nat) (b2 : Option Addr) (m2 d2 : Nat), (kNd h).rel (fun b => ok b ∧ b ≠ w.heap.size + 1) w5 x [.slice a1 n1 c1, .slice b1 m1 d1] ∧ (kNd h).rel (fun b => ok b ∧ b ≠ w.heap.size + 1) w5 y [.slice a2 n2 c2, .slice b2 m2 d2] ∧ deg h x + deg h y ≤ 5 ∧ 1 ≤ deg h x → ∀ W : World, (Four w (.slice a n c) (.slice (some ⟨bb, off, none⟩) m d) (.slice none 0 0) (.slice none 0 0) W) ∧ Below w5.heap.size w5 W → Calls Try.prog 40 #[.agg #[.slice a1 n1 c1, .slice b1 m1 d1], .agg #[.slice a2 n2 c2, .slice b2 m2 d2]] W fun e w' =>
      ∃ (a6 : Option Addr) (q6 c6 : Nat), e = .returned (.slice a6 q6 c6) ∧ Hid ((Four w (.slice a n c) (.slice (some ⟨bb, off, none⟩) m d) (.slice none 0 0) (.slice none 0 0) w') ∧ Below w5.heap.size w5 w') ∧ Hid (q6 = (joinT h x y).length ∧ Lies (kNd h) (fun b => ok b ∧ b ≠ w.heap.size + 1) w' a6 c6 (joinT h x y) ∧ Ples a6 c6)) := fun w5 x y a1 n1 c1 b1 m1 d1 a2 n2 c2 b2 m2 d2 ⟨h1, h2, h3, h5⟩ W ⟨hW, hb⟩ => by
    refine (joined_any (fun b => ok b ∧ b ≠ w.heap.size + 1) h x y h3 h5 _ _ _ _ W (hfr W hW) ((kNd h).move (Kept.of_below hb) (fun _ _ q => q) h1) ((kNd h).move (Kept.of_below hb) (fun _ _ q => q) h2)).mono ?_
    rintro e w' ⟨a6, c6, rfl, q1, q2, q3⟩
    exact ⟨a6, _, c6, rfl, ⟨hW.later q3, hb.trans (q3.mono hb.size)⟩, rfl, q1, q2⟩
  have cT : Hid (∀ (w5 : World) (A B : List (Tr h)) (x y : Tr h) (a' : Option Addr) (c' : Nat), Lies (kNd h) (fun b => ok b ∧ b ≠ w.heap.size + 1) w5 a' c' (A ++ x :: y :: B) ∧ Ples a' c' ∧ (A ++ x :: y :: B).length = m ∧ (joinT h x y).length ≤ 2 ∧ (∀ mm : List (Tr h), mm = A ++ joinT h x y ++ B → Shrunk (h + 1) ks key mm) → ∀ (W : World) (li lj : Int) (a6 : Option Addr) (q6 c6 : Nat), li = A.length → lj = (A.length : Int) + 2 → (Four w (.slice a n c) (.slice (some ⟨bb, off, none⟩) m d) (.slice none 0 0) (.slice none 0 0) W) ∧ Below w5.heap.size w5 W → q6 = (joinT h x y).length ∧ Lies (kNd h) (fun b => ok b ∧ b ≠ w.heap.size + 1) W a6 c6 (joinT h x y) ∧ Ples a6 c6 →
      Calls Try.prog 38 #[.slice a' m c', .int .i64 li, .int .i64 lj, .slice a6 q6 c6] W fun e w' =>
      ∃ (a7 : Option Addr) (q7 c7 : Nat), e = .returned (.slice a7 q7 c7) ∧ Hid ((Four w (.slice a n c) (.slice (some ⟨bb, off, none⟩) m d) (.slice none 0 0) (.slice none 0 0) w') ∧ Below w5.heap.size w5 w') ∧ Hid (∃ mm : List (Tr h), q7 = mm.length ∧ Lies (kNd h) (fun b => ok b ∧ b ≠ w.heap.size + 1) w' a7 c7 mm ∧ Ples a7 c7 ∧ Shrunk (h + 1) ks key mm)) := fun w5 A B x y a' c' ⟨h1, h2, h3, h5, h6⟩ W li lj a6 q6 c6 hli hlj ⟨hW, hb⟩ ⟨g1, g2, g3⟩ => by
    have hlen : (A ++ x :: y :: B).length = A.length + (B.length + 2) := by simp
    have := replacedN_any (kNd h) (fun b => ok b ∧ b ≠ w.heap.size + 1) (A ++ x :: y :: B) (joinT h x y) A.length (A.length + 2) (by omega) (by omega) (by omega) (by omega) a' a6 c' c6 W (hfr W hW) (h1.later hb) h2 g2 g3
    have ht : (A ++ x :: y :: B).take A.length = A := List.take_left
    have hd : (A ++ x :: y :: B).drop (A.length + 2) = B := by
      rw [← List.drop_drop, List.drop_left]
      rfl
    rw [h3, ← g1, ht, hd, ← hli, show ((A.length + 2 : Nat) : Int) = lj by omega] at this
    refine this.mono ?_
    rintro e w' ⟨a7, c7, rfl, q1, q2, q3⟩
    exact ⟨a7, _, c7, rfl, ⟨hW.later q3, hb.trans (q3.mono hb.size)⟩, _, rfl, q1, q2, h6 _ rfl⟩
  have H0 := put_by (Four.new w (.slice a n c) (.slice (some ⟨bb, off, none⟩) m d) (.slice none 0 0) (.slice none 0 0) 53 53)
  have HFR := put_by hfr
  have HQ := put_by (And.intro hq hm)
  rw [← hm, ← hkm]
  rw [← hm] at h4 hpos
  have hb1 : ¬ bb = w.heap.size := by omega
  have hb2 : ¬ bb = w.heap.size + 1 := by omega
  rw [show (0 : Nat) = n from hn.symm]
  clear hL hL' hP hr ho hm hkm hok ih hn hfr hq hh hbb
  go_enter Try.func30, Try.ntmps30
  go_wp2_with (first
    | (go_at_call 33; (with_reducible refine (cI.out _ H0.out).mono ?_); rintro e w1 ⟨rfl, hF1⟩; obtain ⟨k0, k1, -, -⟩ := id hF1.out.one)
    | (go_at_call 37; (with_reducible refine (cK.out _ hF1.out).mono ?_); rintro e w2 ⟨i, a1, n1, c1, b1, m1, d1, rfl, hi, hF2, ⟨k8, k9⟩, HX⟩; obtain ⟨k4, k5, -, -⟩ := id hF2.out.one)
    | (go_at_call 30; (with_reducible refine (cW.out _ i _ _ _ _ _ _ hF2.out HX.out).mono ?_); rintro e w3 ⟨x1, y1, z1, x2, y2, z2, rfl, hy1, hy2, hF3, HY⟩; obtain ⟨j4, j5, -, -⟩ := id hF3.out.one; have g3 : w.heap.size < w3.heap.size := World.block_lt_of_cell? _ _ j4)
    | (go_at_call 38; (with_reducible refine (cR.out _ i _ _ _ _ _ _ _ (by first | omega | (rw [IntKind.wrap_i64]; omega)) hi hF3.out HY.out).mono ?_); rintro e w4 ⟨a', c', rfl, hF4, ⟨p0, p1⟩, HM⟩)
    | (go_at_call 39; (with_reducible refine (cZ.out _ _ _ _ _ _ _ hy1 hy2 hF4.out).mono ?_); rintro e w5 ⟨rfl, hF5⟩; obtain ⟨p6, p7, p8, p9⟩ := id hF5.out.1.two))
  · have h2 := hF5.out.1.two.set (.slice none 0 0) (.slice a' m c')
    have h5 := below_two hF5.out.1.below (Nat.le_succ _) (.slice none 0 0) (.slice a' m c')
    have h6 := kept_two (p := ok) w5 (w.heap.size + 1) (.slice none 0 0) (.slice a' m c')
    have z0 := h2.c0
    have z1 := h2.c1
    obtain ⟨l, k, r, k', hC, hli, hs, hdg, hLL, hPP⟩ := (HM.out.later hF5.out.2)
    have hsh := shrunk_plain HQ.out.1 hC hs (by omega) _ rfl
    have hlen : (l ++ [k'] ++ r).length = m := by rw [HQ.out.2, hC.eq]; simp
    generalize (w5.setCell _ _).setCell _ _ = W9 at h2 h5 h6 z0 z1 ⊢
    generalize l ++ [k'] ++ r = mm at hLL hsh hlen
    subst hlen
    exact bodyPost_ret (v := .agg #[.slice none 0 0, .slice a' mm.length c']) (by simp [results, Try.results30, go_sem, asAddr, z0, z1]) rfl
      ⟨mm, _, _, hsh, rfl, (show Both (kNd h) ok W9 [] mm _ from ⟨none, 0, a', c', rfl, Lies.nil _ _ _ (fun _ => rfl), Ples.none, hLL.move h6 (fun _ _ ho => ho.1), hPP⟩), h5⟩
  · have hi9 := h
    clear h
    obtain ⟨l, k, r, k', hC, hli, hs, hdg, hLL, hPP⟩ := (HM.out.later hF5.out.2)
    obtain ⟨A, x, y, B, e1, e2, e3, e4, e5, e6⟩ := join_cut HQ.out.1 hC hs (by omega)
    have hlen : (l ++ [k'] ++ r).length = m := by rw [HQ.out.2, hC.eq]; simp
    rw [e1] at hLL hlen
    obtain ⟨bb', off', a11, n11, c11, b11, m11, d11, a22, n22, c22, b22, m22, d22, ea, hbl, hbo, r1, r2, hcell⟩ := two_at hLL
    subst ea
    have HJ := put_by (cJ.out w5 x y _ _ _ _ _ _ _ _ _ _ _ _ ⟨r1, r2, e4, e5⟩)
    have HT := put_by (cT.out w5 A B x y _ _ ⟨hLL, hPP, hlen, joinT_len _ x y, e6⟩)
    have hA : A.length = 0 := by omega
    rw [hA] at hcell HT
    have hm2 : 0 + 2 ≤ m := by rw [HQ.out.2]; omega
    have HCL : Hid (∀ W : World, Below w5.heap.size w5 W → W.cell? ⟨bb', off', none⟩ = some (.slice a11 n11 c11) ∧ W.cell? ⟨bb', off' + 1, none⟩ = some (.slice b11 m11 d11) ∧ W.cell? ⟨bb', off' + 2, none⟩ = some (.slice a22 n22 c22) ∧ W.cell? ⟨bb', off' + 3, none⟩ = some (.slice b22 m22 d22)) := fun W hW => by
      obtain ⟨⟨q1, q2⟩, q3, q4⟩ := hcell W hW
      exact ⟨by simpa using q1, by simpa using q2, by simpa using q3, by simpa using q4⟩
    obtain ⟨s0, s1, s2, s3⟩ := HCL.out w5 (Below.refl _ _)
    have HD := put_by (And.intro (hF5.out.1.later (Below.refl _ _).drew) ((Below.refl w5.heap.size w5).drew))
    have hb9 : ¬ bb' = w.heap.size + 1 := hbo.2
    have hb8 : ¬ w.heap.size + 1 = bb' := fun e => hb9 e.symm
    have i1 : (1 : Int) < (m : Int) := by omega
    have i3 : IntKind.i64.wrap ((0 : Int) + 1) = 1 := by rw [IntKind.wrap_i64]; omega
    have i4 : IntKind.i64.wrap (1 : Int) = 1 := by rw [IntKind.wrap_i64]; omega
    clear hcell r1 r2 hLL hPP hlen e1 e2 e3 e4 e5 e6 hC hli hs hdg hA hbo cJ cT cR cZ cW cK cI HM HX HY
    go_region_held3 (fun W' => W'.cell? ⟨bb', off', none⟩ = some (.slice a11 n11 c11) ∧ W'.cell? ⟨bb', off' + 1, none⟩ = some (.slice b11 m11 d11) ∧ W'.cell? ⟨bb', off' + 2, none⟩ = some (.slice a22 n22 c22) ∧ W'.cell? ⟨bb', off' + 3, none⟩ = some (.slice b22 m22 d22)) (go_keep) (first
      | (go_at_call 40; (with_reducible refine (HJ.out _ HD.out).mono ?_); rintro e w6 ⟨a6, q6, c6, rfl, hF6, H6⟩; obtain ⟨t0, t1, t2, t3⟩ := HCL.out w6 hF6.out.2)
      | (go_at_call 38; (with_reducible refine (HT.out _ _ _ _ _ _ (by first | rfl | omega | (rw [IntKind.wrap_i64]; omega)) (by first | rfl | omega | (rw [IntKind.wrap_i64]; omega)) hF6.out H6.out).mono ?_); rintro e w7 ⟨a7, q7, c7, rfl, hF7, H7⟩; obtain ⟨v0, v1, v2, v3⟩ := HCL.out w7 hF7.out.2; obtain ⟨o0, o1, o2, o3⟩ := id hF7.out.1.two))
    all_goals
      have h2 := hF7.out.1.two.set (.slice none 0 0) (.slice a7 q7 c7)
      have h5 := below_two hF7.out.1.below (Nat.le_succ _) (.slice none 0 0) (.slice a7 q7 c7)
      have h6 := kept_two (p := ok) w7 (w.heap.size + 1) (.slice none 0 0) (.slice a7 q7 c7)
      have z0 := h2.c0
      have z1 := h2.c1
      obtain ⟨mm, g1, g2, g3, g4⟩ := H7.out
      generalize (w7.setCell _ _).setCell _ _ = W9 at h2 h5 h6 z0 z1 ⊢
      subst g1
      go_wp2
      exact bodyPost_ret (v := .agg #[.slice none 0 0, .slice a7 mm.length c7]) (by simp [results, Try.results30, go_sem, asAddr, z0, z1]) rfl
        ⟨mm, _, _, g4, rfl, (show Both (kNd h) ok W9 [] mm _ from ⟨none, 0, a7, c7, rfl, Lies.nil _ _ _ (fun _ => rfl), Ples.none, g2.move h6 (fun _ _ ho => ho.1), g3⟩), h5⟩
  · have hi9 := h
    clear h
    obtain ⟨j, rfl⟩ : ∃ j, i = j + 1 := ⟨i - 1, by omega⟩
    have ej : ((j + 1 : Nat) : Int) - 1 = j := by omega
    rw [ej]
    obtain ⟨l, k, r, k', hC, hli, hs, hdg, hLL, hPP⟩ := (HM.out.later hF5.out.2)
    obtain ⟨A, x, y, B, e1, e2, e3, e4, e5, e6⟩ := join_cut HQ.out.1 hC hs (by omega)
    have hlen : (l ++ [k'] ++ r).length = m := by rw [HQ.out.2, hC.eq]; simp
    rw [e1] at hLL hlen
    obtain ⟨bb', off', a11, n11, c11, b11, m11, d11, a22, n22, c22, b22, m22, d22, ea, hbl, hbo, r1, r2, hcell⟩ := two_at hLL
    subst ea
    have HJ := put_by (cJ.out w5 x y _ _ _ _ _ _ _ _ _ _ _ _ ⟨r1, r2, e4, e5⟩)
    have HT := put_by (cT.out w5 A B x y _ _ ⟨hLL, hPP, hlen, joinT_len _ x y, e6⟩)
    have hA : A.length = j := by omega
    rw [hA] at hcell HT
    have hm2 : j + 2 ≤ m := by rw [HQ.out.2]; omega
    have HCL : Hid (∀ W : World, Below w5.heap.size w5 W → W.cell? ⟨bb', off' + j * 2, none⟩ = some (.slice a11 n11 c11) ∧ W.cell? ⟨bb', off' + j * 2 + 1, none⟩ = some (.slice b11 m11 d11) ∧ W.cell? ⟨bb', off' + (j + 1) * 2, none⟩ = some (.slice a22 n22 c22) ∧ W.cell? ⟨bb', off' + (j + 1) * 2 + 1, none⟩ = some (.slice b22 m22 d22)) := fun W hW => by
      obtain ⟨⟨q1, q2⟩, q3, q4⟩ := hcell W hW
      exact ⟨q1, q2, q3, q4⟩
    obtain ⟨s0, s1, s2, s3⟩ := HCL.out w5 (Below.refl _ _)
    have HD := put_by (And.intro (hF5.out.1.later (Below.refl _ _).drew) ((Below.refl w5.heap.size w5).drew))
    have hb9 : ¬ bb' = w.heap.size + 1 := hbo.2
    have hb8 : ¬ w.heap.size + 1 = bb' := fun e => hb9 e.symm
    have i0 : (0 : Int) ≤ (j : Int) := by omega
    have i1 : (j : Int) < (m : Int) := by omega
    have i2 : (j : Int) + 1 < (m : Int) := by omega
    have i3 : IntKind.i64.wrap ((j : Int) + 1) = (j : Int) + 1 := by rw [IntKind.wrap_i64]; omega
    have i4 : (0 : Int) ≤ (j : Int) + 1 := by omega
    have i5 : ((j : Int) + 1).toNat = j + 1 := by omega
    clear hcell r1 r2 hLL hPP hlen e1 e2 e3 e4 e5 e6 hC hli hs hdg hA hbo cJ cT cR cZ cW cK cI HM HX HY
    go_region_held3 (fun W' => W'.cell? ⟨bb', off' + j * 2, none⟩ = some (.slice a11 n11 c11) ∧ W'.cell? ⟨bb', off' + j * 2 + 1, none⟩ = some (.slice b11 m11 d11) ∧ W'.cell? ⟨bb', off' + (j + 1) * 2, none⟩ = some (.slice a22 n22 c22) ∧ W'.cell? ⟨bb', off' + (j + 1) * 2 + 1, none⟩ = some (.slice b22 m22 d22)) (go_keep) (first
      | (go_at_call 40; (with_reducible refine (HJ.out _ HD.out).mono ?_); rintro e w6 ⟨a6, q6, c6, rfl, hF6, H6⟩; obtain ⟨t0, t1, t2, t3⟩ := HCL.out w6 hF6.out.2)
      | (go_at_call 38; (with_reducible refine (HT.out _ _ _ _ _ _ (by first | rfl | omega | (rw [IntKind.wrap_i64]; omega)) (by first | rfl | omega | (rw [IntKind.wrap_i64]; omega)) hF6.out H6.out).mono ?_); rintro e w7 ⟨a7, q7, c7, rfl, hF7, H7⟩; obtain ⟨v0, v1, v2, v3⟩ := HCL.out w7 hF7.out.2; obtain ⟨o0, o1, o2, o3⟩ := id hF7.out.1.two))
    all_goals
      have h2 := hF7.out.1.two.set (.slice none 0 0) (.slice a7 q7 c7)
      have h5 := below_two hF7.out.1.below (Nat.le_succ _) (.slice none 0 0) (.slice a7 q7 c7)
      have h6 := kept_two (p := ok) w7 (w.heap.size + 1) (.slice none 0 0) (.slice a7 q7 c7)
      have z0 := h2.c0
      have z1 := h2.c1
      obtain ⟨mm, g1, g2, g3, g4⟩ := H7.out
      generalize (w7.setCell _ _).setCell _ _ = W9 at h2 h5 h6 z0 z1 ⊢
      subst g1
      go_wp2
      exact bodyPost_ret (v := .agg #[.slice none 0 0, .slice a7 mm.length c7]) (by simp [results, Try.results30, go_sem, asAddr, z0, z1]) rfl
        ⟨mm, _, _, g4, rfl, (show Both (kNd h) ok W9 [] mm _ from ⟨none, 0, a7, c7, rfl, Lies.nil _ _ _ (fun _ => rfl), Ples.none, g2.move h6 (fun _ _ ho => ho.1), g3⟩), h5⟩

end Go.Proofs.Ytcegkgobkpakiaa
