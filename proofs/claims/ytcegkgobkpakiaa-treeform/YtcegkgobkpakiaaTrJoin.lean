/- Two nodes next to each other, joined, or halved anew. -/
import Derived.Test.YtcegkgobkpakiaaTrWith
import Derived.Deep.RegionHeld3
namespace Go.Proofs.Ytcegkgobkpakiaa
open Go.ChangeShapes Go.WideShapes Go.ChangeAt Go.RowKit

set_option maxHeartbeats 8000000 in
theorem joined_leaf (ok : Nat → Prop) (l1 l2 : List Ent) (hl : l1.length + l2.length ≤ 5) (u1 v1 u2 v2 : Value) (w : World) (hok : Fresh ok w) (h1 : (kNd 0).rel ok w l1 [u1, v1]) (h2 : (kNd 0).rel ok w l2 [u2, v2]) :
    Calls Try.prog 40 #[.agg #[u1, v1], .agg #[u2, v2]] w fun e w' => ∃ a c, e = .returned (.slice a (halvesL (l1 ++ l2)).length c) ∧ Lies (kNd 0) ok w' a c (halvesL (l1 ++ l2)) ∧ Ples a c ∧ Below w.heap.size w w' := by
  obtain ⟨a1, c1, b1, d1, e, hL1, hP1, hM1, hQ1⟩ := (show Both kEnt ok w l1 [] _ from h1)
  simp only [List.cons.injEq, List.length_nil, and_true] at e
  obtain ⟨rfl, rfl⟩ := e
  obtain ⟨a2, c2, b2, d2, e, hL2, hP2, hM2, hQ2⟩ := (show Both kEnt ok w l2 [] _ from h2)
  simp only [List.cons.injEq, List.length_nil, and_true] at e
  obtain ⟨rfl, rfl⟩ := e
  obtain ⟨n1, hn1⟩ : ∃ n, n = l1.length := ⟨_, rfl⟩
  obtain ⟨n2, hn2⟩ : ∃ n, n = l2.length := ⟨_, rfl⟩
  have LE : ∀ W : World, Four w (.slice a1 n1 c1) (.slice b1 0 d1) (.slice a2 n2 c2) (.slice b2 0 d2) W → Lies (kRow kEnt) ok (W.alloc (.cells #[.slice a1 n1 c1, .slice a2 n2 c2] 28)) (some ⟨W.heap.size, 0, none⟩) 2 [l1, l2] := fun W hW => by
    have := lies_twoE (ty := 28) (hok.later hW.below.size) (hL1.later hW.below) hP1 (hL2.later hW.below) hP2
    simpa [hn1, hn2] using this
  have LN : ∀ W : World, Four w (.slice a1 n1 c1) (.slice b1 0 d1) (.slice a2 n2 c2) (.slice b2 0 d2) W → Lies (kRow (kNd 0)) ok (W.alloc (.cells #[.slice b1 0 d1, .slice b2 0 d2] 51)) (some ⟨W.heap.size, 0, none⟩) 2 [[], []] := fun W hW => by
    have := lies_twoN (K := (kNd 0)) (ty := 51) (hok.later hW.below.size) (Lies.nil _ _ _ hM1.2.1) hQ1 (Lies.nil _ _ _ hM2.2.1) hQ2
    simpa [hn1, hn2] using this
  have cE : Hid (∀ (W : World) (g : Nat), Lies (kRow kEnt) ok W (some ⟨g, 0, none⟩) 2 [l1, l2] → Four w (.slice a1 n1 c1) (.slice b1 0 d1) (.slice a2 n2 c2) (.slice b2 0 d2) W → Calls Try.prog 45 #[.slice (some ⟨g, 0, none⟩) 2 2] W fun e w' => ∃ (a : Option Addr) (q c : Nat), e = .returned (.slice a q c) ∧ Hid (Four w (.slice a1 n1 c1) (.slice b1 0 d1) (.slice a2 n2 c2) (.slice b2 0 d2) w' ∧ Below W.heap.size W w') ∧ Hid (q = (l1 ++ l2 : List Ent).length ∧ Lies kEnt ok w' a c (l1 ++ l2) ∧ Ples a c)) := fun W g hL hW => by
    have := ConcatE_any kEnt ok [l1, l2] (by simp) (by first | (simp; done) | (simp; omega)) (some ⟨g, 0, none⟩) 2 W (hok.later hW.below.size) hL
    rw [show ([l1, l2] : List (List Ent)).flatten = l1 ++ l2 by simp] at this
    refine this.mono ?_
    rintro e w' ⟨a, c, rfl, q1, q2, q3⟩
    exact ⟨a, _, c, rfl, ⟨hW.later q3, q3⟩, rfl, q1, q2⟩
  have cN : Hid (∀ (W : World) (g : Nat), Lies (kRow (kNd 0)) ok W (some ⟨g, 0, none⟩) 2 [[], []] → Four w (.slice a1 n1 c1) (.slice b1 0 d1) (.slice a2 n2 c2) (.slice b2 0 d2) W → Calls Try.prog 48 #[.slice (some ⟨g, 0, none⟩) 2 2] W fun e w' => ∃ (a : Option Addr) (q c : Nat), e = .returned (.slice a q c) ∧ Hid (Four w (.slice a1 n1 c1) (.slice b1 0 d1) (.slice a2 n2 c2) (.slice b2 0 d2) w' ∧ Below W.heap.size W w') ∧ Hid (q = ([] ++ [] : List (Tr 0)).length ∧ Lies (kNd 0) ok w' a c ([] ++ []) ∧ Ples a c)) := fun W g hL hW => by
    have := ConcatN_any (kNd 0) ok [[], []] (by simp) (by first | (simp; done) | (simp; omega)) (some ⟨g, 0, none⟩) 2 W (hok.later hW.below.size) hL
    rw [show ([[], []] : List (List (Tr 0))).flatten = [] ++ [] by simp] at this
    refine this.mono ?_
    rintro e w' ⟨a, c, rfl, q1, q2, q3⟩
    exact ⟨a, _, c, rfl, ⟨hW.later q3, q3⟩, rfl, q1, q2⟩
  have cS : Hid (∀ (W : World) (a : Option Addr) (q c : Nat) (a' : Option Addr) (q' c' : Nat), q = (l1 ++ l2 : List Ent).length ∧ Lies kEnt ok W a c (l1 ++ l2) ∧ Ples a c → q' = ([] ++ [] : List (Tr 0)).length ∧ Lies (kNd 0) ok W a' c' ([] ++ []) ∧ Ples a' c' → Four w (.slice a1 n1 c1) (.slice b1 0 d1) (.slice a2 n2 c2) (.slice b2 0 d2) W → Calls Try.prog 36 #[.agg #[.slice a q c, .slice a' q' c']] W fun e w' => ∃ (a : Option Addr) (m c : Nat), e = .returned (.slice a m c) ∧ Hid (m = (halvesL (l1 ++ l2)).length ∧ Lies (kNd 0) ok w' a c (halvesL (l1 ++ l2)) ∧ Ples a c ∧ Below w.heap.size w w') ∧ Hid (Four w (.slice a1 n1 c1) (.slice b1 0 d1) (.slice a2 n2 c2) (.slice b2 0 d2) w')) := fun W a q c a' q' c' ⟨x1, x2, x3⟩ ⟨y1, y2, y3⟩ hW => by
    have := split_leaf ok (l1 ++ l2) (by simp; omega) a a' c c' W (hok.later hW.below.size) x2 x3
    rw [← x1] at this
    simp only [List.append_nil, List.length_nil] at y1
    subst y1
    refine this.mono ?_
    rintro e w' ⟨a, c, rfl, q1, q2, q3⟩
    exact ⟨a, _, c, rfl, ⟨rfl, q1, q2, hW.below.trans (q3.mono hW.below.size)⟩, hW.later q3⟩
  have H0 := put_by (Four.new w (.slice a1 n1 c1) (.slice b1 0 d1) (.slice a2 n2 c2) (.slice b2 0 d2) 53 53)
  rw [← hn1, ← hn2]
  clear hn1 hn2
  go_enter Try.func40, Try.ntmps40
  go_wp2
  obtain ⟨W0, hW0⟩ : ∃ W0, ((w.alloc (.cells #[.slice a1 n1 c1, .slice b1 0 d1] 53)).alloc (.cells #[.slice a2 n2 c2, .slice b2 0 d2] 53)) = W0 := ⟨_, rfl⟩
  rw [hW0] at H0 ⊢
  have HD := put_by (H0.out.later (Below.refl _ _).drew)
  obtain ⟨k0, k1, -, -⟩ := id H0.out.one
  obtain ⟨k2, k3, -, -⟩ := id H0.out.two
  have bz : ∀ (W : World) (o : Obj), Below W.heap.size W (W.alloc o) := fun W o => (Below.refl _ W).alloc (Nat.le_refl _) _
  have bd : ∀ (W : World), Below W.heap.size W W.drew := fun W => (Below.refl _ W).drew
  have HE1 := put_by (((LE W0 H0.out).later (bd _)))
  have HF1 := put_by (((H0.out.later (bz W0 (.cells #[.slice a1 n1 c1, .slice a2 n2 c2] 28))).later (bd _)))
  have HE2 := put_by ((((LE W0 H0.out).later (bz _ (.cells #[.slice b1 0 d1, .slice b2 0 d2] 51))).later (bd _)))
  have HF2 := put_by ((((H0.out.later (bz W0 (.cells #[.slice a1 n1 c1, .slice a2 n2 c2] 28))).later (bz _ (.cells #[.slice b1 0 d1, .slice b2 0 d2] 51))).later (bd _)))
  have HN2 := put_by (((LN _ (H0.out.later (bz W0 (.cells #[.slice a1 n1 c1, .slice a2 n2 c2] 28)))).later (bd _)))
  have HE3 := put_by (((LE _ (H0.out.later (bz W0 (.cells #[.slice b1 0 d1, .slice b2 0 d2] 51)))).later (bd _)))
  have HF3 := put_by ((((H0.out.later (bz W0 (.cells #[.slice b1 0 d1, .slice b2 0 d2] 51))).later (bz _ (.cells #[.slice a1 n1 c1, .slice a2 n2 c2] 28))).later (bd _)))
  have HN3 := put_by ((((LN W0 H0.out).later (bz _ (.cells #[.slice a1 n1 c1, .slice a2 n2 c2] 28))).later (bd _)))
  simp only [World.size_alloc] at HN2 HE3
  have HLN := put_by LN
  clear LE LN hL1 hL2 hM1 hM2 h1 h2 hok hW0 hl 
  go_region_held3 (fun W' => W'.cell? ⟨w.heap.size, 0, none⟩ = some (.slice a1 n1 c1) ∧ W'.cell? ⟨w.heap.size, 1, none⟩ = some (.slice b1 0 d1) ∧ W'.cell? ⟨w.heap.size + 1, 0, none⟩ = some (.slice a2 n2 c2) ∧ W'.cell? ⟨w.heap.size + 1, 1, none⟩ = some (.slice b2 0 d2)) (go_keep) (first
    | (go_at_call 45; (with_reducible refine (cE.out _ _ HE1.out HF1.out).mono ?_); rintro e w1 ⟨a3, q3, c3, rfl, hF4, hR4⟩; obtain ⟨j0, j1, -, -⟩ := id hF4.out.1.one; obtain ⟨j2, j3, -, -⟩ := id hF4.out.1.two)
    | (go_at_call 45; (with_reducible refine (cE.out _ _ HE2.out HF2.out).mono ?_); rintro e w1 ⟨a3, q3, c3, rfl, hF4, hR4⟩; obtain ⟨j0, j1, -, -⟩ := id hF4.out.1.one; obtain ⟨j2, j3, -, -⟩ := id hF4.out.1.two; have HN4 := put_by (HN2.out.later hF4.out.2))
    | (go_at_call 45; (with_reducible refine (cE.out _ _ HE3.out HF3.out).mono ?_); rintro e w1 ⟨a3, q3, c3, rfl, hF4, hR4⟩; obtain ⟨j0, j1, -, -⟩ := id hF4.out.1.one; obtain ⟨j2, j3, -, -⟩ := id hF4.out.1.two; have HN4 := put_by (HN3.out.later hF4.out.2))
    | (go_at_call 48; (with_reducible refine (cN.out _ _ (HLN.out _ hF4.out.1) (hF4.out.1.later (bz _ _))).mono ?_); rintro e w2 ⟨a4, q4, c4, rfl, hF5, hR5⟩; have hR6 : Hid _ := put_by (And.intro hR4.out.1 (And.intro (((hR4.out.2.1).later (bz _ _)).later hF5.out.2) hR4.out.2.2)); obtain ⟨i0, i1, -, -⟩ := id hF5.out.1.one; obtain ⟨i2, i3, -, -⟩ := id hF5.out.1.two)
    | (go_at_call 48; (with_reducible refine (cN.out _ _ HN4.out hF4.out.1).mono ?_); rintro e w2 ⟨a4, q4, c4, rfl, hF5, hR5⟩; have hR6 : Hid _ := put_by (And.intro hR4.out.1 (And.intro ((hR4.out.2.1).later hF5.out.2) hR4.out.2.2)); obtain ⟨i0, i1, -, -⟩ := id hF5.out.1.one; obtain ⟨i2, i3, -, -⟩ := id hF5.out.1.two)
    | (go_at_call 36; (with_reducible refine (cS.out _ _ _ _ _ _ _ hR6.out hR5.out hF5.out.1).mono ?_); rintro e w3 ⟨a5, q5, c5, rfl, h9, hF6⟩; obtain ⟨m0, m1, -, -⟩ := id hF6.out.one; obtain ⟨m2, m3, -, -⟩ := id hF6.out.two))
  all_goals
    go_wp2
    go_ret
    exact ⟨a5, c5, by rw [← h9.out.1]; rfl, h9.out.2⟩

set_option maxHeartbeats 8000000 in
theorem joined_inner (ok : Nat → Prop) (h : Nat) (l1 l2 : List (Tr h)) (hne : l1 ≠ []) (hl : l1.length + l2.length ≤ 5) (u1 v1 u2 v2 : Value) (w : World) (hok : Fresh ok w) (h1 : (kNd (h + 1)).rel ok w l1 [u1, v1]) (h2 : (kNd (h + 1)).rel ok w l2 [u2, v2]) :
    Calls Try.prog 40 #[.agg #[u1, v1], .agg #[u2, v2]] w fun e w' => ∃ a c, e = .returned (.slice a (halvesL (l1 ++ l2)).length c) ∧ Lies (kNd (h + 1)) ok w' a c (halvesL (l1 ++ l2)) ∧ Ples a c ∧ Below w.heap.size w w' := by
  obtain ⟨a1, c1, b1, d1, e, hL1, hP1, hM1, hQ1⟩ := (show Both (kNd h) ok w [] l1 _ from h1)
  simp only [List.cons.injEq, List.length_nil, and_true] at e
  obtain ⟨rfl, rfl⟩ := e
  obtain ⟨a2, c2, b2, d2, e, hL2, hP2, hM2, hQ2⟩ := (show Both (kNd h) ok w [] l2 _ from h2)
  simp only [List.cons.injEq, List.length_nil, and_true] at e
  obtain ⟨rfl, rfl⟩ := e
  obtain ⟨n1, hn1⟩ : ∃ n, n = l1.length := ⟨_, rfl⟩
  obtain ⟨n2, hn2⟩ : ∃ n, n = l2.length := ⟨_, rfl⟩
  have LE : ∀ W : World, Four w (.slice a1 0 c1) (.slice b1 n1 d1) (.slice a2 0 c2) (.slice b2 n2 d2) W → Lies (kRow kEnt) ok (W.alloc (.cells #[.slice a1 0 c1, .slice a2 0 c2] 28)) (some ⟨W.heap.size, 0, none⟩) 2 [[], []] := fun W hW => by
    have := lies_twoE (ty := 28) (hok.later hW.below.size) (hL1.later hW.below) hP1 (hL2.later hW.below) hP2
    simpa [hn1, hn2] using this
  have LN : ∀ W : World, Four w (.slice a1 0 c1) (.slice b1 n1 d1) (.slice a2 0 c2) (.slice b2 n2 d2) W → Lies (kRow (kNd h)) ok (W.alloc (.cells #[.slice b1 n1 d1, .slice b2 n2 d2] 51)) (some ⟨W.heap.size, 0, none⟩) 2 [l1, l2] := fun W hW => by
    have := lies_twoN (K := (kNd h)) (ty := 51) (hok.later hW.below.size) (hM1.later hW.below) hQ1 (hM2.later hW.below) hQ2
    simpa [hn1, hn2] using this
  have cE : Hid (∀ (W : World) (g : Nat), Lies (kRow kEnt) ok W (some ⟨g, 0, none⟩) 2 [[], []] → Four w (.slice a1 0 c1) (.slice b1 n1 d1) (.slice a2 0 c2) (.slice b2 n2 d2) W → Calls Try.prog 45 #[.slice (some ⟨g, 0, none⟩) 2 2] W fun e w' => ∃ (a : Option Addr) (q c : Nat), e = .returned (.slice a q c) ∧ Hid (Four w (.slice a1 0 c1) (.slice b1 n1 d1) (.slice a2 0 c2) (.slice b2 n2 d2) w' ∧ Below W.heap.size W w') ∧ Hid (q = ([] ++ [] : List Ent).length ∧ Lies kEnt ok w' a c ([] ++ []) ∧ Ples a c)) := fun W g hL hW => by
    have := ConcatE_any kEnt ok [[], []] (by simp) (by first | (simp; done) | (simp; omega)) (some ⟨g, 0, none⟩) 2 W (hok.later hW.below.size) hL
    rw [show ([[], []] : List (List Ent)).flatten = [] ++ [] by simp] at this
    refine this.mono ?_
    rintro e w' ⟨a, c, rfl, q1, q2, q3⟩
    exact ⟨a, _, c, rfl, ⟨hW.later q3, q3⟩, rfl, q1, q2⟩
  have cN : Hid (∀ (W : World) (g : Nat), Lies (kRow (kNd h)) ok W (some ⟨g, 0, none⟩) 2 [l1, l2] → Four w (.slice a1 0 c1) (.slice b1 n1 d1) (.slice a2 0 c2) (.slice b2 n2 d2) W → Calls Try.prog 48 #[.slice (some ⟨g, 0, none⟩) 2 2] W fun e w' => ∃ (a : Option Addr) (q c : Nat), e = .returned (.slice a q c) ∧ Hid (Four w (.slice a1 0 c1) (.slice b1 n1 d1) (.slice a2 0 c2) (.slice b2 n2 d2) w' ∧ Below W.heap.size W w') ∧ Hid (q = (l1 ++ l2 : List (Tr h)).length ∧ Lies (kNd h) ok w' a c (l1 ++ l2) ∧ Ples a c)) := fun W g hL hW => by
    have := ConcatN_any (kNd h) ok [l1, l2] (by simp) (by first | (simp; done) | (simp; omega)) (some ⟨g, 0, none⟩) 2 W (hok.later hW.below.size) hL
    rw [show ([l1, l2] : List (List (Tr h))).flatten = l1 ++ l2 by simp] at this
    refine this.mono ?_
    rintro e w' ⟨a, c, rfl, q1, q2, q3⟩
    exact ⟨a, _, c, rfl, ⟨hW.later q3, q3⟩, rfl, q1, q2⟩
  have cS : Hid (∀ (W : World) (a : Option Addr) (q c : Nat) (a' : Option Addr) (q' c' : Nat), q = ([] ++ [] : List Ent).length ∧ Lies kEnt ok W a c ([] ++ []) ∧ Ples a c → q' = (l1 ++ l2 : List (Tr h)).length ∧ Lies (kNd h) ok W a' c' (l1 ++ l2) ∧ Ples a' c' → Four w (.slice a1 0 c1) (.slice b1 n1 d1) (.slice a2 0 c2) (.slice b2 n2 d2) W → Calls Try.prog 36 #[.agg #[.slice a q c, .slice a' q' c']] W fun e w' => ∃ (a : Option Addr) (m c : Nat), e = .returned (.slice a m c) ∧ Hid (m = (halvesL (l1 ++ l2)).length ∧ Lies (kNd (h + 1)) ok w' a c (halvesL (l1 ++ l2)) ∧ Ples a c ∧ Below w.heap.size w w') ∧ Hid (Four w (.slice a1 0 c1) (.slice b1 n1 d1) (.slice a2 0 c2) (.slice b2 n2 d2) w')) := fun W a q c a' q' c' ⟨x1, x2, x3⟩ ⟨y1, y2, y3⟩ hW => by
    have := split_inner (kNd h) ok (l1 ++ l2) (by simp; omega) (by simp [hne]) a a' c c' W (hok.later hW.below.size) y2 y3
    rw [← y1] at this
    simp only [List.append_nil, List.length_nil] at x1
    subst x1
    refine this.mono ?_
    rintro e w' ⟨a, c, rfl, q1, q2, q3⟩
    exact ⟨a, _, c, rfl, ⟨rfl, q1, q2, hW.below.trans (q3.mono hW.below.size)⟩, hW.later q3⟩
  have H0 := put_by (Four.new w (.slice a1 0 c1) (.slice b1 n1 d1) (.slice a2 0 c2) (.slice b2 n2 d2) 53 53)
  rw [← hn1, ← hn2]
  clear hn1 hn2
  go_enter Try.func40, Try.ntmps40
  go_wp2
  obtain ⟨W0, hW0⟩ : ∃ W0, ((w.alloc (.cells #[.slice a1 0 c1, .slice b1 n1 d1] 53)).alloc (.cells #[.slice a2 0 c2, .slice b2 n2 d2] 53)) = W0 := ⟨_, rfl⟩
  rw [hW0] at H0 ⊢
  have HD := put_by (H0.out.later (Below.refl _ _).drew)
  obtain ⟨k0, k1, -, -⟩ := id H0.out.one
  obtain ⟨k2, k3, -, -⟩ := id H0.out.two
  have bz : ∀ (W : World) (o : Obj), Below W.heap.size W (W.alloc o) := fun W o => (Below.refl _ W).alloc (Nat.le_refl _) _
  have bd : ∀ (W : World), Below W.heap.size W W.drew := fun W => (Below.refl _ W).drew
  have HE1 := put_by (((LE W0 H0.out).later (bd _)))
  have HF1 := put_by (((H0.out.later (bz W0 (.cells #[.slice a1 0 c1, .slice a2 0 c2] 28))).later (bd _)))
  have HE2 := put_by ((((LE W0 H0.out).later (bz _ (.cells #[.slice b1 n1 d1, .slice b2 n2 d2] 51))).later (bd _)))
  have HF2 := put_by ((((H0.out.later (bz W0 (.cells #[.slice a1 0 c1, .slice a2 0 c2] 28))).later (bz _ (.cells #[.slice b1 n1 d1, .slice b2 n2 d2] 51))).later (bd _)))
  have HN2 := put_by (((LN _ (H0.out.later (bz W0 (.cells #[.slice a1 0 c1, .slice a2 0 c2] 28)))).later (bd _)))
  have HE3 := put_by (((LE _ (H0.out.later (bz W0 (.cells #[.slice b1 n1 d1, .slice b2 n2 d2] 51)))).later (bd _)))
  have HF3 := put_by ((((H0.out.later (bz W0 (.cells #[.slice b1 n1 d1, .slice b2 n2 d2] 51))).later (bz _ (.cells #[.slice a1 0 c1, .slice a2 0 c2] 28))).later (bd _)))
  have HN3 := put_by ((((LN W0 H0.out).later (bz _ (.cells #[.slice a1 0 c1, .slice a2 0 c2] 28))).later (bd _)))
  simp only [World.size_alloc] at HN2 HE3
  have HLN := put_by LN
  clear LE LN hL1 hL2 hM1 hM2 h1 h2 hok hW0 hl hne
  go_region_held3 (fun W' => W'.cell? ⟨w.heap.size, 0, none⟩ = some (.slice a1 0 c1) ∧ W'.cell? ⟨w.heap.size, 1, none⟩ = some (.slice b1 n1 d1) ∧ W'.cell? ⟨w.heap.size + 1, 0, none⟩ = some (.slice a2 0 c2) ∧ W'.cell? ⟨w.heap.size + 1, 1, none⟩ = some (.slice b2 n2 d2)) (go_keep) (first
    | (go_at_call 45; (with_reducible refine (cE.out _ _ HE1.out HF1.out).mono ?_); rintro e w1 ⟨a3, q3, c3, rfl, hF4, hR4⟩; obtain ⟨j0, j1, -, -⟩ := id hF4.out.1.one; obtain ⟨j2, j3, -, -⟩ := id hF4.out.1.two)
    | (go_at_call 45; (with_reducible refine (cE.out _ _ HE2.out HF2.out).mono ?_); rintro e w1 ⟨a3, q3, c3, rfl, hF4, hR4⟩; obtain ⟨j0, j1, -, -⟩ := id hF4.out.1.one; obtain ⟨j2, j3, -, -⟩ := id hF4.out.1.two; have HN4 := put_by (HN2.out.later hF4.out.2))
    | (go_at_call 45; (with_reducible refine (cE.out _ _ HE3.out HF3.out).mono ?_); rintro e w1 ⟨a3, q3, c3, rfl, hF4, hR4⟩; obtain ⟨j0, j1, -, -⟩ := id hF4.out.1.one; obtain ⟨j2, j3, -, -⟩ := id hF4.out.1.two; have HN4 := put_by (HN3.out.later hF4.out.2))
    | (go_at_call 48; (with_reducible refine (cN.out _ _ (HLN.out _ hF4.out.1) (hF4.out.1.later (bz _ _))).mono ?_); rintro e w2 ⟨a4, q4, c4, rfl, hF5, hR5⟩; have hR6 : Hid _ := put_by (And.intro hR4.out.1 (And.intro (((hR4.out.2.1).later (bz _ _)).later hF5.out.2) hR4.out.2.2)); obtain ⟨i0, i1, -, -⟩ := id hF5.out.1.one; obtain ⟨i2, i3, -, -⟩ := id hF5.out.1.two)
    | (go_at_call 48; (with_reducible refine (cN.out _ _ HN4.out hF4.out.1).mono ?_); rintro e w2 ⟨a4, q4, c4, rfl, hF5, hR5⟩; have hR6 : Hid _ := put_by (And.intro hR4.out.1 (And.intro ((hR4.out.2.1).later hF5.out.2) hR4.out.2.2)); obtain ⟨i0, i1, -, -⟩ := id hF5.out.1.one; obtain ⟨i2, i3, -, -⟩ := id hF5.out.1.two)
    | (go_at_call 36; (with_reducible refine (cS.out _ _ _ _ _ _ _ hR6.out hR5.out hF5.out.1).mono ?_); rintro e w3 ⟨a5, q5, c5, rfl, h9, hF6⟩; obtain ⟨m0, m1, -, -⟩ := id hF6.out.one; obtain ⟨m2, m3, -, -⟩ := id hF6.out.two))
  all_goals
    go_wp2
    go_ret
    exact ⟨a5, c5, by rw [← h9.out.1]; rfl, h9.out.2⟩

end Go.Proofs.Ytcegkgobkpakiaa
