/- The least key below a node; where a key is found in a leaf. -/
import Derived.Test.YtcegkgobkpakiaaTrFind
import Derived.Deep.LoopGhost
namespace Go.Proofs.Ytcegkgobkpakiaa
open Go.ChangeShapes Go.WideShapes Go.ChangeAt Go.RowKit

set_option maxHeartbeats 1000000 in
theorem find_any (ok : Nat → Prop) (es : List Ent) (hl : es.length ≤ 5) (ha : Asc es) (a b : Option Addr) (c m d : Nat) (ko : Option Addr) (kc : Nat) (ks : List Int) (w : World) (he : Lies kEnt ok w a c es) (hf : Octs w ko kc ks) :
    Calls Try.prog 34 #[.agg #[.slice a es.length c, .slice b m d], .slice ko ks.length kc] w fun e w' =>
      ∃ l r, es = l ++ r ∧ (∀ y ∈ l, ahead y.1 ks = true) ∧ (∀ y ∈ r, ahead y.1 ks = false) ∧ e = .returned (.tuple #[.int .i64 l.length, .bool (headIs r ks)]) ∧ Below w.heap.size w w' := by
  have cS : Hid (∀ o, Calls Try.prog 43 #[.slice a es.length c, .slice ko ks.length kc, .func (.func 44) #[] #[]] (w.alloc o) fun e w' => ∃ l r, Hid (es = l ++ r ∧ (∀ y ∈ l, ahead y.1 ks = true) ∧ (∀ y ∈ r, ahead y.1 ks = false)) ∧ e = .returned (.tuple #[.int .i64 l.length, .bool (headIs r ks)]) ∧ Hid (Below w.heap.size w w')) := fun o => by
    have hb : Below w.heap.size w (w.alloc o) := (Below.refl _ w).alloc (Nat.le_refl _) _
    refine (search_any ok es hl ha a c ko kc ks _ (he.later hb) (hf.later hb)).mono ?_
    rintro e w' ⟨l, r, h1, h2, h3, h4, h5⟩
    exact ⟨l, r, ⟨h1, h2, h3⟩, h4, hb.trans (h5.mono hb.size)⟩
  generalize es.length = n at cS ⊢
  generalize ks.length = q at cS ⊢
  clear he hf hl
  go_enter Try.func34, Try.ntmps34
  go_wp2_with (go_at_call 43; (with_reducible refine (cS.out _).mono ?_); rintro e w1 ⟨l, r, H1, rfl, b1⟩)
  go_ret2
  exact ⟨l, r, H1.out.1, H1.out.2.1, H1.out.2.2, rfl, b1.out⟩

/-- a node's cells are two slices -/
theorem nd_form {ok : Nat → Prop} {w : World} : ∀ {h : Nat} {t : Tr h} {cs : List Value}, (kNd h).rel ok w t cs → ∃ a n c b m d, cs = [.slice a n c, .slice b m d]
  | 0, _, _, ⟨a, c, b, d, e, _⟩ => ⟨a, _, c, b, _, d, e⟩
  | _ + 1, _, _, ⟨a, c, b, d, e, _⟩ => ⟨a, _, c, b, _, d, e⟩

/-- the first entry of a leaf -/
theorem least_here {ok : Nat → Prop} {w : World} {es : Tr 0} {a b : Option Addr} {n c m d : Nat} (h : (kNd 0).rel ok w es [.slice a n c, .slice b m d]) (hp : 1 ≤ deg 0 es) :
    m = 0 ∧ 0 < n ∧ ∃ bb off a1 c1, a = some ⟨bb, off, none⟩ ∧ bb < w.heap.size ∧ w.cell? ⟨bb, off, none⟩ = some (.slice a1 (leastK 0 es).length c1) ∧ Octs w a1 c1 (leastK 0 es) := by
  change List Ent at es
  obtain ⟨a', c', b', d', e, hL, -⟩ := (show Both kEnt ok w es [] _ from h)
  simp only [List.cons.injEq, Value.slice.injEq, and_true] at e
  obtain ⟨⟨rfl, hn, rfl⟩, rfl, hm, rfl⟩ := e
  have hpos : 0 < es.length := hp
  obtain ⟨bb, off, rfl, hb, _, cs, ⟨x1, x2, rfl, ⟨a1, c1, rfl, o1, _⟩, -⟩, hc⟩ := hL.at hpos
  have hK : leastK 0 es = (es[0]).1 := by
    match es, hpos with
    | x :: l, _ => rfl
  refine ⟨hm, by omega, bb, off, a1, c1, rfl, hb, ?_, ?_⟩
  · rw [hK]
    simpa using hc 0 _ rfl
  · rw [hK]
    exact o1

/-- the first kid of a node -/
theorem least_below {ok : Nat → Prop} {w : World} {k : Nat} {ks : Tr (k + 1)} {a b : Option Addr} {n c m d : Nat} (h : (kNd (k + 1)).rel ok w ks [.slice a n c, .slice b m d]) (hp : 1 ≤ deg (k + 1) ks) (hw : Wk (k + 1) ks) :
    (¬ m = 0) ∧ ∃ bb off, b = some ⟨bb, off, none⟩ ∧ bb < w.heap.size ∧ ∃ (x : Tr k) (a1 b1 : Option Addr) (n1 c1 m1 d1 : Nat), w.cell? ⟨bb, off, none⟩ = some (.slice a1 n1 c1) ∧ w.cell? ⟨bb, off + 1, none⟩ = some (.slice b1 m1 d1) ∧ (kNd k).rel ok w x [.slice a1 n1 c1, .slice b1 m1 d1] ∧ 1 ≤ deg k x ∧ Wk k x ∧ leastK (k + 1) ks = leastK k x := by
  change List (Tr k) at ks
  obtain ⟨a', c', b', d', e, -, -, hL, -⟩ := (show Both (kNd k) ok w [] ks _ from h)
  simp only [List.cons.injEq, Value.slice.injEq, and_true] at e
  obtain ⟨⟨rfl, hn, rfl⟩, rfl, hm, rfl⟩ := e
  have hpos : 0 < ks.length := hp
  obtain ⟨bb, off, rfl, hb, _, cs, hr, hc⟩ := hL.at hpos
  obtain ⟨a1, n1, c1, b1, m1, d1, rfl⟩ := nd_form hr
  have hwx := (Wk_node ks).1 hw ks[0] (List.getElem_mem hpos)
  refine ⟨by omega, bb, off, rfl, hb, ks[0], a1, b1, n1, c1, m1, d1, by simpa using hc 0 _ rfl, by simpa using hc 1 _ rfl, hr, by have := hwx.1; omega, hwx.2.2, ?_⟩
  have hne := flat_pos k ks[0] (by have := hwx.1; omega) hwx.2.2
  match ks, hpos with
  | x :: l, _ =>
    simp only [leastK, flat_node, List.flatMap_cons, List.getElem_cons_zero] at hne ⊢
    match hh : flat k x, hne with
    | e :: l', _ => rfl

set_option maxHeartbeats 4000000 in
theorem least_any (ok : Nat → Prop) (h : Nat) (t : Tr h) (hd : 1 ≤ deg h t) (hw : Wk h t) (u v : Value) (w : World) (hr : (kNd h).rel ok w t [u, v]) :
    Calls Try.prog 25 #[.agg #[u, v]] w fun e w' => ∃ a c, e = .returned (.slice a (leastK h t).length c) ∧ Octs w' a c (leastK h t) ∧ Below w.heap.size w w' := by
  obtain ⟨L, hL⟩ : ∃ L, L = leastK h t := ⟨_, rfl⟩
  rw [← hL]
  have H0 : Hid ((kNd h).rel ok w t [u, v] ∧ 1 ≤ deg h t ∧ Wk h t ∧ L = leastK h t) := ⟨hr, hd, hw, hL⟩
  clear hr hd hw hL
  obtain ⟨a, n, c, b, m, d, e0⟩ := nd_form H0.out.1
  simp only [List.cons.injEq, and_true] at e0
  obtain ⟨rfl, rfl⟩ := e0
  go_enter Try.func25, Try.ntmps25
  go_wp2
  go_loopg [] h (fun k wr => ∃ (t' : Tr k) (a b : Option Addr) (n c m d : Nat), wr.cell? ⟨w.heap.size, 0, none⟩ = some (.slice a n c) ∧ wr.cell? ⟨w.heap.size, 1, none⟩ = some (.slice b m d) ∧ wr.frozen? ⟨w.heap.size, 0, none⟩ = false ∧ wr.frozen? ⟨w.heap.size, 1, none⟩ = false ∧
    Hid ((kNd k).rel ok w t' [.slice a n c, .slice b m d] ∧ 1 ≤ deg k t' ∧ Wk k t' ∧ L = leastK k t' ∧ Below w.heap.size w wr))
  case atStart => exact ⟨t, a, b, n, c, m, d, by simp, by simp, by simp, by simp, H0.out.1, H0.out.2.1, H0.out.2.2.1, H0.out.2.2.2, (Below.refl _ w).alloc (Nat.le_refl _) _⟩
  case round =>
    obtain ⟨t', a, b, n, c, m, d, k0, k1, f0, f1, HR⟩ := hrel
    have hB : w.heap.size < wr.heap.size := World.block_lt_of_cell? _ _ k0
    have cI : Hid (Calls Try.prog 33 #[.agg #[.slice a n c, .slice b m d]] wr fun e w' => e = .returned (.bool (decide (m = 0))) ∧ w'.cell? ⟨w.heap.size, 0, none⟩ = some (.slice a n c) ∧ w'.cell? ⟨w.heap.size, 1, none⟩ = some (.slice b m d) ∧ w'.frozen? ⟨w.heap.size, 0, none⟩ = false ∧ w'.frozen? ⟨w.heap.size, 1, none⟩ = false ∧ Hid (Below w.heap.size w w')) := by
      refine (isLeaf_any a b n m c d wr).mono ?_
      rintro e w' ⟨rfl, h1⟩
      exact ⟨rfl, (h1.cell (p := ⟨w.heap.size, 0, none⟩) hB).trans k0, (h1.cell (p := ⟨w.heap.size, 1, none⟩) hB).trans k1, (h1.frozen (p := ⟨w.heap.size, 0, none⟩) hB).trans f0, (h1.frozen (p := ⟨w.heap.size, 1, none⟩) hB).trans f1, HR.out.2.2.2.2.trans (h1.mono HR.out.2.2.2.2.size)⟩
    match gk, t', HR with
    | 0, es, HR =>
      obtain ⟨rfl, hn, bb, off, a1, c1, rfl, hb, hc, ho⟩ := least_here HR.out.1 HR.out.2.1
      rw [← HR.out.2.2.2.1] at hc ho
      have HC : Hid (∀ W : World, Below w.heap.size w W → W.cell? ⟨bb, off, none⟩ = some (.slice a1 L.length c1)) := fun W hW => (hW.cell (p := ⟨bb, off, none⟩) hb).trans hc
      have HO : Hid (Octs w a1 c1 L) := ho
      clear hc ho HR
      go_wp2_with (go_at_call 33; (with_reducible refine cI.out.mono ?_); rintro e w1 ⟨rfl, k0', k1', f0', f1', b1⟩; have kc := HC.out w1 b1.out)
      go_ret
      exact ⟨a1, c1, rfl, HO.out.later b1.out, b1.out⟩
    | k + 1, ks, HR =>
      obtain ⟨hm, bb, off, rfl, hb, x, a1, b1, n1, c1, m1, d1, hc0, hc1, hr, hx1, hx2, hx3⟩ := least_below HR.out.1 HR.out.2.1 HR.out.2.2.1
      have HC : Hid (∀ W : World, Below w.heap.size w W → W.cell? ⟨bb, off, none⟩ = some (.slice a1 n1 c1) ∧ W.cell? ⟨bb, off + 1, none⟩ = some (.slice b1 m1 d1)) := fun W hW => ⟨(hW.cell (p := ⟨bb, off, none⟩) hb).trans hc0, (hW.cell (p := ⟨bb, off + 1, none⟩) hb).trans hc1⟩
      have HX : Hid ((kNd k).rel ok w x [.slice a1 n1 c1, .slice b1 m1 d1] ∧ 1 ≤ deg k x ∧ Wk k x ∧ L = leastK k x) := ⟨hr, hx1, hx2, by rw [HR.out.2.2.2.1, hx3]⟩
      have hbne : ¬ bb = w.heap.size := by omega
      have hmp : (0 : Int) < (m : Int) := by omega
      clear hc0 hc1 hr hx1 hx2 hx3 HR
      go_wp2_with (go_at_call 33; (with_reducible refine cI.out.mono ?_); rintro e w1 ⟨rfl, k0', k1', f0', f1', bw⟩; obtain ⟨kc0, kc1⟩ := HC.out w1 bw.out)
      go_roundg k
      case measure => omega
      case rel =>
        have h2 := (Two.mk k0' k1' f0' f1').set (.slice a1 n1 c1) (.slice b1 m1 d1)
        exact ⟨x, a1, b1, n1, c1, m1, d1, h2.c0, h2.c1, h2.f0, h2.f1, HX.out.1, HX.out.2.1, HX.out.2.2.1, HX.out.2.2.2, below_two bw.out (Nat.le_refl _) _ _⟩

end Go.Proofs.Ytcegkgobkpakiaa
