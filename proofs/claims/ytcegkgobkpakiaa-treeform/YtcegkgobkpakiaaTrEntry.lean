/- The entry of a key, if there is one. -/
import Derived.Test.YtcegkgobkpakiaaTrKid
namespace Go.Proofs.Ytcegkgobkpakiaa
open Go.ChangeShapes Go.WideShapes Go.ChangeAt Go.RowKit

/-- a tree in which a key can be looked for -/
structure Wq (h : Nat) (t : Tr h) : Prop where
  most : deg h t ≤ 4
  some : 0 < h → 1 ≤ deg h t
  kids : Wk h t
  asc : Asc (flat h t)

theorem Wq.kid {h : Nat} {ks : List (Tr h)} (hq : Wq (h + 1) ks) {l : List (Tr h)} {x : Tr h} {r : List (Tr h)} (e : ks = l ++ x :: r) : Wq h x := by
  have hx := (Wk_node ks).1 hq.kids x (by rw [e]; simp)
  refine ⟨hx.2.1, fun _ => by have := hx.1; omega, hx.2.2, ?_⟩
  have := hq.asc
  rw [e, flat_node, List.flatMap_append, List.flatMap_cons] at this
  exact (List.pairwise_append.1 (List.pairwise_append.1 this).2.1).1

theorem KidCut.flat {h : Nat} {ks : List (Tr h)} {key : List Int} {l : List (Tr h)} {x : Tr h} {r : List (Tr h)} (hc : KidCut h ks key l x r) : Go.Proofs.Ytcegkgobkpakiaa.flat (h + 1) ks = l.flatMap (Go.Proofs.Ytcegkgobkpakiaa.flat h) ++ (Go.Proofs.Ytcegkgobkpakiaa.flat h x ++ r.flatMap (Go.Proofs.Ytcegkgobkpakiaa.flat h)) := by
  rw [hc.eq, flat_node, List.flatMap_append, List.flatMap_cons]

theorem KidCut.look {h : Nat} {ks : List (Tr h)} {key : List Int} {l : List (Tr h)} {x : Tr h} {r : List (Tr h)} (hc : KidCut h ks key l x r) : lookK (Go.Proofs.Ytcegkgobkpakiaa.flat (h + 1) ks) key = lookK (Go.Proofs.Ytcegkgobkpakiaa.flat h x) key := by
  rw [hc.flat, lookK_right hc.left, lookK_left hc.right]

/-- the kid at which the kids were cut, in memory -/
theorem kid_at {ok : Nat → Prop} {h : Nat} {w : World} {bb off d : Nat} {ks : List (Tr h)} {key : List Int} (hL : Lies (kNd h) ok w (some ⟨bb, off, none⟩) d ks) {l : List (Tr h)} {x : Tr h} {r : List (Tr h)} (hc : KidCut h ks key l x r) :
    l.length < ks.length ∧ ∃ a1 n1 c1 b1 m1 d1, (kNd h).rel ok w x [.slice a1 n1 c1, .slice b1 m1 d1] ∧ ∀ W : World, Below w.heap.size w W → W.cell? ⟨bb, off + l.length * 2, none⟩ = some (.slice a1 n1 c1) ∧ W.cell? ⟨bb, off + l.length * 2 + 1, none⟩ = some (.slice b1 m1 d1) := by
  have hk : l.length < ks.length := by rw [hc.eq]; simp
  obtain ⟨bb', off', a1, n1, c1, b1, m1, d1, e, hb, _, hr, hcell⟩ := kid_cells hL hk
  cases e
  have hx : ks[l.length] = x := by
    have : ∀ (q : List (Tr h)) (hq : l.length < q.length), q = l ++ x :: r → q[l.length] = x := by
      intro q hq e
      subst e
      simp
    exact this ks hk hc.eq
  rw [hx] at hr
  exact ⟨hk, a1, n1, c1, b1, m1, d1, hr, hcell⟩

/-- an entry of a leaf, in memory -/
theorem ent_at {ok : Nat → Prop} {w : World} {ao : Option Addr} {cap : Nat} {es : List Ent} (hL : Lies kEnt ok w ao cap es) {k : Nat} (hk : k < es.length) :
    ∃ bb off a1 c1 a2 c2, ao = some ⟨bb, off, none⟩ ∧ IsBody w ok (.slice a1 (es[k].1).length c1) es[k].1 ∧ IsBody w ok (.slice a2 (es[k].2).length c2) es[k].2 ∧ ∀ W : World, Below w.heap.size w W → W.cell? ⟨bb, off + k * 2, none⟩ = some (.slice a1 (es[k].1).length c1) ∧ W.cell? ⟨bb, off + k * 2 + 1, none⟩ = some (.slice a2 (es[k].2).length c2) := by
  obtain ⟨bb, off, e, hb, _, cs, ⟨u, v, rfl, h1, h2⟩, hc⟩ := hL.at hk
  obtain ⟨a1, c1, rfl, _⟩ := id h1
  obtain ⟨a2, c2, rfl, _⟩ := id h2
  exact ⟨bb, off, a1, c1, a2, c2, e, h1, h2, fun W hW => ⟨(hW.cell (p := ⟨bb, off + k * 2, none⟩) hb).trans (by simpa using hc 0 _ rfl), (hW.cell (p := ⟨bb, off + k * 2 + 1, none⟩) hb).trans (hc 1 _ rfl)⟩⟩

theorem put_by {p : Prop} (h : p) : Hid p := h

/-- what looking for a key comes to -/
def EntPost (ok : Nat → Prop) (found : Option (List Int)) (w : World) (e : Ending) (w' : World) : Prop :=
  match found with
  | none => e = .returned (.tuple #[.agg #[.slice none 0 0, .slice none 0 0], .bool false]) ∧ Below w.heap.size w w'
  | some v => ∃ a1 n1 c1 a2 c2, e = .returned (.tuple #[.agg #[.slice a1 n1 c1, .slice a2 v.length c2], .bool true]) ∧ IsBody w' ok (.slice a2 v.length c2) v ∧ Below w.heap.size w w'

/-- in a leaf: what is found is the value of that key, if it is there -/
theorem look_leaf {es l r : List Ent} {key : List Int} (ha : Asc es) (e : es = l ++ r) (hl : ∀ y ∈ l, ahead y.1 key = true) (hr : ∀ y ∈ r, ahead y.1 key = false) :
    (headIs r key = false ∧ lookK es key = none) ∨ (headIs r key = true ∧ ∃ hk : l.length < es.length, lookK es key = some es[l.length].2) := by
  have e1 : lookK es key = lookK r key := by rw [e, lookK_right hl]
  subst e
  cases r with
  | nil => exact .inl ⟨rfl, e1⟩
  | cons x r =>
    have ha2 := (List.pairwise_append.1 ha).2.1
    have ha3 := (List.pairwise_cons.1 ha2).1
    by_cases hx : x.1 = key
    · right
      refine ⟨decide_eq_true hx, by simp, ?_⟩
      rw [e1, lookK, lookK_none (l := r) (fun y hy q => ahead_ne (ha3 y hy) (by rw [hx, q]))]
      simp [hx]
    · left
      refine ⟨decide_eq_false hx, ?_⟩
      rw [e1]
      refine lookK_none (fun y hy q => ?_)
      rcases List.mem_cons.1 hy with rfl | hy
      · exact hx q
      · have h1 := ha3 y hy
        rw [q] at h1
        rw [hr x List.mem_cons_self] at h1
        cases h1

set_option maxHeartbeats 8000000 in
theorem entry_any (ok : Nat → Prop) (h : Nat) (t : Tr h) (hq : Wq h t) (u v : Value) (ko : Option Addr) (kc : Nat) (key : List Int) (w : World) (hr : (kNd h).rel ok w t [u, v]) (hf : Octs w ko kc key) :
    Calls Try.prog 29 #[.agg #[u, v], .slice ko key.length kc] w fun e w' => EntPost ok (lookK (flat h t) key) w e w' := by
  obtain ⟨R, hR⟩ : ∃ R, R = lookK (flat h t) key := ⟨_, rfl⟩
  rw [← hR]
  have H0 : Hid ((kNd h).rel ok w t [u, v] ∧ Wq h t ∧ R = lookK (flat h t) key) := ⟨hr, hq, hR⟩
  have HF : Hid (Octs w ko kc key) := hf
  clear hr hq hR hf
  obtain ⟨a, n, c, b, m, d, e0⟩ := nd_form H0.out.1
  simp only [List.cons.injEq, and_true] at e0
  obtain ⟨rfl, rfl⟩ := e0
  obtain ⟨km, hkm⟩ : ∃ km, km = key.length := ⟨_, rfl⟩
  rw [← hkm]
  have HK : Hid (km = key.length) := hkm
  clear hkm
  go_enter Try.func29, Try.ntmps29
  go_wp2
  go_loopg [] h (fun k wr => ∃ (t' : Tr k) (a b : Option Addr) (n c m d : Nat), Two wr w.heap.size (.slice a n c) (.slice b m d) ∧ Two wr (w.heap.size + 1) (.slice none 0 0) (.slice none 0 0) ∧
    Hid ((kNd k).rel ok w t' [.slice a n c, .slice b m d] ∧ Wq k t' ∧ R = lookK (flat k t') key ∧ Below w.heap.size w wr))
  case atStart =>
    have hb : Below w.heap.size w (w.alloc (.cells #[.slice a n c, .slice b m d] 53)) := (Below.refl _ w).alloc (Nat.le_refl _) _
    refine ⟨t, a, b, n, c, m, d, (Two.new _ _ _ _).later ((Below.refl _ _).alloc (Nat.le_refl _) _), ?_, H0.out.1, H0.out.2.1, H0.out.2.2, hb.alloc (by simp) _⟩
    exact ⟨by simp, by simp, by simp, by simp⟩
  case round =>
    obtain ⟨t', a, b, n, c, m, d, h1, h2, HR⟩ := hrel
    obtain ⟨k0, k1, f0, f1⟩ := id h1
    have H1 : Hid (Two wr w.heap.size (.slice a n c) (.slice b m d) ∧ Two wr (w.heap.size + 1) (.slice none 0 0) (.slice none 0 0)) := ⟨h1, h2⟩
    have cI : Hid (Calls Try.prog 33 #[.agg #[.slice a n c, .slice b m d]] wr fun e w' => e = .returned (.bool (decide (m = 0))) ∧ Hid (Two w' w.heap.size (.slice a n c) (.slice b m d) ∧ Two w' (w.heap.size + 1) (.slice none 0 0) (.slice none 0 0) ∧ Below w.heap.size w w')) := by
      refine (isLeaf_any a b n m c d wr).mono ?_
      rintro e w' ⟨rfl, h3⟩
      exact ⟨rfl, h1.later h3, h2.later h3, HR.out.2.2.2.trans (h3.mono HR.out.2.2.2.size)⟩
    clear h1 h2 H0
    match gk, t', HR with
    | 0, es, HR =>
      change List Ent at es
      obtain ⟨a', c', b', d', e, hL, -⟩ := (show Both kEnt ok w es [] _ from HR.out.1)
      simp only [List.cons.injEq, Value.slice.injEq, and_true] at e
      obtain ⟨⟨rfl, hn, rfl⟩, rfl, hm, rfl⟩ := e
      simp only [List.length_nil] at hm
      subst hm
      have hasc : Asc es := HR.out.2.1.asc
      have hmost : es.length ≤ 4 := HR.out.2.1.most
      have cF : Hid (∀ W : World, Two W w.heap.size (.slice a n c) (.slice b 0 d) ∧ Two W (w.heap.size + 1) (.slice none 0 0) (.slice none 0 0) ∧ Below w.heap.size w W → Calls Try.prog 34 #[.agg #[.slice a n c, .slice b 0 d], .slice ko km kc] W fun e w' =>
          (∃ i : Nat, e = .returned (.tuple #[.int .i64 i, .bool false]) ∧ w'.frozen? ⟨w.heap.size + 1, 0, none⟩ = false ∧ w'.frozen? ⟨w.heap.size + 1, 1, none⟩ = false ∧ w'.cell? ⟨w.heap.size + 1, 0, none⟩ = some (.slice none 0 0) ∧ w'.cell? ⟨w.heap.size + 1, 1, none⟩ = some (.slice none 0 0) ∧ Hid (R = none ∧ Two w' (w.heap.size + 1) (.slice none 0 0) (.slice none 0 0) ∧ Below w.heap.size w w')) ∨
          (∃ (i : Nat) (bb off : Nat) (a1 : Option Addr) (n1 c1 : Nat) (a2 : Option Addr) (n2 c2 : Nat), e = .returned (.tuple #[.int .i64 i, .bool true]) ∧ i < n ∧ a = some ⟨bb, off, none⟩ ∧ w'.cell? ⟨w.heap.size, 0, none⟩ = some (.slice a n c) ∧ w'.cell? ⟨bb, off + i * 2, none⟩ = some (.slice a1 n1 c1) ∧ w'.cell? ⟨bb, off + i * 2 + 1, none⟩ = some (.slice a2 n2 c2) ∧ w'.frozen? ⟨w.heap.size + 1, 0, none⟩ = false ∧ w'.frozen? ⟨w.heap.size + 1, 1, none⟩ = false ∧ w'.cell? ⟨w.heap.size + 1, 0, none⟩ = some (.slice none 0 0) ∧ w'.cell? ⟨w.heap.size + 1, 1, none⟩ = some (.slice none 0 0) ∧
            Hid (∃ v, R = some v ∧ n2 = v.length ∧ IsBody w ok (.slice a2 n2 c2) v ∧ Below w.heap.size w w'))) := fun W ⟨hT1, hT2, hW⟩ => by
        have := find_any ok es (by omega) hasc a b c 0 d ko kc key W (hL.later hW) (HF.out.later hW)
        rw [← hn, ← HK.out] at this
        refine this.mono ?_
        rintro e w' ⟨l, r, e1, e2, e3, rfl, hb⟩
        have hbw := hW.trans (hb.mono hW.size)
        have q1 := hT1.later hb
        have q2 := hT2.later hb
        rcases look_leaf hasc e1 e2 e3 with ⟨g1, g2⟩ | ⟨g1, hk, g2⟩
        · rw [g1]
          exact .inl ⟨l.length, rfl, q2.f0, q2.f1, q2.c0, q2.c1, by rw [HR.out.2.2.1]; exact g2, q2, hbw⟩
        · rw [g1]
          obtain ⟨bb, off, a1, c1, a2, c2, ea, i1, i2, hc⟩ := ent_at hL hk
          obtain ⟨x0, x1⟩ := hc w' hbw
          exact .inr ⟨l.length, bb, off, a1, _, c1, a2, _, c2, rfl, by omega, ea, q1.c0, x0, x1, q2.f0, q2.f1, q2.c0, q2.c1, _, by rw [HR.out.2.2.1]; exact g2, rfl, i2, hbw⟩
      clear hL hasc hmost hn HR HF HK
      go_wp2_with (first
        | (go_at_call 33; (with_reducible refine cI.out.mono ?_); rintro e w1 ⟨rfl, hI⟩; have k0' := hI.out.1.c0; have k1' := hI.out.1.c1)
        | (go_at_call 34; (with_reducible refine (cF.out _ hI.out).mono ?_); rintro e w2 (⟨i, rfl, y3, y4, y5, y6, h9⟩ | ⟨i, bb, off, a1, n1, c1, a2, n2, c2, rfl, hi, rfl, y0, y1, y2, y3, y4, y5, y6, h9⟩)))
      · have h2 := h9.out.2.1.set (.slice none 0 0) (.slice none 0 0)
        have h3 := below_two h9.out.2.2 (Nat.le_succ _) (.slice none 0 0) (.slice none 0 0)
        have z0 := h2.c0
        have z1 := h2.c1
        have hR := h9.out.1
        generalize (w2.setCell _ _).setCell _ _ = W9 at h2 h3 z0 z1 ⊢
        subst hR
        exact bodyPost_ret (v := .tuple #[.agg #[.slice none 0 0, .slice none 0 0], .bool false]) (by simp [results, Try.results29, go_sem, asAddr, z0, z1]) rfl ⟨rfl, h3⟩
      · have h2 := (Two.mk y5 y6 y3 y4).set (.slice a1 n1 c1) (.slice a2 n2 c2)
        obtain ⟨v, hR, hn2, hv, hbw⟩ := h9.out
        have h3 := below_two hbw (Nat.le_succ _) (.slice a1 n1 c1) (.slice a2 n2 c2)
        have z0 := h2.c0
        have z1 := h2.c1
        generalize (w2.setCell _ _).setCell _ _ = W9 at h2 h3 z0 z1 ⊢
        subst hR hn2
        exact bodyPost_ret (v := .tuple #[.agg #[.slice a1 n1 c1, .slice a2 v.length c2], .bool true]) (by simp [results, Try.results29, go_sem, asAddr, z0, z1]) rfl ⟨a1, n1, c1, a2, c2, rfl, hv.move (Kept.of_below h3) (fun _ _ q => q), h3⟩
    | k + 1, ks, HR =>
      change List (Tr k) at ks
      obtain ⟨a', c', b', d', e, -, -, hL, -⟩ := (show Both (kNd k) ok w [] ks _ from HR.out.1)
      simp only [List.cons.injEq, Value.slice.injEq, and_true] at e
      obtain ⟨⟨rfl, hn, rfl⟩, rfl, hm, rfl⟩ := e
      have hq := HR.out.2.1
      have hpos : 0 < ks.length := hq.some (Nat.succ_pos _)
      have hmost : ks.length ≤ 4 := hq.most
      obtain ⟨bb, off, rfl, -⟩ := hL.at hpos
      have cK : Hid (∀ W : World, Two W w.heap.size (.slice a n c) (.slice (some ⟨bb, off, none⟩) m d) ∧ Two W (w.heap.size + 1) (.slice none 0 0) (.slice none 0 0) ∧ Below w.heap.size w W → Calls Try.prog 37 #[.agg #[.slice a n c, .slice (some ⟨bb, off, none⟩) m d], .slice ko km kc] W fun e w' =>
          ∃ (i : Nat) (a1 : Option Addr) (n1 c1 : Nat) (b1 : Option Addr) (m1 d1 : Nat), e = .returned (.int .i64 i) ∧ i < m ∧ w'.cell? ⟨bb, off + i * 2, none⟩ = some (.slice a1 n1 c1) ∧ w'.cell? ⟨bb, off + i * 2 + 1, none⟩ = some (.slice b1 m1 d1) ∧ w'.cell? ⟨w.heap.size, 0, none⟩ = some (.slice a n c) ∧ w'.cell? ⟨w.heap.size, 1, none⟩ = some (.slice (some ⟨bb, off, none⟩) m d) ∧ w'.frozen? ⟨w.heap.size, 0, none⟩ = false ∧ w'.frozen? ⟨w.heap.size, 1, none⟩ = false ∧
            Hid (Two w' (w.heap.size + 1) (.slice none 0 0) (.slice none 0 0) ∧ Below w.heap.size w w' ∧ ∃ x : Tr k, (kNd k).rel ok w x [.slice a1 n1 c1, .slice b1 m1 d1] ∧ Wq k x ∧ R = lookK (flat k x) key)) := fun W ⟨hT1, hT2, hW⟩ => by
        have := kidOf_any ok k ks hpos (by omega) ((Wk_node ks).1 hq.kids) hq.asc a (some ⟨bb, off, none⟩) n c d ko kc key W (hL.later hW) (HF.out.later hW)
        rw [← hm, ← HK.out] at this
        refine this.mono ?_
        rintro e w' ⟨l, x, r, hC, rfl, hb⟩
        have hbw := hW.trans (hb.mono hW.size)
        have q1 := hT1.later hb
        obtain ⟨hi, a1, n1, c1, b1, m1, d1, hr, hc⟩ := kid_at hL hC
        obtain ⟨x0, x1⟩ := hc w' hbw
        exact ⟨l.length, a1, n1, c1, b1, m1, d1, rfl, by omega, x0, x1, q1.c0, q1.c1, q1.f0, q1.f1, hT2.later hb, hbw, x, hr, hq.kid hC.eq, by rw [HR.out.2.2.1]; exact hC.look⟩
      have hmz : ¬ m = 0 := by omega
      have hbne : ¬ bb = w.heap.size := by
        have := World.block_lt_of_cell? _ _ k0
        obtain ⟨bb', off', e', hb', -⟩ := hL.at hpos
        cases e'
        omega
      clear hL hq hpos hmost hm hn HR HF HK
      go_wp2_with (go_at_call 33; (with_reducible refine cI.out.mono ?_); rintro e w1 ⟨rfl, hI⟩; have k0' := hI.out.1.c0; have k1' := hI.out.1.c1; have hID : Two w1.drew w.heap.size (.slice a n c) (.slice (some ⟨bb, off, none⟩) m d) ∧ Two w1.drew (w.heap.size + 1) (.slice none 0 0) (.slice none 0 0) ∧ Below w.heap.size w w1.drew := ⟨hI.out.1.later (Below.refl _ _).drew, hI.out.2.1.later (Below.refl _ _).drew, hI.out.2.2.drew⟩; have HID := put_by hID; clear hID)
      go_region_with (go_at_call 37; (with_reducible refine (cK.out _ ?_).mono ?_); exact HID.out; rintro e w2 ⟨i, a1, n1, c1, b1, m1, d1, rfl, hi, y0, y1, y2, y3, y4, y5, h9⟩)
      all_goals
        go_wp2
        go_roundg k
        case measure => omega
        case rel =>
          have h2 := (Two.mk y2 y3 y4 y5).set (.slice a1 n1 c1) (.slice b1 m1 d1)
          obtain ⟨g1, g2, x, g3, g4, g5⟩ := h9.out
          refine ⟨x, a1, b1, n1, c1, m1, d1, h2, ?_, g3, g4, g5, below_two g2 (Nat.le_refl _) _ _⟩
          refine ⟨?_, ?_, by rw [World.frozen?_setCell, World.frozen?_setCell]; exact g1.f0, by rw [World.frozen?_setCell, World.frozen?_setCell]; exact g1.f1⟩
          · rw [World.cell?_setCell_other _ _ _ _ (by simp), World.cell?_setCell_other _ _ _ _ (by simp)]
            exact g1.c0
          · rw [World.cell?_setCell_other _ _ _ _ (by simp), World.cell?_setCell_other _ _ _ _ (by simp)]
            exact g1.c1

end Go.Proofs.Ytcegkgobkpakiaa
