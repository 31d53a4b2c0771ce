/- Putting an entry, dropping a key: a version more, or a refusal. -/
import Derived.Test.YtcegkgobkpakiaaTrAdd
namespace Go.Proofs.Ytcegkgobkpakiaa
open Go.ChangeShapes Go.WideShapes Go.ChangeAt Go.RowKit

theorem told_three (w : World) (u v p q : Value) (t0 t1 t2 : TypeId) : Told w (w.heap.size + 1 + 1) (((w.alloc (.cells #[u, v] t0)).alloc (.cells #[p, q] t1)).alloc (.cells #[.int .i64 0, .int .i64 0, .slice none 0 0, .slice none 0 0] t2)) := by
  have hb : Below w.heap.size w ((w.alloc (.cells #[u, v] t0)).alloc (.cells #[p, q] t1)) := ((Below.refl _ w).alloc (Nat.le_refl _) _).alloc (by simp) _
  refine ⟨hb.alloc (by simp; omega) _, ?_⟩
  have := Quad.new ((w.alloc (.cells #[u, v] t0)).alloc (.cells #[p, q] t1)) (.int .i64 0) (.int .i64 0) (.slice none 0 0) (.slice none 0 0) t2
  rwa [alloc_size, alloc_size] at this

set_option maxHeartbeats 8000000 in
theorem put_bad (ptr : Value) (a b : Option Addr) (n c m d : Nat) (ka va : Option Addr) (kn kc vn vc : Nat) (hbad : kn < 1 ∨ 1200 < kn ∨ 4000 < vn) (w : World) :
    Calls Try.prog 19 #[ptr, .agg #[.slice a n c, .slice b m d], .agg #[.slice ka kn kc, .slice va vn vc]] w fun e w' => FdPost w ⟨1, 0, [], []⟩ e w' ∧ Below w.heap.size w w' := by
  have H0 := put_by (told_three w (.slice a n c) (.slice b m d) (.slice ka kn kc) (.slice va vn vc) 53 62 50)
  have cR : Hid (∀ W : World, Told w (w.heap.size + 1 + 1) W → Calls Try.prog 18 #[.int .i64 1] W fun e w' => e = .returned (.agg #[.int .i64 1, .int .i64 0, .slice none 0 0, .slice none 0 0]) ∧ Hid (Told w (w.heap.size + 1 + 1) w')) := fun W hW =>
    (refused_any 1 W).mono fun e w' hh => ⟨hh.1, hW.later hh.2⟩
  have hcase : (kn = 0) ∨ (((kn : Int) == 0) = false ∧ 1200 < (kn : Int)) ∨ (((kn : Int) == 0) = false ∧ (kn : Int) ≤ 1200 ∧ 4000 < (vn : Int)) := by
    by_cases h0 : kn = 0
    · exact .inl h0
    · have : ((kn : Int) == 0) = false := by rw [beq_eq_false_iff_ne]; omega
      by_cases h1 : 1200 < kn
      · exact .inr (.inl ⟨this, by omega⟩)
      · exact .inr (.inr ⟨this, by omega, by omega⟩)
  clear hbad
  rcases hcase with rfl | ⟨h0, h1⟩ | ⟨h0, h1, h2⟩
  all_goals
    go_enter Try.func19, Try.ntmps19
    go_wp2_with (first
      | (go_at_call 18; refine (cR.out _ H0.out).mono ?_; clear cR; rintro e w5 ⟨rfl, H5⟩; obtain ⟨c0, c1, c2, c3, f0, f1, f2, f3⟩ := id H5.out.quad))
    obtain ⟨hQ, hK, hB⟩ := told_put H5.out (by omega) ⟨1, 0, [], []⟩ _ _ _ _ (fd_bare 1 0)
    generalize (((w5.setCell _ _).setCell _ _).setCell _ _).setCell _ _ = W9 at hQ hK hB ⊢
    exact bodyPost_ret (v := .agg #[.int .i64 1, .int .i64 0, .slice none 0 0, .slice none 0 0]) (by simp [results, Try.results19, go_sem, asAddr, hQ.c0, hQ.c1, hQ.c2, hQ.c3]) rfl ⟨⟨none, 0, 0, none, 0, 0, rfl, hK⟩, hB⟩

set_option maxHeartbeats 8000000 in
theorem put_any (ok : Nat → Prop) (vs : List (List Ent)) (l : List Ent) (x : Ent) (h1 : 1 ≤ x.1.length) (h2 : x.1.length ≤ 1200) (h3 : x.2.length ≤ 4000) (a b : Option Addr) (n c m d : Nat) (ka ea : Option Addr) (kc ec : Nat) (Bv base : Nat) (va : Option Addr) (vc : Nat) (w : World)
    (hx : Box Bv base ok vs w (.slice va vs.length vc)) (hok : Fresh ok w) (hfew : vs.length ≤ 90000)
    (hl : kVer.rel (fun b => ok b ∧ (Value.slice va vs.length vc).ownBlock ≠ some b) w l [.slice a n c, .slice b m d])
    (hk : IsBody w (fun b => ok b ∧ (Value.slice va vs.length vc).ownBlock ≠ some b) (.slice ka x.1.length kc) x.1) (he : IsBody w (fun b => ok b ∧ (Value.slice va vs.length vc).ownBlock ≠ some b) (.slice ea x.2.length ec) x.2) :
    Calls Try.prog 19 #[.pointer (some ⟨Bv, 0, none⟩), .agg #[.slice a n c, .slice b m d], .agg #[.slice ka x.1.length kc, .slice ea x.2.length ec]] w fun e w' => AddPost Bv base ok vs (putK l x) (.slice va vs.length vc) w e w' := by
  obtain ⟨h, t, hr, hd, hfl⟩ := hl
  obtain ⟨B, hB⟩ : ∃ B, B = w.heap.size + 1 + 1 := ⟨_, rfl⟩
  have hmv : ∀ W, Below w.heap.size w W → Kept (fun b => ok b ∧ (Value.slice va vs.length vc).ownBlock ≠ some b) w W := fun W hW => Kept.of_below hW
  have hnar : ∀ b, b < w.heap.size → (ok b ∧ (Value.slice va vs.length vc).ownBlock ≠ some b) → ((ok b ∧ b ≠ B) ∧ (Value.slice va vs.length vc).ownBlock ≠ some b) := fun b hb ho => ⟨⟨ho.1, by omega⟩, ho.2⟩
  have cW : Hid (∀ W : World, Told w B W → Calls Try.prog 27 #[.agg #[.slice a n c, .slice b m d], .agg #[.slice ka x.1.length kc, .slice ea x.2.length ec]] W fun e w' => ∃ (a' : Option Addr) (n' c' : Nat), e = .returned (.slice a' n' c') ∧ Hid (Told w B w' ∧ ∃ rs, n' = rs.length ∧ Grown h t x rs ∧ Lies (kNd h) (fun b => (ok b ∧ b ≠ B) ∧ (Value.slice va vs.length vc).ownBlock ≠ some b) w' a' c' rs ∧ Ples a' c')) := fun W hW => by
    have hBW : B < W.heap.size := World.block_lt_of_cell? _ _ hW.quad.c0
    refine (with_any _ x h t hd.q _ _ _ _ W (fun b hb => ⟨⟨hok b (by have := hW.below.size; omega), by omega⟩, fun e => by have := (rows_lt hx.rows b e).2; have := hW.below.size; omega⟩) ((kNd h).move (hmv W hW.below) hnar hr) (hk.move (hmv W hW.below) hnar) (he.move (hmv W hW.below) hnar)).mono ?_
    rintro e w' ⟨rs, a', c', q1, rfl, q2, q3, q4⟩
    exact ⟨a', _, c', rfl, hW.later q4, rs, rfl, q1, q2, q3⟩
  have cT : Hid (∀ (W : World) (a' : Option Addr) (n' c' : Nat), (Told w B W ∧ ∃ rs, n' = rs.length ∧ Grown h t x rs ∧ Lies (kNd h) (fun b => (ok b ∧ b ≠ B) ∧ (Value.slice va vs.length vc).ownBlock ≠ some b) W a' c' rs ∧ Ples a' c') → Calls Try.prog 28 #[.agg #[.slice none 0 0, .slice a' n' c']] W fun e w' => ∃ a1 n1 c1 b1 m1 d1, e = .returned (.agg #[.slice a1 n1 c1, .slice b1 m1 d1]) ∧ Hid (Told w B w' ∧ kVer.rel (fun b => (ok b ∧ b ≠ B) ∧ (Value.slice va vs.length vc).ownBlock ≠ some b) w' (putK l x) [.slice a1 n1 c1, .slice b1 m1 d1])) := fun W a' n' c' ⟨hW, rs, e, q1, q2, q3⟩ => by
    subst e
    refine (topped_put _ h t x rs hd q1 a' c' W q2 q3).mono ?_
    rintro e w' ⟨a1, n1, c1, b1, m1, d1, rfl, r1, r2⟩
    rw [hfl] at r1
    exact ⟨a1, n1, c1, b1, m1, d1, rfl, hW.later r2, r1⟩
  have cA : Hid (∀ (W : World) (a1 : Option Addr) (n1 c1 : Nat) (b1 : Option Addr) (m1 d1 : Nat), (Told w B W ∧ kVer.rel (fun b => (ok b ∧ b ≠ B) ∧ (Value.slice va vs.length vc).ownBlock ≠ some b) W (putK l x) [.slice a1 n1 c1, .slice b1 m1 d1]) → Calls Try.prog 26 #[.pointer (some ⟨Bv, 0, none⟩), .agg #[.slice a1 n1 c1, .slice b1 m1 d1]] W fun e w' => e = .returned (.agg #[.int .i64 0, .int .i64 vs.length, .slice none 0 0, .slice none 0 0]) ∧ Hid (Quad w' B (.int .i64 0) (.int .i64 0) (.slice none 0 0) (.slice none 0 0) ∧
      ∀ W9, W9 = ((((w'.setCell ⟨B, 0, none⟩ (.int .i64 0)).setCell ⟨B, 1, none⟩ (.int .i64 vs.length)).setCell ⟨B, 2, none⟩ (.slice none 0 0)).setCell ⟨B, 3, none⟩ (.slice none 0 0)) → Quad W9 B (.int .i64 0) (.int .i64 vs.length) (.slice none 0 0) (.slice none 0 0) ∧ AddPost Bv base ok vs (putK l x) (.slice va vs.length vc) w (.returned (.agg #[.int .i64 0, .int .i64 vs.length, .slice none 0 0, .slice none 0 0])) W9)) := fun W a1 n1 c1 b1 m1 d1 ⟨hW, q⟩ => by
    refine (add_then ok vs (putK l x) a1 b1 n1 c1 m1 d1 Bv base B va vc w W hx hok hfew hW (by omega) q).mono ?_
    rintro e w' ⟨rfl, r1, r2⟩
    exact ⟨rfl, r1, r2⟩
  have H0 := put_by (told_three w (.slice a n c) (.slice b m d) (.slice ka x.1.length kc) (.slice ea x.2.length ec) 53 62 50)
  rw [← hB] at H0
  subst hB
  have i0 : ((x.1.length : Int) == 0) = false := by rw [beq_eq_false_iff_ne]; omega
  have i1 : (x.1.length : Int) ≤ 1200 := by omega
  have i2 : (x.2.length : Int) ≤ 4000 := by omega
  clear hx hok hfew hr hk he hmv hnar hd hfl h1 h2 h3
  generalize hpost : (fun e w' => AddPost Bv base ok vs (putK l x) (.slice va vs.length vc) w e w') = R
  have HR := put_by hpost
  clear hpost
  generalize x.1.length = km at cW H0 i0 i1 ⊢
  generalize x.2.length = em at cW H0 i2 ⊢
  go_enter Try.func19, Try.ntmps19
  go_wp2_with (first
    | (go_at_call 27; refine (cW.out _ H0.out).mono ?_; clear cW; rintro e w3 ⟨a', n', c', rfl, H3⟩)
    | (go_at_call 28; refine (cT.out _ _ _ _ H3.out).mono ?_; clear cT; rintro e w4 ⟨a1, n1, c1, b1, m1, d1, rfl, H4⟩)
    | (go_at_call 26; refine (cA.out _ _ _ _ _ _ _ H4.out).mono ?_; clear cA; rintro e w5 ⟨rfl, H5⟩; obtain ⟨c0, c1, c2, c3, f0, f1, f2, f3⟩ := id H5.out.1))
  obtain ⟨hQ, hA⟩ := H5.out.2 _ rfl
  generalize (((w5.setCell _ _).setCell _ _).setCell _ _).setCell _ _ = W9 at hQ hA ⊢
  refine bodyPost_ret (v := .agg #[.int .i64 0, .int .i64 vs.length, .slice none 0 0, .slice none 0 0]) (by simp [results, Try.results19, go_sem, asAddr, hQ.c0, hQ.c1, hQ.c2, hQ.c3]) rfl ?_
  rw [← HR.out]
  exact hA

set_option maxHeartbeats 8000000 in
theorem drop_bad (ptr : Value) (ok : Nat → Prop) (h : Nat) (t : Tr h) (hq : Wq h t) (key : List Int) (hno : lookK (flat h t) key = none) (a b : Option Addr) (n c m d : Nat) (ka : Option Addr) (kc : Nat) (w : World) (hr : (kNd h).rel ok w t [.slice a n c, .slice b m d]) (ho : Octs w ka kc key) :
    Calls Try.prog 20 #[ptr, .agg #[.slice a n c, .slice b m d], .slice ka key.length kc] w fun e w' => FdPost w ⟨6, 0, [], []⟩ e w' ∧ Below w.heap.size w w' := by
  have H0 := put_by (told_two w (.slice a n c) (.slice b m d) 53 50)
  have cE2 : Hid (∀ W : World, Told w (w.heap.size + 1) W → Calls Try.prog 29 #[.agg #[.slice a n c, .slice b m d], .slice ka key.length kc] W fun e w' => e = .returned (.tuple #[.agg #[.slice none 0 0, .slice none 0 0], .bool false]) ∧ Hid (Told w (w.heap.size + 1) w')) := fun W hW => by
    have := entry_any ok h t hq _ _ ka kc key W ((kNd h).move (Kept.of_below hW.below) (fun _ _ q => q) hr) (ho.later hW.below)
    rw [hno] at this
    exact this.mono fun e w' hh => ⟨hh.1, hW.later hh.2⟩
  have cR : Hid (∀ W : World, Told w (w.heap.size + 1) W → Calls Try.prog 18 #[.int .i64 6] W fun e w' => e = .returned (.agg #[.int .i64 6, .int .i64 0, .slice none 0 0, .slice none 0 0]) ∧ Hid (Told w (w.heap.size + 1) w')) := fun W hW =>
    (refused_any 6 W).mono fun e w' hh => ⟨hh.1, hW.later hh.2⟩
  clear hno hr ho hq
  generalize key.length = km at cE2 ⊢
  go_enter Try.func20, Try.ntmps20
  go_wp2_with (first
    | (go_at_call 29; refine (cE2.out _ H0.out).mono ?_; clear cE2; rintro e w3 ⟨rfl, H3⟩; have H4 := put_by (H3.out.later ((Below.refl _ w3).alloc (Nat.le_refl _) (.cells #[.slice none 0 0, .slice none 0 0] 62))))
    | (go_at_call 18; refine (cR.out _ H4.out).mono ?_; clear cR; rintro e w5 ⟨rfl, H5⟩; obtain ⟨c0, c1, c2, c3, f0, f1, f2, f3⟩ := id H5.out.quad))
  obtain ⟨hQ, hK, hB⟩ := told_put H5.out (Nat.le_succ _) ⟨6, 0, [], []⟩ _ _ _ _ (fd_bare 6 0)
  generalize (((w5.setCell _ _).setCell _ _).setCell _ _).setCell _ _ = W9 at hQ hK hB ⊢
  exact bodyPost_ret (v := .agg #[.int .i64 6, .int .i64 0, .slice none 0 0, .slice none 0 0]) (by simp [results, Try.results20, go_sem, asAddr, hQ.c0, hQ.c1, hQ.c2, hQ.c3]) rfl ⟨⟨none, 0, 0, none, 0, 0, rfl, hK⟩, hB⟩

set_option maxHeartbeats 8000000 in
theorem drop_any (ok : Nat → Prop) (vs : List (List Ent)) (l : List Ent) (key val : List Int) (hlk : lookK l key = some val) (hhas : hasK l key = true) (a b : Option Addr) (n c m d : Nat) (ka : Option Addr) (kc : Nat) (Bv base : Nat) (va : Option Addr) (vc : Nat) (w : World)
    (hx : Box Bv base ok vs w (.slice va vs.length vc)) (hok : Fresh ok w) (hfew : vs.length ≤ 90000)
    (hl : kVer.rel (fun b => ok b ∧ (Value.slice va vs.length vc).ownBlock ≠ some b) w l [.slice a n c, .slice b m d]) (ho : Octs w ka kc key) :
    Calls Try.prog 20 #[.pointer (some ⟨Bv, 0, none⟩), .agg #[.slice a n c, .slice b m d], .slice ka key.length kc] w fun e w' => AddPost Bv base ok vs (dropK l key) (.slice va vs.length vc) w e w' := by
  obtain ⟨h, t, hr, hd, hfl⟩ := hl
  obtain ⟨B, hB⟩ : ∃ B, B = w.heap.size + 1 := ⟨_, rfl⟩
  have hnar : ∀ b, b < w.heap.size → (ok b ∧ (Value.slice va vs.length vc).ownBlock ≠ some b) → ((ok b ∧ b ≠ B) ∧ (Value.slice va vs.length vc).ownBlock ≠ some b) := fun b hb ho => ⟨⟨ho.1, by omega⟩, ho.2⟩
  have cE : Hid (∀ W : World, Told w B W ∧ Two W w.heap.size (.slice a n c) (.slice b m d) → Calls Try.prog 29 #[.agg #[.slice a n c, .slice b m d], .slice ka key.length kc] W fun e w' => ∃ (a1 : Option Addr) (n1 c1 : Nat) (a2 : Option Addr) (n2 c2 : Nat), e = .returned (.tuple #[.agg #[.slice a1 n1 c1, .slice a2 n2 c2], .bool true]) ∧ Hid (Told w B w' ∧ Two w' w.heap.size (.slice a n c) (.slice b m d))) := fun W ⟨hW, hW2⟩ => by
    have := entry_any _ h t hd.q _ _ ka kc key W ((kNd h).move (Kept.of_below hW.below) (fun _ _ q => q) hr) (ho.later hW.below)
    rw [hfl, hlk] at this
    refine this.mono ?_
    rintro e w' ⟨a1, n1, c1, a2, c2, rfl, -, h2⟩
    exact ⟨a1, n1, c1, a2, _, c2, rfl, hW.later h2, hW2.later h2⟩
  have cW : Hid (∀ W : World, Told w B W → Calls Try.prog 30 #[.agg #[.slice a n c, .slice b m d], .slice ka key.length kc] W fun e w' => ∃ (a1 : Option Addr) (n1 c1 : Nat) (b1 : Option Addr) (m1 d1 : Nat), e = .returned (.agg #[.slice a1 n1 c1, .slice b1 m1 d1]) ∧ Hid (Told w B w' ∧ ∃ r, Shrunk h t key r ∧ (kNd h).rel (fun b => (ok b ∧ b ≠ B) ∧ (Value.slice va vs.length vc).ownBlock ≠ some b) w' r [.slice a1 n1 c1, .slice b1 m1 d1])) := fun W hW => by
    have hBW : B < W.heap.size := World.block_lt_of_cell? _ _ hW.quad.c0
    refine (without_any key ka kc h _ t hd (by rw [hfl]; exact hhas) _ _ W (fun b hb => ⟨⟨hok b (by have := hW.below.size; omega), by omega⟩, fun e => by have := (rows_lt hx.rows b e).2; have := hW.below.size; omega⟩) ((kNd h).move (Kept.of_below hW.below) hnar hr) (ho.later hW.below)).mono ?_
    rintro e w' ⟨r, u, v, q1, rfl, q2, q3⟩
    obtain ⟨a1, n1, c1, b1, m1, d1, rfl, rfl⟩ : ∃ a1 n1 c1 b1 m1 d1, u = .slice a1 n1 c1 ∧ v = .slice b1 m1 d1 := by
      obtain ⟨a1, n1, c1, b1, m1, d1, e⟩ := nd_form q2
      simp only [List.cons.injEq, and_true] at e
      exact ⟨a1, n1, c1, b1, m1, d1, e.1, e.2⟩
    exact ⟨a1, n1, c1, b1, m1, d1, rfl, hW.later q3, r, q1, q2⟩
  have cT : Hid (∀ (W : World) (a1 : Option Addr) (n1 c1 : Nat) (b1 : Option Addr) (m1 d1 : Nat), (Told w B W ∧ ∃ r, Shrunk h t key r ∧ (kNd h).rel (fun b => (ok b ∧ b ≠ B) ∧ (Value.slice va vs.length vc).ownBlock ≠ some b) W r [.slice a1 n1 c1, .slice b1 m1 d1]) → Calls Try.prog 28 #[.agg #[.slice a1 n1 c1, .slice b1 m1 d1]] W fun e w' => ∃ a1 n1 c1 b1 m1 d1, e = .returned (.agg #[.slice a1 n1 c1, .slice b1 m1 d1]) ∧ Hid (Told w B w' ∧ kVer.rel (fun b => (ok b ∧ b ≠ B) ∧ (Value.slice va vs.length vc).ownBlock ≠ some b) w' (dropK l key) [.slice a1 n1 c1, .slice b1 m1 d1])) := fun W a1 n1 c1 b1 m1 d1 ⟨hW, r, q1, q2⟩ => by
    refine (topped_drop _ key W h t r hd q1 a1 b1 n1 c1 m1 d1 q2).mono ?_
    rintro e w' ⟨a2, n2, c2, b2, m2, d2, rfl, r1, r2⟩
    rw [hfl] at r1
    exact ⟨a2, n2, c2, b2, m2, d2, rfl, hW.later r2, r1⟩
  have cA : Hid (∀ (W : World) (a1 : Option Addr) (n1 c1 : Nat) (b1 : Option Addr) (m1 d1 : Nat), (Told w B W ∧ kVer.rel (fun b => (ok b ∧ b ≠ B) ∧ (Value.slice va vs.length vc).ownBlock ≠ some b) W (dropK l key) [.slice a1 n1 c1, .slice b1 m1 d1]) → Calls Try.prog 26 #[.pointer (some ⟨Bv, 0, none⟩), .agg #[.slice a1 n1 c1, .slice b1 m1 d1]] W fun e w' => e = .returned (.agg #[.int .i64 0, .int .i64 vs.length, .slice none 0 0, .slice none 0 0]) ∧ Hid (Quad w' B (.int .i64 0) (.int .i64 0) (.slice none 0 0) (.slice none 0 0) ∧
      ∀ W9, W9 = ((((w'.setCell ⟨B, 0, none⟩ (.int .i64 0)).setCell ⟨B, 1, none⟩ (.int .i64 vs.length)).setCell ⟨B, 2, none⟩ (.slice none 0 0)).setCell ⟨B, 3, none⟩ (.slice none 0 0)) → Quad W9 B (.int .i64 0) (.int .i64 vs.length) (.slice none 0 0) (.slice none 0 0) ∧ AddPost Bv base ok vs (dropK l key) (.slice va vs.length vc) w (.returned (.agg #[.int .i64 0, .int .i64 vs.length, .slice none 0 0, .slice none 0 0])) W9)) := fun W a1 n1 c1 b1 m1 d1 ⟨hW, q⟩ => by
    refine (add_then ok vs (dropK l key) a1 b1 n1 c1 m1 d1 Bv base B va vc w W hx hok hfew hW (by omega) q).mono ?_
    rintro e w' ⟨rfl, r1, r2⟩
    exact ⟨rfl, r1, r2⟩
  have H0 := put_by (And.intro (told_two w (.slice a n c) (.slice b m d) 53 50) ((Two.new w (.slice a n c) (.slice b m d) 53).later ((Below.refl _ _).alloc (Nat.le_refl _) (.cells #[.int .i64 0, .int .i64 0, .slice none 0 0, .slice none 0 0] 50))))
  subst hB
  clear hx hok hfew hr hnar hd hfl hlk hhas ho
  generalize hpost : (fun e w' => AddPost Bv base ok vs (dropK l key) (.slice va vs.length vc) w e w') = R
  have HR := put_by hpost
  clear hpost
  generalize key.length = km at cE cW ⊢
  go_enter Try.func20, Try.ntmps20
  go_wp2_with (first
    | (go_at_call 29; refine (cE.out _ H0.out).mono ?_; clear cE; rintro e w2 ⟨a3, n3, c3, a4, n4, c4, rfl, H2⟩; have hb2 : Below w2.heap.size w2 (w2.alloc (.cells #[.slice a3 n3 c3, .slice a4 n4 c4] 62)) := ((Below.refl _ w2).alloc (Nat.le_refl _) _); have H2' := put_by (H2.out.1.later hb2); obtain ⟨y0, y1, -, -⟩ := H2.out.2.later hb2)
    | (go_at_call 30; refine (cW.out _ H2'.out).mono ?_; clear cW; rintro e w3 ⟨a5, n5, c5, b5, m5, d5, rfl, H3⟩)
    | (go_at_call 28; refine (cT.out _ _ _ _ _ _ _ H3.out).mono ?_; clear cT; rintro e w4 ⟨a1, n1, c1, b1, m1, d1, rfl, H4⟩)
    | (go_at_call 26; refine (cA.out _ _ _ _ _ _ _ H4.out).mono ?_; clear cA; rintro e w5 ⟨rfl, H5⟩; obtain ⟨c0, c1, c2, c3, f0, f1, f2, f3⟩ := id H5.out.1))
  obtain ⟨hQ, hA⟩ := H5.out.2 _ rfl
  generalize (((w5.setCell _ _).setCell _ _).setCell _ _).setCell _ _ = W9 at hQ hA ⊢
  refine bodyPost_ret (v := .agg #[.int .i64 0, .int .i64 vs.length, .slice none 0 0, .slice none 0 0]) (by simp [results, Try.results20, go_sem, asAddr, hQ.c0, hQ.c1, hQ.c2, hQ.c3]) rfl ?_
  rw [← HR.out]
  exact hA

end Go.Proofs.Ytcegkgobkpakiaa
