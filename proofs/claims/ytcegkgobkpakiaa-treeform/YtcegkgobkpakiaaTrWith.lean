/- A tree with an entry more: what the program's with comes to. -/
import Derived.Test.YtcegkgobkpakiaaTrWithP
import Derived.Deep.RegionHeld3
namespace Go.Proofs.Ytcegkgobkpakiaa
open Go.ChangeShapes Go.WideShapes Go.ChangeAt Go.RowKit

/-- two variables of two cells each, laid first, and nothing of what was there turned -/
structure Four (w : World) (u v x y : Value) (W : World) : Prop where
  one : Two W w.heap.size u v
  two : Two W (w.heap.size + 1) x y
  below : Below w.heap.size w W

theorem Four.later {w W W' : World} {u v x y : Value} (h : Four w u v x y W) (hb : Below W.heap.size W W') : Four w u v x y W' :=
  ⟨h.one.later hb, h.two.later hb, h.below.trans (hb.mono h.below.size)⟩

theorem Four.new (w : World) (u v x y : Value) (ty tz : TypeId) : Four w u v x y ((w.alloc (.cells #[u, v] ty)).alloc (.cells #[x, y] tz)) := by
  have hb : Below w.heap.size w (w.alloc (.cells #[u, v] ty)) := (Below.refl _ w).alloc (Nat.le_refl _) _
  refine ⟨(Two.new _ _ _ _).later ((Below.refl _ _).alloc (Nat.le_refl _) _), ?_, hb.alloc (by simp) _⟩
  have := Two.new (w.alloc (.cells #[u, v] ty)) x y tz
  simpa using this

/-- what with comes to -/
def WithPost (ok : Nat → Prop) (h : Nat) (t : Tr h) (x : Ent) (w : World) (e : Ending) (w' : World) : Prop :=
  ∃ rs a c, Grown h t x rs ∧ e = .returned (.slice a rs.length c) ∧ Lies (kNd h) ok w' a c rs ∧ Ples a c ∧ Below w.heap.size w w'

set_option maxHeartbeats 8000000 in
theorem with_leaf (ok : Nat → Prop) (x : Ent) (es : List Ent) (hq : Wq 0 es) (u v ku vu : Value) (w : World) (hok : Fresh ok w) (hr : (kNd 0).rel ok w es [u, v]) (hk : IsBody w ok ku x.1) (hv : IsBody w ok vu x.2) :
    Calls Try.prog 27 #[.agg #[u, v], .agg #[ku, vu]] w fun e w' => WithPost ok 0 es x w e w' := by
  obtain ⟨a, c, b, d, e, hL, hP, -, -⟩ := (show Both kEnt ok w es [] _ from hr)
  simp only [List.cons.injEq, List.length_nil, and_true] at e
  obtain ⟨rfl, rfl⟩ := e
  obtain ⟨ka, kc, rfl, ho, -⟩ := id hk
  obtain ⟨va, vc, rfl, -, -⟩ := id hv
  have h4 : es.length ≤ 4 := hq.most
  have hasc : Asc es := hq.asc
  obtain ⟨n, hn⟩ : ∃ n, n = es.length := ⟨_, rfl⟩
  obtain ⟨km, hkm⟩ : ∃ km, km = x.1.length := ⟨_, rfl⟩
  obtain ⟨vm, hvm⟩ : ∃ vm, vm = x.2.length := ⟨_, rfl⟩
  have cI : Hid (∀ W : World, Four w (.slice a n c) (.slice b 0 d) (.slice ka km kc) (.slice va vm vc) W → Calls Try.prog 33 #[.agg #[.slice a n c, .slice b 0 d]] W fun e w' => e = .returned (.bool true) ∧ Hid (Four w (.slice a n c) (.slice b 0 d) (.slice ka km kc) (.slice va vm vc) w')) := fun W hW =>
    (isLeaf_any a b n 0 c d W).mono fun e w' hh => ⟨hh.1, hW.later hh.2⟩
  have cF : Hid (∀ W : World, Four w (.slice a n c) (.slice b 0 d) (.slice ka km kc) (.slice va vm vc) W → Calls Try.prog 34 #[.agg #[.slice a n c, .slice b 0 d], .slice ka km kc] W fun e w' =>
      (∃ i : Nat, e = .returned (.tuple #[.int .i64 i, .bool true]) ∧ i + 1 ≤ n ∧ Hid (es.take i ++ [x] ++ es.drop (i + 1) = putK es x) ∧ Hid (Four w (.slice a n c) (.slice b 0 d) (.slice ka km kc) (.slice va vm vc) w')) ∨
      (∃ i : Nat, e = .returned (.tuple #[.int .i64 i, .bool false]) ∧ i ≤ n ∧ Hid (es.take i ++ [x] ++ es.drop i = putK es x) ∧ Hid (Four w (.slice a n c) (.slice b 0 d) (.slice ka km kc) (.slice va vm vc) w'))) := fun W hW => by
    have := find_any ok es (by omega) hasc a b c 0 d ka kc x.1 W (hL.later hW.below) (ho.later hW.below)
    rw [← hn, ← hkm] at this
    refine this.mono ?_
    rintro e w' ⟨l, r, e1, e2, e3, rfl, hb⟩
    have ht : es.take l.length = l := by rw [e1, List.take_left]
    have hll : l.length ≤ es.length := by rw [e1]; simp
    rcases put_leaf hasc e1 e2 e3 with ⟨g1, g2, g3⟩ | ⟨g1, g2⟩
    · rw [g1]
      exact .inl ⟨l.length, rfl, by omega, by rw [Hid, ht]; simpa using g3, hW.later hb⟩
    · rw [g1]
      exact .inr ⟨l.length, rfl, by omega, by rw [Hid, ht]; simpa using g2, hW.later hb⟩
  have cR : Hid (∀ (W : World) (f t : Nat) (tI : Int), tI = t → Four w (.slice a n c) (.slice b 0 d) (.slice ka km kc) (.slice va vm vc) W → f ≤ n → t ≤ n → t = f ∨ t = f + 1 → Calls Try.prog 35 #[.slice a n c, .int .i64 f, .int .i64 tI, .slice (some ⟨W.heap.size, 0, none⟩) 1 1] (W.alloc (.cells #[.slice ka km kc, .slice va vm vc] 62)) fun e w' =>
      ∃ (a' : Option Addr) (q c' : Nat), e = .returned (.slice a' q c') ∧ Hid (q = (es.take f ++ [x] ++ es.drop t).length ∧ Lies kEnt ok w' a' c' (es.take f ++ [x] ++ es.drop t) ∧ Ples a' c' ∧ Below w.heap.size w w') ∧ Hid (es.length ≤ q ∧ 1 ≤ q ∧ q ≤ 5)) := fun W f t tI htI hW hf ht hft => by
    subst htI
    have hWf := hok.later hW.below.size
    have hb : Below W.heap.size W (W.alloc (.cells #[.slice ka km kc, .slice va vm vc] 62)) := (Below.refl _ W).alloc (Nat.le_refl _) _
    have h1 : Lies kEnt ok (W.alloc (.cells #[.slice ka km kc, .slice va vm vc] 62)) (some ⟨W.heap.size, 0, none⟩) 1 [x] := by
      refine lies_one (cs := [.slice ka km kc, .slice va vm vc]) _ rfl _ ⟨_, _, rfl, ?_, ?_⟩ (hWf _ (Nat.le_refl _))
      · rw [hkm]; exact hk.later hW.below
      · rw [hvm]; exact hv.later hW.below
    have := replacedE_any kEnt ok es [x] f t (by omega) (by omega) (by omega) (by simp) a (some ⟨W.heap.size, 0, none⟩) c 1 _ (hWf.later hb.size) ((hL.later hW.below).later hb) hP h1 (Ples.some _ _ _)
    rw [← hn] at this
    refine this.mono ?_
    rintro e w' ⟨a', c', rfl, q1, q2, q3⟩
    exact ⟨a', _, c', rfl, ⟨rfl, q1, q2, hW.below.trans ((hb.trans (q3.mono hb.size)).mono hW.below.size)⟩, by simp only [Hid, List.length_append, List.length_take, List.length_drop, List.length_singleton]; omega⟩
  have cS : Hid (∀ (W : World) (a' : Option Addr) (q c' : Nat) (l' : List Ent), q = l'.length ∧ Lies kEnt ok W a' c' l' ∧ Ples a' c' ∧ Below w.heap.size w W → l' = putK es x → es.length ≤ q ∧ 1 ≤ q ∧ q ≤ 5 → Calls Try.prog 36 #[.agg #[.slice a' q c', .slice none 0 0]] W fun e w' => WithPost ok 0 es x w e w') := fun W a' q c' l' ⟨h1, h2, h3, h4⟩ h5 h6 => by
    have := split_leaf ok l' (by omega) a' none c' 0 W (hok.later h4.size) h2 h3
    rw [← h1] at this
    refine this.mono ?_
    rintro e w' ⟨a2, c2, rfl, q1, q2, q3⟩
    exact ⟨halvesL l', a2, c2, grown_leaf h5 (by omega) (by omega) (by omega), rfl, q1, q2, h4.trans (q3.mono h4.size)⟩
  have H0 := put_by (Four.new w (.slice a n c) (.slice b 0 d) (.slice ka km kc) (.slice va vm vc) 53 62)
  have HN := put_by hn
  rw [← hn, ← hkm, ← hvm]
  rw [← hn] at h4
  clear hL hP hk hv hr ho hn hkm hvm hasc hq hok
  go_enter Try.func27, Try.ntmps27
  go_wp2_with (first
    | (go_at_call 33; (with_reducible refine (cI.out _ H0.out).mono ?_); rintro e w1 ⟨rfl, hF1⟩; obtain ⟨k0, k1, -, -⟩ := id hF1.out.one; obtain ⟨k2, k3, -, -⟩ := id hF1.out.two)
    | (go_at_call 34; (with_reducible refine (cF.out _ hF1.out).mono ?_); rintro e w2 (⟨i, rfl, hi, HP, hF2⟩ | ⟨i, rfl, hi, HP, hF2⟩); all_goals (obtain ⟨k4, k5, -, -⟩ := id hF2.out.one; obtain ⟨k6, k7, -, -⟩ := id hF2.out.two))
    | (go_at_call 35; (with_reducible refine (cR.out _ _ (i + 1) _ (by omega) hF2.out (by omega) (by omega) (.inr rfl)).mono ?_); rintro e w3 ⟨a', q, c', rfl, h3, h5⟩)
    | (go_at_call 35; (with_reducible refine (cR.out _ _ i _ rfl hF2.out (by omega) (by omega) (.inl rfl)).mono ?_); rintro e w3 ⟨a', q, c', rfl, h3, h5⟩)
    | (go_at_call 36; (with_reducible refine (cS.out _ _ _ _ _ h3.out HP.out h5.out).mono ?_); rintro e w4 ⟨rs, a4, c4, g1, rfl, g2, g3, g4⟩))
  all_goals
    go_ret
    exact ⟨rs, a4, c4, g1, rfl, g2, g3, g4⟩

set_option maxHeartbeats 8000000 in
theorem with_inner (ok : Nat → Prop) (x : Ent) (h : Nat) (ks : List (Tr h)) (hq : Wq (h + 1) ks) (u v ku vu : Value) (w : World) (hok : Fresh ok w) (hr : (kNd (h + 1)).rel ok w ks [u, v]) (hk : IsBody w ok ku x.1) (hv : IsBody w ok vu x.2)
    (ih : ∀ (t : Tr h) (_ : Wq h t) (u v ku vu : Value) (W : World) (_ : Fresh ok W) (_ : (kNd h).rel ok W t [u, v]) (_ : IsBody W ok ku x.1) (_ : IsBody W ok vu x.2), Calls Try.prog 27 #[.agg #[u, v], .agg #[ku, vu]] W fun e w' => WithPost ok h t x W e w') :
    Calls Try.prog 27 #[.agg #[u, v], .agg #[ku, vu]] w fun e w' => WithPost ok (h + 1) ks x w e w' := by
  obtain ⟨a, c, b, d, e, -, -, hL, hP⟩ := (show Both (kNd h) ok w [] ks _ from hr)
  simp only [List.cons.injEq, List.length_nil, and_true] at e
  obtain ⟨rfl, rfl⟩ := e
  obtain ⟨ka, kc, rfl, ho, -⟩ := id hk
  obtain ⟨va, vc, rfl, -, -⟩ := id hv
  have h4 : ks.length ≤ 4 := hq.most
  have hpos : 0 < ks.length := hq.some (Nat.succ_pos _)
  obtain ⟨bb, off, rfl, -⟩ := hL.at hpos
  obtain ⟨m, hm⟩ : ∃ m, m = ks.length := ⟨_, rfl⟩
  obtain ⟨km, hkm⟩ : ∃ km, km = x.1.length := ⟨_, rfl⟩
  obtain ⟨vm, hvm⟩ : ∃ vm, vm = x.2.length := ⟨_, rfl⟩
  obtain ⟨n, hn⟩ : ∃ n : Nat, n = 0 := ⟨_, rfl⟩
  have cI : Hid (∀ W : World, (Four w (.slice a n c) (.slice (some ⟨bb, off, none⟩) m d) (.slice ka km kc) (.slice va vm vc) W) → Calls Try.prog 33 #[.agg #[.slice a n c, .slice (some ⟨bb, off, none⟩) m d]] W fun e w' => e = .returned (.bool false) ∧ Hid ((Four w (.slice a n c) (.slice (some ⟨bb, off, none⟩) m d) (.slice ka km kc) (.slice va vm vc) w'))) := fun W hW =>
    (isLeaf_any a _ n m c d W).mono fun e w' hh => ⟨by rw [hh.1, decide_eq_false (by omega)], hW.later hh.2⟩
  have cK : Hid (∀ W : World, (Four w (.slice a n c) (.slice (some ⟨bb, off, none⟩) m d) (.slice ka km kc) (.slice va vm vc) W) → Calls Try.prog 37 #[.agg #[.slice a n c, .slice (some ⟨bb, off, none⟩) m d], .slice ka km kc] W fun e w' =>
      ∃ (i : Nat) (a1 : Option Addr) (n1 c1 : Nat) (b1 : Option Addr) (m1 d1 : Nat), e = .returned (.int .i64 i) ∧ i < m ∧ Hid ((Four w (.slice a n c) (.slice (some ⟨bb, off, none⟩) m d) (.slice ka km kc) (.slice va vm vc) w')) ∧ Hid (∀ W : World, (Four w (.slice a n c) (.slice (some ⟨bb, off, none⟩) m d) (.slice ka km kc) (.slice va vm vc) W) → W.cell? ⟨bb, off + i * 2, none⟩ = some (.slice a1 n1 c1) ∧ W.cell? ⟨bb, off + i * 2 + 1, none⟩ = some (.slice b1 m1 d1)) ∧
        Hid (∃ l k r, KidCut h ks x.1 l k r ∧ l.length = i ∧ (kNd h).rel ok w k [.slice a1 n1 c1, .slice b1 m1 d1])) := fun W hW => by
    have := kidOf_any ok h ks hpos (by omega) ((Wk_node ks).1 hq.kids) hq.asc a (some ⟨bb, off, none⟩) n c d ka kc x.1 W (hL.later hW.below) (ho.later hW.below)
    rw [← hm, ← hkm] at this
    refine this.mono ?_
    rintro e w' ⟨l, k, r, hC, rfl, hb⟩
    obtain ⟨hi, a1, n1, c1, b1, m1, d1, hr, hc⟩ := kid_at hL hC
    exact ⟨l.length, a1, n1, c1, b1, m1, d1, rfl, by omega, hW.later hb, fun W hW => hc W hW.below, l, k, r, hC, rfl, hr⟩
  have cW : Hid (∀ (W : World) (i : Nat) (a1 : Option Addr) (n1 c1 : Nat) (b1 : Option Addr) (m1 d1 : Nat), (Four w (.slice a n c) (.slice (some ⟨bb, off, none⟩) m d) (.slice ka km kc) (.slice va vm vc) W) → (∃ l k r, KidCut h ks x.1 l k r ∧ l.length = i ∧ (kNd h).rel ok w k [.slice a1 n1 c1, .slice b1 m1 d1]) → Calls Try.prog 27 #[.agg #[.slice a1 n1 c1, .slice b1 m1 d1], .agg #[.slice ka km kc, .slice va vm vc]] W fun e w' =>
      ∃ (a2 : Option Addr) (q c2 : Nat), e = .returned (.slice a2 q c2) ∧ Hid ((Four w (.slice a n c) (.slice (some ⟨bb, off, none⟩) m d) (.slice ka km kc) (.slice va vm vc) w')) ∧ Hid (∃ rs, q = rs.length ∧ Lies (kNd h) ok w' a2 c2 rs ∧ Ples a2 c2 ∧ rs.length ≤ 2 ∧ (ks.take i ++ rs ++ ks.drop (i + 1)).length ≤ 5 ∧ ks.take i ++ rs ++ ks.drop (i + 1) ≠ [] ∧ Grown (h + 1) ks x (halvesL (ks.take i ++ rs ++ ks.drop (i + 1))))) := fun W i a1 n1 c1 b1 m1 d1 hW ⟨l, k, r, hC, hi, hr⟩ => by
    have := ih k (hq.kid hC.eq) (.slice a1 n1 c1) (.slice b1 m1 d1) (.slice ka km kc) (.slice va vm vc) W (hok.later hW.below.size) ((kNd h).move (Kept.of_below hW.below) (fun _ _ q => q) hr) (by rw [hkm]; exact hk.later hW.below) (by rw [hvm]; exact hv.later hW.below)
    refine this.mono ?_
    rintro e w' ⟨rs, a2, c2, hg, rfl, q1, q2, q3⟩
    have ht : ks.take i = l := by rw [hC.eq, ← hi, List.take_left]
    have hd : ks.drop (i + 1) = r := by
      rw [hC.eq, ← hi, ← List.drop_drop, List.drop_left]
      rfl
    obtain ⟨g1, g2, g3⟩ := grown_inner hq hC hg
    exact ⟨a2, _, c2, rfl, hW.later q3, rs, rfl, q1, q2, hg.len.2, by rw [ht, hd]; exact ⟨g1, g2, g3⟩⟩
  have cR : Hid (∀ (W : World) (i : Nat) (tI : Int) (a2 : Option Addr) (q c2 : Nat), tI = (i : Int) + 1 → i < m → (Four w (.slice a n c) (.slice (some ⟨bb, off, none⟩) m d) (.slice ka km kc) (.slice va vm vc) W) → (∃ rs, q = rs.length ∧ Lies (kNd h) ok W a2 c2 rs ∧ Ples a2 c2 ∧ rs.length ≤ 2 ∧ (ks.take i ++ rs ++ ks.drop (i + 1)).length ≤ 5 ∧ ks.take i ++ rs ++ ks.drop (i + 1) ≠ [] ∧ Grown (h + 1) ks x (halvesL (ks.take i ++ rs ++ ks.drop (i + 1)))) →
      Calls Try.prog 38 #[.slice (some ⟨bb, off, none⟩) m d, .int .i64 i, .int .i64 tI, .slice a2 q c2] W fun e w' =>
      ∃ (a' : Option Addr) (q' c' : Nat), e = .returned (.slice a' q' c') ∧ Hid ((Four w (.slice a n c) (.slice (some ⟨bb, off, none⟩) m d) (.slice ka km kc) (.slice va vm vc) w')) ∧ Hid (∃ l' : List (Tr h), q' = l'.length ∧ Lies (kNd h) ok w' a' c' l' ∧ Ples a' c' ∧ l'.length ≤ 5 ∧ l' ≠ [] ∧ Grown (h + 1) ks x (halvesL l'))) := fun W i tI a2 q c2 htI hi hW ⟨rs, e1, e2, e3, e4, e5, e6, e7⟩ => by
    have := replacedN_any (kNd h) ok ks rs i (i + 1) (by omega) (by omega) (by omega) (by omega) (some ⟨bb, off, none⟩) a2 d c2 W (hok.later hW.below.size) (hL.later hW.below) hP e2 e3
    rw [← hm, ← e1, show ((i + 1 : Nat) : Int) = tI by omega] at this
    refine this.mono ?_
    rintro e w' ⟨a', c', rfl, q1, q2, q3⟩
    exact ⟨a', _, c', rfl, hW.later q3, _, rfl, q1, q2, e5, e6, e7⟩
  have cS : Hid (∀ (W : World) (a' : Option Addr) (q c' : Nat), (Four w (.slice a n c) (.slice (some ⟨bb, off, none⟩) m d) (.slice ka km kc) (.slice va vm vc) W) → (∃ l' : List (Tr h), q = l'.length ∧ Lies (kNd h) ok W a' c' l' ∧ Ples a' c' ∧ l'.length ≤ 5 ∧ l' ≠ [] ∧ Grown (h + 1) ks x (halvesL l')) → Calls Try.prog 36 #[.agg #[.slice none 0 0, .slice a' q c']] W fun e w' => WithPost ok (h + 1) ks x w e w' ∧ Hid (Four w (.slice a n c) (.slice (some ⟨bb, off, none⟩) m d) (.slice ka km kc) (.slice va vm vc) w')) := fun W a' q c' hW ⟨l', e1, e2, e3, e4, e5, e6⟩ => by
    have := split_inner (kNd h) ok l' e4 e5 none a' 0 c' W (hok.later hW.below.size) e2 e3
    rw [← e1] at this
    refine this.mono ?_
    rintro e w' ⟨a2, c2, rfl, q1, q2, q3⟩
    exact ⟨⟨halvesL l', a2, c2, e6, rfl, q1, q2, hW.below.trans (q3.mono hW.below.size)⟩, hW.later q3⟩
  have H0 := put_by (Four.new w (.slice a n c) (.slice (some ⟨bb, off, none⟩) m d) (.slice ka km kc) (.slice va vm vc) 53 62)
  rw [← hm, ← hkm, ← hvm]
  rw [← hm] at h4 hpos
  have hbne : ¬ bb = w.heap.size ∧ ¬ bb = w.heap.size + 1 := by
    obtain ⟨bb', off', e', hb', -⟩ := hL.at (by rw [← hm]; exact hpos)
    cases e'
    omega
  obtain ⟨hb1, hb2⟩ := hbne
  rw [show (0 : Nat) = n from hn.symm]
  clear hL hP hk hv hr ho hm hkm hvm hq hok ih hn
  go_enter Try.func27, Try.ntmps27
  go_wp2_with (first
    | (go_at_call 33; (with_reducible refine (cI.out _ H0.out).mono ?_); rintro e w1 ⟨rfl, hF1⟩; obtain ⟨k0, k1, -, -⟩ := id hF1.out.one; obtain ⟨k2, k3, -, -⟩ := id hF1.out.two)
    | (go_at_call 37; (with_reducible refine (cK.out _ hF1.out).mono ?_); rintro e w2 ⟨i, a1, n1, c1, b1, m1, d1, rfl, hi, hF2, HC, HX⟩; obtain ⟨k4, k5, -, -⟩ := id hF2.out.one; obtain ⟨k6, k7, -, -⟩ := id hF2.out.two; obtain ⟨k8, k9⟩ := HC.out _ hF2.out; have HF3 := put_by (hF2.out.later (Below.refl _ _).drew)))
  go_region_held3 (fun W' => W'.cell? ⟨w.heap.size, 0, none⟩ = some (.slice a n c) ∧ W'.cell? ⟨w.heap.size, 1, none⟩ = some (.slice (some ⟨bb, off, none⟩) m d) ∧ W'.cell? ⟨w.heap.size + 1, 0, none⟩ = some (.slice ka km kc) ∧ W'.cell? ⟨w.heap.size + 1, 1, none⟩ = some (.slice va vm vc) ∧ W'.cell? ⟨bb, off + i * 2, none⟩ = some (.slice a1 n1 c1) ∧ W'.cell? ⟨bb, off + i * 2 + 1, none⟩ = some (.slice b1 m1 d1)) (go_keep) (first
    | (go_at_call 27; (with_reducible refine (cW.out _ i _ _ _ _ _ _ HF3.out HX.out).mono ?_); rintro e w3 ⟨a2, q, c2, rfl, hF4, HY⟩; obtain ⟨j4, j5, -, -⟩ := id hF4.out.one; obtain ⟨j6, j7, -, -⟩ := id hF4.out.two; obtain ⟨j8, j9⟩ := HC.out _ hF4.out)
    | (go_at_call 38; (with_reducible refine (cR.out _ i _ _ _ _ (by first | omega | (rw [IntKind.wrap_i64]; omega)) hi hF4.out HY.out).mono ?_); rintro e w4 ⟨a5, q5, c5, rfl, hF5, HZ⟩; obtain ⟨p4, p5, -, -⟩ := id hF5.out.one; obtain ⟨p6, p7, -, -⟩ := id hF5.out.two; obtain ⟨p8, p9⟩ := HC.out _ hF5.out)
    | (go_at_call 36; (with_reducible refine (cS.out _ _ _ _ hF5.out HZ.out).mono ?_); rintro e w5 ⟨⟨rs, a6, c6, g1, rfl, g2, g3, g4⟩, hF6⟩; obtain ⟨r4, r5, -, -⟩ := id hF6.out.one; obtain ⟨r6, r7, -, -⟩ := id hF6.out.two; obtain ⟨r8, r9⟩ := HC.out _ hF6.out))
  all_goals
    go_wp2
    go_ret
    exact ⟨rs, a6, c6, g1, rfl, g2, g3, g4⟩

theorem with_any (ok : Nat → Prop) (x : Ent) : ∀ (h : Nat) (t : Tr h) (_ : Wq h t) (u v ku vu : Value) (w : World) (_ : Fresh ok w) (_ : (kNd h).rel ok w t [u, v]) (_ : IsBody w ok ku x.1) (_ : IsBody w ok vu x.2),
    Calls Try.prog 27 #[.agg #[u, v], .agg #[ku, vu]] w fun e w' => WithPost ok h t x w e w'
  | 0, es, hq, u, v, ku, vu, w, hok, hr, hk, hv => with_leaf ok x es hq u v ku vu w hok hr hk hv
  | h + 1, ks, hq, u, v, ku, vu, w, hok, hr, hk, hv => with_inner ok x h ks hq u v ku vu w hok hr hk hv (with_any ok x h)

end Go.Proofs.Ytcegkgobkpakiaa
