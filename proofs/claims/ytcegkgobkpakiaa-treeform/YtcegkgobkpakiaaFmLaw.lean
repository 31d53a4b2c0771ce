/- Each version is a B-tree of its entries. -/
import Derived.Test.YtcegkgobkpakiaaFmAll
import Derived.Test.YtcegkgobkpakiaaFmBelow2
import Derived.Test.YtcegkgobkpakiaaKpDeeds
import Derived.Test.YtcegkgobkpakiaaKpMore
import Derived.Test.YtcegkgobkpakiaaRtSameK
import Derived.Laws.OwnMore
namespace Go.Proofs.Ytcegkgobkpakiaa
open Go.ChangeShapes Go.WideShapes Go.ChangeAt Go.RowKit

/-- no key without bytes -/
def SomeK (l : List Ent) : Prop := ∀ e ∈ l, e.1 ≠ []

theorem deedK_some {vs : List (List Ent)} (h : ∀ l ∈ vs, SomeK l) (d : Dd) : ∀ l ∈ (deedK vs d).2, SomeK l := by
  have hn : SomeK (vs.getD d.ver.toNat []) := by
    by_cases e : d.ver.toNat < vs.length
    · simp only [List.getD, List.getElem?_eq_getElem e, Option.getD_some]
      exact h _ (List.getElem_mem e)
    · simp only [List.getD, List.getElem?_eq_none (Nat.le_of_not_lt e), Option.getD_none]
      exact fun _ he => by cases he
  simp only [deedK]
  split
  · split
    · exact h
    · rename_i hk
      intro l hl
      rcases List.mem_append.1 hl with hl | hl
      · exact h l hl
      · rw [List.mem_singleton.1 hl]
        intro e he
        rcases mem_putK.1 he with rfl | he
        · intro h0
          have : d.key = [] := h0
          rw [this] at hk
          exact hk (.inl (by decide))
        · exact hn e he.1
  · split
    · split
      · intro l hl
        rcases List.mem_append.1 hl with hl | hl
        · exact h l hl
        · rw [List.mem_singleton.1 hl]
          exact fun e he => hn e (List.mem_filter.1 he).1
      · exact h
    · split
      · split <;> exact h
      · split <;> exact h

theorem stepK_some {vs : List (List Ent)} (h : ∀ l ∈ vs, SomeK l) (d : Dd) : ∀ l ∈ (stepK vs d).2, SomeK l := by
  simp only [stepK]
  split
  · exact h
  · split
    · exact h
    · exact deedK_some h d

theorem playK_some : ∀ (ds : List Dd) {vs : List (List Ent)}, (∀ l ∈ vs, SomeK l) → ∀ l ∈ (playK vs ds).2, SomeK l
  | [], _, h => h
  | d :: ds, _, h => playK_some ds (stepK_some h d)

theorem getD_some (ds : List Dd) (v : Nat) : SomeK ((playK [[]] ds).2.getD v []) := by
  have h := playK_some ds (vs := [[]]) (fun l hl => by rw [List.mem_singleton.1 hl]; exact fun _ he => by cases he)
  by_cases e : v < (playK [[]] ds).2.length
  · simp only [List.getD, List.getElem?_eq_getElem e, Option.getD_some]
    exact h _ (List.getElem_mem e)
  · simp only [List.getD, List.getElem?_eq_none (Nat.le_of_not_lt e), Option.getD_none]
    exact fun _ he => by cases he

/-- a row of numbers that was just made -/
theorem used_made {w : World} {base g n : Nat} (h : w.ownsRow base 3 1 (.slice (some ⟨g, 0, none⟩) n n) n (madeCells (Value.int .i64 0).cells (n * 1)).toList) : Used w g n (fun _ => 0) := by
  refine ⟨fun j hj => ?_, fun j _ => World.ownsRow.frozenAt h j⟩
  have := World.ownsRow.cellAt h j (by omega)
  rw [this, show (Value.int .i64 0).cells = #[Value.int .i64 0] from rfl, toList_madeCells_one, Nat.mul_one]
  simp [hj]

/-- what is told of a version -/
def ToldV (w : World) (l : List Ent) (a : Option Addr) (n c : Nat) (w' : World) : Prop :=
  ∃ x : Nd, Wd x.h x.t ∧ flatN x = l ∧ n = cntN x ∧ cntN x ≤ 1 + l.length ∧ Lies kTn (fun _ => True) w' a c (toldK x (cntN x)) ∧ Below w.heap.size w w'

theorem told_version {w W : World} {l : List Ent} (hl : l.length ≤ 100) {a b : Option Addr} {n c m d : Nat} (hb : Below w.heap.size w W) (hr : RootIs W l (.slice a n c) (.slice b m d)) : Calls Try.prog 15 #[.agg #[.slice a n c, .slice b m d]] W fun e w' => ∃ (a' : Option Addr) (n' c' : Nat), e = .returned (.slice a' n' c') ∧ Hid (ToldV w l a' n' c' w') := by
  obtain ⟨h, t, h1, h2, h3⟩ := hr
  have hc := cnt_root (h := h) (t := t) ⟨h2.most, h2.some, h2.kids⟩
  rw [h3] at hc
  refine (listed_any ⟨h, t⟩ h2.kids h2.most (by show cntT h t ≤ 1000; omega) a b n c m d W ((kNd h).move (Kept.of_below (Below.refl _ _)) (fun b hb _ => hb) h1)).mono ?_
  rintro e w' ⟨a', n', c', rfl, q1, q2, q3⟩
  exact ⟨a', n', c', rfl, ⟨h, t⟩, h2, h3, q1, hc, q2.move (Kept.of_below (Below.refl _ _)) (fun _ _ _ => trivial), hb.trans (q3.mono hb.size)⟩

/-- looking through it from its root on -/
theorem form_root {w w' w7 : World} {l : List Ent} (hs : SomeK l) (hl : l.length ≤ 100) {a : Option Addr} {n c : Nat} (hT : ToldV w l a n c w') {g : Nat} (hg : g = w'.heap.size) (hb : Below w'.heap.size w' w7) (hgs : g < w7.heap.size) (hU : Used w7 g n (fun _ => 0)) :
    Calls Try.prog 9 #[.slice a n c, .int .i64 0, .bool true, .slice (some ⟨g, 0, none⟩) n n, .slice none 0 0, .slice none 0 0] w7 fun e w8 => ∃ (a8 : Option Addr) (m8 c8 : Nat) (D : Int), e = .returned (.tuple #[.slice a8 m8 c8, .int .i64 D]) ∧ Hid (m8 = l.length ∧ Lies kEnt (fun _ => True) w8 a8 c8 l ∧ (∃ u', Used w8 g n u' ∧ ∀ j, 1 ≤ j → j < n → u' j = 1) ∧ w7.grownBy w8 (some g)) ∧ (D = 1 ∨ (D = 2 ∧ (4 : Int) ≤ m8) ∨ (D = 3 ∧ (8 : Int) ≤ m8) ∨ (D = 4 ∧ (16 : Int) ≤ m8) ∨ (D = 5 ∧ (32 : Int) ≤ m8) ∨ (D = 6 ∧ (64 : Int) ≤ m8)) := by
  obtain ⟨x, h1, h2, h3, h4, h5, h6⟩ := hT
  have hB := bfs_of x
  have hF := qK_len x
  have hG : BelG (qK x (cntN x)) (fun i => (qK x i).length) (toldK x (cntN x)) n := by
    refine ⟨hB, by rw [hF, h3], by rw [toldK_length, h3], fun i hi ht => ?_, by omega⟩
    have := told_get x (by omega) hi
    rw [List.getElem?_eq_getElem ht] at this
    exact Option.some.inj this
  have hpos : 0 < cntN x := by rw [cntN_kids]; omega
  have hall : ∀ h, BelC (qK x (cntN x)) (fun i => (qK x i).length) (toldK x (cntN x)) g n a c h := fun h => by
    induction h with
    | zero => exact belC_zero hG g a c
    | succ h ih => exact belC_succ hG g a c h ih
  have h0F : (0 : Nat) < (qK x (cntN x)).length := by omega
  have hx0 : (qK x (cntN x))[0] = x := by
    rw [qK_get x hpos h0F]
    rfl
  have hfl : (flat x.h x.t) = l := h2
  have hH : BelH x.h x.t true [] [] := ⟨h1.kids, h1.most, fun e => h1.some (e.resolve_left (by decide)), h1.asc, fun e he => hs e (hfl ▸ he), fun _ _ => ⟨.inl rfl, .inl rfl⟩, by rw [hfl]; omega⟩
  have hL : Lies kTn (fun b => b < g) w7 a c (toldK x (cntN x)) := (h5.move (ok' := fun b => b < g) (Kept.of_below (Below.refl _ _)) (fun b hb _ => by omega)).later hb
  refine (hall x.h x.t 0 h0F hx0 true [] [] hH (fun _ => 0) (fun _ _ => rfl) none none 0 0 0 0 w7 hL hgs hU rfl IsBody.none rfl IsBody.none).mono ?_
  rintro e w8 ⟨a8, m8, c8, rfl, p1, p2, ⟨u', p3, p4, -⟩, p6⟩
  rw [hfl] at p1 p2
  refine ⟨a8, m8, c8, _, rfl, ⟨p1, p2.move (Kept.of_below (Below.refl _ _)) (fun _ _ _ => trivial), ⟨u', p3, fun j j1 j2 => ?_⟩, p6⟩, ?_⟩
  · refine p4 j ?_
    have := hB.all j j1 (by omega)
    rw [hF, ← h3] at this
    exact this
  · by_cases hz : x.h = 0
    · left
      rw [hz]
      rfl
    · right
      have hm := flat_many x.h x.t (h1.some (by omega)) h1.kids
      rw [hfl, ← p1] at hm
      have hlt : x.h < 6 := by
        rcases Nat.lt_or_ge x.h 6 with q | q
        · exact q
        · have := Nat.pow_le_pow_right (show 0 < 2 by decide) (show 7 ≤ x.h + 1 by omega)
          omega
      generalize x.h = hh at hz hm hlt ⊢
      match hh, hz, hlt, hm with
      | 1, _, _, hm => exact .inl ⟨rfl, by omega⟩
      | 2, _, _, hm => exact .inr (.inl ⟨rfl, by omega⟩)
      | 3, _, _, hm => exact .inr (.inr (.inl ⟨rfl, by omega⟩))
      | 4, _, _, hm => exact .inr (.inr (.inr (.inl ⟨rfl, by omega⟩)))
      | 5, _, _, hm => exact .inr (.inr (.inr (.inr ⟨rfl, by omega⟩)))

end Go.Proofs.Ytcegkgobkpakiaa

/- TreeForm. -/
namespace Go.Proofs.Ytcegkgobkpakiaa
open Go.ChangeShapes Go.WideShapes Go.ChangeAt Go.RowKit

set_option maxRecDepth 100000 in
set_option maxHeartbeats 16000000 in
theorem TreeForm_any (ms : List Mv) (la : Option Addr) (lc ln : Nat) (hln : ln = ms.length) (wh : Int) (w : World) (hL : Lies kMv (fun _ => True) w la lc ms) :
    Calls Try.prog 3 #[.slice la ln lc, .int .i64 wh] w fun e w' => e = .returned (.bool true) ∧ Below w.heap.size w w' := by
  have cD := put_by (Deeds_at ms 60 (by omega) false la lc ln hln w hL)
  obtain ⟨i0, hi0, hz0, hz1, hz2⟩ := info_parts (show (Try.prog.info? 3).map (fun i => (i.zero, i.size, i.bytes)) = some (some (.int .i64 0), 1, 8) by kernel_rfl)
  clear hln hL
  go_enter Try.func3, Try.ntmps3
  go_wp2_with (first
    | (go_at_call 4; refine cD.out.mono ?_; clear cD; rintro e w1 ⟨k, a, c, rfl, ds, H1⟩; have cM := put_by (made_at H1.out (by omega)))
    | (go_at_call 6; refine cM.out.mono ?_; clear cM; rintro e w2 ⟨n, rfl, hvk, H2⟩; refine hidGoal ?_))
  have hk60 : k ≤ 60 := H1.out.2.1
  have hn1 : IntKind.i64.wrap ((n : Int) + 1) = (n : Int) + 1 := by
    rw [IntKind.wrap_i64]
    omega
  obtain ⟨v, hv⟩ : ∃ v : Nat, (v : Int) = wh % ((n : Int) + 1) := ⟨(wh % ((n : Int) + 1)).toNat, by have := Int.emod_nonneg wh (show ((n : Int) + 1) ≠ 0 by omega); omega⟩
  have hvn : v < n + 1 := by have := Int.emod_lt_of_pos wh (show 0 < (n : Int) + 1 by omega); omega
  have cP : Hid (∀ W, Calls Try.prog 5 #[.int .i64 wh, .int .i64 ((n : Int) + 1)] W fun e w' => e = .returned (.int .i64 (v : Int)) ∧ W = w') := fun W => by
    rw [hv]
    exact Picked_any wh _ (by omega) (by omega) W
  obtain ⟨l, hl⟩ : ∃ l, l = (playK [[]] ds).2.getD v [] := ⟨_, rfl⟩
  have HV : Hid (l.length ≤ 60 ∧ SomeK l) := by
    rw [hl]
    have := getD_few (ds := ds) v
    have h1 := H1.out.1
    exact ⟨by omega, getD_some ds v⟩
  have cL : Hid (Calls Try.prog 7 #[.slice a k c, .int .i64 (v : Int)] w2 fun e w3 => ∃ (a3 : Option Addr) (n3 c3 : Nat), e = .returned (.tuple #[.slice a3 n3 c3, .bool true]) ∧ Hid (DeedsAt w 60 k a c ds w3 ∧ n3 = l.length ∧ Lies kEnt (fun _ => True) w3 a3 c3 l ∧ v < (playK [[]] ds).2.length)) := by
    obtain ⟨q1, ⟨e1, e2, e3, e4, e5⟩, -⟩ := H2.out
    have := last_any (fun _ => True) ds (by omega) v (by omega) a c w2 e4
    rw [e1, ← hl] at this
    refine this.mono ?_
    rintro e w3 ⟨a3, n3, c3, rfl, r1, r2, r3⟩
    exact ⟨a3, n3, c3, rfl, ⟨e1, e2, e3, e4.later r3, e5.trans (r3.mono e5.size)⟩, r1, r2, by omega⟩
  have HLL := put_by hl
  clear H1 H2 hv hl
  unfold Hid
  go_upto_region 6 with (first
    | (go_at_call 5; (with_reducible refine (cP.out _).mono ?_); clear cP; rintro e w4 ⟨rfl, rfl⟩)
    | (go_at_call 7; (with_reducible refine cL.out.mono ?_); clear cL; rintro e V ⟨a3, n3, c3, rfl, H3⟩))
  have HK : Hid (k = ds.length) := H3.out.1.1.symm
  have HLd : Hid (Lies kDd (fun b => b < V.heap.size) V a c ds) := H3.out.1.2.2.2.1.move (Kept.of_below (Below.refl _ _)) (fun b hb _ => hb)
  go_wp2_with (first
    | (at_builtin; (with_reducible refine wpList_append_rows (K := kDd) (ok := fun _ => True) eltD rfl (.const (.slice none 0 0)) (.tmp 35) rfl V.heap.size (.slice none 0 0) [] rfl (Rows.nil _ _ _ _ _) a c k ds rfl HK.out HLd.out (fun _ _ _ _ => trivial) (fun _ _ _ => by simp [Value.ownBlock]) (by simp; omega) (by decide) (Nat.le_refl _) ?_); intro v5 w5 hR5 hg5 hat5; refine hidGoal ?_))
  rw [List.nil_append] at hR5
  have hB5 : Below V.heap.size V w5 := below_grown (Below.refl _ V) (Nat.le_refl _) hg5 (fun r e => by cases e)
  obtain ⟨a5, c5, e5, l5, -⟩ := hR5.lies (fun _ _ => trivial)
  rw [← HK.out] at e5
  subst e5
  have cN : Hid (Calls Try.prog 8 #[.slice a5 k c5, .int .i64 (v : Int)] w5 fun e w6 => ∃ (a6 : Option Addr) (n6 c6 : Nat), e = .returned (.tuple #[.slice a6 n6 c6, .int .i64 0]) ∧ ((n6 : Int) == 0) = false ∧ (1 : Int) ≤ n6 ∧ n6 ≤ 1000 ∧ Hid (ToldV w5 l a6 n6 c6 w6)) := by
    have h1 := H3.out.1
    have := Nodes_any (fun _ => True) ds (by rw [← HK.out]; omega) h1.2.2.1 v H3.out.2.2.2 (fun a' n' c' w' => ToldV w5 l a' n' c' w') a5 c5 w5 l5 (fun W a n c b m d hb hr => by
      rw [← HLL.out] at hr
      exact told_version (by have := HV.out.1; omega) hb hr)
    rw [← HK.out] at this
    refine this.mono ?_
    rintro e w6 ⟨a6, n6, c6, rfl, hT⟩
    obtain ⟨x, t1, t2, t3, t4, t5, t6⟩ := id hT
    have hpos : 0 < cntN x := by rw [cntN_kids]; omega
    have := HV.out.1
    exact ⟨a6, n6, c6, rfl, by rw [beq_eq_false_iff_ne]; omega, by omega, by omega, hT⟩
  have HW := put_by (And.intro H3.out.1.2.2.2.2 (And.intro H3.out.2.1 (H3.out.2.2.1.later hB5)))
  have HB5 := put_by hB5
  clear hR5 hg5 hat5 hB5 HLd l5 H3 HLL HK
  unfold Hid
  go_wp2_with (first
    | (go_at_call 8; (with_reducible refine cN.out.mono ?_); clear cN; rintro e w6 ⟨a6, n6, c6, rfl, z1, z2, z3, H6⟩)
    | (at_make; refine wpList_make_full _ rfl _ _ 35 rfl w6.heap.size 3 i0 (.int .i64 0) 1 Try.underlying35 hi0 hz0 hz1 .i64 .i64 _ _ n6 rfl rfl rfl rfl (by rw [hz2]; omega) (by unfold maxLen; omega) (Nat.le_refl _) ?_; intro w7 hown hg7; refine hidGoal ?_))
  have hB6 : Below w5.heap.size w5 w6 := by
    obtain ⟨x, t1, t2, t3, t4, t5, t6⟩ := H6.out
    exact t6
  have hB7 : Below w6.heap.size w6 w7 := below_grown (Below.refl _ w6) (Nat.le_refl _) hg7 (fun r e => by cases e)
  have hgs : w6.heap.size < w7.heap.size := (World.ownsRow.lt hown _ rfl).2
  have cB := put_by (form_root HV.out.2 (by have := HV.out.1; omega) H6.out rfl hB7 hgs (used_made hown))
  have HM : Hid (Below w.heap.size w w7 ∧ n3 = l.length ∧ Lies kEnt (fun b => b < w6.heap.size) w6 a3 c3 l ∧ Below w6.heap.size w6 w7 ∧ w.heap.size ≤ w6.heap.size) := by
    obtain ⟨p1, p2, p3⟩ := HW.out
    have q1 := p1.trans (HB5.out.mono p1.size)
    have q2 := q1.trans (hB6.mono q1.size)
    exact ⟨q2.trans (hB7.mono q2.size), p2, (p3.later hB6).move (Kept.of_below (Below.refl _ _)) (fun b hb _ => hb), hB7, q2.size⟩
  clear hown hg7 hB6 hB7 H6 HW HB5 hgs hi0 hz0 hz1 hz2
  have cS : Hid (∀ (W : World) (a8 : Option Addr) (m8 c8 : Nat), (m8 = l.length ∧ Lies kEnt (fun _ => True) W a8 c8 l ∧ (∃ u', Used W w6.heap.size n6 u' ∧ ∀ j, 1 ≤ j → j < n6 → u' j = 1) ∧ w7.grownBy W (some w6.heap.size)) → Calls Try.prog 10 #[.slice a8 m8 c8, .slice a3 n3 c3] W fun e w9 => e = .returned (.bool true) ∧ Hid ((∃ u', Used w9 w6.heap.size n6 u' ∧ ∀ j, 1 ≤ j → j < n6 → u' j = 1) ∧ Below w.heap.size w w9)) := fun W a8 m8 c8 ⟨p1, p2, p3, p4⟩ => by
    obtain ⟨q1, q2, q3, q4, q5⟩ := HM.out
    have hk : Kept (fun b => b < w6.heap.size) w6 W := ⟨Nat.le_trans q4.size p4.size, fun b hb _ => (p4.block b (Nat.lt_of_lt_of_le hb q4.size) (fun e => by have := Option.some.inj e; omega)).trans (q4.block b hb)⟩
    subst p1 q2
    refine (sameEntriesK_q _ _ l l (by have := HV.out.1; omega) a8 a3 c8 c3 W p2 (q3.move hk (fun _ _ h => h))).mono ?_
    rintro e w9 ⟨rfl, j, rfl⟩
    refine ⟨by simp, ?_, drawn_later (below_grown q1 q1.size p4 (fun r e => by have := Option.some.inj e; omega)) j⟩
    obtain ⟨u', r1, r2⟩ := p3
    have hd := drawn_later (Below.refl W.heap.size W) j
    exact ⟨u', r1.move (hd.block _ (World.block_lt_of_cell? _ _ (r1.cell 0 (by omega)))), r2⟩
  unfold Hid
  go_wp2_with (first
    | (go_at_call 9; refine cB.out.mono ?_; clear cB; rintro e w8 ⟨a8, m8, c8, D, rfl, H8, hD⟩; have hD0 : ¬ D < 0 := (by omega); have HD := put_by hD; clear hD)
    | (go_at_call 10; (with_reducible refine (cS.out _ _ _ _ H8.out).mono ?_); clear cS; rintro e w9 ⟨rfl, H9⟩))
  go_loopw [15] (fun i wr => ∃ j : Nat, 1 ≤ j ∧ j ≤ n6 ∧ i = .int .i64 j ∧ wr = w9) (fun i _ => n6 - (intOf i).toNat)
  case atStart => exact ⟨1, Nat.le_refl _, by omega, rfl, rfl⟩
  case round =>
    obtain ⟨j, hj1, hj2, rfl, rfl⟩ := hrel
    by_cases hlt : j < n6
    · have u0 : wr.cell? ⟨w6.heap.size, j, none⟩ = some (.int .i64 1) := by
        obtain ⟨⟨u', r1, r2⟩, -⟩ := H9.out
        rw [r1.cell j hlt, r2 j hj1 hlt]
      have ik : (j : Int) < (n6 : Int) := by omega
      go_wp2
      go_roundw
      case rel => exact ⟨j + 1, by omega, by omega, by go_num, trivial⟩
      case measure => simp [intOf]; omega
    · obtain rfl : j = n6 := by omega
      have ik : ¬ (j : Int) < (j : Int) := by omega
      rcases HD.out with rfl | ⟨rfl, hm⟩ | ⟨rfl, hm⟩ | ⟨rfl, hm⟩ | ⟨rfl, hm⟩ | ⟨rfl, hm⟩
      all_goals
        go_wp2
        go_ret
        exact ⟨rfl, H9.out.2⟩

end Go.Proofs.Ytcegkgobkpakiaa
