/- A scan in parts is the scan, and it is in order. -/
import Derived.Test.YtdjiplheomoljaaKpMore
import Derived.Test.YtdjiplheomoljaaKpDeeds
import Derived.Test.YtdjiplheomoljaaRtSameK
import Derived.Test.YtdjiplheomoljaaLessBytes
namespace Go.Proofs.Ytdjiplheomoljaa
open Go.ChangeShapes Go.WideShapes Go.ChangeAt Go.RowKit

/-- taken first, and put into a slot that is named -/
theorem V_takeS (X : List Nat) (t : Nat) {P : Program} {ops : Array Oper} {Q : Exit → Act → World → Prop} {S : World → Prop} {m k : Nat} {ok : Oper} {v : Value} {fuel : Nat} {listed : Array Bool} {a : Act} {w : World} (hk : ops[k]? = some ok) (hd : ok.dst = some t) (hmX : X.contains m = true)
    (hw : (X.all fun x => match ops[x]? with | some ox => ox.after.any (fun e => Region.binds .any e && ((e.on == k) || X.contains e.on)) | none => false) = true)
    (hs : Region.noSelect ops = true) (hf : Region.free .any ops listed k = true) (hr : (Region.ready .any ops listed).contains k = true) (hm : (X.all fun x => !(listed.getD x true)) = true)
    (hQ : ∀ c a w, Q (.panic c) (a.put ok.dst v) w → Q (.panic c) a w) (hy : YieldsIf P ops S ok v a) (hS : S w)
    (h : wpAnyU P ops Q S m fuel (listed.setIfInBounds k true) (a.put (some t) v) w) : wpAnyU P ops Q S m (fuel + 1) listed a w :=
  V_takeX X hk hmX hw hs hf hr hm hQ hy hS (by rw [hd]; exact h)

theorem keyK_at (x : Int) (h0 : 0 ≤ x) (h1 : x < 40) : keyK x = [107, x] := by
  unfold keyK
  rw [Int.emod_eq_of_lt h0 h1]

theorem keyK_ahead (x y : Int) (h0 : 0 ≤ x) (h1 : x ≤ y) (h2 : y < 40) : ahead (keyK y) (keyK x) = false := by
  rw [keyK_at x h0 (by omega), keyK_at y (by omega) h2]
  simp only [ahead, if_true]
  split
  · rfl
  · exact decide_eq_false (by omega)

/-- the five scans -/
theorem scans_play (ds : List Dd) (v : Nat) (hv : v + 1 = (playK [[]] ds).2.length) (hds : ds.length ≤ 1000) (lo hi : List Int) (hlo : lo ≠ []) (hhi : hi ≠ []) (hle : ahead hi lo = false) (n : Nat) :
    ∃ A B C : List Ent, A ++ B ++ C = (playK [[]] ds).2.getD v [] ∧ (playK (playK [[]] ds).2 [⟨4, v, [], [], 1000⟩, ⟨4, v, [], lo, 1000⟩, ⟨4, v, lo, hi, 1000⟩, ⟨4, v, hi, [], 1000⟩, ⟨4, v, [], [], (n : Int)⟩]).1 =
      [⟨0, 0, [], (playK [[]] ds).2.getD v []⟩, ⟨0, 0, [], A⟩, ⟨0, 0, [], B⟩, ⟨0, 0, [], C⟩, ⟨0, 0, [], ((playK [[]] ds).2.getD v []).take n⟩] := by
  have hasc : Asc ((playK [[]] ds).2.getD v []) := by
    have h := playK_asc ds (vs := [[]]) (by simp [Asc])
    have e : v < (playK [[]] ds).2.length := by omega
    simp only [List.getD, List.getElem?_eq_getElem e, Option.getD_some]
    exact h _ (List.getElem_mem e)
  have hl := getD_few (ds := ds) v
  obtain ⟨now, hnow⟩ : ∃ now, now = (playK [[]] ds).2.getD v [] := ⟨_, rfl⟩
  have s := fun (key val : List Int) (l : Int) (h : 0 ≤ l) => step_scan (vs := (playK [[]] ds).2) (v := (v : Int)) (by omega) (by omega) key val h
  simp only [Int.toNat_natCast] at s
  rw [← hnow] at hasc hl ⊢
  simp only [← hnow] at s
  refine ⟨scanK now [] lo 1000, scanK now lo hi 1000, scanK now hi [] 1000, by rw [List.append_assoc]; exact scanK_parts hasc hlo hhi hle (by omega), ?_⟩
  have e0 : scanK now [] [] 1000 = now := by rw [scanK_all, List.take_of_length_le (by omega)]
  have en : scanK now [] [] n = now.take n := scanK_all now n
  simp only [playK, s _ _ 1000 (by omega), s _ _ (n : Int) (by omega), Int.toNat_natCast, en, show ((1000 : Int).toNat) = 1000 from rfl, e0]

set_option maxRecDepth 100000 in
set_option maxHeartbeats 16000000 in
theorem TreeScans_any (ms : List Mv) (la : Option Addr) (lc ln : Nat) (hln : ln = ms.length) (ka kb lm : Int) (w : World) (hL : Lies kMv (fun _ => True) w la lc ms) :
    Calls Try.prog 7 #[.slice la ln lc, .int .i64 ka, .int .i64 kb, .int .i64 lm] w fun e w' => e = .returned (.bool true) ∧ Below w.heap.size w w' := by
  have cD := put_by (Deeds_at ms 40 (by omega) true la lc ln hln w hL)
  clear hln hL
  go_enter Try.func7, Try.ntmps7
  go_wp2_with (first
    | (go_at_call 12; refine cD.out.mono ?_; clear cD; rintro e w1 ⟨k, a, c, rfl, ds, H1⟩; have cM := put_by (made_at H1.out (by omega)))
    | (go_at_call 14; refine cM.out.mono ?_; clear cM; rintro e w2 ⟨v, rfl, hvk, H2⟩; refine hidGoal ?_))
  have hk40 : k ≤ 40 := H1.out.2.1
  obtain ⟨pa, hpa⟩ : ∃ pa, ka % 40 = pa := ⟨_, rfl⟩
  obtain ⟨pb, hpb⟩ : ∃ pb, kb % 40 = pb := ⟨_, rfl⟩
  have ha0 : 0 ≤ pa ∧ pa < 40 := by omega
  have hb0 : 0 ≤ pb ∧ pb < 40 := by omega
  have cA : Hid (∀ W, Calls Try.prog 13 #[.int .i64 ka, .int .i64 40] W fun e w' => e = .returned (.int .i64 pa) ∧ W = w') := fun W => by
    rw [← hpa]
    exact Picked_any ka 40 (by omega) (by omega) W
  have cB : Hid (∀ W, Calls Try.prog 13 #[.int .i64 kb, .int .i64 40] W fun e w' => e = .returned (.int .i64 pb) ∧ W = w') := fun W => by
    rw [← hpb]
    exact Picked_any kb 40 (by omega) (by omega) W
  obtain ⟨n, hn⟩ : ∃ n : Nat, lm % 50 = n := ⟨(lm % 50).toNat, by omega⟩
  have cN : Hid (∀ W, Calls Try.prog 13 #[.int .i64 lm, .int .i64 50] W fun e w' => e = .returned (.int .i64 (n : Int)) ∧ W = w') := fun W => by
    rw [← hn]
    exact Picked_any lm 50 (by omega) (by omega) W
  clear hpa hpb hn
  have cK : Hid (∀ (x : Int) (W : World), Calls Try.prog 19 #[.int .i64 x] W fun e w' => e = .returned (.slice (some ⟨W.heap.size, 0, none⟩) 2 2) ∧ Hid (Octs w' (some ⟨W.heap.size, 0, none⟩) 2 (keyK x) ∧ W.heap.size < w'.heap.size ∧ Below W.heap.size W w')) := fun x W => keyOf_any x W
  unfold Hid
  have hcase : pa ≤ pb ∨ pb < pa := by omega
  go_upto_region 8 with (first
    | (go_at_call 13; (with_reducible refine (cA.out _).mono ?_); rintro e wp ⟨rfl, rfl⟩)
    | (go_at_call 13; (with_reducible refine (cB.out _).mono ?_); rintro e wp ⟨rfl, rfl⟩)
    | (go_at_call 13; (with_reducible refine (cN.out _).mono ?_); rintro e wp ⟨rfl, rfl⟩)
    | (go_at_call 19; refine (cK.out _ w2).mono ?_; rintro e w3 ⟨rfl, H3⟩)
    | (go_at_call 19; refine (cK.out _ w3).mono ?_; rintro e w4 ⟨rfl, H4⟩))
  clear cA cB cN cK hcase
  obtain ⟨lo, hlo⟩ : ∃ lo, (if pb < pa then pb else pa) = lo := ⟨_, rfl⟩
  obtain ⟨hi, hhi⟩ : ∃ hi, (if pa < pb then pb else pa) = hi := ⟨_, rfl⟩
  have hlh : 0 ≤ lo ∧ lo ≤ hi ∧ hi < 40 := by
    rw [← hlo, ← hhi]
    refine ⟨?_, ?_, ?_⟩
    all_goals (repeat' split) <;> omega
  rw [hlo] at H3 ⊢
  rw [hhi] at H4 ⊢
  clear hlo hhi
  have HA : Hid (DeedsAt w 40 k a c ds w4 ∧ (0 ≤ lo ∧ lo ≤ hi ∧ hi < 40 ∧ Octs w4 (some ⟨w2.heap.size, 0, none⟩) 2 (keyK lo) ∧ Octs w4 (some ⟨w3.heap.size, 0, none⟩) 2 (keyK hi)) ∧ w2.heap.size < w4.heap.size ∧ w3.heap.size < w4.heap.size ∧ v + 1 = (playK [[]] ds).2.length) := by
    obtain ⟨q1, ⟨e1, e2, e3, e4, e5⟩, q3⟩ := H2.out
    obtain ⟨r1, r2, r3⟩ := H3.out
    obtain ⟨s1, s2, s3⟩ := H4.out
    exact ⟨⟨e1, e2, e3, (e4.later r3).later s3, (e5.trans (r3.mono e5.size)).trans (s3.mono (Nat.le_trans e5.size r3.size))⟩, ⟨hlh.1, hlh.2.1, hlh.2.2, r1.later s3, s1⟩, Nat.lt_of_lt_of_le r2 s3.size, s2, q1⟩
  clear hlh
  generalize w2.heap.size = lb at HA ⊢
  generalize w3.heap.size = hb at HA ⊢
  clear H1 H2 H3 H4 ha0 hb0
  obtain ⟨hDA, ⟨hl0, hlh, hh4, hOl, hOh⟩, hlb, hhb, hvs⟩ := HA.out
  have HG := put_by (And.intro hl0 (And.intro hlh (And.intro hh4 (And.intro hOl (And.intro hOh (And.intro hlb (And.intro hhb (And.intro hvs hDA))))))))
  clear HA hDA hl0 hlh hh4 hOl hOh hlb hhb hvs
  have HK : Hid (k = ds.length) := HG.out.2.2.2.2.2.2.2.2.1.symm
  have HL4 : Hid (Lies kDd (fun b => b < w4.heap.size) w4 a c ds) := HG.out.2.2.2.2.2.2.2.2.2.2.2.1.move (Kept.of_below (Below.refl _ _)) (fun b hb _ => hb)
  have HB4 := put_by HG.out.2.2.2.2.2.2.2.2.2.2.2.2
  go_wp2_with (first
    | (at_builtin; (with_reducible refine wpList_append_rows (K := kDd) (ok := fun _ => True) eltD rfl (.const (.slice none 0 0)) (.tmp 46) rfl w.heap.size (.slice none 0 0) [] rfl (Rows.nil _ _ _ _ _) a c k ds rfl HK.out HL4.out (fun _ _ _ _ => trivial) (fun _ _ _ => by simp [Value.ownBlock]) (by simp; omega) (by decide) HB4.out.size ?_); intro v5 w5 hR5 hg5 hat5; refine hidGoal ?_))
  rw [List.nil_append] at hR5
  have hB5 : Below w4.heap.size w4 w5 := below_grown (Below.refl _ w4) (Nat.le_refl _) hg5 (fun r e => by cases e)
  have hap : ∀ b, b < w4.heap.size → v5.ownBlock ≠ some b := fun b hb e => by
    rcases hat5 with q | q
    · rw [q] at e
      cases e
    · rw [q] at e
      have := Option.some.inj e
      omega
  have hap2 : ∀ g, v5.ownBlock = some g → g < w5.heap.size := fun g e => (rows_lt hR5 g e).2
  obtain ⟨a5, c5, e5⟩ := rows_form hR5
  rw [← HK.out] at e5
  subst e5
  have HR7 : Hid (Rows kDd (fun _ => True) (w5.alloc (.cells #[.int .i64 4, .int .i64 v, .slice none 0 0, .slice none 0 0, .int .i64 1000, .int .i64 4, .int .i64 v, .slice none 0 0, .slice (some ⟨lb, 0, none⟩) 2 2, .int .i64 1000, .int .i64 4, .int .i64 v, .slice (some ⟨lb, 0, none⟩) 2 2, .slice (some ⟨hb, 0, none⟩) 2 2, .int .i64 1000, .int .i64 4, .int .i64 v, .slice (some ⟨hb, 0, none⟩) 2 2, .slice none 0 0, .int .i64 1000, .int .i64 4, .int .i64 v, .slice none 0 0, .slice none 0 0, .int .i64 n] 50)) w.heap.size 50 (.slice a5 k c5) ds ∧ Lies kDd (fun b => (Value.slice a5 k c5).ownBlock ≠ some b) (w5.alloc (.cells #[.int .i64 4, .int .i64 v, .slice none 0 0, .slice none 0 0, .int .i64 1000, .int .i64 4, .int .i64 v, .slice none 0 0, .slice (some ⟨lb, 0, none⟩) 2 2, .int .i64 1000, .int .i64 4, .int .i64 v, .slice (some ⟨lb, 0, none⟩) 2 2, .slice (some ⟨hb, 0, none⟩) 2 2, .int .i64 1000, .int .i64 4, .int .i64 v, .slice (some ⟨hb, 0, none⟩) 2 2, .slice none 0 0, .int .i64 1000, .int .i64 4, .int .i64 v, .slice none 0 0, .slice none 0 0, .int .i64 n] 50)) (some ⟨w5.heap.size, 0, none⟩) 5 [⟨4, v, [], [], 1000⟩, ⟨4, v, [], keyK lo, 1000⟩, ⟨4, v, keyK lo, keyK hi, 1000⟩, ⟨4, v, keyK hi, [], 1000⟩, ⟨4, v, [], [], (n : Int)⟩] ∧ Below w.heap.size w (w5.alloc (.cells #[.int .i64 4, .int .i64 v, .slice none 0 0, .slice none 0 0, .int .i64 1000, .int .i64 4, .int .i64 v, .slice none 0 0, .slice (some ⟨lb, 0, none⟩) 2 2, .int .i64 1000, .int .i64 4, .int .i64 v, .slice (some ⟨lb, 0, none⟩) 2 2, .slice (some ⟨hb, 0, none⟩) 2 2, .int .i64 1000, .int .i64 4, .int .i64 v, .slice (some ⟨hb, 0, none⟩) 2 2, .slice none 0 0, .int .i64 1000, .int .i64 4, .int .i64 v, .slice none 0 0, .slice none 0 0, .int .i64 n] 50))) := by
    have hb6 : Below w5.heap.size w5 (w5.alloc (.cells #[.int .i64 4, .int .i64 v, .slice none 0 0, .slice none 0 0, .int .i64 1000, .int .i64 4, .int .i64 v, .slice none 0 0, .slice (some ⟨lb, 0, none⟩) 2 2, .int .i64 1000, .int .i64 4, .int .i64 v, .slice (some ⟨lb, 0, none⟩) 2 2, .slice (some ⟨hb, 0, none⟩) 2 2, .int .i64 1000, .int .i64 4, .int .i64 v, .slice (some ⟨hb, 0, none⟩) 2 2, .slice none 0 0, .int .i64 1000, .int .i64 4, .int .i64 v, .slice none 0 0, .slice none 0 0, .int .i64 n] 50)) := (Below.refl _ w5).alloc (Nat.le_refl _) _
    have hbl : IsBody w5 (fun b => (Value.slice a5 k c5).ownBlock ≠ some b) (.slice (some ⟨lb, 0, none⟩) 2 2) (keyK lo) := ⟨_, _, rfl, HG.out.2.2.2.1.later hB5, fun _ ad e => by cases e; exact hap _ HG.out.2.2.2.2.2.1⟩
    have hbh : IsBody w5 (fun b => (Value.slice a5 k c5).ownBlock ≠ some b) (.slice (some ⟨hb, 0, none⟩) 2 2) (keyK hi) := ⟨_, _, rfl, HG.out.2.2.2.2.1.later hB5, fun _ ad e => by cases e; exact hap _ HG.out.2.2.2.2.2.2.1⟩
    have hL := lies_many (K := kDd) (ok := fun b => (Value.slice a5 k c5).ownBlock ≠ some b) (W := w5) (l := [⟨4, v, [], [], 1000⟩, ⟨4, v, [], keyK lo, 1000⟩, ⟨4, v, keyK lo, keyK hi, 1000⟩, ⟨4, v, keyK hi, [], 1000⟩, ⟨4, v, [], [], (n : Int)⟩]) (css := [[.int .i64 4, .int .i64 v, .slice none 0 0, .slice none 0 0, .int .i64 1000], [.int .i64 4, .int .i64 v, .slice none 0 0, .slice (some ⟨lb, 0, none⟩) 2 2, .int .i64 1000], [.int .i64 4, .int .i64 v, .slice (some ⟨lb, 0, none⟩) 2 2, .slice (some ⟨hb, 0, none⟩) 2 2, .int .i64 1000], [.int .i64 4, .int .i64 v, .slice (some ⟨hb, 0, none⟩) 2 2, .slice none 0 0, .int .i64 1000], [.int .i64 4, .int .i64 v, .slice none 0 0, .slice none 0 0, .int .i64 n]]) #[.int .i64 4, .int .i64 v, .slice none 0 0, .slice none 0 0, .int .i64 1000, .int .i64 4, .int .i64 v, .slice none 0 0, .slice (some ⟨lb, 0, none⟩) 2 2, .int .i64 1000, .int .i64 4, .int .i64 v, .slice (some ⟨lb, 0, none⟩) 2 2, .slice (some ⟨hb, 0, none⟩) 2 2, .int .i64 1000, .int .i64 4, .int .i64 v, .slice (some ⟨hb, 0, none⟩) 2 2, .slice none 0 0, .int .i64 1000, .int .i64 4, .int .i64 v, .slice none 0 0, .slice none 0 0, .int .i64 n] rfl 50 ⟨⟨_, _, rfl, IsBody.none, IsBody.none⟩, ⟨_, _, rfl, IsBody.none, hbl⟩, ⟨_, _, rfl, hbl, hbh⟩, ⟨_, _, rfl, hbh, IsBody.none⟩, ⟨_, _, rfl, IsBody.none, IsBody.none⟩, trivial⟩ (fun e => by have := hap2 _ e; omega) 5 (by simp)
    refine ⟨hR5.later hb6, hL, ?_⟩
    have h1 := HB4.out.trans (hB5.mono HB4.out.size)
    exact h1.trans (hb6.mono h1.size)
  clear hR5 hg5 hat5 hB5 hap hap2
  unfold Hid
  go_wp2_with (first
    | (at_builtin; refine wpList_append_rows (K := kDd) (ok := fun _ => True) eltD rfl (.tmp 47) (.tmp 63) rfl w.heap.size (.slice a5 k c5) ds rfl HR7.out.1 (some ⟨w5.heap.size, 0, none⟩) 5 5 [⟨4, v, [], [], 1000⟩, ⟨4, v, [], keyK lo, 1000⟩, ⟨4, v, keyK lo, keyK hi, 1000⟩, ⟨4, v, keyK hi, [], 1000⟩, ⟨4, v, [], [], (n : Int)⟩] rfl rfl HR7.out.2.1 (fun _ _ _ _ => trivial) (fun _ _ q => q) (by rw [← HK.out]; omega) (by decide) HR7.out.2.2.size ?_; intro v8 w8 hR8 hg8 hat8; refine hidGoal ?_))
  have hB8 : Below w.heap.size w w8 := below_grown HR7.out.2.2 HR7.out.2.2.size hg8 (fun r e => (rows_lt HR7.out.1 r e).1)
  obtain ⟨a9, c9, e9, hP⟩ := play_more ds [⟨4, v, [], [], 1000⟩, ⟨4, v, [], keyK lo, 1000⟩, ⟨4, v, keyK lo, keyK hi, 1000⟩, ⟨4, v, keyK hi, [], 1000⟩, ⟨4, v, [], [], (n : Int)⟩] k 5 HK.out.symm rfl (by omega) (by omega) _ w8 v8 hR8
  subst e9
  obtain ⟨A, B, C, hABC, hpl⟩ := scans_play ds v HG.out.2.2.2.2.2.2.2.1 (by rw [← HK.out]; omega) (keyK lo) (keyK hi) (keyK_ne _) (keyK_ne _) (keyK_ahead lo hi HG.out.1 HG.out.2.1 HG.out.2.2.1) n
  rw [hpl] at hP
  obtain ⟨now, hnow⟩ : ∃ now, now = (playK [[]] ds).2.getD v [] := ⟨_, rfl⟩
  have hasc : Asc now := by
    have h := playK_asc ds (vs := [[]]) (by simp [Asc])
    have e : v < (playK [[]] ds).2.length := by have := HG.out.2.2.2.2.2.2.2.1; omega
    rw [hnow]
    simp only [List.getD, List.getElem?_eq_getElem e, Option.getD_some]
    exact h _ (List.getElem_mem e)
  have hfew : now.length ≤ 40 := by
    rw [hnow]
    have := getD_few (ds := ds) v
    rw [← HK.out] at this
    omega
  rw [← hnow] at hP hABC
  have HNW := put_by (And.intro hasc (And.intro hfew (And.intro hABC hB8)))
  have HP := put_by hP
  clear hnow hP hB8 hR8 hg8 hat8 HR7 HL4 HB4 hasc hfew hABC hpl HG
  unfold Hid
  go_upto_region 13 with (first
    | (go_at_call 9; refine HP.out.mono ?_; clear HP; rintro e w10 ⟨b, off, c', rfl, hc', H10⟩; have i1 : (k : Int) ≤ (k : Int) + 5 := by omega))
  obtain ⟨_, _, _, ea0, en0, ec0, -, -, -, x0, HY0⟩ := fd_at H10.out.1 0 _ rfl
  obtain ⟨_, _, _, ea1, en1, ec1, -, -, -, x1, HY1⟩ := fd_at H10.out.1 1 _ rfl
  obtain ⟨_, _, _, ea2, en2, ec2, -, -, -, x2, HY2⟩ := fd_at H10.out.1 2 _ rfl
  obtain ⟨_, _, _, ea3, en3, ec3, -, -, -, x3, HY3⟩ := fd_at H10.out.1 3 _ rfl
  obtain ⟨_, _, _, ea4, en4, ec4, -, -, -, x4, HY4⟩ := fd_at H10.out.1 4 _ rfl
  simp only [Nat.zero_mul, Nat.add_zero, Nat.one_mul, Nat.reduceMul] at x0 x1 x2 x3 x4
  have hbw : b < w10.heap.size := World.block_lt_of_cell? _ _ x0
  have HY : Hid (en0 = now.length ∧ Lies kEnt (fun _ => True) w10 ea0 ec0 now ∧ (en1 = A.length ∧ Lies kEnt (fun _ => True) w10 ea1 ec1 A) ∧ (en2 = B.length ∧ Lies kEnt (fun _ => True) w10 ea2 ec2 B) ∧ (en3 = C.length ∧ Lies kEnt (fun _ => True) w10 ea3 ec3 C) ∧ en4 = (now.take n).length ∧ Lies kEnt (fun _ => True) w10 ea4 ec4 (now.take n) ∧ Below w.heap.size w w10) := by
    obtain ⟨-, -, p0, q0, -⟩ := HY0.out
    obtain ⟨-, -, p1, q1, -⟩ := HY1.out
    obtain ⟨-, -, p2, q2, -⟩ := HY2.out
    obtain ⟨-, -, p3, q3, -⟩ := HY3.out
    obtain ⟨-, -, p4, q4, -⟩ := HY4.out
    have hb := HNW.out.2.2.2
    exact ⟨p0, q0, ⟨p1, q1⟩, ⟨p2, q2⟩, ⟨p3, q3⟩, p4, q4, hb.trans (H10.out.2.mono hb.size)⟩
  clear HY0 HY1 HY2 HY3 HY4 H10
  have HX : Hid (∀ W, Below w10.heap.size w10 W → (∀ j x, w10.cell? ⟨b, j, none⟩ = some x → W.cell? ⟨b, j, none⟩ = some x)) := fun W hW j x hx => (hW.cell (p := ⟨b, j, none⟩) hbw).trans hx
  have HSV : Hid (∀ W, Below w10.heap.size w10 W → W.cell? ⟨b, off + k * 4 + 4 + 3, none⟩ = some (.slice ea1 en1 ec1) ∧ W.cell? ⟨b, off + k * 4 + 8 + 3, none⟩ = some (.slice ea2 en2 ec2) ∧ W.cell? ⟨b, off + k * 4 + 12 + 3, none⟩ = some (.slice ea3 en3 ec3)) := fun W hW => ⟨HX.out W hW _ _ x1, HX.out W hW _ _ x2, HX.out W hW _ _ x3⟩
  have hLO : Hid (∀ (P : Prop), (Ending.outgrown = .returned (.bool true) ∧ P) → False) := fun P hh => by cases hh.1
  go_cut [18] from 83 to 97 (fun x wx => ∃ (aa : Option Addr) (nn cc : Nat), x = .slice aa nn cc ∧ Hid (nn = now.length ∧ Lies kEnt (fun _ => True) wx aa cc now ∧ Below w10.heap.size w10 wx))
  case first =>
    have HD0 : Hid (Below w10.heap.size w10 w10.drew) := (Below.refl _ _).drew
    have hS := HSV.out _ HD0.out
    refine region_plain (fun V => V.cell? ⟨b, off + k * 4 + 4 + 3, none⟩ = some (.slice ea1 en1 ec1) ∧ V.cell? ⟨b, off + k * 4 + 8 + 3, none⟩ = some (.slice ea2 en2 ec2) ∧ V.cell? ⟨b, off + k * 4 + 12 + 3, none⟩ = some (.slice ea3 en3 ec3)) 15 (by kernel_rfl) ?_
    generalize w10.drew = Wd at HD0 hS ⊢
    refine V_takeS [15] 83 (k := 0) (v := .slice (some ⟨b, off + k * 4, none⟩) 5 (c' - k)) rfl rfl (by kernel_rfl) (by kernel_rfl) (by kernel_rfl) (by kernel_rfl) (by kernel_rfl) (by kernel_rfl) (fun _ _ _ h => h) (Or.inl ⟨by rfl, fun V hV => ?_⟩) hS ?_
    · obtain ⟨z0, z1, z2⟩ := hV; go_simp
    simp only [Act.put, List.setIfInBounds_toArray, List.set_cons_zero, List.set_cons_succ]
    refine V_takeS [15] 84 (k := 1) (v := .pointer (some ⟨b, off + k * 4 + 4, none⟩)) rfl rfl (by kernel_rfl) (by kernel_rfl) (by kernel_rfl) (by kernel_rfl) (by kernel_rfl) (by kernel_rfl) (fun _ _ _ h => h) (Or.inl ⟨by rfl, fun V hV => ?_⟩) hS ?_
    · obtain ⟨z0, z1, z2⟩ := hV; go_simp
    simp only [Act.put, List.setIfInBounds_toArray, List.set_cons_zero, List.set_cons_succ]
    refine V_takeS [15] 85 (k := 2) (v := .pointer (some ⟨b, off + k * 4 + 4 + 3, none⟩)) rfl rfl (by kernel_rfl) (by kernel_rfl) (by kernel_rfl) (by kernel_rfl) (by kernel_rfl) (by kernel_rfl) (fun _ _ _ h => h) (Or.inl ⟨by rfl, fun V hV => ?_⟩) hS ?_
    · obtain ⟨z0, z1, z2⟩ := hV; go_simp
    simp only [Act.put, List.setIfInBounds_toArray, List.set_cons_zero, List.set_cons_succ]
    refine V_takeS [15] 86 (k := 3) (v := .slice ea1 en1 ec1) rfl rfl (by kernel_rfl) (by kernel_rfl) (by kernel_rfl) (by kernel_rfl) (by kernel_rfl) (by kernel_rfl) (fun _ _ _ h => h) (Or.inl ⟨by rfl, fun V hV => ?_⟩) hS ?_
    · obtain ⟨z0, z1, z2⟩ := hV; go_simp
    simp only [Act.put, List.setIfInBounds_toArray, List.set_cons_zero, List.set_cons_succ]
    refine V_takeS [15] 88 (k := 5) (v := .slice (some ⟨b, off + k * 4, none⟩) 5 (c' - k)) rfl rfl (by kernel_rfl) (by kernel_rfl) (by kernel_rfl) (by kernel_rfl) (by kernel_rfl) (by kernel_rfl) (fun _ _ _ h => h) (Or.inl ⟨by rfl, fun V hV => ?_⟩) hS ?_
    · obtain ⟨z0, z1, z2⟩ := hV; go_simp
    simp only [Act.put, List.setIfInBounds_toArray, List.set_cons_zero, List.set_cons_succ]
    refine V_takeS [15] 89 (k := 6) (v := .pointer (some ⟨b, off + k * 4 + 8, none⟩)) rfl rfl (by kernel_rfl) (by kernel_rfl) (by kernel_rfl) (by kernel_rfl) (by kernel_rfl) (by kernel_rfl) (fun _ _ _ h => h) (Or.inl ⟨by rfl, fun V hV => ?_⟩) hS ?_
    · obtain ⟨z0, z1, z2⟩ := hV; go_simp
    simp only [Act.put, List.setIfInBounds_toArray, List.set_cons_zero, List.set_cons_succ]
    refine V_takeS [15] 90 (k := 7) (v := .pointer (some ⟨b, off + k * 4 + 8 + 3, none⟩)) rfl rfl (by kernel_rfl) (by kernel_rfl) (by kernel_rfl) (by kernel_rfl) (by kernel_rfl) (by kernel_rfl) (fun _ _ _ h => h) (Or.inl ⟨by rfl, fun V hV => ?_⟩) hS ?_
    · obtain ⟨z0, z1, z2⟩ := hV; go_simp
    simp only [Act.put, List.setIfInBounds_toArray, List.set_cons_zero, List.set_cons_succ]
    refine V_takeS [15] 91 (k := 8) (v := .slice ea2 en2 ec2) rfl rfl (by kernel_rfl) (by kernel_rfl) (by kernel_rfl) (by kernel_rfl) (by kernel_rfl) (by kernel_rfl) (fun _ _ _ h => h) (Or.inl ⟨by rfl, fun V hV => ?_⟩) hS ?_
    · obtain ⟨z0, z1, z2⟩ := hV; go_simp
    simp only [Act.put, List.setIfInBounds_toArray, List.set_cons_zero, List.set_cons_succ]
    refine V_takeS [15] 93 (k := 10) (v := .slice (some ⟨b, off + k * 4, none⟩) 5 (c' - k)) rfl rfl (by kernel_rfl) (by kernel_rfl) (by kernel_rfl) (by kernel_rfl) (by kernel_rfl) (by kernel_rfl) (fun _ _ _ h => h) (Or.inl ⟨by rfl, fun V hV => ?_⟩) hS ?_
    · obtain ⟨z0, z1, z2⟩ := hV; go_simp
    simp only [Act.put, List.setIfInBounds_toArray, List.set_cons_zero, List.set_cons_succ]
    refine V_takeS [15] 94 (k := 11) (v := .pointer (some ⟨b, off + k * 4 + 12, none⟩)) rfl rfl (by kernel_rfl) (by kernel_rfl) (by kernel_rfl) (by kernel_rfl) (by kernel_rfl) (by kernel_rfl) (fun _ _ _ h => h) (Or.inl ⟨by rfl, fun V hV => ?_⟩) hS ?_
    · obtain ⟨z0, z1, z2⟩ := hV; go_simp
    simp only [Act.put, List.setIfInBounds_toArray, List.set_cons_zero, List.set_cons_succ]
    refine V_takeS [15] 95 (k := 12) (v := .pointer (some ⟨b, off + k * 4 + 12 + 3, none⟩)) rfl rfl (by kernel_rfl) (by kernel_rfl) (by kernel_rfl) (by kernel_rfl) (by kernel_rfl) (by kernel_rfl) (fun _ _ _ h => h) (Or.inl ⟨by rfl, fun V hV => ?_⟩) hS ?_
    · obtain ⟨z0, z1, z2⟩ := hV; go_simp
    simp only [Act.put, List.setIfInBounds_toArray, List.set_cons_zero, List.set_cons_succ]
    refine V_takeS [15] 96 (k := 13) (v := .slice ea3 en3 ec3) rfl rfl (by kernel_rfl) (by kernel_rfl) (by kernel_rfl) (by kernel_rfl) (by kernel_rfl) (by kernel_rfl) (fun _ _ _ h => h) (Or.inl ⟨by rfl, fun V hV => ?_⟩) hS ?_
    · obtain ⟨z0, z1, z2⟩ := hV; go_simp
    simp only [Act.put, List.setIfInBounds_toArray, List.set_cons_zero, List.set_cons_succ]
    refine U_one (i := 4) (by kernel_rfl) rfl rfl rfl (fun K hK => ?_)
    have HA1 : Hid (Lies kEnt (fun b => b < Wd.heap.size) Wd ea1 ec1 A) := (HY.out.2.2.1.2.later HD0.out).move (Kept.of_below (Below.refl _ _)) (fun b hb _ => hb)
    refine wp_of_list rfl (by rintro ⟨_, _, hh⟩; first | exact hh | exact hLO.out _ hh) (wpList_append_rows (K := kEnt) (ok := fun _ => True) eltE rfl (.const (.slice none 0 0)) (.tmp 86) rfl Wd.heap.size (.slice none 0 0) [] rfl (Rows.nil _ _ _ _ _) ea1 ec1 en1 A rfl HY.out.2.2.1.1 HA1.out (fun _ _ _ _ => trivial) (fun _ _ _ => by simp [Value.ownBlock]) (by have h1 := HNW.out.2.1; rw [← HNW.out.2.2.1, List.length_append, List.length_append, ← HY.out.2.2.1.1] at h1; simp; omega) (by decide) (Nat.le_refl _) (fun v11 w11 hR11 hg11 hat11 => ?_))
    rw [List.nil_append] at hR11
    have hB11 : Below Wd.heap.size Wd w11 := below_grown (Below.refl _ _) (Nat.le_refl _) hg11 (fun r e => by cases e)
    have hn11 : ∀ g, v11.ownBlock = some g → Wd.heap.size ≤ g := fun g e => (rows_lt hR11 g e).1
    have H11 := put_by (And.intro hR11 (And.intro hB11 hn11))
    refine hK _ _ (fun _ => HSV.out _ (HD0.out.trans (hB11.mono HD0.out.size))) ?_
    clear hK K hg11 hat11 hR11 hB11 hn11 HA1
    refine U_one (i := 9) (by kernel_rfl) rfl rfl rfl (fun K hK => ?_)
    have HA2 : Hid (Lies kEnt (fun b => b < Wd.heap.size) w11 ea2 ec2 B) := ((HY.out.2.2.2.1.2.later HD0.out).move (Kept.of_below (Below.refl _ _)) (fun b hb _ => hb)).later H11.out.2.1
    refine wp_of_list rfl (by rintro ⟨_, _, hh⟩; first | exact hh | exact hLO.out _ hh) (wpList_append_rows (K := kEnt) (ok := fun _ => True) eltE rfl (.tmp 87) (.tmp 91) rfl Wd.heap.size v11 A rfl H11.out.1 ea2 ec2 en2 B rfl HY.out.2.2.2.1.1 HA2.out (fun _ _ _ _ => trivial) (fun bb _ hbb e => by have := H11.out.2.2 bb e; omega) (by have h1 := HNW.out.2.1; rw [← HNW.out.2.2.1, List.length_append, List.length_append] at h1; have h2 := HY.out.2.2.2.1.1; omega) (by decide) H11.out.2.1.size (fun v12 w12 hR12 hg12 hat12 => ?_))
    have hB12 : Below Wd.heap.size Wd w12 := below_grown H11.out.2.1 H11.out.2.1.size hg12 (fun r e => H11.out.2.2 r e)
    have hn12 : ∀ g, v12.ownBlock = some g → Wd.heap.size ≤ g := fun g e => (rows_lt hR12 g e).1
    have H12 := put_by (And.intro hR12 (And.intro hB12 hn12))
    refine hK _ _ (fun _ => HSV.out _ (HD0.out.trans (hB12.mono HD0.out.size))) ?_
    clear hK K hg12 hat12 hR12 hB12 hn12 HA2 H11
    refine U_one (i := 14) (by kernel_rfl) rfl rfl rfl (fun K hK => ?_)
    have HA3 : Hid (Lies kEnt (fun b => b < Wd.heap.size) w12 ea3 ec3 C) := ((HY.out.2.2.2.2.1.2.later HD0.out).move (Kept.of_below (Below.refl _ _)) (fun b hb _ => hb)).later H12.out.2.1
    refine wp_of_list rfl (by rintro ⟨_, _, hh⟩; first | exact hh | exact hLO.out _ hh) (wpList_append_rows (K := kEnt) (ok := fun _ => True) eltE rfl (.tmp 92) (.tmp 96) rfl Wd.heap.size v12 (A ++ B) rfl H12.out.1 ea3 ec3 en3 C rfl HY.out.2.2.2.2.1.1 HA3.out (fun _ _ _ _ => trivial) (fun bb _ hbb e => by have := H12.out.2.2 bb e; omega) (by have h1 := HNW.out.2.1; rw [← HNW.out.2.2.1, List.length_append] at h1; have h2 := HY.out.2.2.2.2.1.1; omega) (by decide) H12.out.2.1.size (fun v13 w13 hR13 hg13 hat13 => ?_))
    have hB13 : Below Wd.heap.size Wd w13 := below_grown H12.out.2.1 H12.out.2.1.size hg13 (fun r e => H12.out.2.2 r e)
    rw [HNW.out.2.2.1] at hR13
    obtain ⟨aa, cc, e13, hL13, -, -, -⟩ := hR13.lies (fun _ _ => trivial)
    have H13 : Hid (Lies kEnt (fun _ => True) w13 aa cc now ∧ Below w10.heap.size w10 w13) := ⟨hL13, HD0.out.trans (hB13.mono HD0.out.size)⟩
    obtain ⟨nn, hnn⟩ : ∃ nn, nn = now.length := ⟨_, rfl⟩
    rw [← hnn] at e13
    have HNN := put_by hnn
    subst e13
    refine hK _ _ (fun _ => HSV.out _ H13.out.2) ?_
    clear hK K hg13 hat13 hR13 hB13 HA3 H12 hL13 hnn
    refine U_one (i := 15) (by kernel_rfl) rfl rfl rfl (fun K hK => ?_)
    go_simp
    refine hK _ _ (fun hh => by cases (show true = false from hh)) ?_
    clear hK K
    refine U_done (by kernel_rfl) ?_ _
    go_wp2
    go_meet
    exact ⟨aa, nn, cc, rfl, HNN.out, H13.out⟩
  case rest =>
    obtain ⟨aa, nn, cc, rfl, HZ⟩ := hcut
    clear HSV
    have z0 := HX.out _ HZ.out.2.2 _ _ x0
    have z4 := HX.out _ HZ.out.2.2 _ _ x4
    have HBW : Hid (Below w.heap.size w wc) := HY.out.2.2.2.2.2.2.2.trans (HZ.out.2.2.mono HY.out.2.2.2.2.2.2.2.size)
    have hn40 : nn ≤ 40 := by rw [HZ.out.1]; exact HNW.out.2.1
    have cS1 : Hid (∀ i, Calls Try.prog 18 #[.slice aa nn cc, .slice ea0 en0 ec0] (wc.drewN i) fun e w' => e = .returned (.bool true) ∧ ∃ j, w' = (wc.drewN i).drewN j) := fun i => by
      rw [HZ.out.1, HY.out.1]
      have hb : Below w10.heap.size w10 (wc.drewN i) := drawn_later HZ.out.2.2 i
      have := sameEntriesK_q (fun _ => True) (fun _ => True) now now (by have := HNW.out.2.1; omega) aa ea0 cc ec0 (wc.drewN i) (HZ.out.2.1.later (drawn_later (Below.refl _ wc) i)) (HY.out.2.1.later hb)
      rw [decide_eq_true rfl] at this
      exact this
    have cS2 : Hid (∀ i, Calls Try.prog 18 #[.slice ea4 en4 ec4, .slice aa (min n nn) cc] (wc.drewN i) fun e w' => e = .returned (.bool true) ∧ ∃ j, w' = (wc.drewN i).drewN j) := fun i => by
      have hb : Below w10.heap.size w10 (wc.drewN i) := drawn_later HZ.out.2.2 i
      have hl : (now.take n).length = min n nn := by rw [List.length_take, HZ.out.1]
      have := sameEntriesK_q (fun _ => True) (fun _ => True) (now.take n) (now.take n) (by rw [hl]; omega) ea4 aa ec4 cc (wc.drewN i) (HY.out.2.2.2.2.2.2.1.later hb) ((HZ.out.2.1.later (drawn_later (Below.refl _ wc) i)).take n)
      rw [decide_eq_true rfl, hl] at this
      rw [HY.out.2.2.2.2.2.1, hl]
      exact this
    have hcc : nn ≤ cc := by rw [HZ.out.1]; exact HZ.out.2.1.1
    have cQ : Hid (∀ W, Below w.heap.size w W → Calls Try.prog 9 #[.slice (some ⟨W.heap.size + 1, 0, none⟩) 2 2] ((W.alloc (.cells #[.int .u8 1] 5)).alloc (.cells #[.int .i64 1, .int .i64 0, .slice (some ⟨W.heap.size, 0, none⟩) 1 1, .slice none 0 0, .int .i64 0, .int .i64 4, .int .i64 1, .slice none 0 0, .slice none 0 0, .int .i64 2] 50)) fun e w' => ∃ (b7 o7 c7 : Nat) (ea : Option Addr) (ec : Nat), e = .returned (.tuple #[.slice (some ⟨b7, o7, none⟩) 2 c7, .int .i64 0]) ∧ w'.cell? ⟨b7, o7 + 4 + 3, none⟩ = some (.slice ea 1 ec) ∧ Hid (Below w.heap.size w w')) := fun W hW => by
      have hb6 : Below W.heap.size W (W.alloc (.cells #[.int .u8 1] 5)) := (Below.refl _ W).alloc (Nat.le_refl _) _
      have hs6 : (W.alloc (.cells #[.int .u8 1] 5)).heap.size = W.heap.size + 1 := alloc_size _ _
      have hbk : IsBody (W.alloc (.cells #[.int .u8 1] 5)) (fun _ => True) (.slice (some ⟨W.heap.size, 0, none⟩) 1 1) [1] := ⟨_, _, rfl, octs_one W 1 (by omega) _, fun _ _ _ => trivial⟩
      have hL := lies_many (K := kDd) (ok := fun _ => True) (W := W.alloc (.cells #[.int .u8 1] 5)) (l := [⟨1, 0, [1], [], 0⟩, ⟨4, 1, [], [], 2⟩]) (css := [[.int .i64 1, .int .i64 0, .slice (some ⟨W.heap.size, 0, none⟩) 1 1, .slice none 0 0, .int .i64 0], [.int .i64 4, .int .i64 1, .slice none 0 0, .slice none 0 0, .int .i64 2]]) #[.int .i64 1, .int .i64 0, .slice (some ⟨W.heap.size, 0, none⟩) 1 1, .slice none 0 0, .int .i64 0, .int .i64 4, .int .i64 1, .slice none 0 0, .slice none 0 0, .int .i64 2] rfl 50 ⟨⟨_, _, rfl, hbk, IsBody.none⟩, ⟨_, _, rfl, IsBody.none, IsBody.none⟩, trivial⟩ trivial 2 (by simp)
      rw [hs6] at hL
      have hb7 : Below (W.alloc (.cells #[.int .u8 1] 5)).heap.size (W.alloc (.cells #[.int .u8 1] 5)) ((W.alloc (.cells #[.int .u8 1] 5)).alloc (.cells #[.int .i64 1, .int .i64 0, .slice (some ⟨W.heap.size, 0, none⟩) 1 1, .slice none 0 0, .int .i64 0, .int .i64 4, .int .i64 1, .slice none 0 0, .slice none 0 0, .int .i64 2] 50)) := (Below.refl _ _).alloc (Nat.le_refl _) _
      have hpl : (playK [[]] [⟨1, 0, [1], [], 0⟩, ⟨4, 1, [], [], 2⟩]).1 = [⟨0, 1, [], []⟩, ⟨0, 0, [], [([1], [])]⟩] := by rfl
      refine (Play_any (fun _ => True) [⟨1, 0, [1], [], 0⟩, ⟨4, 1, [], [], 2⟩] (by simp) _ 2 _ hL).mono ?_
      rintro e w' ⟨a7, n7, c7, rfl, q1, q2, -, q3⟩
      rw [hpl] at q2
      have hn7 : n7 = 2 := q1
      subst hn7
      rcases q2.2.2 with h' | ⟨b7, o7, css, e7, -⟩
      · cases h'
      · subst e7
        obtain ⟨_, _, _, ea, en, ec, -, -, -, y3, HYY⟩ := fd_at q2 1 _ rfl
        simp only [Nat.one_mul] at y3
        have hen : en = 1 := HYY.out.2.2.1
        subst hen
        have h1 := hW.trans (hb6.mono hW.size)
        have h2 := h1.trans (hb7.mono h1.size)
        exact ⟨b7, o7, c7, ea, ec, rfl, y3, h2.trans (q3.mono h2.size)⟩
    have HLT : Hid (∀ j (h1 : j + 1 < now.length), ahead (now[j]'(by omega)).1 (now[j + 1]).1 = true) := fun j h1 => List.pairwise_iff_getElem.1 HNW.out.1 j (j + 1) (by omega) h1 (by omega)
    have HZ2 := put_by (And.intro HZ.out.1 HZ.out.2.1)
    go_upto_region 14 with (fail)
    clear HY HNW HX x0 x1 x2 x3 x4
    have hcase : (n ≤ nn ∧ (n : Int) ≤ (nn : Int) ∧ min n nn = n) ∨ (nn < n ∧ (nn : Int) < (n : Int) ∧ min n nn = nn) := by omega
    have hci : (nn : Int) ≤ (cc : Int) := by omega
    rcases hcase with ⟨hc1, hc2, hc3⟩ | ⟨hc1, hc2, hc3⟩
    all_goals
      rw [hc3] at cS2
      have hnc : (n : Int) ≤ (cc : Int) ∨ (nn : Int) < (n : Int) := by omega
      have hni : (n : Int) ≤ (n : Int) := Int.le_refl _
      go_quiet (first
        | (go_at_call 18; first | with_reducible exact Calls.quiet_of (cS1.out _) | with_reducible exact Calls.quiet_of (cS2.out _)))
      have HBQ : Hid (Below wc.heap.size wc (wc.drewN nq)) := drawn_later (Below.refl _ wc) nq
      generalize wc.drewN nq = Wq at HBQ ⊢
      clear cS1 cS2 z0 z4
      go_wp2
      go_loopw [19] (fun i wr => ∃ j : Nat, j ≤ nn ∧ i = .int .i64 ((j : Int) + 1) ∧ Hid (Below wc.heap.size wc wr)) (fun i _ => nn + 1 - (intOf i).toNat)
      case atStart => exact ⟨0, Nat.zero_le _, rfl, HBQ.out⟩
      case round =>
        obtain ⟨j, hj, rfl, HW⟩ := hrel
        by_cases hlt : j + 1 < nn
        · have hx2 : j + 1 < now.length := by rw [← HZ2.out.1]; exact hlt
          have hx1 : j < now.length := by omega
          obtain ⟨b5, o5, haa, hb5, _, cs, ⟨u1, v1, rfl, hu1, hv1⟩, hq1⟩ := HZ2.out.2.at hx1
          obtain ⟨b6, o6, haa2, hb6, _, cs2, ⟨u2, v2, rfl, hu2, hv2⟩, hq2⟩ := HZ2.out.2.at hx2
          subst haa
          cases haa2
          obtain ⟨xa, xc, rfl, ho1, -⟩ := id hu1
          obtain ⟨ya, yc, rfl, ho2, -⟩ := id hu2
          have HSV2 : Hid (∀ W, Below wc.heap.size wc W → W.cell? ⟨b5, o5 + j * 2, none⟩ = some (.slice xa (now[j]).1.length xc) ∧ W.cell? ⟨b5, o5 + (j + 1) * 2, none⟩ = some (.slice ya (now[j + 1]).1.length yc)) := fun W hW => ⟨(hW.cell (p := ⟨b5, o5 + j * 2, none⟩) hb5).trans (by simpa using hq1 0 _ rfl), (hW.cell (p := ⟨b5, o5 + (j + 1) * 2, none⟩) hb5).trans (by simpa using hq2 0 _ rfl)⟩
          have cL : Hid (∀ W, Below wc.heap.size wc W → Calls Try.prog 21 #[.slice xa (now[j]).1.length xc, .slice ya (now[j + 1]).1.length yc] W fun e w' => e = .returned (.bool true) ∧ Hid (Below wc.heap.size wc w')) := fun W hW => by
            have := lessBytes_any xa ya xc yc (now[j]).1 (now[j + 1]).1 W (ho1.later hW) (ho2.later hW)
            rw [HLT.out j hx2] at this
            exact this.mono fun e w' hh => ⟨hh.1, hW.trans (hh.2.mono hW.size)⟩
          have ij : (j : Int) + 1 < (nn : Int) := by omega
          have ij0 : (j : Int) < (nn : Int) := by omega
          have ij1 : 0 ≤ (j : Int) + 1 := by omega
          have ij2 : ((j : Int) + 1).toNat = j + 1 := by omega
          have hwj2 : IntKind.i64.wrap (j : Int) = (j : Int) := by
            rw [IntKind.wrap_i64]
            omega
          have ij3 : (j : Int) + 1 - 1 = (j : Int) := by omega
          have hwj : IntKind.i64.wrap ((j : Int) + 1 - 1) = (j : Int) := by
            rw [IntKind.wrap_i64]
            omega
          clear hq1 hq2 hu1 hu2 hv1 hv2 ho1 ho2 HZ HZ2 cQ
          generalize (now[j]).1.length = x1 at cL HSV2
          generalize (now[j + 1]).1.length = x2 at cL HSV2
          clear hx1 hx2
          obtain ⟨y0, y1⟩ := HSV2.out _ HW.out
          have HWd := put_by (HW.out.trans ((Below.refl _ wr).drew.mono HW.out.size))
          go_upto_region 19 with (fail)
          go_region_held3 (fun V => V.cell? ⟨b5, o5 + j * 2, none⟩ = some (.slice xa x1 xc) ∧ V.cell? ⟨b5, o5 + (j + 1) * 2, none⟩ = some (.slice ya x2 yc)) (go_keep) (first
            | (go_at_call 21; refine (cL.out _ HWd.out).mono ?_; clear cL; rintro e w9 ⟨rfl, H9⟩; obtain ⟨s0, s1⟩ := HSV2.out _ H9.out))
          go_wp2
          go_roundw
          case rel => exact ⟨j + 1, by omega, by go_num, H9.out⟩
          case measure => simp [intOf]; omega
        · have h9 : ¬ ((j : Int) + 1 < (nn : Int)) := by omega
          have HWW : Hid (Below w.heap.size w wr) := HBW.out.trans (HW.out.mono HBW.out.size)
          clear HW HZ HZ2
          go_wp2_with (first
            | (go_at_call 9; refine (cQ.out _ HWW.out).mono ?_; clear cQ; rintro e w7 ⟨b7, o7, c7, ea, ec, rfl, y3, H7⟩))
          go_ret
          exact ⟨rfl, H7.out⟩

end Go.Proofs.Ytdjiplheomoljaa
