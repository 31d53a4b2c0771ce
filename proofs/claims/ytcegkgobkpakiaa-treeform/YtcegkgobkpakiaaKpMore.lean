/- Makers of deeds: keys, how many versions deeds make, what a version holds. -/
import Derived.Test.YtcegkgobkpakiaaTrRun
import Derived.Test.YtcegkgobkpakiaaTreeLaws
import Derived.Test.YtcegkgobkpakiaaPicked
namespace Go.Proofs.Ytcegkgobkpakiaa
open Go.ChangeShapes Go.WideShapes Go.ChangeAt Go.RowKit

/-- the key of a number -/
def keyK (n : Int) : List Int := [107, n % 40]

theorem keyK_ne (n : Int) : keyK n ≠ [] := by simp [keyK]

theorem octs_two (w : World) (x y : Int) (hx : 0 ≤ x ∧ x ≤ 255) (hy : 0 ≤ y ∧ y ≤ 255) (ty : TypeId) : Octs (w.alloc (.cells #[.int .u8 x, .int .u8 y] ty)) (some ⟨w.heap.size, 0, none⟩) 2 [x, y] := by
  refine ⟨Nat.le_refl _, by simp, (fun h => by cases h), ?_, .inr ⟨_, _, rfl, fun i hi => ?_⟩⟩
  · intro z hz
    simp only [List.mem_cons, List.not_mem_nil, or_false] at hz
    rcases hz with rfl | rfl
    · exact hx
    · exact hy
  · match i, hi with
    | 0, _ => simp
    | 1, _ => simp

theorem octs_one (w : World) (x : Int) (hx : 0 ≤ x ∧ x ≤ 255) (ty : TypeId) : Octs (w.alloc (.cells #[.int .u8 x] ty)) (some ⟨w.heap.size, 0, none⟩) 1 [x] := by
  refine ⟨Nat.le_refl _, by simp, (fun h => by cases h), ?_, .inr ⟨_, _, rfl, fun i hi => ?_⟩⟩
  · intro z hz
    simp only [List.mem_cons, List.not_mem_nil, or_false] at hz
    rcases hz with rfl
    exact hx
  · match i, hi with
    | 0, _ => simp

theorem keyOf_any (n : Int) (w : World) :
    Calls Try.prog 11 #[.int .i64 n] w fun e w' => e = .returned (.slice (some ⟨w.heap.size, 0, none⟩) 2 2) ∧ Octs w' (some ⟨w.heap.size, 0, none⟩) 2 (keyK n) ∧ w.heap.size < w'.heap.size ∧ Below w.heap.size w w' := by
  have cP : Hid (∀ W, Calls Try.prog 5 #[.int .i64 n, .int .i64 40] W fun e w' => e = .returned (.int .i64 (n % 40)) ∧ W = w') := fun W => Picked_any n 40 (by omega) (by omega) W
  have h1 : 0 ≤ n % 40 := by omega
  have h2 : n % 40 ≤ 255 := by omega
  have hw : IntKind.u8.wrap (n % 40) = n % 40 := by
    rw [IntKind.wrap_u8]
    omega
  have HO := put_by (octs_two w 107 (n % 40) (by omega) (by omega) 5)
  have HB : Hid (Below w.heap.size w (w.alloc (.cells #[.int .u8 107, .int .u8 (n % 40)] 5))) := (Below.refl _ w).alloc (Nat.le_refl _) _
  unfold keyK
  generalize n % 40 = r at *
  go_enter Try.func11, Try.ntmps11
  go_wp2_with (first
    | (go_at_call 5; refine (cP.out _).mono ?_; clear cP; rintro e w1 ⟨rfl, rfl⟩))
  go_ret
  exact ⟨rfl, HO.out, by simp, HB.out⟩

theorem eltD : Elt 23 45 5 72 := ⟨Try.underlying23, by
  obtain ⟨i0, hi, hz0, hz1, hz2⟩ := info_parts (show (Try.prog.info? 45).map (fun i => (i.zero, i.size, i.bytes)) = some (some (.agg #[.int .i64 0, .int .i64 0, .slice none 0 0, .slice none 0 0, .int .i64 0]), 5, 72) by kernel_rfl)
  exact ⟨i0, _, hi, hz0, hz1, hz2, rfl⟩, by decide⟩

/-- things that lie in a block just made -/
theorem lies_many {α : Type} {size : Nat} {K : Kd α size} {ok : Nat → Prop} {W : World} {l : List α} {css : List (List Value)} (zs : Array Value) (hz : zs = css.flatten.toArray) (ty : TypeId) (hr : All2 (K.rel ok W) l css) (hok : ok W.heap.size) (n : Nat) (hn : l.length ≤ n) : Lies K ok (W.alloc (.cells zs ty)) (some ⟨W.heap.size, 0, none⟩) n l := by
  have hb : Below W.heap.size W (W.alloc (.cells zs ty)) := (Below.refl _ W).alloc (Nat.le_refl _) _
  refine ⟨hn, (fun h => by cases h), .inr ⟨W.heap.size, 0, css, rfl, by simp, hok, All2.imp (fun x cs h => K.move (Kept.of_below hb) (fun _ _ q => q) h) hr, fun j u hj => ?_⟩⟩
  subst hz
  have hh := heap_alloc_new W (.cells css.flatten.toArray ty)
  simp only [World.cell?, hh, Nat.zero_add]
  simpa using hj

/-- has it made a version -/
def okF (f : Fd) : Bool := decide (f.code = 0 ∧ 0 < f.ver)

def cntF (l : List Fd) : Nat := (l.filter okF).length

theorem cntF_snoc (l : List Fd) (f : Fd) : cntF (l ++ [f]) = cntF l + (if f.code = 0 ∧ 0 < f.ver then 1 else 0) := by
  unfold cntF
  rw [List.filter_append, List.length_append]
  congr 1
  by_cases h : f.code = 0 ∧ 0 < f.ver
  · simp [okF, h]
  · rw [if_neg h]
    simp [okF, h]

theorem cntF_le (l : List Fd) : cntF l ≤ l.length := List.length_filter_le _ _

/-- putting and dropping: a version more, or a code -/
theorem step_two (vs : List (List Ent)) {d : Dd} (hk : d.kind = 1 ∨ d.kind = 2) : (∃ c : Int, c ≠ 0 ∧ stepK vs d = (⟨c, 0, [], []⟩, vs)) ∨ ∃ x, stepK vs d = (⟨0, vs.length, [], []⟩, vs ++ [x]) := by
  rw [stepK, if_neg (by omega)]
  split
  · exact .inl ⟨2, by decide, rfl⟩
  · simp only [deedK]
    rcases hk with hk | hk
    · rw [if_pos hk]
      split
      · exact .inl ⟨1, by decide, rfl⟩
      · exact .inr ⟨_, rfl⟩
    · rw [if_neg (by omega), if_pos hk]
      split
      · exact .inr ⟨_, rfl⟩
      · exact .inl ⟨6, by decide, rfl⟩

theorem cnt_step {vs : List (List Ent)} (hv : vs ≠ []) {d : Dd} (hk : d.kind = 1 ∨ d.kind = 2) : (if (stepK vs d).1.code = 0 ∧ 0 < (stepK vs d).1.ver then 1 else 0) + vs.length = (stepK vs d).2.length ∧ (stepK vs d).2 ≠ [] := by
  have hl : 0 < vs.length := List.length_pos_iff.2 hv
  rcases step_two vs hk with ⟨c, hc, e⟩ | ⟨x, e⟩
  · rw [e]
    simp [hc, hv]
  · rw [e]
    simp [hl]
    omega

theorem cnt_play : ∀ (ds : List Dd) {vs : List (List Ent)} (_ : vs ≠ []) (_ : ∀ d ∈ ds, d.kind = 1 ∨ d.kind = 2), cntF (playK vs ds).1 + vs.length = (playK vs ds).2.length
  | [], _, _, _ => by simp [playK, cntF]
  | d :: ds, vs, hv, hk => by
    obtain ⟨h1, h2⟩ := cnt_step hv (hk d List.mem_cons_self)
    have h3 := cnt_play ds h2 (fun d hd => hk d (List.mem_cons_of_mem _ hd))
    simp only [playK]
    rw [← h3, ← h1]
    unfold cntF okF
    rw [List.filter_cons]
    by_cases h : (stepK vs d).1.code = 0 ∧ 0 < (stepK vs d).1.ver
    · simp only [h, and_self, decide_true, if_true, List.length_cons]
      omega
    · simp only [h, decide_false, Bool.false_eq_true, if_false]
      omega

/-- how many versions deeds of that kind made -/
theorem cnt_made (ds : List Dd) (hk : ∀ d ∈ ds, d.kind = 1 ∨ d.kind = 2) : cntF (playK [[]] ds).1 + 1 = (playK [[]] ds).2.length := cnt_play ds (by simp) hk

set_option maxHeartbeats 4000000 in
theorem made_any (ok : Nat → Prop) (ds : List Dd) (hds : ds.length ≤ 400) (hk : ∀ d ∈ ds, d.kind = 1 ∨ d.kind = 2) (da : Option Addr) (dc : Nat) (w : World) (hL : Lies kDd ok w da dc ds) :
    Calls Try.prog 6 #[.slice da ds.length dc] w fun e w' => ∃ m : Nat, e = .returned (.int .i64 m) ∧ m + 1 = (playK [[]] ds).2.length ∧ m ≤ ds.length ∧ Below w.heap.size w w' := by
  have hcm := cnt_made ds hk
  have hpl := playK_length ds [[]]
  have cP : Hid (Calls Try.prog 12 #[.slice da ds.length dc] w fun e w' => ∃ (a : Option Addr) (c : Nat), e = .returned (.tuple #[.slice a ds.length c, .int .i64 0]) ∧ Hid (Lies kFd (fun _ => True) w' a c (playK [[]] ds).1 ∧ Below w.heap.size w w')) := by
    refine (Play_any ok ds hds da dc w hL).mono ?_
    rintro e w' ⟨a, n, c, rfl, rfl, h2, -, h3⟩
    exact ⟨a, c, rfl, h2, h3⟩
  obtain ⟨fs, hfs⟩ : ∃ fs, fs = (playK [[]] ds).1 := ⟨_, rfl⟩
  rw [← hfs] at cP hcm hpl
  have HC := put_by (And.intro hcm hpl)
  clear hcm hfs hL hk
  obtain ⟨n, hn⟩ : ∃ n, n = ds.length := ⟨_, rfl⟩
  rw [← hn] at cP hds ⊢
  have HN := put_by hn
  clear hn hpl
  go_enter Try.func6, Try.ntmps6
  go_wp2_with (first
    | (go_at_call 12; refine cP.out.mono ?_; clear cP; rintro e w1 ⟨a, c, rfl, H1⟩))
  go_loopw [5, 6] (fun s i wr => ∃ k m : Nat, k ≤ n ∧ m ≤ k ∧ i = .int .i64 k ∧ s = .int .i64 m ∧ wr = w1 ∧ Hid (m = cntF (fs.take k))) (fun _ i _ => n - (intOf i).toNat)
  case atStart => exact ⟨0, 0, Nat.zero_le _, Nat.zero_le _, rfl, rfl, rfl, rfl⟩
  case round =>
    obtain ⟨k, m, hk, hmk, rfl, rfl, rfl, HM⟩ := hrel
    by_cases hlt : k < n
    · have hx : k < fs.length := by rw [HC.out.2, ← HN.out]; exact hlt
      obtain ⟨b4, off, rfl, hb4, _, cs, ⟨u, a', c', rfl, hu, hv, -⟩, hc⟩ := H1.out.1.at hx
      have d0 : wr.cell? ⟨b4, off + k * 4, none⟩ = some (.int .i64 (fs[k]).code) := by simpa using hc 0 _ rfl
      have d1 : wr.cell? ⟨b4, off + k * 4 + 1, none⟩ = some (.int .i64 (fs[k]).ver) := hc 1 _ rfl
      have HS : Hid (cntF (fs.take (k + 1)) = m + (if (fs[k]).code = 0 ∧ 0 < (fs[k]).ver then 1 else 0)) := by
        show cntF _ = _
        rw [List.take_succ_eq_append_getElem hx, cntF_snoc, HM.out]
      have ik : (k : Int) < (n : Int) := by omega
      clear hc hu hv
      generalize (fs[k]).code = q0 at *
      generalize (fs[k]).ver = q1 at *
      by_cases h0 : q0 = 0
      · by_cases h1 : 0 < q1
        · have HF : Hid (m + 1 = cntF (fs.take (k + 1))) := by
            show m + 1 = _
            rw [HS.out, if_pos ⟨h0, h1⟩]
          subst h0
          clear HS HM
          go_wp2
          go_roundw
          case rel => exact ⟨k + 1, m + 1, by omega, by omega, by go_num, by go_num, trivial, HF⟩
          case measure => simp [intOf]; omega
        · have HF : Hid (m = cntF (fs.take (k + 1))) := by
            show m = _
            rw [HS.out, if_neg (fun h => h1 h.2)]
            rfl
          have h1' : q1 ≤ 0 := by omega
          subst h0
          clear HS HM h1
          go_wp2
          go_roundw
          case rel => exact ⟨k + 1, m, by omega, by omega, by go_num, rfl, trivial, HF⟩
          case measure => simp [intOf]; omega
      · have HF : Hid (m = cntF (fs.take (k + 1))) := by
          show m = _
          rw [HS.out, if_neg (fun h => h0 h.1)]
          rfl
        have h1' : (q0 == 0) = false := by simpa using h0
        clear HS HM
        go_wp2
        go_roundw
        case rel => exact ⟨k + 1, m, by omega, by omega, by go_num, rfl, trivial, HF⟩
        case measure => simp [intOf]; omega
    · have hkn : k = n := by omega
      subst hkn
      have HF : Hid (m + 1 = (playK [[]] ds).2.length) := by
        show m + 1 = _
        rw [HM.out, List.take_of_length_le (by rw [HC.out.2, ← HN.out]; exact Nat.le_refl _)]
        exact HC.out.1
      have HB := put_by H1.out.2
      clear HM H1
      go_wp2
      go_ret
      exact ⟨m, rfl, HF.out, hmk, HB.out⟩

end Go.Proofs.Ytcegkgobkpakiaa

/- What a version holds behind deeds. -/
namespace Go.Proofs.Ytcegkgobkpakiaa
open Go.ChangeShapes Go.WideShapes Go.ChangeAt Go.RowKit

/-- a scan of all of a version -/
theorem step_all (vs : List (List Ent)) (v : Nat) (hv : v < vs.length) (hl : (vs.getD v []).length ≤ 1000) : stepK vs ⟨4, v, [], [], 1000⟩ = (⟨0, 0, [], vs.getD v []⟩, vs) := by
  have h1 : stepK vs ⟨4, v, [], [], 1000⟩ = deedK vs ⟨4, v, [], [], 1000⟩ := by
    rw [stepK, if_neg (by simp), if_neg (by simp; omega)]
  rw [h1]
  have : scanK (vs.getD v []) [] [] 1000 = vs.getD v [] := by rw [scanK_all, List.take_of_length_le hl]
  simp only [deedK]
  rw [if_neg (by decide), if_neg (by decide), if_neg (by decide), if_neg (by decide)]
  simp only [Int.toNat_natCast]
  rw [show ((1000 : Int).toNat) = 1000 from rfl, this]

theorem getD_few {ds : List Dd} (v : Nat) : ((playK [[]] ds).2.getD v []).length ≤ ds.length := by
  have h := playK_few ds (vs := [[]]) (n := 0) (by simp)
  by_cases e : v < (playK [[]] ds).2.length
  · simp only [List.getD, List.getElem?_eq_getElem e, Option.getD_some]
    have := h _ (List.getElem_mem e)
    omega
  · simp [List.getD, List.getElem?_eq_none (Nat.le_of_not_lt e)]

/-- one deed more behind deeds that lie somewhere: a copy of the call's own -/
theorem dd_scan {ok : Nat → Prop} {w : World} (v : Int) : kDd.rel ok w ⟨4, v, [], [], 1000⟩ [.int .i64 4, .int .i64 v, .slice none 0 0, .slice none 0 0, .int .i64 1000] := ⟨_, _, rfl, IsBody.none, IsBody.none⟩

set_option maxRecDepth 10000 in
set_option maxHeartbeats 8000000 in
theorem last_any (ok : Nat → Prop) (ds : List Dd) (hds : ds.length ≤ 300) (v : Nat) (hv : v < (playK [[]] ds).2.length) (da : Option Addr) (dc : Nat) (w : World) (hL : Lies kDd ok w da dc ds) :
    Calls Try.prog 7 #[.slice da ds.length dc, .int .i64 v] w fun e w' => ∃ (a : Option Addr) (n c : Nat), e = .returned (.tuple #[.slice a n c, .bool true]) ∧ n = ((playK [[]] ds).2.getD v []).length ∧ Lies kEnt (fun _ => True) w' a c ((playK [[]] ds).2.getD v []) ∧ Below w.heap.size w w' := by
  have hall : (playK [[]] (ds ++ [⟨4, v, [], [], 1000⟩])).1 = (playK [[]] ds).1 ++ [⟨0, 0, [], (playK [[]] ds).2.getD v []⟩] := by
    rw [playK_snoc, step_all _ v hv (by have := getD_few (ds := ds) v; omega)]
  have hL2 : Lies kDd (fun b => b < w.heap.size) w da dc ds := hL.move (Kept.of_below (Below.refl _ _)) (fun b hb _ => hb)
  obtain ⟨r, hr⟩ : ∃ r, r = (playK [[]] ds).2.getD v [] := ⟨_, rfl⟩
  rw [← hr] at hall ⊢
  have hlen := playK_length ds [[]]
  obtain ⟨n, hn⟩ : ∃ n, n = ds.length := ⟨_, rfl⟩
  have HN := put_by hn
  rw [← hn] at hds ⊢
  have cP : Hid (∀ (W : World) (v' : Value), Rows kDd (fun _ => True) W w.heap.size 45 v' (ds ++ [⟨4, v, [], [], 1000⟩]) → Below w.heap.size w W → ∃ (a : Option Addr) (c : Nat), v' = .slice a (n + 1) c ∧ Calls Try.prog 12 #[.slice a (n + 1) c] W fun e w' => ∃ (b off c' : Nat) (b2 : Option Addr) (m2 c2 : Nat), e = .returned (.tuple #[.slice (some ⟨b, off, none⟩) (n + 1) c', .int .i64 0]) ∧ w'.cell? ⟨b, off + n * 4, none⟩ = some (.int .i64 0) ∧ w'.cell? ⟨b, off + n * 4 + 3, none⟩ = some (.slice b2 m2 c2) ∧ Hid (m2 = r.length ∧ Lies kEnt (fun _ => True) w' b2 c2 r ∧ Below w.heap.size w w')) := fun W v' hR hb => by
    obtain ⟨a, c, e, h1, -, -, -⟩ := hR.lies (fun _ _ => trivial)
    have hl : (ds ++ [(⟨4, v, [], [], 1000⟩ : Dd)]).length = n + 1 := by rw [List.length_append, hn]; rfl
    rw [hl] at e
    refine ⟨a, c, e, ?_⟩
    have := Play_any (fun _ => True) (ds ++ [⟨4, v, [], [], 1000⟩]) (by rw [hl]; omega) a c W h1
    rw [hl] at this
    refine this.mono ?_
    rintro e w' ⟨a', n', c', rfl, h2, h3, -, h4⟩
    rw [hl] at h2
    rw [hall] at h3
    have hk : n < ((playK [[]] ds).1 ++ [(⟨0, 0, [], r⟩ : Fd)]).length := by rw [List.length_append, hlen, hn]; simp
    obtain ⟨b, off, rfl, hb4, _, cs, hrel, hc⟩ := h3.at hk
    have hel : ((playK [[]] ds).1 ++ [(⟨0, 0, [], r⟩ : Fd)])[n] = ⟨0, 0, [], r⟩ := by
      have : n = (playK [[]] ds).1.length := by rw [hlen, hn]
      simp [this]
    rw [hel] at hrel
    obtain ⟨u, b2, c2, rfl, -, h5, -⟩ := hrel
    subst h2
    exact ⟨b, off, c', b2, r.length, c2, rfl, by simpa using hc 0 _ rfl, hc 3 _ rfl, rfl, h5, hb.trans (h4.mono hb.size)⟩
  have HL := put_by hL2
  clear hall hL hL2 hlen hv hr hn
  go_enter Try.func7, Try.ntmps7
  go_wp2_with (first
    | (at_builtin; (with_reducible refine wpList_append_rows (K := kDd) (ok := fun _ => True) eltD rfl (.const (.slice none 0 0)) (.tmp 9) rfl w.heap.size (.slice none 0 0) [] rfl (Rows.nil _ _ _ _ _) da dc n ds rfl HN.out HL.out (fun _ _ _ _ => trivial) (fun _ _ _ => by simp [Value.ownBlock]) (by simp; omega) (by decide) (Nat.le_refl _) ?_); intro v1 w1 hR1 hg1 hat1; refine hidGoal ?_))
  rw [List.nil_append] at hR1
  have hB1 : Below w.heap.size w w1 := below_grown (Below.refl _ w) (Nat.le_refl _) hg1 (fun r e => by cases e)
  have HR1 := put_by (And.intro hR1 hB1)
  obtain ⟨a1, c1, e1⟩ := rows_form hR1
  rw [← HN.out] at e1
  subst e1
  clear hR1 hg1 hat1 hB1 HL
  unfold Hid
  go_wp2_with (first
    | (at_builtin; refine wpList_append_one (K := kDd) (ok := fun _ => True) eltD rfl (.tmp 10) (.tmp 13) rfl w.heap.size (.slice a1 n c1) ds rfl HR1.out.1 ⟨4, v, [], [], 1000⟩ [.int .i64 4, .int .i64 v, .slice none 0 0, .slice none 0 0, .int .i64 1000] _ _ rfl rfl (dd_scan _) (fun _ _ => trivial) (by rw [← HN.out]; omega) (by decide) HR1.out.2.size ?_; intro v2 w2 hR2 hg2 hat2; refine hidGoal ?_))
  obtain ⟨a2, c2, e2, hc2⟩ := cP.out _ _ hR2 (below_grown HR1.out.2 HR1.out.2.size hg2 (fun r e => (rows_lt HR1.out.1 r e).1))
  subst e2
  have HC2 := put_by hc2
  clear hR2 hg2 hat2 hc2 cP HR1
  have hw1 : IntKind.i64.wrap ((n : Int) + 1) = (n : Int) + 1 := by
    rw [IntKind.wrap_i64]
    omega
  unfold Hid
  go_wp2_with (first
    | (go_at_call 12; refine HC2.out.mono ?_; clear HC2; rintro e w3 ⟨b, off, c', b2, m2, c3, rfl, y0, y3, H3⟩; have ik : (n : Int) < (n : Int) + 1 := by omega))
  exact bodyPost_ret (v := .tuple #[.slice b2 m2 c3, .bool true]) (by simp [results, Try.results7, go_sem]) rfl ⟨b2, m2, c3, rfl, H3.out⟩

end Go.Proofs.Ytcegkgobkpakiaa

/- A deed in a variable; moves that came in. -/
namespace Go.Proofs.Ytcegkgobkpakiaa
open Go.ChangeShapes Go.WideShapes Go.ChangeAt Go.RowKit

/-- what a deed is made of -/
structure Mv where
  drop : Bool
  back : Int
  key : Int
  val : Int

def kMv : Kd Mv 4 where
  rel _ _ m cs := cs = [.bool m.drop, .int .i64 m.back, .int .i64 m.key, .int .i64 m.val]
  move _ _ _ _ h := h
  len := by
    rintro _ _ _ _ rfl
    rfl
  one := by
    rintro _ _ _ _ rfl x hx
    simp only [List.mem_cons, List.not_mem_nil, or_false] at hx
    rcases hx with rfl | rfl | rfl | rfl <;> rfl

/-- five cells of one variable -/
structure Five (W : World) (B : Nat) (p q r s t : Value) : Prop where
  c0 : W.cell? ⟨B, 0, none⟩ = some p
  c1 : W.cell? ⟨B, 1, none⟩ = some q
  c2 : W.cell? ⟨B, 2, none⟩ = some r
  c3 : W.cell? ⟨B, 3, none⟩ = some s
  c4 : W.cell? ⟨B, 4, none⟩ = some t
  f0 : W.frozen? ⟨B, 0, none⟩ = false
  f1 : W.frozen? ⟨B, 1, none⟩ = false
  f2 : W.frozen? ⟨B, 2, none⟩ = false
  f3 : W.frozen? ⟨B, 3, none⟩ = false
  f4 : W.frozen? ⟨B, 4, none⟩ = false

section
variable {W W' : World} {B : Nat} {p q r s t : Value}

theorem Five.move (h : Five W B p q r s t) (e : W'.heap[B]? = W.heap[B]?) : Five W' B p q r s t :=
  ⟨(World.cell?_of_block (w := W) e).trans h.c0, (World.cell?_of_block (w := W) e).trans h.c1, (World.cell?_of_block (w := W) e).trans h.c2, (World.cell?_of_block (w := W) e).trans h.c3, (World.cell?_of_block (w := W) e).trans h.c4,
   (World.frozen?_of_block (w := W) e).trans h.f0, (World.frozen?_of_block (w := W) e).trans h.f1, (World.frozen?_of_block (w := W) e).trans h.f2, (World.frozen?_of_block (w := W) e).trans h.f3, (World.frozen?_of_block (w := W) e).trans h.f4⟩

theorem Five.lt (h : Five W B p q r s t) : B < W.heap.size := World.block_lt_of_cell? _ _ h.c0

theorem Five.later (h : Five W B p q r s t) (hb : Below W.heap.size W W') : Five W' B p q r s t := h.move (hb.block _ h.lt)

theorem Five.of_block {ty : TypeId} (e : W.heap[B]? = some (.cells #[p, q, r, s, t] ty)) : Five W B p q r s t := by
  refine ⟨?_, ?_, ?_, ?_, ?_, ?_, ?_, ?_, ?_, ?_⟩ <;> simp [World.cell?, World.frozen?, e]

theorem five_put {j : Nat} {u : Value} (h : Five W B p q r s t) (p' q' r' s' t' : Value)
    (h0 : if j = 0 then p' = u else p' = p) (h1 : if j = 1 then q' = u else q' = q) (h2 : if j = 2 then r' = u else r' = r) (h3 : if j = 3 then s' = u else s' = s) (h4 : if j = 4 then t' = u else t' = t) : Five (W.setCell ⟨B, j, none⟩ u) B p' q' r' s' t' := by
  have hc : ∀ (i : Nat) (x x' : Value), W.cell? ⟨B, i, none⟩ = some x → (if j = i then x' = u else x' = x) → (W.setCell ⟨B, j, none⟩ u).cell? ⟨B, i, none⟩ = some x' := fun i x x' hx hh => by
    by_cases e : j = i
    · subst e
      rw [if_pos rfl] at hh
      rw [hh]
      exact World.cell?_setCell_same' _ _ _ (by rw [hx]; rfl)
    · rw [if_neg e] at hh
      rw [hh]
      exact (World.cell?_setCell_other _ _ _ _ (by intro q; cases q; exact e rfl)).trans hx
  refine ⟨hc 0 _ _ h.c0 h0, hc 1 _ _ h.c1 h1, hc 2 _ _ h.c2 h2, hc 3 _ _ h.c3 h3, hc 4 _ _ h.c4 h4, ?_, ?_, ?_, ?_, ?_⟩
  all_goals simp only [World.frozen?_setCell]
  · exact h.f0
  · exact h.f1
  · exact h.f2
  · exact h.f3
  · exact h.f4

end

/-- a deed in the variable B, made since wr -/
structure DdV (wr : World) (B : Nat) (d : Dd) (ku vu : Value) (W : World) : Prop where
  five : Five W B (.int .i64 d.kind) (.int .i64 d.ver) ku vu (.int .i64 d.lim)
  key : IsBody W (fun b => wr.heap.size ≤ b ∧ b ≠ B) ku d.key
  val : IsBody W (fun b => wr.heap.size ≤ b ∧ b ≠ B) vu d.val
  below : Below wr.heap.size wr W
  new : wr.heap.size ≤ B

theorem DdV.later {wr W W' : World} {B : Nat} {d : Dd} {ku vu : Value} (h : DdV wr B d ku vu W) (hb : Below W.heap.size W W') : DdV wr B d ku vu W' :=
  ⟨h.five.later hb, h.key.later hb, h.val.later hb, h.below.trans (hb.mono h.below.size), h.new⟩

theorem kept_set {B j : Nat} {u : Value} {W : World} {ok : Nat → Prop} (h : ∀ b, ok b → b ≠ B) : Kept ok W (W.setCell ⟨B, j, none⟩ u) := ⟨by simp, fun b _ ho => heap_setCell_other _ _ _ _ (h b ho)⟩

/-- its version is put -/
theorem DdV.ver {wr W : World} {B : Nat} {d : Dd} {ku vu : Value} (h : DdV wr B d ku vu W) (v : Int) : DdV wr B ⟨d.kind, v, d.key, d.val, d.lim⟩ ku vu (W.setCell ⟨B, 1, none⟩ (.int .i64 v)) :=
  ⟨five_put h.five _ _ _ _ _ rfl rfl rfl rfl rfl, h.key.move (kept_set (fun _ ho => ho.2)) (fun _ _ q => q), h.val.move (kept_set (fun _ ho => ho.2)) (fun _ _ q => q), h.below.setCell (p := ⟨B, 1, none⟩) h.new _, h.new⟩

theorem DdV.kind {wr W : World} {B : Nat} {d : Dd} {ku vu : Value} (h : DdV wr B d ku vu W) (k : Int) : DdV wr B ⟨k, d.ver, d.key, d.val, d.lim⟩ ku vu (W.setCell ⟨B, 0, none⟩ (.int .i64 k)) :=
  ⟨five_put h.five _ _ _ _ _ rfl rfl rfl rfl rfl, h.key.move (kept_set (fun _ ho => ho.2)) (fun _ _ q => q), h.val.move (kept_set (fun _ ho => ho.2)) (fun _ _ q => q), h.below.setCell (p := ⟨B, 0, none⟩) h.new _, h.new⟩

theorem DdV.bare {wr W : World} {B : Nat} {d : Dd} {ku vu : Value} (h : DdV wr B d ku vu W) : DdV wr B ⟨d.kind, d.ver, d.key, [], d.lim⟩ ku (.slice none 0 0) (W.setCell ⟨B, 3, none⟩ (.slice none 0 0)) :=
  ⟨five_put h.five _ _ _ _ _ rfl rfl rfl rfl rfl, h.key.move (kept_set (fun _ ho => ho.2)) (fun _ _ q => q), IsBody.none, h.below.setCell (p := ⟨B, 3, none⟩) h.new _, h.new⟩

theorem DdV.rel {wr W : World} {B : Nat} {d : Dd} {ku vu : Value} (h : DdV wr B d ku vu W) : kDd.rel (fun b => wr.heap.size ≤ b ∧ b ≠ B) W d [.int .i64 d.kind, .int .i64 d.ver, ku, vu, .int .i64 d.lim] := ⟨_, _, rfl, h.key, h.val⟩

end Go.Proofs.Ytcegkgobkpakiaa

/- What is made in whatever order. -/
namespace Go.Proofs.Ytcegkgobkpakiaa
open Go.ChangeShapes Go.WideShapes Go.ChangeAt Go.RowKit

section
variable {P : Program} {ops : Array Oper} {Q : Exit → Act → World → Prop} {S : World → Prop} {m : Nat}

/-- number k, for which number m waits by way of others, may be taken first -/
theorem V_firstX {k : Nat} {ok : Oper} {v : Value} (X : List Nat) (hk : ops[k]? = some ok) (hmX : m ∈ X) (hw : ∀ x ∈ X, ∃ ox, ops[x]? = some ox ∧ ∃ e ∈ ox.after, Region.binds .any e = true ∧ (e.on = k ∨ e.on ∈ X)) (hsel : ∀ (j : Nat) (o : Oper) cs b, ops[j]? = some o → o.op ≠ .select cs b)
    (hQ : ∀ c a w, Q (.panic c) (a.put ok.dst v) w → Q (.panic c) a w) :
    ∀ (fuel : Nat) (listed : Array Bool) (a : Act) (w : World),
      (∀ j oj, ops[j]? = some oj → j ≠ k → listed.getD j true = false → (∀ e ∈ oj.after, Region.binds .any e = true → e.on ≠ k) → ok.apart ops oj = true) →
      k ∈ Region.ready .any ops listed → (∀ x ∈ X, listed.getD x true = false) → YieldsIf P ops S ok v a → S w →
      wpAnyU P ops Q S m fuel (listed.setIfInBounds k true) (a.put ok.dst v) w → wpAnyU P ops Q S m (fuel + 1) listed a w := by
  intro fuel
  induction fuel with
  | zero =>
    intro listed a w _ hr hm hy hS H
    refine ⟨fun h => (by rw [h] at hr; cases hr), fun j hj => ?_⟩
    by_cases hjk : j = k
    · subst hjk
      exact hy.wpOp hk hS ⟨fun _ => hS, H⟩
    · have := ready_mono hj hjk
      rw [H.1] at this
      cases this
  | succ fuel ih =>
    intro listed a w hfree hr hm hy hS H
    refine ⟨fun h => (by rw [h] at hr; cases hr), fun j hj => ?_⟩
    by_cases hjk : j = k
    · subst hjk
      exact hy.wpOp hk hS ⟨fun _ => hS, H⟩
    · have h1 := H.2 j (ready_mono hj hjk)
      have hun : ∀ i, listed.getD i true = false → ¬ (listed[i]?.getD false = true) := fun i h0 h1 => by
        rcases Nat.lt_or_ge i listed.size with h' | h'
        · simp [h'] at h0 h1; rw [h0] at h1; cases h1
        · simp [Array.getElem?_eq_none h'] at h1
      have hnX : ∀ i, i ∈ Region.ready .any ops listed → i ∉ X := fun i hi hiX => by
        obtain ⟨ox, hox, e, he, hb, heq⟩ := hw i hiX
        obtain ⟨_, oi, hoi, hall⟩ := mem_ready.1 hi
        rw [hox] at hoi
        cases hoi
        have h2 := hall e he hb
        rcases heq with heq | heq
        · rw [heq] at h2
          exact hun k (mem_ready.1 hr).1 (by simpa using h2)
        · exact hun _ (hm _ heq) (by simpa using h2)
      obtain ⟨hjun, oj, hoj, hall⟩ := mem_ready.1 hj
      have hnot : ∀ e ∈ oj.after, Region.binds .any e = true → e.on ≠ k := fun e he hb heq => by
        have h2 := hall e he hb
        rw [heq] at h2
        exact hun k (mem_ready.1 hr).1 (by simpa using h2)
      have hjm : j ≠ m := fun e => hnX j hj (e ▸ hmX)
      have hm2 : ∀ x ∈ X, (listed.setIfInBounds j true).getD x true = false := fun x hx => by
        have hjx : j ≠ x := fun e => hnX j hj (by rw [e]; exact hx)
        rw [getD_set_ne true hjx]
        exact hm x hx
      have h2 := wpOp_putIf hoj (hfree j oj hoj hjk hjun hnot) (fun cs b => hsel k ok cs b hk) (fun cs b => hsel j oj cs b hoj) hQ hy h1
      have hfree' : ∀ i oi, ops[i]? = some oi → i ≠ k → (listed.setIfInBounds j true).getD i true = false →
          (∀ e ∈ oi.after, Region.binds .any e = true → e.on ≠ k) → ok.apart ops oi = true := fun i oi hi hik hun hno => by
        refine hfree i oi hi hik ?_ hno
        by_cases hji : j = i
        · subst hji; exact hjun
        · rw [getD_set_ne true hji] at hun; exact hun
      have hkm : k ≠ m := fun e => hnX k hr (e ▸ hmX)
      refine wpOp_mono (fun a' w' h3 => ?_) h2
      obtain ⟨h3, h4, h5⟩ := h3
      have hS' : S w' := h4 (by rw [getD_set_ne true hjm, getD_set_ne true hkm]; exact hm m hmX)
      refine ⟨fun _ => hS', ih (listed.setIfInBounds j true) a' w' hfree' (ready_mono hr (Ne.symm hjk)) hm2 h3 hS' ?_⟩
      rw [Array.setIfInBounds_comm _ _ hjk]
      exact h5

theorem V_takeX (X : List Nat) {k : Nat} {ok : Oper} {v : Value} {fuel : Nat} {listed : Array Bool} {a : Act} {w : World} (hk : ops[k]? = some ok) (hmX : X.contains m = true)
    (hw : (X.all fun x => match ops[x]? with | some ox => ox.after.any (fun e => Region.binds .any e && ((e.on == k) || X.contains e.on)) | none => false) = true)
    (hs : Region.noSelect ops = true) (hf : Region.free .any ops listed k = true) (hr : (Region.ready .any ops listed).contains k = true) (hm : (X.all fun x => !(listed.getD x true)) = true)
    (hQ : ∀ c a w, Q (.panic c) (a.put ok.dst v) w → Q (.panic c) a w) (hy : YieldsIf P ops S ok v a) (hS : S w)
    (h : wpAnyU P ops Q S m fuel (listed.setIfInBounds k true) (a.put ok.dst v) w) : wpAnyU P ops Q S m (fuel + 1) listed a w :=
  V_firstX X hk (by simpa using hmX) (fun x hx => by
    have := List.all_eq_true.1 hw x hx
    cases ho : ops[x]? with
    | none => rw [ho] at this; cases this
    | some ox =>
      rw [ho] at this
      simp only [Array.any_eq_true', Bool.and_eq_true, Bool.or_eq_true, beq_iff_eq, List.contains_iff_mem] at this
      exact ⟨ox, rfl, this⟩) (Region.noSelect_spec hs) hQ fuel listed a w (Region.free_spec hk hf) (by simpa using hr) (fun x hx => by simpa using List.all_eq_true.1 hm x hx) hy hS h

theorem V_op {i : Nat} {o : Oper} {fuel : Nat} {listed : Array Bool} {a : Act} {w : World} (ho : ops[i]? = some o) (hg : o.guard = none)
    (h : ∀ K : Act → World → Prop, (∀ a w, ((listed.setIfInBounds i true).getD m true = false → S w) → wpAnyU P ops Q S m fuel (listed.setIfInBounds i true) a w → K a w) → o.wp P a w K Q) :
    wpOp P ops Q i (fun a' w' => ((listed.setIfInBounds i true).getD m true = false → S w') ∧ wpAnyU P ops Q S m fuel (listed.setIfInBounds i true) a' w') a w :=
  wpOp_step ho (fun K' hK => by
    simp only [Region.wanted, hg, if_true]
    exact h K' (fun a w h1 h2 => hK a w ⟨h1, h2⟩))

/-- two may come up -/
theorem U_two {i j : Nat} {oi oj : Oper} {fuel : Nat} {listed : Array Bool} {a : Act} {w : World} (hr : Region.ready .any ops listed = [i, j]) (hoi : ops[i]? = some oi) (hgi : oi.guard = none) (hoj : ops[j]? = some oj) (hgj : oj.guard = none)
    (hi : ∀ K : Act → World → Prop, (∀ a w, ((listed.setIfInBounds i true).getD m true = false → S w) → wpAnyU P ops Q S m fuel (listed.setIfInBounds i true) a w → K a w) → oi.wp P a w K Q)
    (hj : ∀ K : Act → World → Prop, (∀ a w, ((listed.setIfInBounds j true).getD m true = false → S w) → wpAnyU P ops Q S m fuel (listed.setIfInBounds j true) a w → K a w) → oj.wp P a w K Q) : wpAnyU P ops Q S m (fuel + 1) listed a w := by
  refine ⟨fun h0 => (by rw [hr] at h0; cases h0), fun x hx => ?_⟩
  rw [hr] at hx
  simp only [List.mem_cons, List.not_mem_nil, or_false] at hx
  rcases hx with rfl | rfl
  · exact V_op hoi hgi hi
  · exact V_op hoj hgj hj

/-- three may come up -/
theorem U_three {i j k : Nat} {oi oj ok : Oper} {fuel : Nat} {listed : Array Bool} {a : Act} {w : World} (hr : Region.ready .any ops listed = [i, j, k]) (hoi : ops[i]? = some oi) (hgi : oi.guard = none) (hoj : ops[j]? = some oj) (hgj : oj.guard = none) (hok : ops[k]? = some ok) (hgk : ok.guard = none)
    (hi : ∀ K : Act → World → Prop, (∀ a w, ((listed.setIfInBounds i true).getD m true = false → S w) → wpAnyU P ops Q S m fuel (listed.setIfInBounds i true) a w → K a w) → oi.wp P a w K Q)
    (hj : ∀ K : Act → World → Prop, (∀ a w, ((listed.setIfInBounds j true).getD m true = false → S w) → wpAnyU P ops Q S m fuel (listed.setIfInBounds j true) a w → K a w) → oj.wp P a w K Q)
    (hk : ∀ K : Act → World → Prop, (∀ a w, ((listed.setIfInBounds k true).getD m true = false → S w) → wpAnyU P ops Q S m fuel (listed.setIfInBounds k true) a w → K a w) → ok.wp P a w K Q) : wpAnyU P ops Q S m (fuel + 1) listed a w := by
  refine ⟨fun h0 => (by rw [hr] at h0; cases h0), fun x hx => ?_⟩
  rw [hr] at hx
  simp only [List.mem_cons, List.not_mem_nil, or_false] at hx
  rcases hx with rfl | rfl | rfl
  · exact V_op hoi hgi hi
  · exact V_op hoj hgj hj
  · exact V_op hok hgk hk

end

/-- of a key, a value and a variable what has been made so far -/
structure Mk (wr : World) (ky bv : Int) (kb vb B : Option Nat) (W : World) : Prop where
  below : Below wr.heap.size wr W
  key : ∀ b, kb = some b → Octs W (some ⟨b, 0, none⟩) 2 (keyK ky) ∧ wr.heap.size ≤ b ∧ b < W.heap.size
  val : ∀ b, vb = some b → Octs W (some ⟨b, 0, none⟩) 1 [bv] ∧ wr.heap.size ≤ b ∧ b < W.heap.size
  five : ∀ b, B = some b → Five W b (.int .i64 0) (.int .i64 0) (.slice none 0 0) (.slice none 0 0) (.int .i64 0) ∧ wr.heap.size ≤ b
  ne : ∀ b, B = some b → kb ≠ some b ∧ vb ≠ some b

theorem Mk.later {wr W W' : World} {ky bv : Int} {kb vb B : Option Nat} (h : Mk wr ky bv kb vb B W) (hb : Below W.heap.size W W') : Mk wr ky bv kb vb B W' :=
  ⟨h.below.trans (hb.mono h.below.size), fun b e => ⟨(h.key b e).1.later hb, (h.key b e).2.1, Nat.lt_of_lt_of_le (h.key b e).2.2 hb.size⟩, fun b e => ⟨(h.val b e).1.later hb, (h.val b e).2.1, Nat.lt_of_lt_of_le (h.val b e).2.2 hb.size⟩, fun b e => ⟨(h.five b e).1.later hb, (h.five b e).2⟩, h.ne⟩

theorem Mk.keyed {wr W w1 : World} {ky bv : Int} {vb B : Option Nat} (h : Mk wr ky bv none vb B W) (ho : Octs w1 (some ⟨W.heap.size, 0, none⟩) 2 (keyK ky)) (hs : W.heap.size < w1.heap.size) (hb : Below W.heap.size W w1) : Mk wr ky bv (some W.heap.size) vb B w1 := by
  have h1 := h.later hb
  refine ⟨h1.below, fun b e => ?_, h1.val, h1.five, fun b e => ⟨fun e2 => ?_, (h.ne b e).2⟩⟩
  · obtain rfl := Option.some.inj e
    exact ⟨ho, h.below.size, hs⟩
  · have := Option.some.inj e2
    have := (h.five b e).1.lt
    omega

theorem Mk.valued {wr W : World} {ky bv : Int} {kb B : Option Nat} (h : Mk wr ky bv kb none B W) (hv : 0 ≤ bv ∧ bv ≤ 255) : Mk wr ky bv kb (some W.heap.size) B (W.alloc (.cells #[.int .u8 bv] 5)) := by
  have hb : Below W.heap.size W (W.alloc (.cells #[.int .u8 bv] 5)) := (Below.refl _ W).alloc (Nat.le_refl _) _
  have h1 := h.later hb
  refine ⟨h1.below, h1.key, fun b e => ?_, h1.five, fun b e => ⟨(h.ne b e).1, fun e2 => ?_⟩⟩
  · obtain rfl := Option.some.inj e
    exact ⟨octs_one W bv hv _, h.below.size, by simp⟩
  · have := Option.some.inj e2
    have := (h.five b e).1.lt
    omega

theorem Mk.var {wr W : World} {ky bv : Int} {kb vb : Option Nat} (h : Mk wr ky bv kb vb none W) : Mk wr ky bv kb vb (some W.heap.size) (W.alloc (.cells #[.int .i64 0, .int .i64 0, .slice none 0 0, .slice none 0 0, .int .i64 0] 45)) := by
  have hb : Below W.heap.size W (W.alloc (.cells #[.int .i64 0, .int .i64 0, .slice none 0 0, .slice none 0 0, .int .i64 0] 45)) := (Below.refl _ W).alloc (Nat.le_refl _) _
  have h1 := h.later hb
  refine ⟨h1.below, h1.key, h1.val, fun b e => ?_, fun b e => ⟨fun e2 => ?_, fun e2 => ?_⟩⟩
  · obtain rfl := Option.some.inj e
    exact ⟨Five.of_block (heap_alloc_new W _), h.below.size⟩
  · obtain rfl := Option.some.inj e
    have := (h.key _ e2).2.2
    omega
  · obtain rfl := Option.some.inj e
    have := (h.val _ e2).2.2
    omega

theorem Mk.start (wr : World) (ky bv : Int) : Mk wr ky bv none none none wr.drew := ⟨(Below.refl _ wr).drew, (fun _ e => by cases e), (fun _ e => by cases e), (fun _ e => by cases e), (fun _ e => by cases e)⟩

/-- all of it made: the deed is put into the variable -/
theorem Mk.deed {wr W : World} {ky bv : Int} {kb vb B : Nat} (h : Mk wr ky bv (some kb) (some vb) (some B) W) (k v l : Int) :
    DdV wr B ⟨k, v, keyK ky, [bv], l⟩ (.slice (some ⟨kb, 0, none⟩) 2 2) (.slice (some ⟨vb, 0, none⟩) 1 1) (((((W.setCell ⟨B, 0, none⟩ (.int .i64 k)).setCell ⟨B, 1, none⟩ (.int .i64 v)).setCell ⟨B, 2, none⟩ (.slice (some ⟨kb, 0, none⟩) 2 2)).setCell ⟨B, 3, none⟩ (.slice (some ⟨vb, 0, none⟩) 1 1)).setCell ⟨B, 4, none⟩ (.int .i64 l)) := by
  obtain ⟨hF, hn⟩ := h.five B rfl
  have hk := h.key kb rfl
  have hv := h.val vb rfl
  have hne := h.ne B rfl
  have hF1 := five_put (j := 0) (u := .int .i64 k) hF _ _ _ _ _ rfl rfl rfl rfl rfl
  have hF2 := five_put (j := 1) (u := .int .i64 v) hF1 _ _ _ _ _ rfl rfl rfl rfl rfl
  have hF3 := five_put (j := 2) (u := .slice (some ⟨kb, 0, none⟩) 2 2) hF2 _ _ _ _ _ rfl rfl rfl rfl rfl
  have hF4 := five_put (j := 3) (u := .slice (some ⟨vb, 0, none⟩) 1 1) hF3 _ _ _ _ _ rfl rfl rfl rfl rfl
  have hF5 := five_put (j := 4) (u := .int .i64 l) hF4 _ _ _ _ _ rfl rfl rfl rfl rfl
  have hkp : Kept (fun b => wr.heap.size ≤ b ∧ b ≠ B) W (((((W.setCell ⟨B, 0, none⟩ (.int .i64 k)).setCell ⟨B, 1, none⟩ (.int .i64 v)).setCell ⟨B, 2, none⟩ (.slice (some ⟨kb, 0, none⟩) 2 2)).setCell ⟨B, 3, none⟩ (.slice (some ⟨vb, 0, none⟩) 1 1)).setCell ⟨B, 4, none⟩ (.int .i64 l)) :=
    ((((kept_set (fun _ ho => ho.2)).trans (kept_set (fun _ ho => ho.2))).trans (kept_set (fun _ ho => ho.2))).trans (kept_set (fun _ ho => ho.2))).trans (kept_set (fun _ ho => ho.2))
  have hkb : IsBody W (fun b => wr.heap.size ≤ b ∧ b ≠ B) (.slice (some ⟨kb, 0, none⟩) 2 2) (keyK ky) := ⟨_, _, rfl, hk.1, fun _ ad e => by cases e; exact ⟨hk.2.1, fun e => hne.1 (by rw [← e])⟩⟩
  have hvb : IsBody W (fun b => wr.heap.size ≤ b ∧ b ≠ B) (.slice (some ⟨vb, 0, none⟩) 1 1) [bv] := ⟨_, _, rfl, hv.1, fun _ ad e => by cases e; exact ⟨hv.2.1, fun e => hne.2 (by rw [← e])⟩⟩
  exact ⟨hF5, hkb.move hkp (fun _ _ q => q), hvb.move hkp (fun _ _ q => q), ((((h.below.setCell (p := ⟨B, 0, none⟩) hn _).setCell (p := ⟨B, 1, none⟩) hn _).setCell (p := ⟨B, 2, none⟩) hn _).setCell (p := ⟨B, 3, none⟩) hn _).setCell (p := ⟨B, 4, none⟩) hn _, hn⟩

/-- all deeds played, what the last one came to -/
theorem play_last (ds : List Dd) (dd : Dd) (k : Nat) (hk : ds.length = k) (hlen : k + 1 ≤ 400) (base : Nat) (W : World) (v2 : Value) (hR : Rows kDd (fun _ => True) W base 45 v2 (ds ++ [dd])) :
    ∃ (a : Option Addr) (c : Nat), v2 = .slice a (k + 1) c ∧ Calls Try.prog 12 #[.slice a (k + 1) c] W fun e w' => ∃ (b off c' : Nat), e = .returned (.tuple #[.slice (some ⟨b, off, none⟩) (k + 1) c', .int .i64 0]) ∧
      w'.cell? ⟨b, off + k * 4, none⟩ = some (.int .i64 (stepK (playK [[]] ds).2 dd).1.code) ∧ w'.cell? ⟨b, off + k * 4 + 1, none⟩ = some (.int .i64 (stepK (playK [[]] ds).2 dd).1.ver) ∧ Hid (Below W.heap.size W w') := by
  obtain ⟨a, c, e, h1, -, -, -⟩ := hR.lies (fun _ _ => trivial)
  have hl : (ds ++ [dd]).length = k + 1 := by rw [List.length_append, hk]; rfl
  rw [hl] at e
  refine ⟨a, c, e, ?_⟩
  have := Play_any (fun _ => True) (ds ++ [dd]) (by rw [hl]; exact hlen) a c W h1
  rw [hl] at this
  refine this.mono ?_
  rintro e w' ⟨a', n', c', rfl, h2, h3, -, h4⟩
  rw [hl] at h2
  rw [playK_snoc] at h3
  have hp := playK_length ds [[]]
  have hx : k < ((playK [[]] ds).1 ++ [(stepK (playK [[]] ds).2 dd).1]).length := by rw [List.length_append, hp, hk]; simp
  obtain ⟨b, off, rfl, hb4, _, cs, hrel, hc⟩ := h3.at hx
  have hel : ((playK [[]] ds).1 ++ [(stepK (playK [[]] ds).2 dd).1])[k] = (stepK (playK [[]] ds).2 dd).1 := by
    have : k = (playK [[]] ds).1.length := by rw [hp, hk]
    simp [this]
  rw [hel] at hrel
  obtain ⟨u, b2, c2, rfl, -, -, -⟩ := hrel
  subst h2
  exact ⟨b, off, c', rfl, by simpa using hc 0 _ rfl, hc 1 _ rfl, h4⟩

/-- putting a key that may be, on a version that is there -/
theorem step_put {vs : List (List Ent)} {v : Int} (h0 : 0 ≤ v) (h1 : v < vs.length) {key val : List Int} (hk : 1 ≤ key.length) (hk2 : key.length ≤ 1200) (hv : val.length ≤ 4000) (l : Int) : stepK vs ⟨1, v, key, val, l⟩ = (⟨0, vs.length, [], []⟩, vs ++ [putK (vs.getD v.toNat []) (key, val)]) := by
  rw [stepK, if_neg (by simp), if_neg (by simp only; omega)]
  simp only [deedK]
  rw [if_pos trivial, if_neg (by omega)]

theorem step_drop {vs : List (List Ent)} {v : Int} (h0 : 0 ≤ v) (h1 : v < vs.length) (key val : List Int) (l : Int) : stepK vs ⟨2, v, key, val, l⟩ = if hasK (vs.getD v.toNat []) key then (⟨0, vs.length, [], []⟩, vs ++ [dropK (vs.getD v.toNat []) key]) else (⟨6, 0, [], []⟩, vs) := by
  rw [stepK, if_neg (by simp), if_neg (by simp only; omega)]
  simp only [deedK]
  rw [if_neg (by decide), if_pos trivial]

end Go.Proofs.Ytcegkgobkpakiaa

/- Deeds more behind deeds: what they come to. -/
namespace Go.Proofs.Ytcegkgobkpakiaa
open Go.ChangeShapes Go.WideShapes Go.ChangeAt Go.RowKit

theorem play_more (ds es : List Dd) (n m : Nat) (hn : ds.length = n) (hm : es.length = m) (hm0 : 0 < m) (hlen : n + m ≤ 400) (base : Nat) (W : World) (v2 : Value) (hR : Rows kDd (fun _ => True) W base 45 v2 (ds ++ es)) :
    ∃ (a : Option Addr) (c : Nat), v2 = .slice a (n + m) c ∧ Calls Try.prog 12 #[.slice a (n + m) c] W fun e w' => ∃ (b off c' : Nat), e = .returned (.tuple #[.slice (some ⟨b, off, none⟩) (n + m) c', .int .i64 0]) ∧ n + m ≤ c' ∧
      Hid (Lies kFd (fun _ => True) w' (some ⟨b, off + n * 4, none⟩) (c' - n) (playK (playK [[]] ds).2 es).1 ∧ Below W.heap.size W w') := by
  obtain ⟨a, c, e, h1, -, -, -⟩ := hR.lies (fun _ _ => trivial)
  have hl : (ds ++ es).length = n + m := by rw [List.length_append, hn, hm]
  rw [hl] at e
  refine ⟨a, c, e, ?_⟩
  have := Play_any (fun _ => True) (ds ++ es) (by rw [hl]; exact hlen) a c W h1
  rw [hl] at this
  refine this.mono ?_
  rintro e w' ⟨a', n', c', rfl, h2, h3, -, h4⟩
  rw [hl] at h2
  subst h2
  have hp := playK_length ds [[]]
  rw [playK_append] at h3
  have hne : (playK [[]] ds).1 ++ (playK (playK [[]] ds).2 es).1 ≠ [] := fun e => by
    have := congrArg List.length e
    rw [List.length_append, playK_length, playK_length] at this
    simp only [List.length_nil] at this
    omega
  have hc' : n + m ≤ c' := by
    have := h3.1
    rw [List.length_append, playK_length, playK_length] at this
    omega
  rcases h3.2.2 with h' | ⟨b, off, css, e9, -⟩
  · exact absurd h' hne
  · subst e9
    refine ⟨b, off, c', rfl, hc', ?_, h4⟩
    have h5 := h3.drop n
    have hd : ((playK [[]] ds).1 ++ (playK (playK [[]] ds).2 es).1).drop n = (playK (playK [[]] ds).2 es).1 := by
      have : n = (playK [[]] ds).1.length := by rw [hp, hn]
      rw [this, List.drop_left]
    rw [hd] at h5
    exact h5

/-- what one of them came to, cell by cell -/
theorem fd_at {ok : Nat → Prop} {W : World} {b off cap : Nat} {l : List Fd} (h : Lies kFd ok W (some ⟨b, off, none⟩) cap l) (i : Nat) (f : Fd) (hf : l[i]? = some f) :
    ∃ (va : Option Addr) (vn vc : Nat) (ea : Option Addr) (en ec : Nat), W.cell? ⟨b, off + i * 4, none⟩ = some (.int .i64 f.code) ∧ W.cell? ⟨b, off + i * 4 + 1, none⟩ = some (.int .i64 f.ver) ∧ W.cell? ⟨b, off + i * 4 + 2, none⟩ = some (.slice va vn vc) ∧ W.cell? ⟨b, off + i * 4 + 3, none⟩ = some (.slice ea en ec) ∧ Hid (vn = f.val.length ∧ Octs W va vc f.val ∧ en = f.ents.length ∧ Lies kEnt ok W ea ec f.ents ∧ Ples ea ec) := by
  obtain ⟨hi, hfi⟩ := List.getElem?_eq_some_iff.1 hf
  obtain ⟨b', off', e, -, -, cs, hrel, hc⟩ := h.at hi
  cases e
  rw [hfi] at hrel
  obtain ⟨u, ea, ec, rfl, ⟨va, vc, rfl, ho, -⟩, hl, hp⟩ := hrel
  exact ⟨va, _, vc, ea, _, ec, by simpa using hc 0 _ rfl, hc 1 _ rfl, hc 2 _ rfl, hc 3 _ rfl, rfl, ho, rfl, hl, hp⟩

theorem step_look {vs : List (List Ent)} {v : Int} (h0 : 0 ≤ v) (h1 : v < vs.length) (key val : List Int) (l : Int) : stepK vs ⟨3, v, key, val, l⟩ = (lookF (vs.getD v.toNat []) key, vs) := by
  rw [stepK, if_neg (by simp), if_neg (by simp only; omega)]
  simp only [deedK, lookF]
  rw [if_neg (by decide), if_neg (by decide), if_pos trivial]
  cases lookK (vs.getD v.toNat []) key <;> rfl

theorem step_scan {vs : List (List Ent)} {v : Int} (h0 : 0 ≤ v) (h1 : v < vs.length) (key val : List Int) {l : Int} (hl : 0 ≤ l) : stepK vs ⟨4, v, key, val, l⟩ = (⟨0, 0, [], scanK (vs.getD v.toNat []) key val l.toNat⟩, vs) := by
  rw [stepK, if_neg (by simp), if_neg (by simp only; omega)]
  simp only [deedK]
  rw [if_neg (by decide), if_neg (by decide), if_neg (by decide), if_neg (by omega)]

theorem getD_last (vs : List (List Ent)) (x : List Ent) (v : Nat) (hv : vs.length = v) : (vs ++ [x]).getD v [] = x := by
  simp [List.getD, ← hv]

theorem getD_left (vs : List (List Ent)) (x : List Ent) (v : Nat) (hv : v < vs.length) : (vs ++ [x]).getD v [] = vs.getD v [] := by
  simp [List.getD, List.getElem?_append_left hv]

/-- the seven deeds of a key that is put, looked up, dropped -/
theorem tells_play (vs : List (List Ent)) (v : Nat) (hv : vs.length = v + 1) (k o val : List Int) (hk1 : 1 ≤ k.length) (hk2 : k.length ≤ 1200) (hval : val.length ≤ 4000) :
    (playK vs [⟨1, v, k, val, 0⟩, ⟨3, (v : Int) + 1, k, [], 0⟩, ⟨3, v, o, [], 0⟩, ⟨3, (v : Int) + 1, o, [], 0⟩, ⟨2, (v : Int) + 1, k, [], 0⟩, ⟨3, (v : Int) + 2, k, [], 0⟩, ⟨3, (v : Int) + 2, o, [], 0⟩]).1 =
      [⟨0, (v : Int) + 1, [], []⟩, ⟨0, 0, val, []⟩, lookF (vs.getD v []) o, lookF (putK (vs.getD v []) (k, val)) o, ⟨0, (v : Int) + 2, [], []⟩, ⟨6, 0, [], []⟩, lookF (dropK (putK (vs.getD v []) (k, val)) k) o] := by
  have hl : ((vs.length : Nat) : Int) = (v : Int) + 1 := by omega
  obtain ⟨now, hnow⟩ : ∃ now, now = vs.getD v [] := ⟨_, rfl⟩
  have s1 : stepK vs ⟨1, v, k, val, 0⟩ = (⟨0, (v : Int) + 1, [], []⟩, vs ++ [putK now (k, val)]) := by
    rw [step_put (by omega) (by omega) hk1 hk2 hval, Int.toNat_natCast, ← hnow, hl]
  have hl1 : (vs ++ [putK now (k, val)]).length = v + 2 := by simp [hv]
  have g1 : (vs ++ [putK now (k, val)]).getD ((v : Int) + 1).toNat [] = putK now (k, val) := by
    rw [show ((v : Int) + 1).toNat = v + 1 by omega]
    exact getD_last _ _ _ hv
  have g0 : (vs ++ [putK now (k, val)]).getD ((v : Int)).toNat [] = now := by
    rw [Int.toNat_natCast, hnow]
    exact getD_left _ _ _ (by omega)
  have s2 := fun key : List Int => step_look (vs := vs ++ [putK now (k, val)]) (v := (v : Int) + 1) (by omega) (by omega) key [] 0
  have s3 := step_look (vs := vs ++ [putK now (k, val)]) (v := (v : Int)) (by omega) (by omega) o [] 0
  rw [g0] at s3
  simp only [g1] at s2
  have s5 : stepK (vs ++ [putK now (k, val)]) ⟨2, (v : Int) + 1, k, [], 0⟩ = (⟨0, (v : Int) + 2, [], []⟩, (vs ++ [putK now (k, val)]) ++ [dropK (putK now (k, val)) k]) := by
    rw [step_drop (by omega) (by omega), g1, if_pos (hasK_putK now (k, val)), hl1]
    congr 1
  have g2 : ((vs ++ [putK now (k, val)]) ++ [dropK (putK now (k, val)) k]).getD ((v : Int) + 2).toNat [] = dropK (putK now (k, val)) k := by
    rw [show ((v : Int) + 2).toNat = v + 2 by omega]
    exact getD_last _ _ _ hl1
  have hl2 : ((vs ++ [putK now (k, val)]) ++ [dropK (putK now (k, val)) k]).length = v + 3 := by simp [hv]
  have s6 := fun key : List Int => step_look (vs := (vs ++ [putK now (k, val)]) ++ [dropK (putK now (k, val)) k]) (v := (v : Int) + 2) (by omega) (by omega) key [] 0
  simp only [g2] at s6
  have l1 : lookF (putK now (k, val)) k = ⟨0, 0, val, []⟩ := by
    unfold lookF
    rw [lookK_putK_own now (k, val)]
  have l2 : lookF (dropK (putK now (k, val)) k) k = ⟨6, 0, [], []⟩ := by
    unfold lookF
    rw [lookK_dropK_own]
  rw [← hnow]
  simp only [playK, s1, s2, s3, s5, s6, l1, l2]

end Go.Proofs.Ytcegkgobkpakiaa
