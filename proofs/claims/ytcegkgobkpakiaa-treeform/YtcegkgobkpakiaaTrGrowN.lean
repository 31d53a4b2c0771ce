/- New lists of nodes: room for so many, one behind the other, some in place of others, halves. -/
import Derived.Test.YtcegkgobkpakiaaTrSmall
import Derived.Lib.AppendZerosOnto
namespace Go.Proofs.Ytcegkgobkpakiaa
open Go.ChangeShapes Go.WideShapes Go.ChangeAt Go.RowKit

theorem eltN : Elt 51 53 2 48 := ⟨Try.underlying51, by
  obtain ⟨i0, hi, hz0, hz1, hz2⟩ := info_parts (show (Try.prog.info? 53).map (fun i => (i.zero, i.size, i.bytes)) = some (some (.agg #[.slice none 0 0, .slice none 0 0]), 2, 48) by kernel_rfl)
  exact ⟨i0, _, hi, hz0, hz1, hz2, rfl⟩, by decide⟩

theorem eltLN : Elt 99 51 1 24 := ⟨Try.underlying99, by
  obtain ⟨i0, hi, hz0, hz1, hz2⟩ := info_parts (show (Try.prog.info? 51).map (fun i => (i.zero, i.size, i.bytes)) = some (some (.slice none 0 0), 1, 24) by kernel_rfl)
  exact ⟨i0, _, hi, hz0, hz1, hz2, rfl⟩, by decide⟩

theorem zeroCells_lenN (k : Nat) : (Builtin.zeroCells (Value.agg #[.slice none 0 0, .slice none 0 0]).cells k).size = k * 2 := by
  simp [Builtin.zeroCells, Value.cells]

/-- 'append(nil, make([]T, k)...)' -/
theorem run_zerosN (w : World) (ty k : Nat) (h0 : 0 < k) (hs : k ≤ 100000) :
    ∃ cap cur, (Builtin.append_ #[51, 3] ty #[.slice none 0 0, .int .i64 k]).run Try.prog w = .ok (.slice (some ⟨w.heap.size, 0, none⟩) k cap) (w.drew.alloc (.cells cur 53)) ∧ k ≤ cap ∧ cap ≤ maxLen ∧ cur.size = cap * 2 := by
  obtain ⟨i0, hi, hz0, hz1, hz2⟩ := info_parts (show (Try.prog.info? 53).map (fun i => (i.zero, i.size, i.bytes)) = some (some (.agg #[.slice none 0 0, .slice none 0 0]), 2, 48) by kernel_rfl)
  have hr := Lib.run_append_nil_zeros (P := Try.prog) w 51 3 ty 53 i0 (.agg #[.slice none 0 0, .slice none 0 0]) .i64 .i64 Try.underlying51 Try.underlying3 hi hz0 k h0 (by omega) (by omega) (by rw [hz2]; omega)
  have hge := grownCap_ge w k 0 53
  have hle := grownCap_le_maxLen w k 0 53 (by unfold maxLen; omega)
  generalize grownCap w k 0 53 = c at hr hge hle
  refine ⟨_, _, hr, hge, hle, ?_⟩
  simp only [Array.size_append, zeroCells_lenN]
  rw [← Nat.add_mul, Nat.add_sub_cancel' hge]

set_option maxHeartbeats 1000000 in
theorem GrowN_any (n : Nat) (hn : n ≤ 1000) (w : World) :
    Calls Try.prog 50 #[.slice none 0 0, .int .i64 n] w fun e w' => ∃ v, e = .returned v ∧ w'.ownsRow w.heap.size 53 2 v 0 [] ∧ Below w.heap.size w w' := by
  by_cases h0 : n = 0
  · subst h0
    go_enter Try.func50, Try.ntmps50
    go_wp2
    go_ret
    exact ⟨_, rfl, World.ownsRow_nil _ _ _ _, Below.refl _ _⟩
  · have hp : (0 : Int) < n := by omega
    go_enter Try.func50, Try.ntmps50
    go_wp2_with (at_builtin; go_loud (obtain ⟨cap, cur, hr, h1, h2, h3⟩ := run_zerosN w 51 n (by omega) (by omega); refine Lib.wpList_append_run _ rfl _ _ _ _ rfl _ _ rfl rfl _ _ hr ?_); have H1 : Hid (n ≤ cap ∧ cap ≤ maxLen ∧ cur.size = cap * 2) := ⟨h1, h2, h3⟩; clear hr h1 h2 h3)
    go_ret
    refine ⟨_, rfl, ⟨by simp, .inr ⟨w.heap.size, cap, cur, rfl, Nat.le_refl _, heap_alloc_new w.drew _, Nat.zero_le _, H1.out.2.1, H1.out.2.2, by simp⟩⟩, ?_⟩
    exact ((Below.refl _ w).drew).alloc (Nat.le_refl _) _

set_option maxHeartbeats 2000000 in
theorem ConcatN_any {α : Type} (K : Kd α 2) (ok : Nat → Prop) (ls : List (List α)) (hl : ls.length ≤ 1000) (hn : ls.flatten.length ≤ 1000) (ao : Option Addr) (cap : Nat) (w : World) (hok : Fresh ok w) (he : Lies (kRow K) ok w ao cap ls) :
    Calls Try.prog 48 #[.slice ao ls.length cap] w fun e w' => ∃ a c, e = .returned (.slice a ls.flatten.length c) ∧ Lies K ok w' a c ls.flatten ∧ Ples a c ∧ Below w.heap.size w w' := by
  have HE : Hid (Lies (kRow K) ok w ao cap ls) := he
  have HF : Hid (Fresh ok w) := hok
  have HT : Hid (∀ k, (ls.take k).flatten.length ≤ 1000) := fun k => by
    have h := congrArg List.length (congrArg List.flatten (List.take_append_drop k ls))
    rw [List.flatten_append, List.length_append] at h
    omega
  have HS : Hid (∀ k (h : k < ls.length), (ls.take (k + 1)).flatten = (ls.take k).flatten ++ ls[k]) := fun k h => by
    rw [List.take_succ_eq_append_getElem h, List.flatten_append]
    simp
  have HA : Hid (∀ k, ls.length ≤ k → ls.take k = ls) := fun k h => List.take_of_length_le h
  obtain ⟨n, hn1⟩ : ∃ n, n = ls.length := ⟨_, rfl⟩
  rw [← hn1] at hl ⊢
  have HN : Hid (n = ls.length) := hn1
  clear he hok hn1 hn
  go_enter Try.func48, Try.ntmps48
  go_wp2
  go_loopw [3, 11] (fun sz i wr => ∃ (k m : Nat), k ≤ n ∧ m ≤ 1000 ∧ i = .int .i64 k ∧ sz = .int .i64 m ∧ Hid (m = (ls.take k).flatten.length) ∧ w = wr) (fun _ i _ => n - (intOf i).toNat)
  case atStart => exact ⟨0, 0, Nat.zero_le _, Nat.zero_le _, rfl, rfl, by simp [Hid], rfl⟩
  case round =>
    obtain ⟨k, m, hk, hm, rfl, rfl, HM, rfl⟩ := hrel
    by_cases hlt : k < n
    · have hx : k < ls.length := by rw [← HN.out]; exact hlt
      obtain ⟨b, off, rfl, hb, _, cs, ⟨a, c, rfl, hL, _⟩, hc⟩ := HE.out.at hx
      have hc0 : w.cell? ⟨b, off + k, none⟩ = some (.slice a (ls[k]).length c) := by
        have := hc 0 _ rfl
        simpa using this
      have hs := congrArg List.length (HS.out k hx)
      rw [List.length_append, ← HM.out] at hs
      have hle := HT.out (k + 1)
      rw [hs] at hle
      have HM2 : Hid (m + (ls[k]).length = (ls.take (k + 1)).flatten.length) := hs.symm
      generalize (ls[k]).length = q at hc0 hle HM2
      clear hs hL hc hx
      go_wp2
      go_roundw
      case rel => exact ⟨k + 1, m + q, by omega, hle, by go_num, by go_num, HM2, trivial⟩
      case measure => simp [intOf]; omega
    · have hkn : k = n := by omega
      subst hkn
      have HG : Hid (∀ W : World, W = w → Calls Try.prog 50 #[.slice none 0 0, .int .i64 m] W fun e w' => ∃ v, e = .returned v ∧ w'.ownsRow w.heap.size 53 2 v 0 [] ∧ Below w.heap.size w w') := fun W hW => by
        rw [hW]
        exact GrowN_any m hm w
      clear hlt
      go_wp2_with (go_at_call 50; (with_reducible refine (HG.out _ rfl).mono ?_); rintro e w1 ⟨v1, rfl, o1, b1⟩)
      have HO : Hid (Rows K ok w1 w.heap.size 53 v1 [] ∧ Below w.heap.size w w1) := ⟨⟨[], o1, trivial⟩, b1⟩
      obtain ⟨a1, c1, rfl⟩ : ∃ a c, v1 = .slice a 0 c := by
        rcases o1.2 with ⟨e, _⟩ | ⟨g, cap, cur, e, _⟩
        · exact ⟨none, 0, e⟩
        · exact ⟨_, cap, e⟩
      clear o1 b1
      go_loopw [6, 27] (fun s i wr => ∃ (j q : Nat) (a : Option Addr) (c : Nat), j ≤ k ∧ i = .int .i64 j ∧ s = .slice a q c ∧ q ≤ 1000 ∧ Hid (q = (ls.take j).flatten.length ∧ Rows K ok wr w.heap.size 53 (.slice a q c) (ls.take j).flatten ∧ Below w.heap.size w wr)) (fun _ i _ => k - (intOf i).toNat)
      case atStart => exact ⟨0, 0, a1, c1, Nat.zero_le _, rfl, rfl, Nat.zero_le _, by simp, by simpa using HO.out.1, HO.out.2⟩
      case round =>
        obtain ⟨j, q, a, c, hj, rfl, rfl, hq, HR⟩ := hrel
        by_cases hlt : j < k
        · have hx : j < ls.length := by rw [← HN.out]; exact hlt
          obtain ⟨b, off, rfl, hb, _, cs, ⟨a2, c2, rfl, hL, _⟩, hc⟩ := HE.out.at hx
          have hc0 : wr.cell? ⟨b, off + j, none⟩ = some (.slice a2 (ls[j]).length c2) := by
            have := hc 0 _ rfl
            exact (HR.out.2.2.cell (p := ⟨b, off + j, none⟩) hb).trans (by simpa using this)
          have hs := congrArg List.length (HS.out j hx)
          rw [List.length_append, ← HR.out.1] at hs
          have hle := HT.out (j + 1)
          rw [hs] at hle
          have HX : Hid (Lies K (fun b => ok b ∧ b < w.heap.size) wr a2 c2 ls[j]) := hL.move (Kept.of_below HR.out.2.2) (fun b hb ho => ⟨ho, hb⟩)
          have HQ : Hid (ls[j].length = (ls[j]).length ∧ (ls.take (j + 1)).flatten = (ls.take j).flatten ++ ls[j]) := ⟨rfl, HS.out j hx⟩
          obtain ⟨p, hp⟩ : ∃ p, p = (ls[j]).length := ⟨_, rfl⟩
          rw [← hp] at hc0 hle hs
          have HP : Hid (p = (ls[j]).length ∧ q + p = (ls.take (j + 1)).flatten.length) := ⟨hp, hs.symm⟩
          have HB : Hid (∀ b, ok b ∧ b < w.heap.size → Value.ownBlock (.slice a q c) ≠ some b) := fun b hb e => by
            obtain ⟨css, h1, _⟩ := HR.out.2.1
            have := (h1.lt b e).1
            omega
          clear hs hL hc hp
          go_wp2_with (at_builtin; refine wpList_append_rows eltN rfl (.tmp 31) (.tmp 32) rfl w.heap.size (.slice a q c) _ rfl HR.out.2.1 a2 c2 p _ rfl HP.out.1 HX.out (fun _ _ h _ => h.1) (fun b _ h => HB.out b h) (by rw [← HR.out.1]; omega) (by decide) HR.out.2.2.size ?_; intro v' w2 hR2 hg2 hat2)
          obtain ⟨a3, c3, e3, -⟩ := hR2.lies (fun b e => HF.out b (by obtain ⟨css, h1, _⟩ := hR2; exact (h1.lt b e).1))
          rw [← HQ.out.2, ← HP.out.2] at e3
          subst e3
          go_wp2
          go_roundw
          case rel =>
            refine ⟨j + 1, q + p, a3, c3, by omega, by go_num, rfl, hle, HP.out.2, by rw [HQ.out.2]; exact hR2, ?_⟩
            exact HR.out.2.2.grown hg2 HR.out.2.2.size (fun g e => by obtain ⟨css, h1, _⟩ := HR.out.2.1; exact (h1.lt g e).1)
          case measure => simp [intOf]; omega
        · have hjk : j = k := by omega
          subst hjk
          have hR := HR.out.2.1
          rw [HA.out j (by rw [← HN.out]; exact Nat.le_refl _)] at hR
          obtain ⟨a3, c3, e3, h3, h4, -⟩ := hR.lies (fun b e => HF.out b (by obtain ⟨css, h1, _⟩ := hR; exact (h1.lt b e).1))
          simp only [Value.slice.injEq] at e3
          obtain ⟨rfl, e4, rfl⟩ := e3
          have H9 : Hid (q = ls.flatten.length ∧ Lies K ok wr a c ls.flatten ∧ Ples a c ∧ Below w.heap.size w wr) := ⟨e4, h3, h4, HR.out.2.2⟩
          clear hR h3 h4 e4 HR hlt HM
          go_wp2
          go_ret
          exact ⟨a, c, by rw [← H9.out.1]; rfl, H9.out.2⟩

/-- a list of lists, laid out as the arguments of Concat -/
theorem lies_twoN {α : Type} {K : Kd α 2} {ok : Nat → Prop} {W : World} {a1 a2 : Option Addr} {c1 c2 : Nat} {l1 l2 : List α} (ty : TypeId) (hok : Fresh ok W) (h1 : Lies K ok W a1 c1 l1) (p1 : Ples a1 c1) (h2 : Lies K ok W a2 c2 l2) (p2 : Ples a2 c2) :
    Lies (kRow K) ok (W.alloc (.cells #[.slice a1 l1.length c1, .slice a2 l2.length c2] ty)) (some ⟨W.heap.size, 0, none⟩) 2 [l1, l2] := by
  have hb : Below W.heap.size W (W.alloc (.cells #[.slice a1 l1.length c1, .slice a2 l2.length c2] ty)) := (Below.refl _ W).alloc (Nat.le_refl _) _
  refine ⟨Nat.le_refl _, (fun e => by cases e), .inr ⟨W.heap.size, 0, [[.slice a1 l1.length c1], [.slice a2 l2.length c2]], rfl, by simp, hok _ (Nat.le_refl _), ⟨⟨a1, c1, rfl, h1.later hb, p1⟩, ⟨a2, c2, rfl, h2.later hb, p2⟩, trivial⟩, ?_⟩⟩
  intro j u hj
  match j, hj with
  | 0, hj => simp at hj; subst hj; simp
  | 1, hj => simp at hj; subst hj; simp
  | j + 2, hj => simp at hj

theorem lies_threeN {α : Type} {K : Kd α 2} {ok : Nat → Prop} {W : World} {a1 a2 a3 : Option Addr} {c1 c2 c3 : Nat} {l1 l2 l3 : List α} (ty : TypeId) (hok : Fresh ok W) (h1 : Lies K ok W a1 c1 l1) (p1 : Ples a1 c1) (h2 : Lies K ok W a2 c2 l2) (p2 : Ples a2 c2) (h3 : Lies K ok W a3 c3 l3) (p3 : Ples a3 c3) :
    Lies (kRow K) ok (W.alloc (.cells #[.slice a1 l1.length c1, .slice a2 l2.length c2, .slice a3 l3.length c3] ty)) (some ⟨W.heap.size, 0, none⟩) 3 [l1, l2, l3] := by
  have hb : Below W.heap.size W (W.alloc (.cells #[.slice a1 l1.length c1, .slice a2 l2.length c2, .slice a3 l3.length c3] ty)) := (Below.refl _ W).alloc (Nat.le_refl _) _
  refine ⟨Nat.le_refl _, (fun e => by cases e), .inr ⟨W.heap.size, 0, [[.slice a1 l1.length c1], [.slice a2 l2.length c2], [.slice a3 l3.length c3]], rfl, by simp, hok _ (Nat.le_refl _), ⟨⟨a1, c1, rfl, h1.later hb, p1⟩, ⟨a2, c2, rfl, h2.later hb, p2⟩, ⟨a3, c3, rfl, h3.later hb, p3⟩, trivial⟩, ?_⟩⟩
  intro j u hj
  match j, hj with
  | 0, hj => simp at hj; subst hj; simp
  | 1, hj => simp at hj; subst hj; simp
  | 2, hj => simp at hj; subst hj; simp
  | j + 3, hj => simp at hj

/-- a list from a place on, as a slice -/
theorem lies_fromN {α : Type} {K : Kd α 2} {ok : Nat → Prop} {W : World} {ao : Option Addr} {cap : Nat} {l : List α} (h : Lies K ok W ao cap l) (p : Ples ao cap) (k : Nat) (hk : k ≤ l.length) :
    (cap = k ∧ Lies K ok W ao (cap - k) (l.drop k) ∧ Ples ao (cap - k)) ∨ (¬ cap = k ∧ ∃ b off, ao = some ⟨b, off, none⟩ ∧ Lies K ok W (some ⟨b, off + k * 2, none⟩) (cap - k) (l.drop k)) := by
  have h1 := h.1
  by_cases hc : cap = k
  · left
    have e : l.drop k = [] := List.drop_of_length_le (by omega)
    refine ⟨hc, ?_, ?_⟩
    · rw [e]
      exact Lies.nil _ _ _ (fun _ => by omega)
    · rcases p with ⟨e1, e2⟩ | e1
      · exact .inl ⟨e1, by omega⟩
      · exact .inr e1
  · right
    rcases p with ⟨e1, e2⟩ | ⟨b, off, rfl⟩
    · omega
    · exact ⟨hc, b, off, rfl, h.drop k⟩

set_option maxHeartbeats 2000000 in
theorem replacedN_any {α : Type} (K : Kd α 2) (ok : Nat → Prop) (l m : List α) (f t : Nat) (hf : f ≤ l.length) (ht : t ≤ l.length) (hl : l.length ≤ 300) (hm : m.length ≤ 300) (ao bo : Option Addr) (cap cbp : Nat) (w : World) (hok : Fresh ok w) (he : Lies K ok w ao cap l) (hp : Ples ao cap) (hg : Lies K ok w bo cbp m) (hq : Ples bo cbp) :
    Calls Try.prog 38 #[.slice ao l.length cap, .int .i64 f, .int .i64 t, .slice bo m.length cbp] w fun e w' => ∃ a c, e = .returned (.slice a (l.take f ++ m ++ l.drop t).length c) ∧ Lies K ok w' a c (l.take f ++ m ++ l.drop t) ∧ Ples a c ∧ Below w.heap.size w w' := by
  have hcap := he.1
  have e3 : [l.take f, m, l.drop t].flatten = l.take f ++ m ++ l.drop t := by simp
  have hlen : [l.take f, m, l.drop t].flatten.length ≤ 1000 := by rw [e3]; simp; omega
  have lf : (l.take f).length = f := by rw [List.length_take]; omega
  have lt : (l.drop t).length = l.length - t := List.length_drop
  rcases lies_fromN he hp t ht with ⟨hc, h3, p3⟩ | ⟨hc, b, off, rfl, h3⟩
  · have hz : cap - t = 0 := by omega
    have hz2 : l.length - t = 0 := by omega
    rw [hz] at h3 p3
    rw [hz2] at lt
    subst hc
    have HC : Hid (∀ W : World, Below (w.alloc (.cells #[.slice ao f cap, .slice bo m.length cbp, .slice ao 0 0] 51)).heap.size (w.alloc (.cells #[.slice ao f cap, .slice bo m.length cbp, .slice ao 0 0] 51)) W → Calls Try.prog 48 #[.slice (some ⟨w.heap.size, 0, none⟩) 3 3] W fun e w' => ∃ a c, e = .returned (.slice a (l.take f ++ m ++ l.drop cap).length c) ∧ Hid (Lies K ok w' a c (l.take f ++ m ++ l.drop cap) ∧ Ples a c ∧ Below w.heap.size w w')) := fun W hW => by
      have hL := lies_threeN (ty := 51) hok (he.take f) hp hg hq h3 p3
      rw [lf, lt] at hL
      have h0 : Below w.heap.size w (w.alloc (.cells #[.slice ao f cap, .slice bo m.length cbp, .slice ao 0 0] 51)) := (Below.refl _ w).alloc (Nat.le_refl _) _
      have hW2 := h0.trans (hW.mono h0.size)
      have := ConcatN_any K ok [l.take f, m, l.drop cap] (by simp) hlen (some ⟨w.heap.size, 0, none⟩) 3 W (hok.later hW2.size) (hL.later hW)
      rw [e3] at this
      exact this.mono fun e w' ⟨a, c, h1, h2, h3, h4⟩ => ⟨a, c, h1, h2, h3, hW2.trans (h4.mono hW2.size)⟩
    have hb1 : Below (w.alloc (.cells #[.slice ao f cap, .slice bo m.length cbp, .slice ao 0 0] 51)).heap.size (w.alloc (.cells #[.slice ao f cap, .slice bo m.length cbp, .slice ao 0 0] 51)) (w.alloc (.cells #[.slice ao f cap, .slice bo m.length cbp, .slice ao 0 0] 51)).drew := (Below.refl _ _).drew
    generalize (l.take f ++ m ++ l.drop cap).length = r at HC ⊢
    generalize l.length = n at HC hb1 hf ht hcap hl hz2 ⊢
    generalize m.length = q at HC hb1 hm ⊢
    clear h3 hlen lf lt e3 he hg hok
    go_enter Try.func38, Try.ntmps38
    go_wp2
    go_region_with (go_at_call 48; (with_reducible refine (HC.out _ ?_).mono ?_); assumption; rintro e w1 ⟨a, c, rfl, h9⟩)
    all_goals
      go_wp2
      go_ret
      exact ⟨a, c, rfl, h9.out⟩
  · have HC : Hid (∀ W : World, Below (w.alloc (.cells #[.slice (some ⟨b, off, none⟩) f cap, .slice bo m.length cbp, .slice (some ⟨b, off + t * 2, none⟩) (l.length - t) (cap - t)] 51)).heap.size (w.alloc (.cells #[.slice (some ⟨b, off, none⟩) f cap, .slice bo m.length cbp, .slice (some ⟨b, off + t * 2, none⟩) (l.length - t) (cap - t)] 51)) W → Calls Try.prog 48 #[.slice (some ⟨w.heap.size, 0, none⟩) 3 3] W fun e w' => ∃ a c, e = .returned (.slice a (l.take f ++ m ++ l.drop t).length c) ∧ Hid (Lies K ok w' a c (l.take f ++ m ++ l.drop t) ∧ Ples a c ∧ Below w.heap.size w w')) := fun W hW => by
      have hL := lies_threeN (ty := 51) hok (he.take f) hp hg hq h3 (Ples.some _ _ _)
      rw [lf, lt] at hL
      have h0 : Below w.heap.size w (w.alloc (.cells #[.slice (some ⟨b, off, none⟩) f cap, .slice bo m.length cbp, .slice (some ⟨b, off + t * 2, none⟩) (l.length - t) (cap - t)] 51)) := (Below.refl _ w).alloc (Nat.le_refl _) _
      have hW2 := h0.trans (hW.mono h0.size)
      have := ConcatN_any K ok [l.take f, m, l.drop t] (by simp) hlen (some ⟨w.heap.size, 0, none⟩) 3 W (hok.later hW2.size) (hL.later hW)
      rw [e3] at this
      exact this.mono fun e w' ⟨a, c, h1, h2, h3, h4⟩ => ⟨a, c, h1, h2, h3, hW2.trans (h4.mono hW2.size)⟩
    have hb1 : Below (w.alloc (.cells #[.slice (some ⟨b, off, none⟩) f cap, .slice bo m.length cbp, .slice (some ⟨b, off + t * 2, none⟩) (l.length - t) (cap - t)] 51)).heap.size (w.alloc (.cells #[.slice (some ⟨b, off, none⟩) f cap, .slice bo m.length cbp, .slice (some ⟨b, off + t * 2, none⟩) (l.length - t) (cap - t)] 51)) (w.alloc (.cells #[.slice (some ⟨b, off, none⟩) f cap, .slice bo m.length cbp, .slice (some ⟨b, off + t * 2, none⟩) (l.length - t) (cap - t)] 51)).drew := (Below.refl _ _).drew
    generalize (l.take f ++ m ++ l.drop t).length = r at HC ⊢
    generalize l.length = n at HC hb1 hf ht hcap hl ⊢
    generalize m.length = q at HC hb1 hm ⊢
    clear h3 hlen lf lt e3 he hg hok
    go_enter Try.func38, Try.ntmps38
    go_wp2
    go_region_with (go_at_call 48; (with_reducible refine (HC.out _ ?_).mono ?_); assumption; rintro e w1 ⟨a, c, rfl, h9⟩)
    all_goals
      go_wp2
      go_ret
      exact ⟨a, c, rfl, h9.out⟩

end Go.Proofs.Ytcegkgobkpakiaa
