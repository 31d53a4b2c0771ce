/- The entries of a tree from a key on, handed out one by one: at a leaf. -/
import Derived.Test.YtcegkgobkpakiaaTrRange
import Derived.Deep.RegionHeld3
namespace Go.Proofs.Ytcegkgobkpakiaa
open Go.ChangeShapes Go.WideShapes Go.ChangeAt Go.RowKit Go.Shelf

attribute [local go_sem] Oper.semAt_some

/-- the entries whose keys are that one or behind it -/
def fromL (l : List Ent) (key : List Int) : List Ent := l.filter (fun e => !ahead e.1 key)

theorem fromL_cut {l r : List Ent} {key : List Int} (hl : ∀ y ∈ l, ahead y.1 key = true) (hr : ∀ y ∈ r, ahead y.1 key = false) : fromL (l ++ r) key = r := by
  unfold fromL
  rw [List.filter_append]
  have h1 : l.filter (fun e => !ahead e.1 key) = [] := by
    rw [List.filter_eq_nil_iff]
    intro y hy
    simp [hl y hy]
  have h2 : r.filter (fun e => !ahead e.1 key) = r := by
    rw [List.filter_eq_self]
    intro y hy
    simp [hr y hy]
  rw [h1, h2, List.nil_append]

theorem from_made (u v : Value) (ko : Option Addr) (km kc : Nat) (W : World) :
    Calls Try.prog 31 #[.agg #[u, v], .slice ko km kc] W fun e w' => e = .returned (.func (.func 41) #[] #[.pointer (some ⟨W.heap.size, 0, none⟩), .pointer (some ⟨W.heap.size + 1, 0, none⟩)]) ∧ w' = (W.alloc (.cells #[u, v] 53)).alloc (.cells #[.slice ko km kc] 40) := by
  go_enter Try.func31, Try.ntmps31
  go_wp2
  go_ret
  exact ⟨rfl, rfl⟩

theorem grown_below {W W' : World} (h : Below W.heap.size W W') : W.grownBy W' none := ⟨h.os, h.tape, h.output, h.size, fun b hb _ => h.block b hb⟩

/-- a step that lays new blocks alone -/
theorem Yl.step {ok : Nat → Prop} {w0 : World} {l B N : Nat} {M : World → Nat → Prop} {J Jx : List Ent → World → Prop} (Y : Yl ok w0 l B N M J Jx) {pre : List Ent} {W W' : World} (h : J pre W) (hb : Below W.heap.size W W') : J pre W' ∧ Kpt M W W' :=
  ⟨Y.own pre W W' none h (grown_below hb) (fun r e => by cases e), hb.size, fun b hlt hm => ⟨hb.block b hlt, fun h2 => hm (Y.same pre W W' none h ⟨grown_below hb, fun r e => by cases e⟩ b h2)⟩⟩

/-- a block that was just laid is none of M's -/
theorem Yl.new {ok : Nat → Prop} {w0 : World} {l B N : Nat} {M : World → Nat → Prop} {J Jx : List Ent → World → Prop} (Y : Yl ok w0 l B N M J Jx) {pre : List Ent} {W W' : World} (h : J pre W) (hb : Below W.heap.size W W') {b : Nat} (hlt : W.heap.size ≤ b) : ¬ M W' b := fun hm => by
  have h1 := Y.same pre W W' none h ⟨grown_below hb, fun r e => by cases e⟩ b hm
  rcases Y.kind pre W h b h1 with q | ⟨o, q, _⟩
  · have := (Y.low pre W h).2; omega
  · have := (Array.getElem?_eq_some_iff.1 q).1; omega

theorem Kpt.cell {M : World → Nat → Prop} {W W' : World} (h : Kpt M W W') {b off : Nat} {u : Value} (hm : ¬ M W b) (hc : W.cell? ⟨b, off, none⟩ = some u) : W'.cell? ⟨b, off, none⟩ = some u :=
  (World.cell?_of_block (w := W) (h.2 b (World.block_lt_of_cell? _ _ hc) hm).1).trans hc

set_option maxRecDepth 100000 in
set_option maxHeartbeats 8000000 in
theorem from1_leaf (ok : Nat → Prop) (w0 : World) (es : List Ent) (hq : Wq 0 es) (key : List Int) (ko : Option Addr) (kc : Nat) (ho : Octs w0 ko kc key) (a b : Option Addr) (c d : Nat) (hr : (kNd 0).rel ok w0 es [.slice a es.length c, .slice b 0 d])
    {l B N : Nat} {M : World → Nat → Prop} {J Jx : List Ent → World → Prop} (Y : Yl ok w0 l B N M J Jx) (pre₀ : List Ent) (W : World) (m Bn Bk : Nat) (hN0 : W.cell? ⟨Bn, 0, none⟩ = some (.slice a es.length c)) (hN1 : W.cell? ⟨Bn, 1, none⟩ = some (.slice b 0 d)) (hnM : ¬ M W Bn)
    (hK : W.cell? ⟨Bk, 0, none⟩ = some (.slice ko key.length kc)) (hkM : ¬ M W Bk) (h0 : J pre₀ W) (hNb : pre₀.length + (fromL es key).length ≤ N) :
    CallsIn Fence.wide m Try.prog 41 #[.func (.yield l) #[] #[], .pointer (some ⟨Bn, 0, none⟩), .pointer (some ⟨Bk, 0, none⟩)] W fun e W' => (∃ v, e = .returned v) ∧ (J (pre₀ ++ fromL es key) W' ∨ ∃ q, q <+: fromL es key ∧ Jx (pre₀ ++ q) W') := by
  obtain ⟨a', c', b', d', e, hL, hP, -, hPb⟩ := (show Both kEnt ok w0 es [] _ from hr)
  simp only [List.cons.injEq, Value.slice.injEq, and_true, List.length_nil, true_and] at e
  obtain ⟨⟨rfl, rfl⟩, rfl, rfl⟩ := e
  have h4 : es.length ≤ 4 := hq.most
  have hasc : Asc es := hq.asc
  have bN : Bn < W.heap.size := World.block_lt_of_cell? _ _ hN0
  have bK : Bk < W.heap.size := World.block_lt_of_cell? _ _ hK
  obtain ⟨n, hn⟩ : ∃ n, n = es.length := ⟨_, rfl⟩
  obtain ⟨km, hkm⟩ : ∃ km, km = key.length := ⟨_, rfl⟩
  rw [← hn] at hN0
  rw [← hkm] at hK
  -- the world in which yield's own variable has been laid
  obtain ⟨W1, hW1⟩ : ∃ W1, W.alloc (.cells #[.func (.yield l) #[] #[]] 93) = W1 := ⟨_, rfl⟩
  have hb1 : Below W.heap.size W W1 := by rw [← hW1]; exact (Below.refl _ W).alloc (Nat.le_refl _) _
  have y1 : W1.cell? ⟨W.heap.size, 0, none⟩ = some (.func (.yield l) #[] #[]) := by rw [← hW1]; simp
  obtain ⟨hJ1, hk1⟩ := Y.step h0 hb1
  have m1 : ¬ M W1 Bn := (hk1.2 Bn bN hnM).2
  have m2 : ¬ M W1 Bk := (hk1.2 Bk bK hkM).2
  have m3 : ¬ M W1 W.heap.size := Y.new h0 hb1 (Nat.le_refl _)
  have n0 := hk1.cell hnM hN0
  have n1 := hk1.cell hnM hN1
  have n2 := hk1.cell hkM hK
  have ST : Hid (∀ V : World, Kpt M W1 V → V.cell? ⟨Bn, 0, none⟩ = some (.slice a n c) ∧ V.cell? ⟨Bn, 1, none⟩ = some (.slice b 0 d) ∧ V.cell? ⟨Bk, 0, none⟩ = some (.slice ko km kc) ∧ V.cell? ⟨W.heap.size, 0, none⟩ = some (.func (.yield l) #[] #[])) := fun V hV => ⟨hV.cell m1 n0, hV.cell m1 n1, hV.cell m2 n2, hV.cell m3 y1⟩
  have cF : Hid (CallsIn Fence.wide (m - 1) Try.prog 34 #[.agg #[.slice a n c, .slice b 0 d], .slice ko km kc] W1 fun e w' =>
      ∃ (i : Nat) (y : Bool), e = .returned (.tuple #[.int .i64 i, .bool y]) ∧ i ≤ n ∧ Hid (fromL es key = es.drop i) ∧ Hid (J pre₀ w' ∧ Kpt M W1 w')) := by
    have hlo := (Y.low _ _ hJ1).1
    have := find_any ok es (by omega) hasc a b c 0 d ko kc key W1 (hL.later hlo) (ho.later hlo)
    rw [← hn, ← hkm] at this
    refine callsIn_wide.2 (this.mono ?_)
    rintro e w' ⟨l', r, e1, e2, e3, rfl, hb⟩
    refine ⟨l'.length, _, rfl, by rw [hn, e1]; simp, ?_, Y.step hJ1 hb⟩
    rw [Hid, e1, fromL_cut e2 e3, List.drop_left]
  have cK : Hid (∀ V : World, J (pre₀ ++ fromL es key) V ∧ Kpt M W1 V → Calls Try.prog 37 #[.agg #[.slice a n c, .slice b 0 d], .slice ko km kc] V fun e w' => e = .returned (.int .i64 0) ∧ Hid (J (pre₀ ++ fromL es key) w' ∧ Kpt M W1 w')) := fun V ⟨hJ, hV⟩ => by
    refine (kidOf_none a b n c d ko km kc V).mono ?_
    rintro e w' ⟨rfl, hb⟩
    obtain ⟨q1, q2⟩ := Y.step hJ hb
    exact ⟨rfl, q1, hV.trans q2⟩
  have HL : Hid (Lies kEnt ok w0 a c es ∧ Ples a c) := ⟨hL, hP⟩
  have HN := put_by hn
  have HY := put_by Y
  have HNB := put_by hNb
  clear hNb
  have h4' : n ≤ 4 := by omega
  have hcap : n ≤ c := by rw [hn]; exact hL.1
  have hdd : ∀ (f : FuncId), Fence.wide.fn f := fun _ => trivial
  clear hL hP hr ho hn hkm hasc hq hJ1 hk1 h4 Y n0 n1 n2 hN0 hN1 hK h0 hnM hkM m1 m2 m3 y1 hb1
  refine callsIn_of_wp_marks Try.func41 rfl trivial ?_ rfl
  simp only [Try.ntmps41, List.size_toArray, List.length_cons, List.length_nil, Nat.reduceAdd, Nat.reduceSub, Array.replicate_succ, Array.replicate_zero, List.push_toArray, List.append_toArray, List.nil_append, List.cons_append]
  obtain ⟨v0, v1, v2, v3⟩ := ST.out W1 (Kpt.refl _ _)
  gi_wp2_with ((try refine ⟨fun h => (by cases h), ?_⟩); gi_at_call 34; refine cF.out.mono ?_; rintro e w2 ⟨i, y, rfl, hi, HD, hS⟩; obtain ⟨r0, r1, r2, r3⟩ := ST.out w2 hS.out.2; rcases lies_fromE HL.out.1 HL.out.2 i (by rw [← HN.out]; exact hi) with ⟨rfl, hLr, -⟩ | ⟨hc, bb, off, ea, hLr⟩)
  · have hni : n - c = 0 := by omega
    gi_loopw [22] (fun x wr => ∃ k : Nat, k ≤ n - c ∧ x = .int .i64 k ∧ Hid (J (pre₀ ++ (es.drop c).take k) wr ∧ Kpt M W1 wr)) (fun x _ => (n - c) - (intOf x).toNat)
    case atStart => exact ⟨0, Nat.zero_le _, rfl, by simpa using hS.out.1, hS.out.2⟩
    case round =>
    obtain ⟨k, hk, rfl, HR⟩ := hrel
    by_cases hlt : k < n - c
    · exact absurd hlt (by omega)
    · have hkn : k = n - c := by omega
      have HE : Hid (J (pre₀ ++ fromL es key) wr ∧ Kpt M W1 wr) := by
        refine ⟨?_, HR.out.2⟩
        have := HR.out.1
        rw [List.take_of_length_le (by rw [List.length_drop, ← HN.out]; omega), ← HD.out] at this
        exact this
      obtain ⟨t0, t1, t2, t3⟩ := ST.out _ HE.out.2
      have HED : Hid (J (pre₀ ++ fromL es key) wr.drew ∧ Kpt M W1 wr.drew) := by
        obtain ⟨q1, q2⟩ := HY.out.step HE.out.1 ((Below.refl _ wr).drew)
        exact ⟨q1, HE.out.2.trans q2⟩
      have hk0 : k = 0 := by omega
      clear hkn
      subst hk0
      have hni' : n ≤ c := by omega
      clear hni
      clear HR hLr
      gi_wp2
      refine wpIn_wide.2 ?_
      have HPL := put_by hPb
      go_wp2
      go_region_held3 (fun V => V.cell? ⟨Bn, 0, none⟩ = some (.slice a n c) ∧ V.cell? ⟨Bn, 1, none⟩ = some (.slice b 0 d) ∧ V.cell? ⟨Bk, 0, none⟩ = some (.slice ko km kc)) (go_keep) (first | (go_at_call 37; (with_reducible refine (cK.out _ HED.out).mono ?_); rintro e w5 ⟨rfl, h9⟩; obtain ⟨s0, s1, s2, s3⟩ := ST.out _ h9.out.2))
      all_goals
        gi_wp2
        gi_loopw [38] (fun x wr => x = .int .i64 0 ∧ w5 = wr) (fun _ _ => 0)
        case atStart => exact ⟨rfl, rfl⟩
        case round =>
          obtain ⟨rfl, rfl⟩ := hrel
          gi_wp2
          exact ⟨_, results_none rfl _ _ _, ⟨_, rfl⟩, .inl h9.out.1⟩
  · subst ea
    gi_loopw [22] (fun x wr => ∃ k : Nat, k ≤ n - i ∧ x = .int .i64 k ∧ Hid (J (pre₀ ++ (es.drop i).take k) wr ∧ Kpt M W1 wr)) (fun x _ => (n - i) - (intOf x).toNat)
    case atStart => exact ⟨0, Nat.zero_le _, rfl, by simpa using hS.out.1, hS.out.2⟩
    case round =>
    obtain ⟨k, hk, rfl, HR⟩ := hrel
    by_cases hlt : k < n - i
    · have hx : k < (es.drop i).length := by rw [List.length_drop, ← HN.out]; exact hlt
      obtain ⟨bb', off', e', hb', _, cs, ⟨u1, u2, rfl, hu1, hu2⟩, hcell⟩ := hLr.at hx
      cases e'
      have hlo := (HY.out.low _ _ HR.out.1).1
      obtain ⟨x1, z1, rfl, -⟩ := id hu1
      obtain ⟨x2, z2, rfl, -⟩ := id hu2
      have g0 : wr.cell? ⟨bb, off + i * 2 + k * 2, none⟩ = some (.slice x1 ((es.drop i)[k].1).length z1) := (hlo.cell (p := ⟨bb, off + i * 2 + k * 2, none⟩) hb').trans (by simpa using hcell 0 _ rfl)
      have g1 : wr.cell? ⟨bb, off + i * 2 + k * 2 + 1, none⟩ = some (.slice x2 ((es.drop i)[k].2).length z2) := (hlo.cell (p := ⟨bb, off + i * 2 + k * 2 + 1, none⟩) hb').trans (hcell 1 _ rfl)
      have hba : Below wr.heap.size wr (wr.alloc (.cells #[.slice x1 ((es.drop i)[k].1).length z1, .slice x2 ((es.drop i)[k].2).length z2] 62)) := (Below.refl _ wr).alloc (Nat.le_refl _) _
      obtain ⟨hJa, hKa⟩ := HY.out.step HR.out.1 hba
      have hrd := HY.out.round (m - 1) _ (es.drop i)[k] _ _ _ (by have := HNB.out; rw [HD.out] at this; rw [List.length_append, List.length_take]; omega) hJa ⟨_, _, rfl, hu1, hu2⟩
      obtain ⟨-, -, -, t3⟩ := ST.out _ HR.out.2
      have ht : (es.drop i).take (k + 1) = (es.drop i).take k ++ [(es.drop i)[k]] := List.take_succ_eq_append_getElem hx
      have HT : Hid (∀ V : World, (J (pre₀ ++ (es.drop i).take k ++ [(es.drop i)[k]]) V ∧ Kpt M (wr.alloc (.cells #[.slice x1 ((es.drop i)[k].1).length z1, .slice x2 ((es.drop i)[k].2).length z2] 62)) V → J (pre₀ ++ (es.drop i).take (k + 1)) V ∧ Kpt M W1 V) ∧ (Jx (pre₀ ++ (es.drop i).take k ++ [(es.drop i)[k]]) V → ∃ q, q <+: fromL es key ∧ Jx (pre₀ ++ q) V)) := fun V => ⟨fun ⟨h1, h2⟩ => ⟨by rw [ht, ← List.append_assoc]; exact h1, HR.out.2.trans (hKa.trans h2)⟩, fun h1 => ⟨(es.drop i).take (k + 1), by rw [HD.out]; exact List.take_prefix _ _, by rw [ht, ← List.append_assoc]; exact h1⟩⟩
      generalize ((es.drop i)[k].1).length = q1 at g0 hrd HT hba hJa hKa
      generalize ((es.drop i)[k].2).length = q2 at g1 hrd HT hba hJa hKa
      obtain ⟨fn, tmps, assign, body, hy, hR⟩ := hrd
      have hblt : W.heap.size < wr.heap.size := World.block_lt_of_cell? _ _ t3
      clear hcell hu1 hu2 hba hJa hKa hlo ht
      gi_wp2
      refine ⟨fun h => (by cases h), hR.mono ?_⟩
      rintro e W3 (⟨rfl, hJ3, hk3⟩ | ⟨rfl, hJx3, -⟩)
      · gi_wp2
        go_roundw
        case rel => exact ⟨k + 1, by omega, by go_num, (HT.out W3).1 ⟨hJ3, hk3⟩⟩
        case measure => simp [intOf]; omega
      · gi_wp2
        exact ⟨_, results_none rfl _ _ _, ⟨_, rfl⟩, .inr ((HT.out W3).2 hJx3)⟩
    · have hkn : k = n - i := by omega
      have HE : Hid (J (pre₀ ++ fromL es key) wr ∧ Kpt M W1 wr) := by
        refine ⟨?_, HR.out.2⟩
        have := HR.out.1
        rw [List.take_of_length_le (by rw [List.length_drop, ← HN.out]; omega), ← HD.out] at this
        exact this
      obtain ⟨t0, t1, t2, t3⟩ := ST.out _ HE.out.2
      have HED : Hid (J (pre₀ ++ fromL es key) wr.drew ∧ Kpt M W1 wr.drew) := by
        obtain ⟨q1, q2⟩ := HY.out.step HE.out.1 ((Below.refl _ wr).drew)
        exact ⟨q1, HE.out.2.trans q2⟩
      clear hkn
      clear HR hLr
      gi_wp2
      refine wpIn_wide.2 ?_
      have HPL := put_by hPb
      go_wp2
      go_region_held3 (fun V => V.cell? ⟨Bn, 0, none⟩ = some (.slice (some ⟨bb, off, none⟩) n c) ∧ V.cell? ⟨Bn, 1, none⟩ = some (.slice b 0 d) ∧ V.cell? ⟨Bk, 0, none⟩ = some (.slice ko km kc)) (go_keep) (first | (go_at_call 37; (with_reducible refine (cK.out _ HED.out).mono ?_); rintro e w5 ⟨rfl, h9⟩; obtain ⟨s0, s1, s2, s3⟩ := ST.out _ h9.out.2))
      all_goals
        gi_wp2
        gi_loopw [38] (fun x wr => x = .int .i64 0 ∧ w5 = wr) (fun _ _ => 0)
        case atStart => exact ⟨rfl, rfl⟩
        case round =>
          obtain ⟨rfl, rfl⟩ := hrel
          gi_wp2
          exact ⟨_, results_none rfl _ _ _, ⟨_, rfl⟩, .inl h9.out.1⟩

end Go.Proofs.Ytcegkgobkpakiaa
