/- The entries of a tree from a key on, handed out one by one: at a node with kids. -/
import Derived.Test.YtcegkgobkpakiaaTrFrom
import Derived.Sort.LoopGhostIn
namespace Go.Proofs.Ytcegkgobkpakiaa
open Go.ChangeShapes Go.WideShapes Go.ChangeAt Go.RowKit Go.Shelf

attribute [local go_sem] Oper.semAt_some

/-- the mark that a loop over a function leaves among the deferred calls -/
def markD (D : Nat) : Deferred := { target := .collected D, args := #[] }

/-- leaving with marks alone -/
theorem leaves_marks {n : Nat} {fn : Func} {tmps : Array Value} {R : Ending → World → Prop} (S : World → Prop) (B : Nat) (hS : ∀ (V : World) (D : Nat), S V → B ≤ D → V.heap[D]? = some (.deferred (some [])) → S (V.putObj D (.deferred none)))
    (hR : ∀ V, S V → LeavesIn Fence.wide n Try.prog fn tmps R [] .returning V) : ∀ (ds : List Nat) (V : World), S V → (∀ D ∈ ds, B ≤ D ∧ V.heap[D]? = some (.deferred (some []))) → ds.Nodup → LeavesInM Fence.wide n Try.prog fn tmps R (ds.map markD) .returning V
  | [], V, hV, _, _ => hR V hV
  | D :: ds, V, hV, hd, hn => by
    obtain ⟨h1, h2⟩ := hd D List.mem_cons_self
    obtain ⟨n1, n2⟩ := List.nodup_cons.1 hn
    refine ⟨by simp, .inl ⟨D, _, rfl, run_takeDeferred h2, leaves_marks S B hS hR ds _ (hS V D hV h1 h2) (fun D' hD' => ?_) n2⟩⟩
    obtain ⟨q1, q2⟩ := hd D' (List.mem_cons_of_mem _ hD')
    exact ⟨q1, (World.putObj_heap_other (fun e : D' = D => n1 (by rw [← e]; exact hD'))).trans q2⟩

/-- what a tree hands out, whatever yield does with it -/
def FromC (ok : Nat → Prop) (w0 : World) (key : List Int) (ko : Option Addr) (kc : Nat) (h : Nat) (t : Tr h) : Prop :=
  ∀ (a b : Option Addr) (n c m d : Nat), (kNd h).rel ok w0 t [.slice a n c, .slice b m d] → ∀ (l B N : Nat) (M : World → Nat → Prop) (J Jx : List Ent → World → Prop), Yl ok w0 l B N M J Jx → ∀ (pre₀ : List Ent) (W : World) (r Bn Bk : Nat),
    W.cell? ⟨Bn, 0, none⟩ = some (.slice a n c) → W.cell? ⟨Bn, 1, none⟩ = some (.slice b m d) → ¬ M W Bn → W.cell? ⟨Bk, 0, none⟩ = some (.slice ko key.length kc) → ¬ M W Bk → J pre₀ W → pre₀.length + (fromL (flat h t) key).length ≤ N →
    CallsIn Fence.wide r Try.prog 41 #[.func (.yield l) #[] #[], .pointer (some ⟨Bn, 0, none⟩), .pointer (some ⟨Bk, 0, none⟩)] W fun e W' => (∃ v, e = .returned v) ∧ (J (pre₀ ++ fromL (flat h t) key) W' ∨ ∃ q, q <+: fromL (flat h t) key ∧ Jx (pre₀ ++ q) W')

theorem fromC_leaf (ok : Nat → Prop) (w0 : World) (key : List Int) (ko : Option Addr) (kc : Nat) (ho : Octs w0 ko kc key) (es : List Ent) (hq : Wq 0 es) : FromC ok w0 key ko kc 0 es := by
  intro a b n c m d hr l B N M J Jx Y pre₀ W r Bn Bk h1 h2 h3 h4 h5 h6 h7
  have e : n = es.length ∧ m = 0 := by
    obtain ⟨_, _, _, _, e, _⟩ := (show Both kEnt ok w0 es [] _ from hr)
    simp only [List.cons.injEq, Value.slice.injEq, and_true, List.length_nil] at e
    exact ⟨e.1.2.1, e.2.2.1⟩
  obtain ⟨rfl, rfl⟩ := e
  exact from1_leaf ok w0 es hq key ko kc ho a b c d hr Y pre₀ W r Bn Bk h1 h2 h3 h4 h5 h6 h7

theorem fromL_kids {h : Nat} {ks : List (Tr h)} {key : List Int} {l : List (Tr h)} {x : Tr h} {r : List (Tr h)} (hc : KidCut h ks key l x r) : fromL (flat (h + 1) ks) key = (ks.drop l.length).flatMap (fun k => fromL (flat h k) key) := by
  have h1 : fromL (l.flatMap (flat h)) key = [] := by
    unfold fromL
    rw [List.filter_eq_nil_iff]
    intro y hy
    simp [hc.left y hy]
  have hf : ∀ ms : List (Tr h), fromL (ms.flatMap (flat h)) key = ms.flatMap (fun k => fromL (flat h k) key) := by
    intro ms
    induction ms with
    | nil => rfl
    | cons y ms ih =>
      rw [List.flatMap_cons, List.flatMap_cons, ← ih]
      unfold fromL
      rw [List.filter_append]
  have hd : ks.drop l.length = x :: r := by rw [hc.eq, List.drop_left]
  rw [hd, ← hf (x :: r)]
  rw [show flat (h + 1) ks = l.flatMap (flat h) ++ (x :: r).flatMap (flat h) by rw [hc.flat, List.flatMap_cons]]
  unfold fromL at h1 ⊢
  rw [List.filter_append, h1, List.nil_append]

theorem flatMap_take_le {α β : Type} (f : α → List β) (l : List α) (j : Nat) : ((l.take j).flatMap f).length ≤ (l.flatMap f).length := by
  conv => rhs; rw [← List.take_append_drop j l]
  rw [List.flatMap_append, List.length_append]
  omega

set_option maxRecDepth 100000 in
set_option maxHeartbeats 16000000 in
theorem fromC_inner (ok : Nat → Prop) (w0 : World) (key : List Int) (ko : Option Addr) (kc : Nat) (ho : Octs w0 ko kc key) (h : Nat) (ks : List (Tr h)) (hq : Wq (h + 1) ks) (ih : ∀ t : Tr h, Wq h t → FromC ok w0 key ko kc h t) : FromC ok w0 key ko kc (h + 1) ks := by
  intro a b n c m d hr l B N M J Jx Y pre₀ W r Bn Bk hN0 hN1 hnM hK hkM h0 hNb
  obtain ⟨a', c', b', d', e, -, hPa, hL, hP⟩ := (show Both (kNd h) ok w0 [] ks _ from hr)
  simp only [List.cons.injEq, Value.slice.injEq, and_true, List.length_nil] at e
  obtain ⟨⟨rfl, rfl, rfl⟩, rfl, hm, rfl⟩ := e
  have h4 : ks.length ≤ 4 := hq.most
  have hpos : 0 < ks.length := hq.some (Nat.succ_pos _)
  obtain ⟨bb, off, rfl, hbb, -⟩ := hL.at hpos
  have bN : Bn < W.heap.size := World.block_lt_of_cell? _ _ hN0
  have bK : Bk < W.heap.size := World.block_lt_of_cell? _ _ hK
  obtain ⟨km, hkm⟩ : ∃ km, km = key.length := ⟨_, rfl⟩
  rw [← hkm] at hK
  obtain ⟨W1, hW1⟩ : ∃ W1, W.alloc (.cells #[.func (.yield l) #[] #[]] 93) = W1 := ⟨_, rfl⟩
  have hb1 : Below W.heap.size W W1 := by rw [← hW1]; exact (Below.refl _ W).alloc (Nat.le_refl _) _
  have y1 : W1.cell? ⟨W.heap.size, 0, none⟩ = some (.func (.yield l) #[] #[]) := by rw [← hW1]; simp
  have hs1 : W1.heap.size = W.heap.size + 1 := by rw [← hW1]; simp
  obtain ⟨hJ1, hk1⟩ := Y.step h0 hb1
  have m1 : ¬ M W1 Bn := (hk1.2 Bn bN hnM).2
  have m2 : ¬ M W1 Bk := (hk1.2 Bk bK hkM).2
  have m3 : ¬ M W1 W.heap.size := Y.new h0 hb1 (Nat.le_refl _)
  have n0 := hk1.cell hnM hN0
  have n1 := hk1.cell hnM hN1
  have n2 := hk1.cell hkM hK
  have ST : Hid (∀ V : World, Kpt M W1 V → V.cell? ⟨Bn, 0, none⟩ = some (.slice a 0 c) ∧ V.cell? ⟨Bn, 1, none⟩ = some (.slice (some ⟨bb, off, none⟩) m d) ∧ V.cell? ⟨Bk, 0, none⟩ = some (.slice ko km kc) ∧ V.cell? ⟨W.heap.size, 0, none⟩ = some (.func (.yield l) #[] #[]) ∧ ¬ M V Bk) := fun V hV => ⟨hV.cell m1 n0, hV.cell m1 n1, hV.cell m2 n2, hV.cell m3 y1, (hV.2 Bk (by omega) m2).2⟩
  have cF : Hid (CallsIn Fence.wide (r - 1) Try.prog 34 #[.agg #[.slice a 0 c, .slice (some ⟨bb, off, none⟩) m d], .slice ko km kc] W1 fun e w' => e = .returned (.tuple #[.int .i64 0, .bool false]) ∧ Hid (J pre₀ w' ∧ Kpt M W1 w')) := by
    have hlo := (Y.low _ _ hJ1).1
    have := find_any ok [] (by simp) List.Pairwise.nil a (some ⟨bb, off, none⟩) c m d ko kc key W1 (Lies.nil _ _ _ (by rcases hPa with ⟨_, q⟩ | ⟨_, _, q⟩ <;> simp_all)) (ho.later hlo)
    rw [← hkm] at this
    refine callsIn_wide.2 (this.mono ?_)
    rintro e w' ⟨l', r', e1, e2, e3, rfl, hb⟩
    obtain ⟨rfl, rfl⟩ := List.append_eq_nil_iff.1 e1.symm
    exact ⟨rfl, Y.step hJ1 hb⟩
  have cK : Hid (∀ V : World, J pre₀ V ∧ Kpt M W1 V → Calls Try.prog 37 #[.agg #[.slice a 0 c, .slice (some ⟨bb, off, none⟩) m d], .slice ko km kc] V fun e w' => ∃ p : Nat, e = .returned (.int .i64 p) ∧ p < m ∧ Hid (J pre₀ w' ∧ Kpt M W1 w') ∧ Hid (fromL (flat (h + 1) ks) key = (ks.drop p).flatMap (fun k => fromL (flat h k) key))) := fun V ⟨hJ, hV⟩ => by
    have hlo := (Y.low _ _ hJ).1
    have := kidOf_any ok h ks hpos (by omega) ((Wk_node ks).1 hq.kids) hq.asc a (some ⟨bb, off, none⟩) 0 c d ko kc key V (hL.later hlo) (ho.later hlo)
    rw [← hm, ← hkm] at this
    refine this.mono ?_
    rintro e w' ⟨l', x, r', hC, rfl, hb⟩
    obtain ⟨q1, q2⟩ := Y.step hJ hb
    exact ⟨l'.length, rfl, by rw [hm, hC.eq]; simp, ⟨q1, hV.trans q2⟩, fromL_kids hC⟩
  have HL : Hid (Lies (kNd h) ok w0 (some ⟨bb, off, none⟩) d ks) := hL
  have HQ := put_by (And.intro hq hm)
  have HY := put_by Y
  have HNB := put_by hNb
  clear hNb
  have HI := put_by ih
  have HKM := put_by hkm
  have h4' : m ≤ 4 := by omega
  have hcap : m ≤ d := by rw [hm]; exact hL.1
  have HPa := put_by hPa
  have hdd : ∀ (f : FuncId), Fence.wide.fn f := fun _ => trivial
  have hBW' := put_by ((HY.out.low _ _ h0).2)
  clear hL hP hr ho hkm hq hJ1 hk1 h4 Y n0 n1 n2 hN0 hN1 hK h0 hnM hkM m1 m2 m3 y1 hb1 hpos hm ih hPa
  refine callsIn_of_wp_marks Try.func41 rfl trivial ?_ rfl
  simp only [Try.ntmps41, List.size_toArray, List.length_cons, List.length_nil, Nat.reduceAdd, Nat.reduceSub, Array.replicate_succ, Array.replicate_zero, List.push_toArray, List.append_toArray, List.nil_append, List.cons_append]
  obtain ⟨v0, v1, v2, v3, -⟩ := ST.out W1 (Kpt.refl _ _)
  gi_wp2_with ((try refine ⟨fun h => (by cases h), ?_⟩); gi_at_call 34; refine cF.out.mono ?_; rintro e w2 ⟨rfl, hS⟩; obtain ⟨r0, r1, r2, r3, -⟩ := ST.out w2 hS.out.2)
  gi_loopw [22] (fun x wr => x = .int .i64 0 ∧ w2 = wr) (fun _ _ => 0)
  case atStart => exact ⟨rfl, rfl⟩
  case round =>
  obtain ⟨rfl, rfl⟩ := hrel
  have HED : Hid (J pre₀ w2.drew ∧ Kpt M W1 w2.drew) := by
    obtain ⟨q1, q2⟩ := HY.out.step hS.out.1 ((Below.refl _ w2).drew)
    exact ⟨q1, hS.out.2.trans q2⟩
  gi_wp2
  refine wpIn_wide.2 ?_
  go_wp2
  go_region_held3 (fun V => V.cell? ⟨Bn, 0, none⟩ = some (.slice a 0 c) ∧ V.cell? ⟨Bn, 1, none⟩ = some (.slice (some ⟨bb, off, none⟩) m d) ∧ V.cell? ⟨Bk, 0, none⟩ = some (.slice ko km kc)) (go_keep) (first | (go_at_call 37; (with_reducible refine (cK.out _ HED.out).mono ?_); rintro e w5 ⟨p, rfl, hp, h9, hfl⟩; obtain ⟨s0, s1, s2, s3, -⟩ := ST.out _ h9.out.2; have hpd : ¬ d = p := (by omega); have ip : (p : Int) ≤ (m : Int) := (by omega)))
  gi_wp2
  have HG : Hid (∀ q, q <+: (ks.drop p).flatMap (fun k => fromL (flat h k) key) → q <+: fromL (flat (h + 1) ks) key) := fun q hq => by rw [hfl.out]; exact hq
  refine wpIn_loop_ghost_k (fun g a' V => ∃ (j : Nat) (ds : List Nat) (t0 t1 t4 t5 t6 t7 t8 t9 t10 t11 t12 t13 t14 t15 t16 t17 t18 t19 t20 t21 t22 t23 t24 t25 t26 t27 t28 t29 t30 t31 t32 t33 t34 t35 t39 t40 t41 t42 t43 t44 t45 t46 t47 t48 t49 t50 : Value), g = (m - p) - j ∧ j ≤ m - p ∧ a' = { tmps := #[t0, t1, .pointer (some ⟨Bk, 0, none⟩), .pointer (some ⟨W.heap.size, 0, none⟩), t4, t5, t6, t7, t8, t9, t10, t11, t12, t13, t14, t15, t16, t17, t18, t19, t20, t21, t22, t23, t24, t25, t26, t27, t28, t29, t30, t31, t32, t33, t34, t35, .slice (some ⟨bb, off + p * 2, none⟩) (m - p) (d - p), .int .i64 ((m - p : Nat) : Int), .int .i64 (j : Int), t39, t40, t41, t42, t43, t44, t45, t46, t47, t48, t49, t50], defers := ds.map markD } ∧ Hid (J (pre₀ ++ ((ks.drop p).take j).flatMap (fun k => fromL (flat h k) key)) V ∧ Kpt M W1 V ∧ (∀ D ∈ ds, W.heap.size ≤ D ∧ V.heap[D]? = some (.deferred (some []))) ∧ ds.Nodup)) (m - p) ?start ?round
  case start =>
    refine ⟨0, [], _, _, _, _, _, _, _, _, _, _, _, _, _, _, _, _, _, _, _, _, _, _, _, _, _, _, _, _, _, _, _, _, _, _, _, _, _, _, _, _, _, _, _, _, _, _, rfl, Nat.zero_le _, rfl, ?_⟩
    exact ⟨by simpa using h9.out.1, h9.out.2, by simp, List.nodup_nil⟩
  case round =>
    rintro g a' V ⟨j, ds, t0, t1, t4, t5, t6, t7, t8, t9, t10, t11, t12, t13, t14, t15, t16, t17, t18, t19, t20, t21, t22, t23, t24, t25, t26, t27, t28, t29, t30, t31, t32, t33, t34, t35, t39, t40, t41, t42, t43, t44, t45, t46, t47, t48, t49, t50, hg, hj, rfl, HR⟩ Jg K hJg hK
    obtain ⟨e0, e1, e2, e3, e4⟩ := ST.out V HR.out.2.1
    by_cases hlt : j < m - p
    · have hx : j < (ks.drop p).length := by rw [List.length_drop, ← HQ.out.2]; exact hlt
      obtain ⟨bb', off', a1, n1, c1, b1, m1, d1, ea, hbk, _, hrel, hcell⟩ := kid_cells (HL.out.drop p) hx
      cases ea
      have hlo := (HY.out.low _ _ HR.out.1).1
      obtain ⟨g0, g1⟩ := hcell V hlo
      have ij : (j : Int) < ((m - p : Nat) : Int) := by omega
      have hsV : W.heap.size < V.heap.size := World.block_lt_of_cell? _ _ e3
      have hkV : Bk < V.heap.size := World.block_lt_of_cell? _ _ e2
      gi_wp2_with ((try refine ⟨fun h => (by cases h), ?_⟩); gi_at_call 31; refine (callsIn_wide.2 (from_made _ _ _ _ _ _)).mono ?_; rintro e V2 ⟨rfl, rfl⟩)
      -- the world in which the kid is ranged over
      have hb2 : Below V.heap.size V (((V.alloc (.cells #[.slice a1 n1 c1, .slice b1 m1 d1] 53)).alloc (.cells #[.slice a1 n1 c1, .slice b1 m1 d1] 53)).alloc (.cells #[.slice ko km kc] 40)) := (((Below.refl _ V).alloc (Nat.le_refl _) _).alloc (by simp) _).alloc (by simp; omega) _
      have hT9 := (Two.new (V.alloc (.cells #[.slice a1 n1 c1, .slice b1 m1 d1] 53)) (.slice a1 n1 c1) (.slice b1 m1 d1) 53).later ((Below.refl _ _).alloc (Nat.le_refl _) (.cells #[.slice ko km kc] 40))
      rw [alloc_size] at hT9
      obtain ⟨z0, z1, -, -⟩ := hT9
      have z2 : (((V.alloc (.cells #[.slice a1 n1 c1, .slice b1 m1 d1] 53)).alloc (.cells #[.slice a1 n1 c1, .slice b1 m1 d1] 53)).alloc (.cells #[.slice ko km kc] 40)).cell? ⟨V.heap.size + 1 + 1, 0, none⟩ = some (.slice ko km kc) := by
        have hh := heap_alloc_new ((V.alloc (.cells #[.slice a1 n1 c1, .slice b1 m1 d1] 53)).alloc (.cells #[.slice a1 n1 c1, .slice b1 m1 d1] 53)) (.cells #[.slice ko km kc] 40)
        rw [alloc_size, alloc_size] at hh
        simp only [World.cell?, hh]
        rfl
      generalize ((V.alloc (.cells #[.slice a1 n1 c1, .slice b1 m1 d1] 53)).alloc (.cells #[.slice a1 n1 c1, .slice b1 m1 d1] 53)).alloc (.cells #[.slice ko km kc] 40) = V2 at hb2 z0 z1 z2 ⊢
      obtain ⟨hJ2, hK2⟩ := HY.out.step HR.out.1 hb2
      have mz1 : ¬ M V2 (V.heap.size + 1) := HY.out.new HR.out.1 hb2 (by omega)
      have mz2 : ¬ M V2 (V.heap.size + 1 + 1) := HY.out.new HR.out.1 hb2 (by omega)
      have lz1 : V.heap.size + 1 < V2.heap.size := World.block_lt_of_cell? _ _ z0
      have lz2 : V.heap.size + 1 + 1 < V2.heap.size := World.block_lt_of_cell? _ _ z2
      have hB2 := (HY.out.low _ _ hJ2).2
      obtain ⟨pre₁, hpre⟩ : ∃ q, q = pre₀ ++ ((ks.drop p).take j).flatMap (fun k => fromL (flat h k) key) := ⟨_, rfl⟩
      rw [← hpre] at hJ2
      obtain ⟨k, hk⟩ : ∃ k, k = (ks.drop p)[j] := ⟨_, rfl⟩
      rw [← hk] at hrel
      have hkq : Wq h k := by
        have e : ks = ks.take (p + j) ++ ks[p + j]'(by rw [List.length_drop] at hx; omega) :: ks.drop (p + j + 1) := by
          conv => lhs; rw [← List.take_append_drop (p + j) ks]
          rw [List.drop_eq_getElem_cons (by rw [List.length_drop] at hx; omega)]
        have : k = ks[p + j]'(by rw [List.length_drop] at hx; omega) := by rw [hk, List.getElem_drop]
        rw [this]
        exact HQ.out.1.kid e
      have hnext : pre₀ ++ ((ks.drop p).take (j + 1)).flatMap (fun k => fromL (flat h k) key) = pre₁ ++ fromL (flat h k) key := by
        rw [List.take_succ_eq_append_getElem hx, List.flatMap_append, hpre, hk, List.append_assoc]
        simp
      have hpref : ∀ q, q <+: fromL (flat h k) key → ∃ q', q' <+: fromL (flat (h + 1) ks) key ∧ pre₀ ++ q' = pre₁ ++ q := fun q hq => by
        refine ⟨((ks.drop p).take j).flatMap (fun k => fromL (flat h k) key) ++ q, HG.out _ ?_, by rw [hpre, List.append_assoc]⟩
        conv => rhs; rw [← List.take_append_drop (j + 1) (ks.drop p)]
        rw [List.flatMap_append, List.take_succ_eq_append_getElem hx, List.flatMap_append, ← hk, List.append_assoc]
        refine List.prefix_append_right_inj _ |>.2 ?_
        simp only [List.flatMap_cons, List.flatMap_nil, List.append_nil]
        exact hq.trans (List.prefix_append _ _)
      have hNk : pre₁.length + (fromL (flat h k) key).length ≤ N := by
        refine Nat.le_trans ?_ HNB.out
        have e1 := congrArg List.length hnext
        simp only [List.length_append] at e1
        rw [← e1, hfl.out]
        exact Nat.add_le_add_left (flatMap_take_le _ _ _) _
      have HNK := put_by hNk
      have hds : ∀ D ∈ ds, D < V2.heap.size ∧ ¬ M V2 D ∧ V2.heap[D]? = some (.deferred (some [])) := fun D hD => by
        obtain ⟨q1, q2⟩ := HR.out.2.2.1 D hD
        have hDl : D < V.heap.size := (Array.getElem?_eq_some_iff.1 q2).1
        have hnm : ¬ M V D := fun hm => by
          rcases HY.out.kind _ _ HR.out.1 D hm with q | ⟨o, q, hc⟩
          · have := (HY.out.low _ _ HR.out.1).2
            have hBW : B ≤ W.heap.size := hBW'.out
            omega
          · rw [q2] at q
            cases q
            cases hc
        obtain ⟨q3, q4⟩ := hK2.2 D hDl hnm
        exact ⟨by omega, q4, q3.trans q2⟩
      have HNX : Hid (∀ (D : Nat) (V' : World), V2.heap.size ≤ D → J (pre₁ ++ fromL (flat h k) key) V' ∧ Kpt M V2 V' → V'.heap[D]? = some (.deferred (some [])) → J (pre₀ ++ ((ks.drop p).take (j + 1)).flatMap (fun k => fromL (flat h k) key)) V' ∧ Kpt M W1 V' ∧ (∀ D' ∈ D :: ds, W.heap.size ≤ D' ∧ V'.heap[D']? = some (.deferred (some []))) ∧ (D :: ds).Nodup) := fun D V' hD ⟨q1, q2⟩ q3 => by
        refine ⟨by rw [hnext]; exact q1, HR.out.2.1.trans (hK2.trans q2), fun D' hD' => ?_, List.nodup_cons.2 ⟨fun hm => by have := (hds D hm).1; omega, HR.out.2.2.2⟩⟩
        rcases List.mem_cons.1 hD' with rfl | hD'
        · exact ⟨by omega, q3⟩
        · obtain ⟨w1, w2, w3⟩ := hds D' hD'
          exact ⟨(HR.out.2.2.1 D' hD').1, (q2.2 D' w1 w2).1.trans w3⟩
      refine range_ents (ok := ok) (w0 := w0) (N := (fromL (flat h k) key).length) (xs := fromL (flat h k) key) (c0 := .ret) (gf := 41) (lb := #[.pointer (some ⟨V.heap.size + 1, 0, none⟩), .pointer (some ⟨V.heap.size + 1 + 1, 0, none⟩)]) rfl (enters_of Try.func41 (by kernel_rfl) rfl) rfl
        (fun pre V' => J (pre₁ ++ pre) V' ∧ Kpt M V2 V') (fun pre V' => Jx (pre₁ ++ pre) V' ∧ KptX M V2 V') M ?own ?ownx ?low ?kind ?same ⟨by simpa using hJ2, Kpt.refl _ _⟩
        (fun u v E => { tmps := #[t0, t1, .pointer (some ⟨Bk, 0, none⟩), .pointer (some ⟨W.heap.size, 0, none⟩), t4, t5, t6, t7, t8, .pointer (some ⟨V.heap.size, 0, none⟩), .pointer (some ⟨E, 0, none⟩), t11, t12, t13, t14, t15, t16, t17, t18, t19, t20, t21, t22, t23, t24, t25, t26, t27, t28, t29, t30, t31, t32, t33, t34, t35, .slice (some ⟨bb, off + p * 2, none⟩) (m - p) (d - p), .int .i64 ((m - p : Nat) : Int), .int .i64 (j : Int), .bool true, .pointer (some ⟨bb, off + p * 2 + j * 2, none⟩), .agg #[.slice a1 n1 c1, .slice b1 m1 d1], .agg #[.slice a1 n1 c1, .slice b1 m1 d1], .slice ko km kc, .func (.func 41) #[] #[.pointer (some ⟨V.heap.size + 1, 0, none⟩), .pointer (some ⟨V.heap.size + 1 + 1, 0, none⟩)], .agg #[u, v], t46, t47, t48, t49, t50], defers := [] }) ?assign ?body ?iter ?done ?stop
      case own =>
        rintro pre X Y' row ⟨q1, q2⟩ hg' hr'
        have hst : StepFrom B X Y' row := ⟨hg', fun r e => ⟨by have := (hr' r e).1; omega, (hr' r e).2⟩⟩
        refine ⟨HY.out.own _ X Y' row q1 hg' hst.2, Nat.le_trans q2.1 hg'.size, fun b hb hm => ?_⟩
        obtain ⟨w1, w2⟩ := q2.2 b hb hm
        exact ⟨(hg'.block b (Nat.lt_of_lt_of_le hb q2.1) (fun e => by have := (hr' b e.symm).1; omega)).trans w1, fun h => w2 (HY.out.same _ X Y' row q1 hst b h)⟩
      case ownx =>
        rintro pre X Y' row ⟨q1, q2⟩ hg' hr'
        refine ⟨HY.out.ownx _ X Y' row q1 hg' (fun r e => ⟨by have := (hr' r e).1; omega, (hr' r e).2⟩), Nat.le_trans q2.1 hg'.size, fun b hb hm => ?_⟩
        exact (hg'.block b (Nat.lt_of_lt_of_le hb q2.1) (fun e => by have := (hr' b e.symm).1; omega)).trans (q2.2 b hb hm)
      case low => exact fun pre V' hh => ⟨(HY.out.low _ _ hh.1).1, hh.2.1⟩
      case kind =>
        rintro pre V' ⟨q1, q2⟩ b hb
        rcases HY.out.kind _ _ q1 b hb with q | q
        · exact .inl (by omega)
        · exact .inr q
      case same => exact fun pre X Y' row hh hst b hb => HY.out.same _ X Y' row hh.1 ⟨hst.1, fun r e => ⟨by have := (hst.2 r e).1; omega, (hst.2 r e).2⟩⟩ b hb
      case assign =>
        intro l' m' x1 y1 z1 x2 y2 z2 X K' hK'
        gi_wp2
        exact hK'
      case body =>
        intro l' m' pre x u v E X hpN hX hx' hT hE
        obtain ⟨-, -, -, e3', -⟩ := ST.out X (HR.out.2.1.trans (hK2.trans hX.2))
        obtain ⟨c0', c1', -, -⟩ := hT
        obtain ⟨fn, tmps, assign, body, hy, hRd⟩ := HY.out.round (m' - 1) (pre₁ ++ pre) x u v X (by have := HNK.out; rw [List.length_append]; omega) hX.1 hx'
        have HX := put_by hX
        clear hX hx' hcell hrel hnext hpref hds HNX hb2 hlo hpN
        gi_wp2
        refine ⟨fun h => (by cases h), RoundIn.mono (show RoundIn (Fence.wide.inRound l') (m' - 1) Try.prog l fn tmps assign body X _ from hRd) ?_⟩
        rintro e W3 (⟨rfl, hJ3, hk3⟩ | ⟨rfl, hJx3, hk3⟩)
        · gi_wp2
          exact ⟨⟨by rw [← List.append_assoc]; exact hJ3, HX.out.2.trans hk3⟩, hk3⟩
        · gi_wp2
          exact ⟨rfl, ⟨by rw [← List.append_assoc]; exact hJx3, HX.out.2.transX hk3⟩, hk3⟩
      case iter =>
        intro l' B' J' Jx' M' X m' Y' hold hsz hM hJ'
        have hc : ∀ (b o : Nat) (y : Value), b < V2.heap.size → V2.cell? ⟨b, o, none⟩ = some y → X.cell? ⟨b, o, none⟩ = some y := fun b o y hb e => (World.cell?_of_block (w := V2) (hold b hb)).trans e
        have := HI.out k hkq a1 b1 n1 c1 m1 d1 hrel l' B' _ M' J' Jx' Y' [] X m' (V.heap.size + 1) (V.heap.size + 1 + 1) (hc _ _ _ lz1 z0) (hc _ _ _ lz1 z1) (fun h => (hM _ h).elim mz1 (by omega)) (by rw [← HKM.out]; exact hc _ _ _ lz2 z2) (fun h => (hM _ h).elim mz2 (by omega)) hJ' (by simp)
        simpa using this
      case done =>
        intro D V' hD hI' hdef
        have HN9 := put_by (HNX.out D V' hD hI' hdef)
        clear hI' hdef hcell hrel hnext hpref hds HNX hb2 hlo
        gi_wp2
        have ej : (j : Int) + 1 = ((j + 1 : Nat) : Int) := by omega
        simp only [ej]
        refine Handed.intro ((m - p) - (j + 1)) (by omega) ?_
        refine hJg _ _ _ ?_
        refine ⟨j + 1, D :: ds, ?_⟩
        repeat apply Exists.intro
        exact ⟨rfl, by omega, rfl, HN9⟩
      case stop =>
        intro D q V' hD hq' hI' hdef
        obtain ⟨q', hq1, hq2⟩ := hpref q hq'
        have HX9 : Hid (∃ q, q <+: fromL (flat (h + 1) ks) key ∧ Jx (pre₀ ++ q) V') := ⟨q', hq1, by rw [hq2]; exact hI'.1⟩
        have HD9 : Hid (∀ D' ∈ D :: ds, W.heap.size ≤ D' ∧ V'.heap[D']? = some (.deferred (some []))) := fun D' hD' => by
          rcases List.mem_cons.1 hD' with rfl | hD'
          · exact ⟨by omega, hdef⟩
          · obtain ⟨w1, w2, w3⟩ := hds D' hD'
            exact ⟨(HR.out.2.2.1 D' hD').1, (hI'.2.2 D' w1 w2).trans w3⟩
        have HN9 : Hid ((D :: ds).Nodup) := List.nodup_cons.2 ⟨fun hm => by have := (hds D hm).1; omega, HR.out.2.2.2⟩
        clear hI' hdef hcell hrel hnext hpref hds HNX hb2 hlo
        gi_wp2
        exact leaves_marks (fun V => ∃ q, q <+: fromL (flat (h + 1) ks) key ∧ Jx (pre₀ ++ q) V) W.heap.size (fun V D ⟨q, w1, w2⟩ w3 w4 => ⟨q, w1, HY.out.ownx.putObj _ w2 (by have := hBW'.out; omega) w4 rfl⟩) (fun V hV => ⟨_, results_none rfl _ _ _, ⟨_, rfl⟩, .inr hV⟩) (D :: ds) V' HX9.out HD9.out HN9.out
    · have hjm : m - p ≤ j := by omega
      have HE : Hid (J (pre₀ ++ fromL (flat (h + 1) ks) key) V) := by
        have := HR.out.1
        rw [List.take_of_length_le (by rw [List.length_drop, ← HQ.out.2]; exact hjm), ← hfl.out] at this
        exact this
      have ij : ¬ ((j : Int) < ((m - p : Nat) : Int)) := by omega
      gi_wp2
      exact leaves_marks (fun V => J (pre₀ ++ fromL (flat (h + 1) ks) key) V) W.heap.size (fun V D w2 w3 w4 => HY.out.own.putObj _ w2 (by have := hBW'.out; omega) w4 rfl) (fun V hV => ⟨_, results_none rfl _ _ _, ⟨_, rfl⟩, .inl hV⟩) ds V HE.out HR.out.2.2.1 HR.out.2.2.2

theorem fromC_any (ok : Nat → Prop) (w0 : World) (key : List Int) (ko : Option Addr) (kc : Nat) (ho : Octs w0 ko kc key) : ∀ (h : Nat) (t : Tr h), Wq h t → FromC ok w0 key ko kc h t
  | 0, es, hq => fromC_leaf ok w0 key ko kc ho es hq
  | h + 1, ks, hq => fromC_inner ok w0 key ko kc ho h ks hq (fromC_any ok w0 key ko kc ho h)

end Go.Proofs.Ytcegkgobkpakiaa
