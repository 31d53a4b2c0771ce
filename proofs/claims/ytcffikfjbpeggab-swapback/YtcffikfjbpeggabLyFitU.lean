/- Whether all are numbers of units, none of them twice; whether a layout may be. -/
import Derived.Test.YtcffikfjbpeggabLyFit
namespace Go.Proofs.Ytcffikfjbpeggab
open Go.ChangeShapes Go.WideShapes Go.ChangeAt Go.RowKit Go.Shelf

attribute [local go_sem] Oper.semAt_some

/-- which of the six were seen -/
def Seen (W : World) (B : Nat) (pre : List Int) : Prop := ∀ k : Nat, k < 6 → W.cell? ⟨B, k, none⟩ = some (.bool (decide ((k : Int) ∈ pre))) ∧ W.frozen? ⟨B, k, none⟩ = false

theorem Seen.new (W : World) (ty : TypeId) : Seen (W.alloc (.cells #[.bool false, .bool false, .bool false, .bool false, .bool false, .bool false] ty)) W.heap.size [] := by
  intro k hk
  have hh := heap_alloc_new W (.cells #[.bool false, .bool false, .bool false, .bool false, .bool false, .bool false] ty)
  refine ⟨?_, ?_⟩
  · simp only [World.cell?, hh, List.not_mem_nil, decide_false]
    match k, hk with
    | 0, _ => rfl
    | 1, _ => rfl
    | 2, _ => rfl
    | 3, _ => rfl
    | 4, _ => rfl
    | 5, _ => rfl
  · unfold World.frozen?
    rw [hh]
    simp

theorem Seen.mark {W : World} {B : Nat} {pre : List Int} (h : Seen W B pre) {k : Nat} (hk : k < 6) : Seen (W.setCell ⟨B, k, none⟩ (.bool true)) B (pre ++ [(k : Int)]) := by
  intro j hj
  refine ⟨?_, by rw [World.frozen?_setCell]; exact (h j hj).2⟩
  by_cases e : j = k
  · subst e
    rw [World.cell?_setCell_same' _ _ _ (by rw [(h j hk).1]; rfl)]
    simp
  · have : (j : Int) ≠ (k : Int) := by omega
    rw [World.cell?_setCell_other W ⟨B, k, none⟩ ⟨B, j, none⟩ _ (fun e2 => e (by cases e2; rfl)), (h j hj).1]
    simp [this]

theorem Seen.own {W W' : World} {B : Nat} {pre : List Int} {row : Option Nat} (h : Seen W B pre) (hg : W.grownBy W' row) (hr : ∀ r, row = some r → ∃ o : Obj, W.heap[r]? = some o ∧ o.isCells = false) : Seen W' B pre :=
  fun k hk => ⟨cell_kept (h k hk).1 hg hr, (frozen_kept (h k hk).1 hg hr).trans (h k hk).2⟩

set_option maxRecDepth 100000 in
set_option maxHeartbeats 4000000 in
theorem fitUnits_any (a : Option Addr) (cap : Nat) (cs : List (List Int)) (hr1 : cs.length ≤ 140737488351232) (hr2 : ∀ c ∈ cs, c.length ≤ 140737488351232) (w : World) (hL : Lies (kRow kInt) (fun b => b < w.heap.size) w a cap cs) :
    Calls Try.prog 15 #[.slice a cs.length cap] w fun e w' => e = .returned (.bool (fitU cs.flatten)) ∧ Below w.heap.size w w' := by
  have h1 : 1 ≤ 9 := by decide
  have hdd : ∀ (f : FuncId), Fence.wide.fn f := fun _ => trivial
  obtain ⟨len, hlen⟩ : ∃ len, len = cs.length := ⟨_, rfl⟩
  rw [← hlen]
  have HL := put_by hlen
  clear hlen
  refine callsIn_wide.1 (callsIn_of_wp_marks (n := 9) Try.func15 rfl trivial ?_ rfl)
  simp only [Try.ntmps15, List.size_toArray, List.length_cons, List.length_nil, Nat.reduceAdd, Nat.reduceSub, Array.replicate_succ, Array.replicate_zero, List.push_toArray, List.append_toArray, List.nil_append, List.cons_append]
  gi_wp2_with ((try refine ⟨fun h => (by cases h), ?_⟩); gi_at_call 18; refine (units_in Fence.wide _ trivial rfl _ _ _ _).mono ?_; rintro e w' ⟨rfl, rfl⟩)
  have bU := Boxed.new w 4 (.bool false)
  have sN := Seen.new (w.alloc (.cells #[.bool false] 4)) 44
  have bN := Boxed.new ((w.alloc (.cells #[.bool false] 4)).alloc (.cells #[.bool false, .bool false, .bool false, .bool false, .bool false, .bool false] 44)) 23 (.slice a len cap)
  rw [World.size_alloc] at sN
  rw [World.size_alloc, World.size_alloc] at bN
  have hB0 : Below w.heap.size w (((w.alloc (.cells #[.bool false] 4)).alloc (.cells #[.bool false, .bool false, .bool false, .bool false, .bool false, .bool false] 44)).alloc (.cells #[.slice a len cap] 23)) := (((Below.refl _ w).alloc (Nat.le_refl _) _).alloc (by simp) _).alloc (by simp; omega) _
  refine wpIn_rangeFunc_ownG rfl h1 (gf := 21) (lb := #[.pointer (some ⟨w.heap.size + 1 + 1, 0, none⟩)]) rfl trivial (enters_of Try.func21 (by kernel_rfl) rfl)
    (units_stops Fence.wide (9 - 1) trivial rfl (by decide) (w.heap.size + 1 + 1) w.heap.size a cap cs (by omega) hr2 _ (by simp) (by rw [← HL.out]; exact bN.cell) (hL.move (Kept.of_below hB0) (fun _ _ h => h))) belowK_t (belowK_b (by simp; omega)) (Below.refl _ _) (fun _ => rfl)
    (fun pre W => (fitU pre = true ∧ W.cell? ⟨w.heap.size, 0, none⟩ = some (.bool false) ∧ W.frozen? ⟨w.heap.size, 0, none⟩ = false ∧ Seen W (w.heap.size + 1) pre) ∧ Below w.heap.size w W)
    (fun c pre W => (c = .ret ∧ fitU pre = false ∧ W.cell? ⟨w.heap.size, 0, none⟩ = some (.bool false)) ∧ Below w.heap.size w W)
    (OwnFrom.and (Own.from (fun s A B row hs hg hr => ⟨hs.1, cell_kept hs.2.1 hg hr, (frozen_kept hs.2.1 hg hr).trans hs.2.2.1, hs.2.2.2.own hg hr⟩) _) (ownFrom_below (Nat.le_refl _) (by simp; omega)))
    (fun c => OwnFrom.and (Own.from (fun s A B row hs hg hr => ⟨hs.1, hs.2.1, cell_kept hs.2.2 hg hr⟩) _) (ownFrom_below (Nat.le_refl _) (by simp; omega)))
    ⟨⟨rfl, ((bU.alloc _).alloc _).cell, ((bU.alloc _).alloc _).frozen, sN.own (World.grownBy_alloc _ _ none) (fun r e => by cases e)⟩, hB0⟩
    (fun x => { tmps := #[.slice a len cap, undef, .pointer (some ⟨w.heap.size, 0, none⟩), .pointer (some ⟨w.heap.size + 1, 0, none⟩), .int .i64 x, .slice a len cap, .func (.func 21) #[] #[.pointer (some ⟨w.heap.size + 1 + 1, 0, none⟩)], .int .i64 x, undef, undef, undef, undef, undef, undef, undef, undef, undef, undef], defers := [] }) ?assign ?body ?done ?stop
  case assign =>
    intro l x W K hK
    gi_wp2
    exact hK
  case body =>
    rintro l pre x W ⟨⟨hp, hc, hfr, hs⟩, hB⟩ _
    have HS := put_by hs
    have HP := put_by (fitU_snoc (l := pre) (x := x))
    rw [hp, Bool.true_and] at HP
    clear hs
    by_cases hx : 0 ≤ x ∧ x ≤ 5
    · obtain ⟨k, rfl⟩ : ∃ k : Nat, x = k := ⟨x.toNat, by omega⟩
      have hk : k < 6 := by omega
      have hck := (HS.out k hk).1
      have hfk := (HS.out k hk).2
      have ed : decide (0 ≤ (k : Int) ∧ (k : Int) ≤ 5) = true := decide_eq_true hx
      by_cases hm : (k : Int) ∈ pre
      · rw [decide_eq_true hm] at hck
        gi_wp2_with (gi_at_call 19; refine (CallsIn.inRound l (callsIn_wide.2 (isUnit_any _ _))).mono ?_; rintro e w' ⟨rfl, rfl⟩; rw [ed])
        exact ⟨(KeepsOthers.setCell _ _ _).from _, ⟨rfl, by rw [HP.out, decide_eq_false (fun h => h.2 hm)], World.cell?_setCell_same' _ _ _ (by rw [hc]; rfl)⟩, hB.setCell (p := ⟨w.heap.size, 0, none⟩) (Nat.le_refl _) _⟩
      · rw [decide_eq_false hm] at hck
        gi_wp2_with (gi_at_call 19; refine (CallsIn.inRound l (callsIn_wide.2 (isUnit_any _ _))).mono ?_; rintro e w' ⟨rfl, rfl⟩; rw [ed])
        exact ⟨(KeepsOthers.setCell _ _ _).from _, (Below.refl _ _).setCell (p := ⟨w.heap.size + 1, k, none⟩) (by simp) _, ⟨by rw [HP.out, decide_eq_true ⟨hx, hm⟩], (World.cell?_setCell_other _ _ _ _ (fun e => by have := congrArg Addr.block e; simp at this)).trans hc, by rw [World.frozen?_setCell]; exact hfr, HS.out.mark hk⟩, hB.setCell (p := ⟨w.heap.size + 1, k, none⟩) (by simp) _⟩
    · have ed : decide (0 ≤ x ∧ x ≤ 5) = false := decide_eq_false hx
      gi_wp2_with (gi_at_call 19; refine (CallsIn.inRound l (callsIn_wide.2 (isUnit_any _ _))).mono ?_; rintro e w' ⟨rfl, rfl⟩; rw [ed])
      exact ⟨(KeepsOthers.setCell _ _ _).from _, ⟨rfl, by rw [HP.out, decide_eq_false (fun h => hx h.1)], World.cell?_setCell_same' _ _ _ (by rw [hc]; rfl)⟩, hB.setCell (p := ⟨w.heap.size, 0, none⟩) (Nat.le_refl _) _⟩
  case done =>
    rintro D ys W hD rfl ⟨⟨hp, hcr, hfr, hs⟩, hB⟩ hK
    gi_wp2
    have hK' := (KeepsOthers.setCell W ⟨w.heap.size, 0, none⟩ (.bool true)).same D _ hK rfl
    refine ⟨by simp, .inl ⟨_, _, rfl, run_takeDeferred hK', ?_⟩⟩
    have hc5 := cell_kept (World.cell?_setCell_same' W ⟨w.heap.size, 0, none⟩ (.bool true) (by rw [hcr]; rfl)) (grownBy_putObj' _ D (.deferred none)) (fun r e => by cases e; exact ⟨_, hK', rfl⟩)
    refine ⟨.bool true, ?_, by rw [hp], (hB.setCell (p := ⟨w.heap.size, 0, none⟩) (by simp) _).trans (belowK_b (w := w) (Nat.le_refl _) _ D _ _ (by simp at hD; omega) hK' rfl rfl)⟩
    simp [results, Try.f15, go_sem, hc5]
  case stop =>
    rintro D c pre W hD ⟨t, hpre⟩ ⟨⟨rfl, hx, hcr⟩, hB⟩ hK
    gi_wp2
    refine ⟨by simp, .inl ⟨_, _, rfl, run_takeDeferred hK, ?_⟩⟩
    have hc5 := cell_kept hcr (grownBy_putObj' _ D (.deferred none)) (fun r e => by cases e; exact ⟨_, hK, rfl⟩)
    have hz : fitU cs.flatten = false := by
      rw [Bool.eq_false_iff]
      intro h
      have := fitU_take h pre.length
      rw [← hpre, List.take_left] at this
      rw [this] at hx
      cases hx
    refine ⟨.bool false, ?_, by rw [hz], hB.trans (belowK_b (w := w) (Nat.le_refl _) W D _ _ (by simp at hD; omega) hK rfl rfl)⟩
    simp [results, Try.f15, go_sem, hc5]

end Go.Proofs.Ytcffikfjbpeggab
