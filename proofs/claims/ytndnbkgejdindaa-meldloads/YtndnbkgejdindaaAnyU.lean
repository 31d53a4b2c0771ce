/- A region that draws its order: what is taken first as long as what it reads stands; the last one of a row put in. -/
import Derived.Test.YtndnbkgejdindaaRegTake
namespace Go.Proofs.Ytndnbkgejdindaa
open Go.ChangeShapes Go.WideShapes Go.ChangeAt Go.RowKit

/-- whatever order is picked, and S holds behind each operation as long as number m has not come up -/
def wpAnyU (P : Program) (ops : Array Oper) (Q : Exit → Act → World → Prop) (S : World → Prop) (m : Nat) : Nat → Array Bool → Act → World → Prop
  | 0, listed, a, w => Region.ready .any ops listed = [] ∧ Q .normal a w
  | fuel + 1, listed, a, w =>
    (Region.ready .any ops listed = [] → Q .normal a w) ∧
    ∀ i ∈ Region.ready .any ops listed, wpOp P ops Q i (fun a' w' => ((listed.setIfInBounds i true).getD m true = false → S w') ∧ wpAnyU P ops Q S m fuel (listed.setIfInBounds i true) a' w') a w

section
variable {P : Program} {ops : Array Oper} {Q : Exit → Act → World → Prop} {S : World → Prop} {m : Nat}

theorem any_of_U : ∀ (fuel : Nat) (listed : Array Bool) (a : Act) (w : World), wpAnyU P ops Q S m fuel listed a w → wpAny P .any ops Q fuel listed a w
  | 0, _, _, _, h => h
  | fuel + 1, _, _, _, h => ⟨h.1, fun i hi => wpOp_mono (fun a' w' h' => any_of_U fuel _ a' w' h'.2) (h.2 i hi)⟩

/-- number k, for which number m waits, may be taken first -/
theorem U_first {k : Nat} {ok om : Oper} {v : Value} (hk : ops[k]? = some ok) (hom : ops[m]? = some om) (hwait : ∃ e ∈ om.after, Region.binds .any e = true ∧ e.on = k) (hsel : ∀ (j : Nat) (o : Oper) cs b, ops[j]? = some o → o.op ≠ .select cs b)
    (hQ : ∀ c a w, Q (.panic c) (a.put ok.dst v) w → Q (.panic c) a w) :
    ∀ (fuel : Nat) (listed : Array Bool) (a : Act) (w : World),
      (∀ j oj, ops[j]? = some oj → j ≠ k → listed.getD j true = false → (∀ e ∈ oj.after, Region.binds .any e = true → e.on ≠ k) → ok.apart ops oj = true) →
      k ∈ Region.ready .any ops listed → listed.getD m true = false → YieldsIf P ops S ok v a → S w →
      wpAnyU P ops Q S m fuel (listed.setIfInBounds k true) (a.put ok.dst v) w → wpAnyU P ops Q S m (fuel + 1) listed a w := by
  intro fuel
  induction fuel with
  | zero =>
    intro listed a w _ hr hm hy hS H
    refine ⟨fun h => (by rw [h] at hr; cases hr), fun j hj => ?_⟩
    by_cases hjk : j = k
    · subst hjk
      exact hy.wpOp hk hS ⟨fun _ => hS, H⟩
    · have := ready_mono hj hjk
      rw [H.1] at this
      cases this
  | succ fuel ih =>
    intro listed a w hfree hr hm hy hS H
    refine ⟨fun h => (by rw [h] at hr; cases hr), fun j hj => ?_⟩
    by_cases hjk : j = k
    · subst hjk
      exact hy.wpOp hk hS ⟨fun _ => hS, H⟩
    · have h1 := H.2 j (ready_mono hj hjk)
      obtain ⟨hjun, oj, hoj, hall⟩ := mem_ready.1 hj
      have hnot : ∀ e ∈ oj.after, Region.binds .any e = true → e.on ≠ k := fun e he hb heq => by
        have h1 := hall e he hb
        have h0 := (mem_ready.1 hr).1
        rw [heq] at h1
        rcases Nat.lt_or_ge k listed.size with h' | h'
        · simp [h'] at h0 h1; rw [h0] at h1; cases h1
        · simp [Array.getElem?_eq_none h'] at h1
      have hjm : j ≠ m := fun e => by
        subst e
        rw [hom] at hoj
        cases hoj
        obtain ⟨e, he, hb, heq⟩ := hwait
        exact hnot e he hb heq
      have hm2 : (listed.setIfInBounds j true).getD m true = false := by rw [getD_set_ne true hjm]; exact hm
      have h2 := wpOp_putIf hoj (hfree j oj hoj hjk hjun hnot) (fun cs b => hsel k ok cs b hk) (fun cs b => hsel j oj cs b hoj) hQ hy h1
      have hfree' : ∀ i oi, ops[i]? = some oi → i ≠ k → (listed.setIfInBounds j true).getD i true = false →
          (∀ e ∈ oi.after, Region.binds .any e = true → e.on ≠ k) → ok.apart ops oi = true := fun i oi hi hik hun hno => by
        refine hfree i oi hi hik ?_ hno
        by_cases hji : j = i
        · subst hji; exact hjun
        · rw [getD_set_ne true hji] at hun; exact hun
      have hkm : k ≠ m := fun e => by
        subst e
        rw [hom] at hk
        cases hk
        obtain ⟨e, he, hb, heq⟩ := hwait
        have h1 := (mem_ready.1 hr)
        obtain ⟨h0, o, ho, hal⟩ := h1
        rw [hom] at ho
        cases ho
        have h1 := hal e he hb
        rw [heq] at h1
        rcases Nat.lt_or_ge k listed.size with h' | h'
        · simp [h'] at h0 h1; rw [h0] at h1; cases h1
        · simp [Array.getElem?_eq_none h'] at h1
      refine wpOp_mono (fun a' w' h3 => ?_) h2
      obtain ⟨h3, h4, h5⟩ := h3
      have hS' : S w' := h4 (by rw [getD_set_ne true hjm, getD_set_ne true hkm]; exact hm)
      refine ⟨fun _ => hS', ih (listed.setIfInBounds j true) a' w' hfree' (ready_mono hr (Ne.symm hjk)) hm2 h3 hS' ?_⟩
      rw [Array.setIfInBounds_comm _ _ hjk]
      exact h5

theorem U_take {k : Nat} {ok om : Oper} {v : Value} {fuel : Nat} {listed : Array Bool} {a : Act} {w : World} (hk : ops[k]? = some ok) (hom : ops[m]? = some om) (hwait : (om.after.any fun e => Region.binds .any e && (e.on == k)) = true)
    (hs : Region.noSelect ops = true) (hf : Region.free .any ops listed k = true) (hr : (Region.ready .any ops listed).contains k = true) (hm : listed.getD m true = false)
    (hQ : ∀ c a w, Q (.panic c) (a.put ok.dst v) w → Q (.panic c) a w) (hy : YieldsIf P ops S ok v a) (hS : S w)
    (h : wpAnyU P ops Q S m fuel (listed.setIfInBounds k true) (a.put ok.dst v) w) : wpAnyU P ops Q S m (fuel + 1) listed a w :=
  U_first hk hom (by
    simp only [Array.any_eq_true', Bool.and_eq_true, beq_iff_eq] at hwait
    exact hwait) (Region.noSelect_spec hs) hQ fuel listed a w (Region.free_spec hk hf) (by simpa using hr) hm hy hS h

/-- one alone may come up -/
theorem U_one {i : Nat} {o : Oper} {fuel : Nat} {listed listed' : Array Bool} {a : Act} {w : World} (hr : Region.ready .any ops listed = [i]) (ho : ops[i]? = some o) (hl : listed.setIfInBounds i true = listed') (hg : o.guard = none)
    (h : ∀ K : Act → World → Prop, (∀ a w, (listed'.getD m true = false → S w) → wpAnyU P ops Q S m fuel listed' a w → K a w) → o.wp P a w K Q) : wpAnyU P ops Q S m (fuel + 1) listed a w := by
  subst hl
  refine ⟨fun h0 => (by rw [hr] at h0; cases h0), fun j hj => ?_⟩
  rw [hr] at hj
  obtain rfl := List.mem_singleton.1 hj
  refine wpOp_step ho (fun K' hK => ?_)
  simp only [Region.wanted, hg, if_true]
  exact h K' (fun a w h1 h2 => hK a w ⟨h1, h2⟩)

theorem U_done {listed : Array Bool} {a : Act} {w : World} (hr : Region.ready .any ops listed = []) (h : Q .normal a w) : ∀ fuel, wpAnyU P ops Q S m fuel listed a w
  | 0 => ⟨hr, h⟩
  | _ + 1 => ⟨fun _ => h, by rw [hr]; simp⟩

end

theorem region_plain {P : Program} {ops : Array Oper} {id : Nat} {Q : Exit → Act → World → Prop} {a : Act} {w : World} (S : World → Prop) (m : Nat) (hm : P.follows .mixedOrders = true)
    (h : wpAnyU P ops Q S m ops.size (Array.replicate ops.size false) a w.drew) : (Code.region id ops true).wp P Q a w :=
  wp_region_any hm (any_of_U _ _ _ _ h)

section
variable {P : Program} {ops : Array Oper} {Q : Exit → Act → World → Prop} {S : World → Prop} {m : Nat}

/-- number k, for which number m waits by way of others, may be taken first -/
theorem V_firstX {k : Nat} {ok : Oper} {v : Value} (X : List Nat) (hk : ops[k]? = some ok) (hmX : m ∈ X) (hw : ∀ x ∈ X, ∃ ox, ops[x]? = some ox ∧ ∃ e ∈ ox.after, Region.binds .any e = true ∧ (e.on = k ∨ e.on ∈ X)) (hsel : ∀ (j : Nat) (o : Oper) cs b, ops[j]? = some o → o.op ≠ .select cs b)
    (hQ : ∀ c a w, Q (.panic c) (a.put ok.dst v) w → Q (.panic c) a w) :
    ∀ (fuel : Nat) (listed : Array Bool) (a : Act) (w : World),
      (∀ j oj, ops[j]? = some oj → j ≠ k → listed.getD j true = false → (∀ e ∈ oj.after, Region.binds .any e = true → e.on ≠ k) → ok.apart ops oj = true) →
      k ∈ Region.ready .any ops listed → (∀ x ∈ X, listed.getD x true = false) → YieldsIf P ops S ok v a → S w →
      wpAnyU P ops Q S m fuel (listed.setIfInBounds k true) (a.put ok.dst v) w → wpAnyU P ops Q S m (fuel + 1) listed a w := by
  intro fuel
  induction fuel with
  | zero =>
    intro listed a w _ hr hm hy hS H
    refine ⟨fun h => (by rw [h] at hr; cases hr), fun j hj => ?_⟩
    by_cases hjk : j = k
    · subst hjk
      exact hy.wpOp hk hS ⟨fun _ => hS, H⟩
    · have := ready_mono hj hjk
      rw [H.1] at this
      cases this
  | succ fuel ih =>
    intro listed a w hfree hr hm hy hS H
    refine ⟨fun h => (by rw [h] at hr; cases hr), fun j hj => ?_⟩
    by_cases hjk : j = k
    · subst hjk
      exact hy.wpOp hk hS ⟨fun _ => hS, H⟩
    · have h1 := H.2 j (ready_mono hj hjk)
      have hun : ∀ i, listed.getD i true = false → ¬ (listed[i]?.getD false = true) := fun i h0 h1 => by
        rcases Nat.lt_or_ge i listed.size with h' | h'
        · simp [h'] at h0 h1; rw [h0] at h1; cases h1
        · simp [Array.getElem?_eq_none h'] at h1
      have hnX : ∀ i, i ∈ Region.ready .any ops listed → i ∉ X := fun i hi hiX => by
        obtain ⟨ox, hox, e, he, hb, heq⟩ := hw i hiX
        obtain ⟨_, oi, hoi, hall⟩ := mem_ready.1 hi
        rw [hox] at hoi
        cases hoi
        have h2 := hall e he hb
        rcases heq with heq | heq
        · rw [heq] at h2
          exact hun k (mem_ready.1 hr).1 (by simpa using h2)
        · exact hun _ (hm _ heq) (by simpa using h2)
      obtain ⟨hjun, oj, hoj, hall⟩ := mem_ready.1 hj
      have hnot : ∀ e ∈ oj.after, Region.binds .any e = true → e.on ≠ k := fun e he hb heq => by
        have h2 := hall e he hb
        rw [heq] at h2
        exact hun k (mem_ready.1 hr).1 (by simpa using h2)
      have hjm : j ≠ m := fun e => hnX j hj (e ▸ hmX)
      have hm2 : ∀ x ∈ X, (listed.setIfInBounds j true).getD x true = false := fun x hx => by
        have hjx : j ≠ x := fun e => hnX j hj (by rw [e]; exact hx)
        rw [getD_set_ne true hjx]
        exact hm x hx
      have h2 := wpOp_putIf hoj (hfree j oj hoj hjk hjun hnot) (fun cs b => hsel k ok cs b hk) (fun cs b => hsel j oj cs b hoj) hQ hy h1
      have hfree' : ∀ i oi, ops[i]? = some oi → i ≠ k → (listed.setIfInBounds j true).getD i true = false →
          (∀ e ∈ oi.after, Region.binds .any e = true → e.on ≠ k) → ok.apart ops oi = true := fun i oi hi hik hun hno => by
        refine hfree i oi hi hik ?_ hno
        by_cases hji : j = i
        · subst hji; exact hjun
        · rw [getD_set_ne true hji] at hun; exact hun
      have hkm : k ≠ m := fun e => hnX k hr (e ▸ hmX)
      refine wpOp_mono (fun a' w' h3 => ?_) h2
      obtain ⟨h3, h4, h5⟩ := h3
      have hS' : S w' := h4 (by rw [getD_set_ne true hjm, getD_set_ne true hkm]; exact hm m hmX)
      refine ⟨fun _ => hS', ih (listed.setIfInBounds j true) a' w' hfree' (ready_mono hr (Ne.symm hjk)) hm2 h3 hS' ?_⟩
      rw [Array.setIfInBounds_comm _ _ hjk]
      exact h5

theorem V_takeX (X : List Nat) {k : Nat} {ok : Oper} {v : Value} {fuel : Nat} {listed : Array Bool} {a : Act} {w : World} (hk : ops[k]? = some ok) (hmX : X.contains m = true)
    (hw : (X.all fun x => match ops[x]? with | some ox => ox.after.any (fun e => Region.binds .any e && ((e.on == k) || X.contains e.on)) | none => false) = true)
    (hs : Region.noSelect ops = true) (hf : Region.free .any ops listed k = true) (hr : (Region.ready .any ops listed).contains k = true) (hm : (X.all fun x => !(listed.getD x true)) = true)
    (hQ : ∀ c a w, Q (.panic c) (a.put ok.dst v) w → Q (.panic c) a w) (hy : YieldsIf P ops S ok v a) (hS : S w)
    (h : wpAnyU P ops Q S m fuel (listed.setIfInBounds k true) (a.put ok.dst v) w) : wpAnyU P ops Q S m (fuel + 1) listed a w :=
  V_firstX X hk (by simpa using hmX) (fun x hx => by
    have := List.all_eq_true.1 hw x hx
    cases ho : ops[x]? with
    | none => rw [ho] at this; cases this
    | some ox =>
      rw [ho] at this
      simp only [Array.any_eq_true', Bool.and_eq_true, Bool.or_eq_true, beq_iff_eq, List.contains_iff_mem] at this
      exact ⟨ox, rfl, this⟩) (Region.noSelect_spec hs) hQ fuel listed a w (Region.free_spec hk hf) (by simpa using hr) (fun x hx => by simpa using List.all_eq_true.1 hm x hx) hy hS h

theorem V_op {i : Nat} {o : Oper} {fuel : Nat} {listed : Array Bool} {a : Act} {w : World} (ho : ops[i]? = some o) (hg : o.guard = none)
    (h : ∀ K : Act → World → Prop, (∀ a w, ((listed.setIfInBounds i true).getD m true = false → S w) → wpAnyU P ops Q S m fuel (listed.setIfInBounds i true) a w → K a w) → o.wp P a w K Q) :
    wpOp P ops Q i (fun a' w' => ((listed.setIfInBounds i true).getD m true = false → S w') ∧ wpAnyU P ops Q S m fuel (listed.setIfInBounds i true) a' w') a w :=
  wpOp_step ho (fun K' hK => by
    simp only [Region.wanted, hg, if_true]
    exact h K' (fun a w h1 h2 => hK a w ⟨h1, h2⟩))

/-- two may come up -/
theorem U_two {i j : Nat} {oi oj : Oper} {fuel : Nat} {listed : Array Bool} {a : Act} {w : World} (hr : Region.ready .any ops listed = [i, j]) (hoi : ops[i]? = some oi) (hgi : oi.guard = none) (hoj : ops[j]? = some oj) (hgj : oj.guard = none)
    (hi : ∀ K : Act → World → Prop, (∀ a w, ((listed.setIfInBounds i true).getD m true = false → S w) → wpAnyU P ops Q S m fuel (listed.setIfInBounds i true) a w → K a w) → oi.wp P a w K Q)
    (hj : ∀ K : Act → World → Prop, (∀ a w, ((listed.setIfInBounds j true).getD m true = false → S w) → wpAnyU P ops Q S m fuel (listed.setIfInBounds j true) a w → K a w) → oj.wp P a w K Q) : wpAnyU P ops Q S m (fuel + 1) listed a w := by
  refine ⟨fun h0 => (by rw [hr] at h0; cases h0), fun x hx => ?_⟩
  rw [hr] at hx
  simp only [List.mem_cons, List.not_mem_nil, or_false] at hx
  rcases hx with rfl | rfl
  · exact V_op hoi hgi hi
  · exact V_op hoj hgj hj

/-- three may come up -/
theorem U_three {i j k : Nat} {oi oj ok : Oper} {fuel : Nat} {listed : Array Bool} {a : Act} {w : World} (hr : Region.ready .any ops listed = [i, j, k]) (hoi : ops[i]? = some oi) (hgi : oi.guard = none) (hoj : ops[j]? = some oj) (hgj : oj.guard = none) (hok : ops[k]? = some ok) (hgk : ok.guard = none)
    (hi : ∀ K : Act → World → Prop, (∀ a w, ((listed.setIfInBounds i true).getD m true = false → S w) → wpAnyU P ops Q S m fuel (listed.setIfInBounds i true) a w → K a w) → oi.wp P a w K Q)
    (hj : ∀ K : Act → World → Prop, (∀ a w, ((listed.setIfInBounds j true).getD m true = false → S w) → wpAnyU P ops Q S m fuel (listed.setIfInBounds j true) a w → K a w) → oj.wp P a w K Q)
    (hk : ∀ K : Act → World → Prop, (∀ a w, ((listed.setIfInBounds k true).getD m true = false → S w) → wpAnyU P ops Q S m fuel (listed.setIfInBounds k true) a w → K a w) → ok.wp P a w K Q) : wpAnyU P ops Q S m (fuel + 1) listed a w := by
  refine ⟨fun h0 => (by rw [hr] at h0; cases h0), fun x hx => ?_⟩
  rw [hr] at hx
  simp only [List.mem_cons, List.not_mem_nil, or_false] at hx
  rcases hx with rfl | rfl | rfl
  · exact V_op hoi hgi hi
  · exact V_op hoj hgj hj
  · exact V_op hok hgk hk

end

/-- taken first, and put into a slot that is named -/
theorem V_takeS (X : List Nat) (t : Nat) {P : Program} {ops : Array Oper} {Q : Exit → Act → World → Prop} {S : World → Prop} {m k : Nat} {ok : Oper} {v : Value} {fuel : Nat} {listed : Array Bool} {a : Act} {w : World} (hk : ops[k]? = some ok) (hd : ok.dst = some t) (hmX : X.contains m = true)
    (hw : (X.all fun x => match ops[x]? with | some ox => ox.after.any (fun e => Region.binds .any e && ((e.on == k) || X.contains e.on)) | none => false) = true)
    (hs : Region.noSelect ops = true) (hf : Region.free .any ops listed k = true) (hr : (Region.ready .any ops listed).contains k = true) (hm : (X.all fun x => !(listed.getD x true)) = true)
    (hQ : ∀ c a w, Q (.panic c) (a.put ok.dst v) w → Q (.panic c) a w) (hy : YieldsIf P ops S ok v a) (hS : S w)
    (h : wpAnyU P ops Q S m fuel (listed.setIfInBounds k true) (a.put (some t) v) w) : wpAnyU P ops Q S m (fuel + 1) listed a w :=
  V_takeX X hk hmX hw hs hf hr hm hQ hy hS (by rw [hd]; exact h)

theorem all2_last {α β : Type} {R : α → β → Prop} : ∀ {xs : List α} {x : α} {ys : List β}, All2 R (xs ++ [x]) ys → ∃ ys' y, ys = ys' ++ [y] ∧ All2 R xs ys' ∧ R x y
  | [], x, [y], h => ⟨[], y, rfl, trivial, h.1⟩
  | [], x, y :: z :: ys, h => h.2.elim
  | [], x, [], h => h.elim
  | x' :: xs, x, [], h => h.elim
  | x' :: xs, x, y :: ys, h => by
    obtain ⟨ys', z, e, h1, h2⟩ := all2_last (xs := xs) h.2
    exact ⟨y :: ys', z, by rw [e]; rfl, ⟨h.1, h1⟩, h2⟩

/-- one cell of the last one of a row is put in -/
theorem rows_put {α : Type} {size : Nat} {K : Kd α size} {ok : Nat → Prop} {W : World} {base : Nat} {E : TypeId} {g cap n j : Nat} {ls : List α} {x y : α} {u : Value} (h : Rows K ok W base E (.slice (some ⟨g, 0, none⟩) n cap) (ls ++ [x])) (hy : ∀ cs, K.rel (fun b => ok b ∧ (Value.slice (some ⟨g, 0, none⟩) n cap).ownBlock ≠ some b) W x cs → K.rel (fun b => ok b ∧ (Value.slice (some ⟨g, 0, none⟩) n cap).ownBlock ≠ some b) W y (cs.set j u)) :
    Rows K ok (W.setCell ⟨g, ls.length * size + j, none⟩ u) base E (.slice (some ⟨g, 0, none⟩) n cap) (ls ++ [y]) := by
  obtain ⟨css, h1, h2⟩ := h
  obtain ⟨cs, c, rfl, h3, h4⟩ := all2_last h2
  have hk : Kept (fun b => ok b ∧ (Value.slice (some ⟨g, 0, none⟩) n cap).ownBlock ≠ some b) W (W.setCell ⟨g, ls.length * size + j, none⟩ u) := ⟨by simp, fun b _ ho => by
    have : b ≠ g := fun e => ho.2 (by rw [e]; rfl)
    exact Below.heap_setCell _ _ _ _ this⟩
  have hl : cs.flatten.length = ls.length * size := by rw [flatten_len (rel_len h3), ← h3.length]
  have hc := K.len h4
  refine ⟨cs ++ [c.set j u], ⟨?_, ?_⟩, All2.append (All2.imp (fun _ _ hr => K.move hk (fun _ _ q => q) hr) h3) ⟨K.move hk (fun _ _ q => q) (hy c h4), trivial⟩⟩
  · simp only [List.flatten_append, List.flatten_cons, List.flatten_nil, List.append_nil, List.length_append, List.length_cons, List.length_nil, hl, List.length_set, hc]
    rw [Nat.zero_add, Nat.add_mul, Nat.one_mul]
  · rcases h1.2 with ⟨e, _⟩ | ⟨g', cap', cur, e, hb, hg, hcc, hm, hs, ht⟩
    · cases e
    · cases e
      refine .inr ⟨g, cap, cur.setIfInBounds (ls.length * size + j) u, by simp, hb, ?_, by simpa using hcc, hm, by simpa using hs, ?_⟩
      · exact Go.heap_setCell_same _ _ _ _ _ _ hg
      · simp only [Array.toList_setIfInBounds, List.take_set]
        have hlen : (ls ++ [y]).length = (ls ++ [x]).length := by simp
        rw [hlen, ht]
        simp only [List.flatten_append, List.flatten_cons, List.flatten_nil, List.append_nil]
        rw [List.set_append_right _ _ (by omega)]
        congr 2
        omega

/-- where the cells of the last one of a row are -/
theorem rows_put_cells {α : Type} {size : Nat} {K : Kd α size} {ok : Nat → Prop} {W : World} {base : Nat} {E : TypeId} {v : Value} {ls : List α} {x : α} (h : Rows K ok W base E v (ls ++ [x])) :
    ∃ g cap, v = .slice (some ⟨g, 0, none⟩) (ls.length + 1) cap ∧ ls.length + 1 ≤ cap ∧ base ≤ g ∧ g < W.heap.size ∧ ∀ j, j < size → (∃ p, W.cell? ⟨g, ls.length * size + j, none⟩ = some p) ∧ W.frozen? ⟨g, ls.length * size + j, none⟩ = false := by
  obtain ⟨css, h1, h2⟩ := h
  have hn : (ls ++ [x]).length = ls.length + 1 := by simp
  rw [hn] at h1
  rcases h1.2 with ⟨e, e0⟩ | ⟨g', cap', cur, e, hb, hg, hc, hm, hs, ht⟩
  · omega
  · refine ⟨g', cap', e, hc, hb, (h1.lt g' (by rw [e]; rfl)).2, fun j hj => ?_⟩
    have h3 : (ls.length + 1) * size ≤ cap' * size := Nat.mul_le_mul hc (Nat.le_refl _)
    rw [Nat.add_mul, Nat.one_mul] at h3
    have h2' : ls.length * size + j < cur.size := by omega
    exact ⟨⟨cur[ls.length * size + j], by simp [World.cell?, hg, h2']⟩, by simp [World.frozen?, hg]⟩

end Go.Proofs.Ytndnbkgejdindaa
