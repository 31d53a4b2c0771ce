/- The chains as new lists, one unit in the place of another one. -/
import Derived.Test.YtcffikfjbpeggabLySwapP
namespace Go.Proofs.Ytcffikfjbpeggab
open Go.ChangeShapes Go.WideShapes Go.ChangeAt Go.RowKit

/-- so many chains were written anew; what they hold lies in blocks that will do -/
def SwI (ok : Nat → Prop) (w : World) (f : Int → Int) (cs : List (List Int)) (G n k : Nat) (W : World) : Prop :=
  ∃ us : List Value, W.ownsRow w.heap.size 22 1 (.slice (some ⟨G, 0, none⟩) n n) n us ∧ ∀ j (hj : j < cs.length), j < k → ∃ a c, us[j]? = some (.slice a cs[j].length c) ∧ Lies kInt ok W a c (cs[j].map f)

/-- the units that were written, and those that were not -/
def unitsL (f : Int → Int) (c : List Int) (i : Nat) : List Int := (List.range c.length).map (fun j => if j < i then f (c.getD j 0) else 0)

theorem unitsL_length (f : Int → Int) (c : List Int) (i : Nat) : (unitsL f c i).length = c.length := by simp [unitsL]

theorem unitsL_zero (f : Int → Int) (c : List Int) : unitsL f c 0 = List.replicate c.length 0 := by
  apply List.ext_getElem
  · simp [unitsL]
  · intro i h1 h2
    simp [unitsL]

theorem unitsL_succ (f : Int → Int) (c : List Int) (i : Nat) : (unitsL f c i).set i (f (c.getD i 0)) = unitsL f c (i + 1) := by
  apply List.ext_getElem
  · simp [unitsL]
  · intro j h1 h2
    simp only [unitsL, List.length_map, List.length_range] at h2
    rw [List.getElem_set]
    simp only [unitsL, List.getElem_map, List.getElem_range]
    by_cases e : i = j
    · subst e
      rw [if_pos rfl, if_pos (by omega)]
    · rw [if_neg e]
      by_cases q : j < i
      · rw [if_pos q, if_pos (by omega)]
      · rw [if_neg q, if_neg (by omega)]

theorem unitsL_all (f : Int → Int) (c : List Int) : unitsL f c c.length = c.map f := by
  apply List.ext_getElem
  · simp [unitsL]
  · intro j h1 h2
    simp only [List.length_map] at h2
    simp [unitsL, h2, List.getD_eq_getElem?_getD]

/-- whole numbers that the call itself has laid -/
theorem own_ints {w : World} {base g n : Nat} {xs : List Int} {ok : Nat → Prop} (h : w.ownsRow base 3 1 (.slice (some ⟨g, 0, none⟩) n n) n (xs.map (Value.int .i64))) (hn : n = xs.length) (hok : ok g) : Lies kInt ok w (some ⟨g, 0, none⟩) n xs := by
  subst hn
  refine lies_of (by decide) (Nat.le_refl _) (h.lt g rfl).2 hok (fun i hi => ⟨_, rfl, fun j u hu => ?_⟩)
  have hj : j = 0 := by
    have := (List.getElem?_eq_some_iff.1 hu).1
    simp at this
    omega
  subst hj
  have := h.cellAt i (by omega)
  rw [Nat.zero_add, Nat.mul_one, Nat.add_zero, this, ← hu]
  simp [hi]

theorem SwI.lies {w : World} {f : Int → Int} {cs : List (List Int)} {G n : Nat} {W : World} {ok : Nat → Prop} (h : SwI ok w f cs G n n W) (hn : n = cs.length) (hok : ok G) : Lies (kRow kInt) ok W (some ⟨G, 0, none⟩) n (cs.map (fun c => c.map f)) := by
  obtain ⟨us, h1, h2⟩ := h
  subst hn
  refine lies_of (by decide) (by simp) (h1.lt G rfl).2 hok (fun i hi => ?_)
  have hic : i < cs.length := by simpa using hi
  obtain ⟨a, c, e1, e2⟩ := h2 i hic hic
  refine ⟨[.slice a cs[i].length c], ⟨a, c, by simp, by simpa using e2⟩, fun j u hu => ?_⟩
  have hj : j = 0 := by
    have := (List.getElem?_eq_some_iff.1 hu).1
    simp at this
    omega
  subst hj
  have := h1.cellAt i (by omega)
  rw [Nat.zero_add, Nat.mul_one, Nat.add_zero, this, e1, ← hu]
  rfl

theorem SwI.move {w : World} {f : Int → Int} {cs : List (List Int)} {G n k : Nat} {W W' : World} {ok ok' : Nat → Prop} (h : SwI ok w f cs G n k W) (hk : Kept ok W W') (hG : W'.heap[G]? = W.heap[G]?) (hok : ∀ b, b < W.heap.size → ok b → ok' b) : SwI ok' w f cs G n k W' := by
  obtain ⟨us, h1, h2⟩ := h
  refine ⟨us, own_kept h1 (fun g hg => by cases hg; exact hG), fun j hj hjk => ?_⟩
  obtain ⟨a, c, e1, e2⟩ := h2 j hj hjk
  exact ⟨a, c, e1, e2.move hk hok⟩

theorem SwI.ownG {w : World} {f : Int → Int} {cs : List (List Int)} {G n k : Nat} {W : World} {ok : Nat → Prop} (h : SwI ok w f cs G n k W) : w.heap.size ≤ G ∧ G < W.heap.size := by
  obtain ⟨us, h1, _⟩ := h
  exact h1.lt G rfl

/-- the row's own cell may be written -/
theorem SwI.cell {w : World} {f : Int → Int} {cs : List (List Int)} {G n k : Nat} {W : World} {ok : Nat → Prop} (h : SwI ok w f cs G n k W) {j : Nat} (hj : j < n) : (∃ u, W.cell? ⟨G, j, none⟩ = some u) ∧ W.frozen? ⟨G, j, none⟩ = false := by
  obtain ⟨us, h1, _⟩ := h
  have hl : us.length = n := by have := h1.1; omega
  exact ⟨⟨us[j], by rw [h1.cellAt j (by omega), List.getElem?_eq_getElem (by omega)]⟩, h1.frozenAt j⟩

/-- one chain more stands in the row -/
theorem SwI.put {w : World} {f : Int → Int} {cs : List (List Int)} {G n k R m : Nat} {W : World} {ok : Nat → Prop} (h : SwI ok w f cs G n k W) (hkc : k < cs.length) (hkn : k < n) (hm : m = cs[k].length) (hokG : ¬ ok G) :
    SwI ok w f cs G n k (W.setCell ⟨G, k, none⟩ (.slice (some ⟨R, 0, none⟩) m m)) ∧ (W.setCell ⟨G, k, none⟩ (.slice (some ⟨R, 0, none⟩) m m)).cell? ⟨G, k, none⟩ = some (.slice (some ⟨R, 0, none⟩) m m) ∧
      ∀ W', (W'.heap[G]? = (W.setCell ⟨G, k, none⟩ (.slice (some ⟨R, 0, none⟩) m m)).heap[G]?) → Kept ok (W.setCell ⟨G, k, none⟩ (.slice (some ⟨R, 0, none⟩) m m)) W' → ∀ ok' : Nat → Prop, (∀ b, ok b → ok' b) → Lies kInt ok' W' (some ⟨R, 0, none⟩) m (cs[k].map f) → SwI ok' w f cs G n (k + 1) W' := by
  obtain ⟨us, h1, h2⟩ := h
  have hl : us.length = n := by have := h1.1; omega
  obtain ⟨s1, s2⟩ := h1.stored k (.slice (some ⟨R, 0, none⟩) m m)
  have hk : Kept ok W (W.setCell ⟨G, k, none⟩ (.slice (some ⟨R, 0, none⟩) m m)) := kept_far hokG _
  have h3 : ∀ j (hj : j < cs.length), j < k → ∃ a c, (us.set k (.slice (some ⟨R, 0, none⟩) m m))[j]? = some (.slice a cs[j].length c) ∧ Lies kInt ok (W.setCell ⟨G, k, none⟩ (.slice (some ⟨R, 0, none⟩) m m)) a c (cs[j].map f) := fun j hj hjk => by
    obtain ⟨a, c, e1, e2⟩ := h2 j hj hjk
    exact ⟨a, c, by rw [List.getElem?_set_ne (by omega)]; exact e1, e2.move hk (fun _ _ q => q)⟩
  refine ⟨⟨_, s1, h3⟩, ?_, fun W' hG hK ok' hok hnew => ⟨_, own_kept s1 (fun g hg => by cases hg; exact hG), fun j hj hjk => ?_⟩⟩
  · rw [s1.cellAt k (by omega), List.getElem?_set_self (by omega)]
  · by_cases e : j = k
    · subst e
      exact ⟨_, _, by rw [List.getElem?_set_self (by omega), hm], by rw [← hm]; exact hnew⟩
    · obtain ⟨a, c, e1, e2⟩ := h3 j hj (by omega)
      exact ⟨a, c, e1, e2.move hK (fun b _ q => hok b q)⟩

end Go.Proofs.Ytcffikfjbpeggab
