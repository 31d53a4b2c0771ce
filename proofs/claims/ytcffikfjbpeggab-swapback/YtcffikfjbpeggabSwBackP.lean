/- A unit that was swapped and swapped back, in plain words. -/
import Derived.Test.YtcffikfjbpeggabLyKeep
import Derived.Test.YtcffikfjbpeggabLySwap
namespace Go.Proofs.Ytcffikfjbpeggab
open Go.ChangeShapes Go.WideShapes Go.ChangeAt Go.RowKit

theorem len_of_sub : ∀ (l m : List Int), l.Nodup → (∀ x ∈ l, x ∈ m) → l.length ≤ m.length
  | [], _, _, _ => Nat.zero_le _
  | x :: l, m, hn, hs => by
    have h1 := List.nodup_cons.1 hn
    have hx : x ∈ m := hs x List.mem_cons_self
    have ih := len_of_sub l (m.erase x) h1.2 (fun y hy => (List.mem_erase_of_ne (fun e => h1.1 (by rw [← e]; exact hy))).2 (hs y (List.mem_cons_of_mem _ hy)))
    rw [List.length_erase_of_mem hx] at ih
    have : 0 < m.length := List.length_pos_of_mem hx
    simp only [List.length_cons]
    omega

/-- the numbers below g are all there -/
def Low (all : List Int) (g : Nat) : Prop := ∀ j : Nat, j < g → (j : Int) ∈ all

theorem Low.le {all : List Int} {g : Nat} (h : Low all g) : g ≤ all.length := by
  have := len_of_sub ((List.range g).map (fun (j : Nat) => (j : Int))) all (by
    rw [List.nodup_iff_pairwise_ne, List.pairwise_iff_getElem]
    intro i j hi hj hij
    simp only [List.getElem_map, List.getElem_range]
    omega) (fun x hx => by
    simp only [List.mem_map, List.mem_range] at hx
    obtain ⟨j, hj, rfl⟩ := hx
    exact h j hj)
  simpa using this

theorem Low.succ {all : List Int} {g : Nat} (h : Low all g) (hg : (g : Int) ∈ all) : Low all (g + 1) := fun j hj => by
  by_cases e : j = g
  · subst e; exact hg
  · exact h j (by omega)

/-- behind so many rounds -/
def FreeK (all : List Int) (k g : Nat) : Prop := Low all g ∧ ((g : Int) ∉ all ∨ k ≤ g)

/-- within a round that began at f, so many units looked at -/
def FreeI (all : List Int) (f i g : Nat) : Prop := Low all g ∧ f ≤ g ∧ (g = f → (f : Int) ∉ all.take i) ∧ ((f : Int) ∉ all → g = f)

theorem FreeK.begin {all : List Int} {k g : Nat} (h : FreeK all k g) : FreeI all g 0 g := ⟨h.1, Nat.le_refl _, fun _ => by simp, fun _ => rfl⟩

theorem FreeI.yes {all : List Int} {f i g : Nat} (h : FreeI all f i g) (hi : i < all.length) (e : all[i] = (g : Int)) : FreeI all f (i + 1) (g + 1) := by
  have hg : (g : Int) ∈ all := by rw [← e]; exact List.getElem_mem _
  refine ⟨h.1.succ hg, by have := h.2.1; omega, fun q => by have := h.2.1; omega, fun q => ?_⟩
  have := h.2.2.2 q
  subst this
  exact absurd hg q

theorem FreeI.no {all : List Int} {f i g : Nat} (h : FreeI all f i g) (hi : i < all.length) (e : ¬ all[i] = (g : Int)) : FreeI all f (i + 1) g := by
  refine ⟨h.1, h.2.1, fun q hm => ?_, h.2.2.2⟩
  rw [List.take_succ_eq_append_getElem hi, List.mem_append, List.mem_singleton] at hm
  rcases hm with hm | hm
  · exact h.2.2.1 q hm
  · exact e (by rw [← hm, q])

theorem FreeI.done {all : List Int} {k f g : Nat} (h : FreeI all f all.length g) (hk : FreeK all k f) : FreeK all (k + 1) g := by
  refine ⟨h.1, ?_⟩
  by_cases e : (f : Int) ∈ all
  · right
    have h1 : g ≠ f := fun q => by
      have := h.2.2.1 q
      rw [List.take_length] at this
      exact this e
    have h2 := h.2.1
    rcases hk.2 with q | q
    · exact absurd e q
    · omega
  · left
    rw [h.2.2.2 e]
    exact e

theorem FreeK.free {all : List Int} {g : Nat} (h : FreeK all all.length g) : (g : Int) ∉ all ∧ g ≤ all.length := by
  refine ⟨fun hg => ?_, h.1.le⟩
  have h1 := (h.1.succ hg).le
  rcases h.2 with q | q
  · exact q hg
  · omega

/-- swapped there and back -/
theorem swC_back {cs : List (List Int)} {old free : Int} (hf : free ∉ cs.flatten) : swC free old (swC old free cs) = cs := by
  unfold swC
  rw [List.map_map]
  conv => rhs; rw [← List.map_id cs]
  refine List.map_congr_left (fun c hc => ?_)
  simp only [Function.comp_apply, id_eq]
  rw [List.map_map]
  conv => rhs; rw [← List.map_id c]
  refine List.map_congr_left (fun x hx => ?_)
  have hxf : x ≠ free := fun e => hf (by rw [← e]; exact List.mem_flatten.2 ⟨c, hc, hx⟩)
  simp only [Function.comp_apply, id_eq]
  by_cases e : x = old
  · have e1 : swU old free x = free := by unfold swU; rw [if_pos e]
    rw [e1, e]
    unfold swU
    rw [if_pos rfl]
  · have e1 : swU old free x = x := by unfold swU; rw [if_neg e]
    rw [e1]
    unfold swU
    rw [if_neg hxf]

/-- what was swapped may be, too -/
theorem swC_for {cs : List (List Int)} {old free : Int} (h : ForL cs) (ho : old ∈ cs.flatten) (hf : free ∉ cs.flatten) (h0 : 0 ≤ free) (h5 : free ≤ 5) :
    ForL (swC old free cs) ∧ free ∈ (swC old free cs).flatten ∧ old ∉ (swC old free cs).flatten := by
  have hne : old ≠ free := fun e => hf (by rw [← e]; exact ho)
  have hnd : (cs.flatten.map (swU old free)).Nodup := by
    have h1 := h.2.1
    rw [List.nodup_iff_pairwise_ne, List.pairwise_iff_getElem] at h1 ⊢
    intro i j hi hj hij
    simp only [List.length_map] at hi hj
    simp only [List.getElem_map]
    have h2 := h1 i j hi hj hij
    have m1 : cs.flatten[i] ∈ cs.flatten := List.getElem_mem _
    have m2 : cs.flatten[j] ∈ cs.flatten := List.getElem_mem _
    generalize cs.flatten[i] = x at h2 m1 ⊢
    generalize cs.flatten[j] = y at h2 m2 ⊢
    unfold swU
    by_cases ex : x = old
    · rw [if_pos ex]
      by_cases ey : y = old
      · exact absurd (ex.trans ey.symm) h2
      · rw [if_neg ey]
        exact fun e => hf (by rw [e]; exact m2)
    · rw [if_neg ex]
      by_cases ey : y = old
      · rw [if_pos ey]
        exact fun e => hf (by rw [← e]; exact m1)
      · rw [if_neg ey]
        exact h2
  refine ⟨⟨?_, ?_, ?_, ?_, ?_⟩, ?_, ?_⟩
  · rw [swC_flatten]
    intro x hx
    obtain ⟨y, hy, rfl⟩ := List.mem_map.1 hx
    unfold swU
    split
    · exact ⟨h0, h5⟩
    · exact h.1 y hy
  · rw [swC_flatten]
    exact hnd
  · intro c hc
    simp only [swC, List.mem_map] at hc
    obtain ⟨d, hd, rfl⟩ := hc
    rw [List.length_map]
    exact h.2.2.1 d hd
  · rw [swC_length]
    exact h.2.2.2.1
  · rw [swC_flatten, List.length_map]
    exact h.2.2.2.2
  · rw [swC_flatten]
    exact List.mem_map.2 ⟨old, ho, by rw [swU, if_pos rfl]⟩
  · rw [swC_flatten]
    intro hx
    obtain ⟨y, hy, e⟩ := List.mem_map.1 hx
    unfold swU at e
    split at e
    · exact hne e.symm
    · rename_i q
      exact q e

/-- a swap of a layout that lies somewhere -/
theorem swap_at {V : World} {a : Option Addr} {c : Nat} {cs : List (List Int)} (h : LayAt V a c cs) (ep : Int) (e0 : 0 ≤ ep) (e1 : ep < 1000000) (n : Nat) (hn : n = cs.length) (old next : Int) (h1 : 0 ≤ next ∧ next ≤ 5) (h2 : old ∈ cs.flatten) (h3 : next ∉ cs.flatten) :
    Calls Try.prog 11 #[.agg #[.int .i64 ep, .slice a n c], .int .i64 old, .int .i64 next] V fun e w' => ∃ (b : Option Addr) (d : Nat), e = .returned (.tuple #[.agg #[.int .i64 (ep + 1), .slice b n d], .int .i64 0]) ∧ Hid (LayAt w' b d (swC old next cs) ∧ Below V.heap.size V w') := by
  have hz : swE ep cs old next = 0 := swE_zero (h.1.may e0 (by omega)) h1 h2 h3 (by omega)
  refine (Swap_any ep old next a c n cs hn h.1.few V h.2).mono ?_
  rintro e w' ⟨b, m, d, rfl, q1, q2, q3⟩
  rw [swL, if_pos hz] at q1 q2
  rw [swC_length, ← hn] at q1
  subst q1
  rw [swN, if_pos hz, hz]
  exact ⟨b, d, rfl, put_by ⟨⟨(swC_for h.1 h2 h3 h1.1 h1.2).1, q2.move (Kept.of_below (Below.refl _ _)) (fun b hb _ => hb)⟩, q3⟩⟩

theorem swap_none {V : World} {a : Option Addr} {c : Nat} {cs : List (List Int)} (h : LayAt V a c cs) (ep : Int) (e0 : 0 ≤ ep) (e1 : ep < 1000000) (n : Nat) (hn : n = cs.length) (old next : Int) (h1 : 0 ≤ next ∧ next ≤ 5) (h2 : old ∉ cs.flatten) :
    Calls Try.prog 11 #[.agg #[.int .i64 ep, .slice a n c], .int .i64 old, .int .i64 next] V fun e w' => ∃ (b : Option Addr) (m d : Nat), e = .returned (.tuple #[.agg #[.int .i64 0, .slice b m d], .int .i64 6]) ∧ Hid (Below V.heap.size V w') := by
  have hz : swE ep cs old next = 6 := by
    unfold swE
    rw [if_neg (by simp [h.1.may e0 (show ep ≤ 1000000 by omega)]), if_neg (not_not_intro h1), if_pos h2]
  refine (Swap_any ep old next a c n cs hn h.1.few V h.2).mono ?_
  rintro e w' ⟨b, m, d, rfl, q1, q2, q3⟩
  rw [swN, if_neg (by rw [hz]; decide), hz]
  exact ⟨b, m, d, rfl, put_by q3⟩

end Go.Proofs.Ytcffikfjbpeggab
