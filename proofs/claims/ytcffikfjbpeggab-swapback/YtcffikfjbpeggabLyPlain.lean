/- Layouts, in plain words: which may be, places, positions, tails, swaps. -/
import Derived.Test.YtcffikfjbpeggabLyBase
namespace Go.Proofs.Ytcffikfjbpeggab
open Go.ChangeShapes Go.WideShapes Go.ChangeAt Go.RowKit

/-- so many chains, so many units of each -/
def fitC (cs : List (List Int)) : Bool := decide (1 ≤ cs.length ∧ cs.length ≤ 6 ∧ ∀ c ∈ cs, 1 ≤ c.length ∧ c.length ≤ 3)

/-- all are numbers of units -/
def fitN (l : List Int) : Bool := decide (∀ x ∈ l, 0 ≤ x ∧ x ≤ 5)

/-- all are numbers of units, none of them twice -/
def fitU (l : List Int) : Bool := decide ((∀ x ∈ l, 0 ≤ x ∧ x ≤ 5) ∧ l.Nodup)

/-- a layout may be -/
def mayL (ep : Int) (cs : List (List Int)) : Bool := decide (0 ≤ ep ∧ ep ≤ 1000000) && (fitC cs && fitU cs.flatten)

theorem mayL_iff {ep : Int} {cs : List (List Int)} : mayL ep cs = true ↔ (0 ≤ ep ∧ ep ≤ 1000000) ∧ (1 ≤ cs.length ∧ cs.length ≤ 6 ∧ ∀ c ∈ cs, 1 ≤ c.length ∧ c.length ≤ 3) ∧ (∀ x ∈ cs.flatten, 0 ≤ x ∧ x ≤ 5) ∧ cs.flatten.Nodup := by
  simp only [mayL, fitC, fitU, Bool.and_eq_true, decide_eq_true_eq]

theorem fitU_snoc {l : List Int} {x : Int} : fitU (l ++ [x]) = (fitU l && decide ((0 ≤ x ∧ x ≤ 5) ∧ x ∉ l)) := by
  rw [Bool.eq_iff_iff]
  simp only [fitU, Bool.and_eq_true, decide_eq_true_eq, List.nodup_append, List.mem_append, List.mem_singleton, List.nodup_cons, List.nodup_nil, List.not_mem_nil, not_false_eq_true, true_and]
  constructor
  · rintro ⟨h1, h2, h3⟩
    exact ⟨⟨fun y hy => h1 y (.inl hy), h2⟩, h1 x (.inr rfl), fun hx => h3 x hx x rfl rfl⟩
  · rintro ⟨⟨h1, h2⟩, h3, h4⟩
    exact ⟨fun y hy => hy.elim (h1 y) (fun e => e ▸ h3), h2, fun y hy z hz e => h4 (by rw [← hz, ← e]; exact hy)⟩

theorem fitU_take {l : List Int} (h : fitU l = true) (k : Nat) : fitU (l.take k) = true := by
  simp only [fitU, decide_eq_true_eq] at h ⊢
  exact ⟨fun x hx => h.1 x (List.mem_of_mem_take hx), h.2.sublist (List.take_sublist _ _)⟩

/-- what a layout that may be has no more than: six units -/
theorem flatten_few {cs : List (List Int)} (h1 : cs.length ≤ 6) (h2 : ∀ c ∈ cs, c.length ≤ 3) : cs.flatten.length ≤ 18 := by
  have : ∀ (l : List (List Int)), (∀ c ∈ l, c.length ≤ 3) → l.flatten.length ≤ l.length * 3 := by
    intro l
    induction l with
    | nil => intro _; simp
    | cons c l ih =>
      intro h
      have a := h c List.mem_cons_self
      have b := ih (fun c hc => h c (List.mem_cons_of_mem _ hc))
      simp only [List.flatten_cons, List.length_append, List.length_cons]
      omega
  have := this cs h2
  omega

theorem take_flatten {cs : List (List Int)} {k : Nat} (hk : k < cs.length) : (cs.take (k + 1)).flatten = (cs.take k).flatten ++ cs[k] := by
  rw [List.take_succ_eq_append_getElem hk, List.flatten_append]
  simp

theorem prefix_flatten {cs : List (List Int)} {k : Nat} (hk : k < cs.length) (j : Nat) : (cs.take k).flatten ++ (cs[k]).take j <+: cs.flatten := by
  have e : cs.flatten = (cs.take k).flatten ++ (cs[k] ++ (cs.drop (k + 1)).flatten) := by
    rw [← List.append_assoc, ← take_flatten hk, ← List.flatten_append, List.take_append_drop]
  rw [e]
  refine List.prefix_append_right_inj _ |>.2 ?_
  exact (List.take_prefix _ _).trans (List.prefix_append _ _)

section
variable {ok : Nat → Prop} {W : World} {a : Option Addr} {cap : Nat}

theorem row_at {cs : List (List Int)} (h : Lies (kRow kInt) ok W a cap cs) {k : Nat} (hk : k < cs.length) :
    ∃ b off a2 c2, a = some ⟨b, off, none⟩ ∧ b < W.heap.size ∧ ok b ∧ W.cell? ⟨b, off + k, none⟩ = some (.slice a2 cs[k].length c2) ∧ Lies kInt ok W a2 c2 cs[k] := by
  obtain ⟨b, off, e, hb, ho, c, ⟨a2, c2, rfl, h1⟩, hc⟩ := h.at hk
  refine ⟨b, off, a2, c2, e, hb, ho, ?_, h1⟩
  have := hc 0 _ rfl
  simpa using this

theorem int_at {l : List Int} (h : Lies kInt ok W a cap l) {k : Nat} (hk : k < l.length) :
    ∃ b off, a = some ⟨b, off, none⟩ ∧ b < W.heap.size ∧ ok b ∧ W.cell? ⟨b, off + k, none⟩ = some (.int .i64 l[k]) := by
  obtain ⟨b, off, e, hb, ho, c, hr, hc⟩ := h.at hk
  obtain rfl : c = [.int .i64 l[k]] := hr
  refine ⟨b, off, e, hb, ho, ?_⟩
  have := hc 0 _ rfl
  simpa using this
end

end Go.Proofs.Ytcffikfjbpeggab
