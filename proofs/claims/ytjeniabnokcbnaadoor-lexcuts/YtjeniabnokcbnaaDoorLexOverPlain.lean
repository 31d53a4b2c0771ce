/- A source of digits alone. No model here. -/
import Derived.Test.YtjeniabnokcbnaaDoorLexJoinPlain
namespace Go.Proofs.YtjeniabnokcbnaaDoor

theorem gap_digit {c : UInt8} {r : List UInt8} (h : digit c = true) : gap false (c :: r) = 0 := by
  simp only [digit, Bool.and_eq_true, decide_eq_true_eq] at h
  have hb : blank c = false := by
    simp only [blank, Bool.or_eq_false_iff, decide_eq_false_iff_not]
    omega
  have h2 : ¬ (c.toNat = 45 ∧ r.head?.map (·.toNat) = some 45) := fun h3 => by omega
  simp only [gap, hb, h2, Bool.false_eq_true, if_false]

theorem digits_cut {u : List UInt8} (hne : u ≠ []) (hd : ∀ c ∈ u, digit c = true) (hl : u.length ≤ 2000) :
    (¬ 9223372036854775807 < num u → CutIs u [⟨2, num u, []⟩] 0 0) ∧ (9223372036854775807 < num u → CutIs u [] 0 10) := by
  have hg : gap false u = 0 := by
    obtain ⟨c, r, rfl⟩ := List.exists_cons_of_ne_nil hne
    exact gap_digit (hd c (by simp))
  have hone := one_digits hne hd sep_nil
  rw [List.append_nil] at hone
  have hpos := List.length_pos_iff.2 hne
  refine ⟨fun h => .inr ⟨hl, ?_⟩, fun h => .inr ⟨hl, ?_⟩⟩
  · rw [hg]
    rw [if_neg h] at hone
    refine .step 0 [] _ _ _ _ _ hpos (by simp) (by rw [List.drop_zero]; exact hone) ?_
    rw [Nat.zero_add, List.drop_length]
    exact .done _ _ (by simp [gap])
  · rw [hg]
    rw [if_pos h] at hone
    exact .bad 0 [] _ hpos (by simp) (by rw [List.drop_zero]; exact hone)

theorem num_zeros (z : Nat) (d : List UInt8) : num (List.replicate z 48 ++ d) = num d := by
  induction z with
  | zero => rfl
  | succ z ih => rw [List.replicate_succ, List.cons_append]; exact ih

theorem zeros_digits (z : Nat) (d : List UInt8) (hd : ∀ c ∈ d, digit c = true) : ∀ c ∈ List.replicate z 48 ++ d, digit c = true := by
  intro c hc
  rcases List.mem_append.1 hc with h | h
  · rw [(List.mem_replicate.1 h).2]
    decide
  · exact hd c h

end Go.Proofs.YtjeniabnokcbnaaDoor
