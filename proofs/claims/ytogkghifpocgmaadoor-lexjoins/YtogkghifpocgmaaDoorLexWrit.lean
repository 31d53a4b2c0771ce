/- Each ' twice: the library's replacing is ours. No run of the model here. -/
import Derived.Test.YtogkghifpocgmaaDoorLexJoinPlain
import Derived.Lib.Replace
namespace Go.Proofs.YtogkghifpocgmaaDoor

theorem index_hit (l : List UInt8) : Lib.index (39 :: l) [39] = ((0 : Nat) : Int) := by
  rw [Lib.index]
  simp

theorem replaceK_twice (l : List UInt8) : Lib.replaceK [39] [39, 39] (Lib.count l [39]) l = twice l := by
  induction l with
  | nil => rfl
  | cons b l ih =>
    by_cases hb : b = 39
    · subst hb
      rw [Lib.count_cons_eq, Nat.add_comm, Lib.replaceK_hit _ _ _ _ 0 (index_hit l)]
      simp only [List.take_zero, List.nil_append, List.length_cons, List.length_nil, Nat.zero_add, List.drop_succ_cons, List.drop_zero]
      rw [ih]
      simp [twice]
    · have hn : ¬ b.toNat = 39 := fun h => hb (UInt8.toNat.inj h)
      have e : twice (b :: l) = b :: twice l := by simp [twice, hn]
      rw [Lib.count_cons_ne _ _ _ hb, e, ← ih]
      cases hk : Lib.count l [39] with
      | zero => rfl
      | succ k =>
        obtain ⟨i, hi⟩ := Lib.index_of_count (s := l) (old := [39]) (by omega)
        have hi2 : Lib.index (b :: l) [39] = ((i + 1 : Nat) : Int) := by
          have h1 : ¬ ([39] : List UInt8).isPrefixOf (b :: l) = true := by
            simp [List.isPrefixOf]
            exact fun h => hb h.symm
          have h2 : ¬ ((i : Int) == -1) = true := by
            simp
          rw [Lib.index, if_neg h1, hi, if_neg h2]
          omega
        rw [Lib.replaceK_hit _ _ _ _ _ hi2, Lib.replaceK_hit _ _ _ _ _ hi]
        simp

theorem replaceAll_twice (l : List UInt8) : Lib.replaceAll l [39] [39, 39] = twice l := by
  have : ¬ (([39] : List UInt8) == [39, 39]) = true := by decide
  rw [Lib.replaceAll, Lib.replace, if_neg this, Lib.replaceNum, if_pos (by omega)]
  exact replaceK_twice l

end Go.Proofs.YtogkghifpocgmaaDoor
