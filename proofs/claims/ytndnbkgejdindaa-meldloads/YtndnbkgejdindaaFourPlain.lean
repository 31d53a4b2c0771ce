/- Numbers of four bytes: plain arithmetic (where no sums are reached). -/
import Derived.Test.YtndnbkgejdindaaAheadPlain
namespace Go.Proofs.Ytndnbkgejdindaa

/-- a number as four bytes, the lowest first -/
def le4 (n : Nat) : List Int := [((n % 256 : Nat) : Int), ((n / 256 % 256 : Nat) : Int), ((n / 65536 % 256 : Nat) : Int), ((n / 16777216 % 256 : Nat) : Int)]

/-- the number that bytes begin with -/
def num4 (xs : List Int) : Int := xs.getD 0 0 + 256 * xs.getD 1 0 + 65536 * xs.getD 2 0 + 16777216 * xs.getD 3 0

theorem le4_length (n : Nat) : (le4 n).length = 4 := rfl

theorem le4_byte (n : Nat) : ∀ y ∈ le4 n, 0 ≤ y ∧ y ≤ 255 := by
  intro y hy
  simp only [le4, List.mem_cons, List.not_mem_nil, or_false] at hy
  omega

theorem num4_le4 (n : Nat) (h : n < 4294967296) (xs : List Int) : num4 (le4 n ++ xs) = n := by
  simp only [num4, le4, List.cons_append, List.nil_append, List.getD_cons_zero, List.getD_cons_succ]
  omega

/-- bytes that are at least four, as their first four and the others -/
theorem four_parts {xs : List Int} (h : 4 ≤ xs.length) : ∃ a b c d ys, xs = a :: b :: c :: d :: ys := by
  match xs, h with
  | a :: b :: c :: d :: ys, _ => exact ⟨a, b, c, d, ys, rfl⟩

theorem num4_bounds {xs : List Int} (h : 4 ≤ xs.length) (hb : ∀ y ∈ xs, 0 ≤ y ∧ y ≤ 255) : 0 ≤ num4 xs ∧ num4 xs ≤ 4294967295 := by
  obtain ⟨a, b, c, d, ys, rfl⟩ := four_parts h
  have ha := hb a (by simp)
  have hb1 := hb b (by simp)
  have hc := hb c (by simp)
  have hd := hb d (by simp)
  simp only [num4, List.getD_cons_zero, List.getD_cons_succ]
  omega

/-- what four bytes tell is told by no other four -/
theorem le4_num4 {xs : List Int} (h : 4 ≤ xs.length) (hb : ∀ y ∈ xs, 0 ≤ y ∧ y ≤ 255) : le4 (num4 xs).toNat = xs.take 4 := by
  obtain ⟨a, b, c, d, ys, rfl⟩ := four_parts h
  have ha := hb a (by simp)
  have hb1 := hb b (by simp)
  have hc := hb c (by simp)
  have hd := hb d (by simp)
  simp only [num4, List.getD_cons_zero, List.getD_cons_succ, le4, List.take_succ_cons, List.take_zero, List.cons.injEq, and_true]
  omega

end Go.Proofs.Ytndnbkgejdindaa
