/- What the document's AllOf and AnyOf come to at every slice of whole numbers: the least and the greatest of the truth values. -/
import Derived.Test.YtnplkdngboogdaaCountedRef
namespace Go.Proofs.Ytnplkdngboogdaa
open Go.ChangeShapes Go.WideShapes Go.ChangeAt Go.RowKit

theorem min_le (xs : List Int) : ∀ m : Int, xs.foldl min m ≤ m ∧ ∀ x ∈ xs, xs.foldl min m ≤ x := by
  induction xs with
  | nil => intro m; simp
  | cons y ys ih =>
    intro m
    have h := ih (min m y)
    refine ⟨by simp only [List.foldl_cons]; omega, ?_⟩
    intro x hx
    simp only [List.foldl_cons]
    rcases List.mem_cons.1 hx with rfl | hx
    · omega
    · exact h.2 x hx

theorem min_mem (xs : List Int) : ∀ m : Int, xs.foldl min m = m ∨ xs.foldl min m ∈ xs := by
  induction xs with
  | nil => intro m; simp
  | cons y ys ih =>
    intro m
    simp only [List.foldl_cons]
    rcases ih (min m y) with h | h
    · rw [h]
      by_cases hm : m ≤ y
      · left; omega
      · right; rw [show min m y = y by omega]; exact List.mem_cons_self
    · right; exact List.mem_cons_of_mem _ h

theorem max_le (xs : List Int) : ∀ m : Int, m ≤ xs.foldl max m ∧ ∀ x ∈ xs, x ≤ xs.foldl max m := by
  induction xs with
  | nil => intro m; simp
  | cons y ys ih =>
    intro m
    have h := ih (max m y)
    refine ⟨by simp only [List.foldl_cons]; omega, ?_⟩
    intro x hx
    simp only [List.foldl_cons]
    rcases List.mem_cons.1 hx with rfl | hx
    · omega
    · exact h.2 x hx

theorem max_mem (xs : List Int) : ∀ m : Int, xs.foldl max m = m ∨ xs.foldl max m ∈ xs := by
  induction xs with
  | nil => intro m; simp
  | cons y ys ih =>
    intro m
    simp only [List.foldl_cons]
    rcases ih (max m y) with h | h
    · rw [h]
      by_cases hm : y ≤ m
      · left; omega
      · right; rw [show max m y = y by omega]; exact List.mem_cons_self
    · right; exact List.mem_cons_of_mem _ h

theorem all_mem {xs : List Int} (h : xs.all truthy = true) {x : Int} (hx : x ∈ xs) : 0 ≤ x ∧ x ≤ 2 := (truthy_iff x).1 (List.all_eq_true.1 h x hx)

theorem cnt_pos (t : Int) (xs : List Int) : 0 < cnt t xs ↔ t ∈ xs := by
  unfold cnt
  rw [← List.count_pos_iff (a := t) (l := xs)]
  omega

theorem least_no {xs : List Int} (h : xs.all truthy = true) (h0 : 0 < cnt 0 xs) : pickVal min 2 xs = 0 := by
  have m := (cnt_pos 0 xs).1 h0
  have l := (min_le xs 2).2 0 m
  have e := min_mem xs 2
  simp only [pickVal, h, if_true]
  rcases e with e | e
  · omega
  · have := all_mem h e; omega

theorem least_unknown {xs : List Int} (h : xs.all truthy = true) (h0 : ¬ 0 < cnt 0 xs) (h1 : 0 < cnt 1 xs) : pickVal min 2 xs = 1 := by
  have m := (cnt_pos 1 xs).1 h1
  have m0 : ¬ (0 : Int) ∈ xs := fun k => h0 ((cnt_pos 0 xs).2 k)
  have l := (min_le xs 2).2 1 m
  have e := min_mem xs 2
  simp only [pickVal, h, if_true]
  rcases e with e | e
  · omega
  · have := all_mem h e
    by_cases z : xs.foldl min 2 = 0
    · rw [z] at e; exact absurd e m0
    · omega

theorem least_yes {xs : List Int} (h : xs.all truthy = true) (h0 : ¬ 0 < cnt 0 xs) (h1 : ¬ 0 < cnt 1 xs) : pickVal min 2 xs = 2 := by
  have m0 : ¬ (0 : Int) ∈ xs := fun k => h0 ((cnt_pos 0 xs).2 k)
  have m1 : ¬ (1 : Int) ∈ xs := fun k => h1 ((cnt_pos 1 xs).2 k)
  have e := min_mem xs 2
  simp only [pickVal, h, if_true]
  rcases e with e | e
  · omega
  · have := all_mem h e
    by_cases z : xs.foldl min 2 = 0
    · rw [z] at e; exact absurd e m0
    · by_cases z : xs.foldl min 2 = 1
      · rw [z] at e; exact absurd e m1
      · omega

theorem most_yes {xs : List Int} (h : xs.all truthy = true) (h2 : 0 < cnt 2 xs) : pickVal max 0 xs = 2 := by
  have m := (cnt_pos 2 xs).1 h2
  have l := (max_le xs 0).2 2 m
  have e := max_mem xs 0
  simp only [pickVal, h, if_true]
  rcases e with e | e
  · omega
  · have := all_mem h e; omega

theorem most_unknown {xs : List Int} (h : xs.all truthy = true) (h2 : ¬ 0 < cnt 2 xs) (h1 : 0 < cnt 1 xs) : pickVal max 0 xs = 1 := by
  have m := (cnt_pos 1 xs).1 h1
  have m2 : ¬ (2 : Int) ∈ xs := fun k => h2 ((cnt_pos 2 xs).2 k)
  have l := (max_le xs 0).2 1 m
  have e := max_mem xs 0
  simp only [pickVal, h, if_true]
  rcases e with e | e
  · omega
  · have := all_mem h e
    by_cases z : xs.foldl max 0 = 2
    · rw [z] at e; exact absurd e m2
    · omega

theorem most_no {xs : List Int} (h : xs.all truthy = true) (h2 : ¬ 0 < cnt 2 xs) (h1 : ¬ 0 < cnt 1 xs) : pickVal max 0 xs = 0 := by
  have m2 : ¬ (2 : Int) ∈ xs := fun k => h2 ((cnt_pos 2 xs).2 k)
  have m1 : ¬ (1 : Int) ∈ xs := fun k => h1 ((cnt_pos 1 xs).2 k)
  have e := max_mem xs 0
  simp only [pickVal, h, if_true]
  rcases e with e | e
  · omega
  · have := all_mem h e
    by_cases z : xs.foldl max 0 = 2
    · rw [z] at e; exact absurd e m2
    · by_cases z : xs.foldl max 0 = 1
      · rw [z] at e; exact absurd e m1
      · omega

theorem counted_ok (ao : Option Addr) (cap n : Nat) (xs : List Int) (hn : n = xs.length) (w : World) (he : Elems w ao xs) (h : xs.all truthy = true) (c0 c1 c2 : Int) (h0 : c0 = cnt 0 xs) (h1 : c1 = cnt 1 xs) (h2 : c2 = cnt 2 xs) :
    Calls Try.prog 14 #[.slice ao n cap] w fun e w' =>
      e = .returned (.tuple #[.agg #[.int .i64 c0, .int .i64 c1, .int .i64 c2], .bool true]) ∧ Below w.heap.size w w' := by
  subst hn h0 h1 h2
  refine (counted_any ao cap xs w he).mono ?_
  rintro e w' ⟨k, hk, rfl, hb⟩
  rw [hk.out h, h]
  exact ⟨rfl, hb⟩

theorem counted_bad (ao : Option Addr) (cap n : Nat) (xs : List Int) (hn : n = xs.length) (w : World) (he : Elems w ao xs) (h : xs.all truthy = false) :
    Calls Try.prog 14 #[.slice ao n cap] w fun e w' => ∃ c0 c1 c2 : Int,
      e = .returned (.tuple #[.agg #[.int .i64 c0, .int .i64 c1, .int .i64 c2], .bool false]) ∧ Below w.heap.size w w' := by
  subst hn
  refine (counted_any ao cap xs w he).mono ?_
  rintro e w' ⟨k, hk, rfl, hb⟩
  rw [h]
  exact ⟨_, _, _, rfl, hb⟩

theorem AllOf_any (ao : Option Addr) (cap : Nat) (xs : List Int) (w : World) (he : Elems w ao xs) :
    Calls Try.prog 7 #[.slice ao xs.length cap] w fun e w' =>
      e = .returned (.tuple #[.int .i64 (pickVal min 2 xs), .int .i64 (pickErr xs)]) ∧ Below w.heap.size w w' := by
  obtain ⟨n, hn⟩ : ∃ n, n = xs.length := ⟨_, rfl⟩
  rw [← hn]
  cases h : xs.all truthy
  · have ev : pickVal min 2 xs = 0 := by simp [pickVal, h]
    have ee : pickErr xs = 2 := by simp [pickErr, h]
    rw [ev, ee]
    have hc := counted_bad ao cap n xs hn w he h
    clear he h ev ee hn
    go_enter Try.func7, Try.ntmps7
    go_wp2_with (go_at_call 14; refine hc.mono ?_; rintro e w1 ⟨c0, c1, c2, rfl, hb⟩)
    go_ret2
    exact ⟨rfl, hb.alloc hb.size _⟩
  · have ee : pickErr xs = 0 := by simp [pickErr, h]
    rw [ee]
    obtain ⟨c0, h0⟩ : ∃ c, c = cnt 0 xs := ⟨_, rfl⟩
    obtain ⟨c1, h1⟩ : ∃ c, c = cnt 1 xs := ⟨_, rfl⟩
    obtain ⟨c2, h2⟩ : ∃ c, c = cnt 2 xs := ⟨_, rfl⟩
    have hc := counted_ok ao cap n xs hn w he h c0 c1 c2 h0 h1 h2
    by_cases p0 : 0 < c0
    · rw [least_no h (h0 ▸ p0)]
      clear he h ee hn h0 h1 h2
      go_enter Try.func7, Try.ntmps7
      go_wp2_with (go_at_call 14; refine hc.mono ?_; rintro e w1 ⟨rfl, hb⟩)
      go_ret2
      exact ⟨rfl, hb.alloc hb.size _⟩
    · by_cases p1 : 0 < c1
      · rw [least_unknown h (h0 ▸ p0) (h1 ▸ p1)]
        clear he h ee hn h0 h1 h2
        go_enter Try.func7, Try.ntmps7
        go_wp2_with (go_at_call 14; refine hc.mono ?_; rintro e w1 ⟨rfl, hb⟩)
        go_ret2
        exact ⟨rfl, hb.alloc hb.size _⟩
      · rw [least_yes h (h0 ▸ p0) (h1 ▸ p1)]
        clear he h ee hn h0 h1 h2
        go_enter Try.func7, Try.ntmps7
        go_wp2_with (go_at_call 14; refine hc.mono ?_; rintro e w1 ⟨rfl, hb⟩)
        go_ret2
        exact ⟨rfl, hb.alloc hb.size _⟩

theorem AnyOf_any (ao : Option Addr) (cap : Nat) (xs : List Int) (w : World) (he : Elems w ao xs) :
    Calls Try.prog 9 #[.slice ao xs.length cap] w fun e w' =>
      e = .returned (.tuple #[.int .i64 (pickVal max 0 xs), .int .i64 (pickErr xs)]) ∧ Below w.heap.size w w' := by
  obtain ⟨n, hn⟩ : ∃ n, n = xs.length := ⟨_, rfl⟩
  rw [← hn]
  cases h : xs.all truthy
  · have ev : pickVal max 0 xs = 0 := by simp [pickVal, h]
    have ee : pickErr xs = 2 := by simp [pickErr, h]
    rw [ev, ee]
    have hc := counted_bad ao cap n xs hn w he h
    clear he h ev ee hn
    go_enter Try.func9, Try.ntmps9
    go_wp2_with (go_at_call 14; refine hc.mono ?_; rintro e w1 ⟨c0, c1, c2, rfl, hb⟩)
    go_ret2
    exact ⟨rfl, hb.alloc hb.size _⟩
  · have ee : pickErr xs = 0 := by simp [pickErr, h]
    rw [ee]
    obtain ⟨c0, h0⟩ : ∃ c, c = cnt 0 xs := ⟨_, rfl⟩
    obtain ⟨c1, h1⟩ : ∃ c, c = cnt 1 xs := ⟨_, rfl⟩
    obtain ⟨c2, h2⟩ : ∃ c, c = cnt 2 xs := ⟨_, rfl⟩
    have hc := counted_ok ao cap n xs hn w he h c0 c1 c2 h0 h1 h2
    by_cases p2 : 0 < c2
    · rw [most_yes h (h2 ▸ p2)]
      clear he h ee hn h0 h1 h2
      go_enter Try.func9, Try.ntmps9
      go_wp2_with (go_at_call 14; refine hc.mono ?_; rintro e w1 ⟨rfl, hb⟩)
      go_ret2
      exact ⟨rfl, hb.alloc hb.size _⟩
    · by_cases p1 : 0 < c1
      · rw [most_unknown h (h2 ▸ p2) (h1 ▸ p1)]
        clear he h ee hn h0 h1 h2
        go_enter Try.func9, Try.ntmps9
        go_wp2_with (go_at_call 14; refine hc.mono ?_; rintro e w1 ⟨rfl, hb⟩)
        go_ret2
        exact ⟨rfl, hb.alloc hb.size _⟩
      · rw [most_no h (h2 ▸ p2) (h1 ▸ p1)]
        clear he h ee hn h0 h1 h2
        go_enter Try.func9, Try.ntmps9
        go_wp2_with (go_at_call 14; refine hc.mono ?_; rintro e w1 ⟨rfl, hb⟩)
        go_ret2
        exact ⟨rfl, hb.alloc hb.size _⟩

end Go.Proofs.Ytnplkdngboogdaa
