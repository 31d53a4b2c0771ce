/- Numbers of four bytes, and frames: plain arithmetic. -/
import Derived.Test.YtjjencnnmpefbabDoorCrcPlain
namespace Go.Proofs.YtjjencnnmpefbabDoor

/-- a number as four bytes, the lowest first -/
def le4 (n : Nat) : List Int := [((n % 256 : Nat) : Int), ((n / 256 % 256 : Nat) : Int), ((n / 65536 % 256 : Nat) : Int), ((n / 16777216 % 256 : Nat) : Int)]

/-- the number that bytes begin with -/
def num4 (xs : List Int) : Int := xs.getD 0 0 + 256 * xs.getD 1 0 + 65536 * xs.getD 2 0 + 16777216 * xs.getD 3 0

theorem le4_length (n : Nat) : (le4 n).length = 4 := rfl

theorem le4_byte (n : Nat) : ∀ y ∈ le4 n, 0 ≤ y ∧ y ≤ 255 := by
  intro y hy
  simp only [le4, List.mem_cons, List.not_mem_nil, or_false] at hy
  omega

theorem num4_le4 (n : Nat) (h : n < 4294967296) (xs : List Int) : num4 (le4 n ++ xs) = n := by
  simp only [num4, le4, List.cons_append, List.nil_append, List.getD_cons_zero, List.getD_cons_succ]
  omega

/-- bytes that are at least four, as their first four and the others -/
theorem four_parts {xs : List Int} (h : 4 ≤ xs.length) : ∃ a b c d ys, xs = a :: b :: c :: d :: ys := by
  match xs, h with
  | a :: b :: c :: d :: ys, _ => exact ⟨a, b, c, d, ys, rfl⟩

theorem num4_bounds {xs : List Int} (h : 4 ≤ xs.length) (hb : ∀ y ∈ xs, 0 ≤ y ∧ y ≤ 255) : 0 ≤ num4 xs ∧ num4 xs ≤ 4294967295 := by
  obtain ⟨a, b, c, d, ys, rfl⟩ := four_parts h
  have ha := hb a (by simp)
  have hb1 := hb b (by simp)
  have hc := hb c (by simp)
  have hd := hb d (by simp)
  simp only [num4, List.getD_cons_zero, List.getD_cons_succ]
  omega

/-- what four bytes tell is told by no other four -/
theorem le4_num4 {xs : List Int} (h : 4 ≤ xs.length) (hb : ∀ y ∈ xs, 0 ≤ y ∧ y ≤ 255) : le4 (num4 xs).toNat = xs.take 4 := by
  obtain ⟨a, b, c, d, ys, rfl⟩ := four_parts h
  have ha := hb a (by simp)
  have hb1 := hb b (by simp)
  have hc := hb c (by simp)
  have hd := hb d (by simp)
  simp only [num4, List.getD_cons_zero, List.getD_cons_succ, le4, List.take_succ_cons, List.take_zero, List.cons.injEq, and_true]
  omega

/-- the sum of bytes, as a number -/
def sumN (xs : List Int) : Nat := (sumOf 0#32 xs).toNat

theorem sumN_lt (xs : List Int) : sumN xs < 4294967296 := (sumOf 0#32 xs).isLt

/-- the frame of a body -/
def frameOf (xs : List Int) : List Int := le4 xs.length ++ (le4 (sumN xs) ++ xs)

theorem frameOf_length (xs : List Int) : (frameOf xs).length = xs.length + 8 := by
  simp only [frameOf, List.length_append, le4_length]; omega

theorem frameOf_byte {xs : List Int} (hb : ∀ y ∈ xs, 0 ≤ y ∧ y ≤ 255) : ∀ y ∈ frameOf xs, 0 ≤ y ∧ y ≤ 255 := by
  intro y hy
  rcases List.mem_append.1 hy with h | h
  · exact le4_byte _ y h
  · rcases List.mem_append.1 h with h | h
    · exact le4_byte _ y h
    · exact hb y h

/-- what Seal answers: bytes and error -/
def sealVal (xs : List Int) : List Int := if 4000 < xs.length then [] else frameOf xs
def sealErr (xs : List Int) : Int := if 4000 < xs.length then 1 else 0

/-- the body that bytes tell -/
def bodyOf (xs : List Int) : List Int := (xs.drop 8).take (num4 xs).toNat

/-- what Open answers: error, length, bytes -/
def openErr (xs : List Int) : Int :=
  if xs.length < 8 then 5 else if 4000 < num4 xs then 1 else if (xs.length : Int) < 8 + num4 xs then 5 else if (sumN (bodyOf xs) : Int) ≠ num4 (xs.drop 4) then 14 else 0
def openVal (xs : List Int) : List Int := if openErr xs = 0 then bodyOf xs else []
def openLen (xs : List Int) : Nat := if openErr xs = 0 then 8 + (num4 xs).toNat else 0

theorem open_bad {xs : List Int} (h : ¬ openErr xs = 0) : openVal xs = [] ∧ openLen xs = 0 := by
  unfold openVal openLen; rw [if_neg h, if_neg h]; exact ⟨rfl, rfl⟩

theorem open_short {xs : List Int} (h : xs.length < 8) : openErr xs = 5 ∧ openVal xs = [] ∧ openLen xs = 0 := by
  have e : openErr xs = 5 := by unfold openErr; rw [if_pos h]
  exact ⟨e, open_bad (by omega)⟩

theorem open_great {xs : List Int} (h : ¬ xs.length < 8) (h2 : 4000 < num4 xs) : openErr xs = 1 ∧ openVal xs = [] ∧ openLen xs = 0 := by
  have e : openErr xs = 1 := by unfold openErr; rw [if_neg h, if_pos h2]
  exact ⟨e, open_bad (by omega)⟩

theorem open_torn {xs : List Int} (h : ¬ xs.length < 8) (h2 : ¬ 4000 < num4 xs) (h3 : (xs.length : Int) < 8 + num4 xs) : openErr xs = 5 ∧ openVal xs = [] ∧ openLen xs = 0 := by
  have e : openErr xs = 5 := by unfold openErr; rw [if_neg h, if_neg h2, if_pos h3]
  exact ⟨e, open_bad (by omega)⟩

theorem open_other {xs : List Int} (h : ¬ xs.length < 8) (h2 : ¬ 4000 < num4 xs) (h3 : ¬ (xs.length : Int) < 8 + num4 xs) (h4 : ¬ (sumN (bodyOf xs) : Int) = num4 (xs.drop 4)) : openErr xs = 14 ∧ openVal xs = [] ∧ openLen xs = 0 := by
  have e : openErr xs = 14 := by unfold openErr; rw [if_neg h, if_neg h2, if_neg h3, if_pos h4]
  exact ⟨e, open_bad (by omega)⟩

theorem open_good {xs : List Int} (h : ¬ xs.length < 8) (h2 : ¬ 4000 < num4 xs) (h3 : ¬ (xs.length : Int) < 8 + num4 xs) (h4 : (sumN (bodyOf xs) : Int) = num4 (xs.drop 4)) : openErr xs = 0 ∧ openVal xs = bodyOf xs ∧ openLen xs = 8 + (num4 xs).toNat := by
  have e : openErr xs = 0 := by unfold openErr; rw [if_neg h, if_neg h2, if_neg h3, if_neg (fun k => k h4)]
  refine ⟨e, ?_, ?_⟩
  · unfold openVal; rw [if_pos e]
  · unfold openLen; rw [if_pos e]

/-- what opens, opens by all four -/
theorem open_inv {xs : List Int} (h : openErr xs = 0) : 8 ≤ xs.length ∧ num4 xs ≤ 4000 ∧ 8 + num4 xs ≤ (xs.length : Int) ∧ (sumN (bodyOf xs) : Int) = num4 (xs.drop 4) := by
  by_cases h1 : xs.length < 8
  · have := (open_short h1).1; omega
  · by_cases h2 : 4000 < num4 xs
    · have := (open_great h1 h2).1; omega
    · by_cases h3 : (xs.length : Int) < 8 + num4 xs
      · have := (open_torn h1 h2 h3).1; omega
      · by_cases h4 : (sumN (bodyOf xs) : Int) = num4 (xs.drop 4)
        · exact ⟨by omega, by omega, by omega, h4⟩
        · have := (open_other h1 h2 h3 h4).1; omega

theorem openErr_cases (xs : List Int) : openErr xs = 0 ∨ openErr xs = 1 ∨ openErr xs = 5 ∨ openErr xs = 14 := by
  unfold openErr
  split
  · omega
  · split
    · omega
    · split
      · omega
      · split <;> omega

theorem bodyOf_length {xs : List Int} (h1 : 8 ≤ xs.length) (h0 : 0 ≤ num4 xs) (h : 8 + num4 xs ≤ (xs.length : Int)) : ((bodyOf xs).length : Int) = num4 xs := by
  unfold bodyOf
  rw [List.length_take, List.length_drop]
  omega

theorem bodyOf_byte {xs : List Int} (hb : ∀ y ∈ xs, 0 ≤ y ∧ y ≤ 255) : ∀ y ∈ bodyOf xs, 0 ≤ y ∧ y ≤ 255 :=
  fun y hy => hb y (List.mem_of_mem_drop (List.mem_of_mem_take hy))

theorem openVal_byte {xs : List Int} (hb : ∀ y ∈ xs, 0 ≤ y ∧ y ≤ 255) : ∀ y ∈ openVal xs, 0 ≤ y ∧ y ≤ 255 := by
  intro y hy
  unfold openVal at hy
  split at hy
  · exact bodyOf_byte hb y hy
  · cases hy

theorem num4_append {xs : List Int} (h : 4 ≤ xs.length) (ys : List Int) : num4 (xs ++ ys) = num4 xs := by
  obtain ⟨a, b, c, d, zs, rfl⟩ := four_parts h
  simp only [num4, List.cons_append, List.getD_cons_zero, List.getD_cons_succ]

theorem num4_take {xs : List Int} (h : 4 ≤ xs.length) : num4 (xs.take 4) = num4 xs := by
  obtain ⟨a, b, c, d, zs, rfl⟩ := four_parts h
  simp only [num4, List.take_succ_cons, List.take_zero, List.getD_cons_zero, List.getD_cons_succ]

/-- whatever stands behind four bytes of a length, four of a sum and a body -/
theorem open_laid (sm body zs : List Int) (hs : sm.length = 4) (hl : body.length ≤ 4000) :
    ¬ (le4 body.length ++ (sm ++ body) ++ zs).length < 8 ∧ num4 (le4 body.length ++ (sm ++ body) ++ zs) = body.length ∧ bodyOf (le4 body.length ++ (sm ++ body) ++ zs) = body ∧
      num4 ((le4 body.length ++ (sm ++ body) ++ zs).drop 4) = num4 sm := by
  have e : num4 (le4 body.length ++ (sm ++ body) ++ zs) = body.length := by rw [List.append_assoc]; exact num4_le4 _ (by omega) _
  refine ⟨by simp [le4_length]; omega, e, ?_, ?_⟩
  · unfold bodyOf
    rw [e, show le4 body.length ++ (sm ++ body) ++ zs = (le4 body.length ++ sm) ++ (body ++ zs) by simp, List.drop_left' (by simp [le4_length, hs]), Int.toNat_natCast, List.take_left]
  · rw [List.append_assoc, List.drop_left' (le4_length _), List.append_assoc, num4_append (by omega)]

/-- what was sealed is opened -/
theorem open_frame (body zs : List Int) (hl : body.length ≤ 4000) : openErr (frameOf body ++ zs) = 0 ∧ openVal (frameOf body ++ zs) = body ∧ openLen (frameOf body ++ zs) = body.length + 8 := by
  obtain ⟨h1, h2, h3, h4⟩ := open_laid (le4 (sumN body)) body zs (le4_length _) hl
  have h5 : num4 (le4 (sumN body)) = sumN body := by
    have := num4_le4 (sumN body) (sumN_lt _) []
    rwa [List.append_nil] at this
  have hx : frameOf body ++ zs = le4 body.length ++ (le4 (sumN body) ++ body) ++ zs := rfl
  rw [← hx] at h1 h2 h3 h4
  have h6 : ((frameOf body ++ zs).length : Int) = body.length + 8 + zs.length := by rw [List.length_append, frameOf_length]; omega
  obtain ⟨e1, e2, e3⟩ := open_good h1 (by omega) (by omega) (by rw [h3, h4, h5])
  refine ⟨e1, by rw [e2, h3], ?_⟩
  rw [e3, h2]
  omega

/-- a frame that is torn is none -/
theorem open_cut (body : List Int) (hl : body.length ≤ 4000) (k : Nat) (hk : k < body.length + 8) : openErr ((frameOf body).take k) = 5 ∧ openVal ((frameOf body).take k) = [] ∧ openLen ((frameOf body).take k) = 0 := by
  have hlen : ((frameOf body).take k).length = k := by rw [List.length_take, frameOf_length]; omega
  by_cases h8 : k < 8
  · exact open_short (by omega)
  · have e : num4 ((frameOf body).take k) = body.length := by
      have h4 : 4 ≤ ((frameOf body).take k).length := by omega
      rw [← num4_take h4, List.take_take, Nat.min_eq_left (by omega), num4_take (by rw [frameOf_length]; omega)]
      exact num4_le4 _ (by omega) _
    exact open_torn (by omega) (by omega) (by omega)

/-- what opens is the frame of what was opened -/
theorem open_fixed {xs : List Int} (hb : ∀ y ∈ xs, 0 ≤ y ∧ y ≤ 255) (h : openErr xs = 0) : (openVal xs).length ≤ 4000 ∧ openLen xs ≤ xs.length ∧ 8 ≤ openLen xs ∧ openLen xs ≤ 4008 ∧ frameOf (openVal xs) = xs.take (openLen xs) := by
  obtain ⟨h1, h2, h3, h4⟩ := open_inv h
  have h0 := num4_bounds (by omega) hb
  obtain ⟨_, e2, e3⟩ := open_good (by omega) (by omega) (by omega) h4
  have hl := bodyOf_length h1 h0.1 h3
  rw [e2, e3]
  refine ⟨by omega, by omega, by omega, by omega, ?_⟩
  have hb2 : ∀ y ∈ xs.drop 4, 0 ≤ y ∧ y ≤ 255 := fun y hy => hb y (List.mem_of_mem_drop hy)
  have f1 : le4 (bodyOf xs).length = xs.take 4 := by
    rw [← le4_num4 (by omega) hb]
    congr 1
    omega
  have f2 : le4 (sumN (bodyOf xs)) = (xs.drop 4).take 4 := by
    rw [← le4_num4 (by rw [List.length_drop]; omega) hb2, ← h4, Int.toNat_natCast]
  unfold frameOf
  rw [f1, f2]
  unfold bodyOf
  generalize (num4 xs).toNat = m
  rw [show xs.take (8 + m) = xs.take (4 + (4 + m)) by congr 1; omega, List.take_add, List.take_add (i := 4) (j := m), List.drop_drop]

/-- another sum is seen -/
theorem open_sum (sm body : List Int) (hs : sm.length = 4) (hl : body.length ≤ 4000) (hne : ¬ (sumN body : Int) = num4 sm) : openErr (le4 body.length ++ (sm ++ body)) = 14 ∧ openVal (le4 body.length ++ (sm ++ body)) = [] ∧ openLen (le4 body.length ++ (sm ++ body)) = 0 := by
  obtain ⟨h1, h2, h3, h4⟩ := open_laid sm body [] hs hl
  rw [List.append_nil] at h1 h2 h3 h4
  have h6 : ((le4 body.length ++ (sm ++ body)).length : Int) = body.length + 8 := by simp only [List.length_append, le4_length, hs]; omega
  exact open_other h1 (by omega) (by omega) (by rw [h3, h4]; exact hne)

end Go.Proofs.YtjjencnnmpefbabDoor
