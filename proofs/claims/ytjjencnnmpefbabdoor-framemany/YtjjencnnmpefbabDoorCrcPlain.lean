/- Words of 32 bits with bits divided away: plain arithmetic. -/
namespace Go.Proofs.YtjjencnnmpefbabDoor

/-- a word with its lowest bit divided away -/
def one (r : BitVec 32) : BitVec 32 := (r >>> 1) ^^^ (if r.getLsbD 0 then 0xedb88320#32 else 0#32)

/-- so many bits divided away -/
def ones : Nat → BitVec 32 → BitVec 32
  | 0, r => r
  | n + 1, r => ones n (one r)

theorem one_xor (a b : BitVec 32) : one (a ^^^ b) = one a ^^^ one b := by
  unfold one
  rw [BitVec.ushiftRight_xor_distrib, BitVec.getLsbD_xor]
  have hc : ∀ x y p : BitVec 32, x ^^^ p ^^^ (y ^^^ p) = x ^^^ y := by
    intro x y p
    rw [show x ^^^ p ^^^ (y ^^^ p) = x ^^^ y ^^^ (p ^^^ p) by ac_rfl, BitVec.xor_self, BitVec.xor_zero]
  cases a.getLsbD 0 <;> cases b.getLsbD 0 <;> simp [hc] <;> ac_rfl

theorem ones_xor (n : Nat) : ∀ a b : BitVec 32, ones n (a ^^^ b) = ones n a ^^^ ones n b := by
  induction n with
  | zero => intro a b; rfl
  | succ n ih => intro a b; simp only [ones]; rw [one_xor, ih]

theorem ones_add (m n : Nat) : ∀ r : BitVec 32, ones (m + n) r = ones n (ones m r) := by
  induction m with
  | zero => intro r; simp [ones]
  | succ m ih => intro r; rw [show m + 1 + n = (m + n) + 1 by omega]; simp only [ones]; exact ih _

theorem one_even (r : BitVec 32) (h : r.getLsbD 0 = false) : one r = r >>> 1 := by
  unfold one; rw [h]; simp

theorem one_zero (r : BitVec 32) (h : one r = 0#32) : r = 0#32 := by
  by_cases hr : r.getLsbD 0 = true
  · unfold one at h
    rw [if_pos hr] at h
    have := congrArg (fun x => x.getLsbD 31) h
    simp at this
  · have hr : r.getLsbD 0 = false := by simpa using hr
    rw [one_even r hr] at h
    apply BitVec.eq_of_getLsbD_eq
    intro i hi
    cases i with
    | zero => rw [hr]; simp
    | succ i =>
      have := congrArg (fun x => x.getLsbD i) h
      simp only [BitVec.getLsbD_ushiftRight] at this
      rw [show i + 1 = 1 + i by omega, this]
      simp

theorem ones_zero (n : Nat) : ∀ r : BitVec 32, ones n r = 0#32 → r = 0#32 := by
  induction n with
  | zero => intro r h; exact h
  | succ n ih => intro r h; exact one_zero _ (ih _ h)

theorem ones_of_zero (n : Nat) : ones n 0#32 = 0#32 := by
  induction n with
  | zero => rfl
  | succ n ih => simp only [ones]; rw [show one 0#32 = 0#32 from by decide]; exact ih

/-- a bit comes down -/
theorem ones_bit : ∀ k : Nat, k < 32 → ones k (1#32 <<< k) = 1#32 := by decide

/-- what four bits turn over -/
def fours : List Nat := [0, 498536548, 997073096, 651767980, 1994146192, 1802195444, 1303535960, 1342533948, 3988292384, 4027552580, 3604390888, 3412177804, 2607071920, 2262029012, 2685067896, 3183342108]

theorem fours_ok : ∀ i, i < 16 → ones 4 (BitVec.ofNat 32 i) = BitVec.ofNat 32 (fours.getD i 0) := by decide

theorem ones_four (r : BitVec 32) : ones 4 r = (r >>> 4) ^^^ BitVec.ofNat 32 (fours.getD (r.toNat % 16) 0) := by
  have hlow : ∀ q : BitVec 32, q.getLsbD 0 = false → q.getLsbD 1 = false → q.getLsbD 2 = false → q.getLsbD 3 = false → ones 4 q = q >>> 4 := by
    intro q h0 h1 h2 h3
    simp only [ones]
    rw [one_even q h0, one_even (q >>> 1) (by simpa using h1), one_even (q >>> 1 >>> 1) (by simpa using h2), one_even (q >>> 1 >>> 1 >>> 1) (by simpa using h3)]
    simp [← BitVec.shiftRight_add]
  have hr : r = (r &&& 0xfffffff0#32) ^^^ (r &&& 15#32) := by
    apply BitVec.eq_of_getLsbD_eq
    intro i hi
    have : ∀ i, i < 32 → (0xfffffff0#32).getLsbD i = !(15#32).getLsbD i := by decide
    rw [BitVec.getLsbD_xor, BitVec.getLsbD_and, BitVec.getLsbD_and, this i hi]
    cases r.getLsbD i <;> cases (15#32).getLsbD i <;> rfl
  have h15 : r &&& 15#32 = BitVec.ofNat 32 (r.toNat % 16) := by
    apply BitVec.eq_of_toNat_eq
    rw [BitVec.toNat_and]
    simp only [BitVec.toNat_ofNat]
    rw [show 15 % 2 ^ 32 = 2 ^ 4 - 1 by decide, Nat.and_two_pow_sub_one_eq_mod]
    omega
  have hs : (r &&& 0xfffffff0#32) >>> 4 = r >>> 4 := by
    apply BitVec.eq_of_getLsbD_eq
    intro i hi
    have : ∀ i, i < 32 → (0xfffffff0#32).getLsbD (4 + i) = decide (4 + i < 32) := by decide
    simp only [BitVec.getLsbD_ushiftRight, BitVec.getLsbD_and]
    rw [this i hi]
    by_cases h : 4 + i < 32
    · simp [h]
    · rw [BitVec.getLsbD_of_ge _ _ (by omega)]; simp
  conv => lhs; rw [hr]
  rw [ones_xor, hlow _ (by simp) (by simp) (by simp) (by simp), hs, h15, fours_ok _ (Nat.mod_lt _ (by omega))]

/-- a byte more -/
def fed (r : BitVec 32) (c : Int) : BitVec 32 := ones 8 (r ^^^ BitVec.ofNat 32 c.toNat)

def run (r : BitVec 32) (xs : List Int) : BitVec 32 := xs.foldl fed r

theorem run_append (r : BitVec 32) (xs ys : List Int) : run r (xs ++ ys) = run (run r xs) ys := by simp [run]

/-- what two words have apart goes its own way -/
theorem run_xor (xs : List Int) : ∀ r d : BitVec 32, run (r ^^^ d) xs = run r xs ^^^ ones (8 * xs.length) d := by
  induction xs with
  | nil => intro r d; rfl
  | cons x xs ih =>
    intro r d
    have e : fed (r ^^^ d) x = fed r x ^^^ ones 8 d := by
      unfold fed
      rw [show r ^^^ d ^^^ BitVec.ofNat 32 x.toNat = r ^^^ BitVec.ofNat 32 x.toNat ^^^ d by ac_rfl, ones_xor]
    show run (fed (r ^^^ d) x) xs = run (fed r x) xs ^^^ _
    rw [e, ih, show 8 * (x :: xs).length = 8 + 8 * xs.length by simp; omega, ones_add]

/-- the sum of bytes behind a sum -/
def sumOf (s : BitVec 32) (xs : List Int) : BitVec 32 := ~~~(run (~~~s) xs)

theorem sumOf_append (s : BitVec 32) (xs ys : List Int) : sumOf s (xs ++ ys) = sumOf (sumOf s xs) ys := by
  unfold sumOf; rw [run_append]; simp

end Go.Proofs.YtjjencnnmpefbabDoor
