/- What a bit that is turned over does to a sum. -/
import Derived.Test.YtjjencnnmpefbaaDoorLinPlain
namespace Go.Proofs.YtjjencnnmpefbaaDoor
open Go.ChangeShapes Go.WideShapes Go.ChangeAt Go.RowKit

/-- one bit of the bytes turned over -/
def flipped (f : Nat → Int) (p : Nat) : Nat → Int := fun i => if i = p / 8 then bits .xor .u8 (f i) ((2 ^ (p % 8) : Nat) : Int) else f i

theorem pow_byte (p : Nat) : (0 : Int) ≤ ((2 ^ (p % 8) : Nat) : Int) ∧ ((2 ^ (p % 8) : Nat) : Int) ≤ 255 := by
  have h : ∀ t, t < 8 → 2 ^ t ≤ 255 := by decide
  have := h (p % 8) (Nat.mod_lt _ (by omega))
  generalize 2 ^ (p % 8) = m at this ⊢
  omega

theorem flipped_byte {f : Nat → Int} {n p : Nat} (hf : ∀ i, i < n → 0 ≤ f i ∧ f i ≤ 255) : ∀ i, i < n → 0 ≤ flipped f p i ∧ flipped f p i ≤ 255 := by
  intro i hi
  unfold flipped
  split
  · have := xor_byte (hf i hi) (pow_byte p)
    exact ⟨this.1, this.2.1⟩
  · exact hf i hi

theorem ones_eight (t : Nat) (ht : t < 8) : ones 8 (BitVec.ofNat 32 (2 ^ t)) = ones (8 - t) 1#32 := by
  have e : ∀ t, t < 8 → BitVec.ofNat 32 (2 ^ t) = 1#32 <<< t := by decide
  rw [e t ht]
  conv => lhs; rw [show 8 = t + (8 - t) by omega]
  rw [ones_add, ones_bit t (by omega)]

theorem run_flipped (f : Nat → Int) (p : Nat) (r : BitVec 32) : ∀ n, (∀ i, i < n → 0 ≤ f i ∧ f i ≤ 255) → p < 8 * n → run r (rowOf n (flipped f p)) = run r (rowOf n f) ^^^ ones (8 * n - p) 1#32 := by
  intro n
  induction n with
  | zero => intro _ h; omega
  | succ n ih =>
    intro hf hp
    rw [rowOf_succ, rowOf_succ, run_append, run_append]
    show fed _ _ = fed _ _ ^^^ _
    by_cases h : p < 8 * n
    · rw [ih (fun i hi => hf i (by omega)) h]
      have e : flipped f p n = f n := by unfold flipped; rw [if_neg (by omega)]
      rw [e]
      unfold fed
      rw [show run r (rowOf n f) ^^^ ones (8 * n - p) 1#32 ^^^ BitVec.ofNat 32 (f n).toNat = run r (rowOf n f) ^^^ BitVec.ofNat 32 (f n).toNat ^^^ ones (8 * n - p) 1#32 by ac_rfl, ones_xor, ← ones_add]
      rw [show 8 * n - p + 8 = 8 * (n + 1) - p by omega]
    · have hq : p / 8 = n := by omega
      have e1 : rowOf n (flipped f p) = rowOf n f := rowOf_congr fun i hi => by unfold flipped; rw [if_neg (by omega)]
      have e2 : flipped f p n = bits .xor .u8 (f n) ((2 ^ (p % 8) : Nat) : Int) := by unfold flipped; rw [if_pos hq.symm]
      rw [e1, e2]
      unfold fed
      rw [(xor_byte (hf n (by omega)) (pow_byte p)).2.2, Int.toNat_natCast]
      rw [show run r (rowOf n f) ^^^ (BitVec.ofNat 32 (f n).toNat ^^^ BitVec.ofNat 32 (2 ^ (p % 8))) = run r (rowOf n f) ^^^ BitVec.ofNat 32 (f n).toNat ^^^ BitVec.ofNat 32 (2 ^ (p % 8)) by ac_rfl, ones_xor, ones_eight _ (Nat.mod_lt _ (by omega))]
      rw [show 8 - p % 8 = 8 * (n + 1) - p by omega]

/-- how far bits have been turned over: the bytes, the word of what was, how many -/
def Burst (n fm : Nat) (f0 f : Nat → Int) (k c : Nat) (v : BitVec 32) : Prop :=
  (∀ i, i < n → 0 ≤ f i ∧ f i ≤ 255) ∧ run (~~~0#32) (rowOf n f) = run (~~~0#32) (rowOf n f0) ^^^ ones (8 * n - fm) v ∧ (∀ j, k ≤ j → v.getLsbD j = false) ∧ (c = 0 ↔ v = 0#32) ∧ c ≤ k

theorem Burst.start {n fm : Nat} {f0 : Nat → Int} (h : ∀ i, i < n → 0 ≤ f0 i ∧ f0 i ≤ 255) : Burst n fm f0 f0 0 0 0#32 := by
  refine ⟨h, ?_, fun j _ => by simp, by simp, Nat.le_refl _⟩
  rw [ones_of_zero, BitVec.xor_zero]

theorem Burst.stay {n fm : Nat} {f0 f : Nat → Int} {k c : Nat} {v : BitVec 32} (h : Burst n fm f0 f k c v) : Burst n fm f0 f (k + 1) c v :=
  ⟨h.1, h.2.1, fun j hj => h.2.2.1 j (by omega), h.2.2.2.1, by have := h.2.2.2.2; omega⟩

theorem Burst.turn {n fm : Nat} {f0 f : Nat → Int} {k c : Nat} {v : BitVec 32} (h : Burst n fm f0 f k c v) (hk : k < 32) (hp : fm + k < 8 * n) :
    Burst n fm f0 (flipped f (fm + k)) (k + 1) (c + 1) (v ^^^ 1#32 <<< k) := by
  have hbit : ∀ j, (1#32 <<< k).getLsbD j = decide (j = k) := by
    intro j
    rw [BitVec.getLsbD_shiftLeft]
    by_cases h1 : j = k
    · subst h1; simp [hk]
    · by_cases h2 : j < k
      · simp [h2, h1]
      · simp [h2, h1]
        omega
  refine ⟨flipped_byte h.1, ?_, ?_, ?_, ?_⟩
  · rw [run_flipped f (fm + k) _ n h.1 hp, h.2.1, ones_xor]
    rw [show 8 * n - fm = k + (8 * n - (fm + k)) by omega, ones_add k _ (1#32 <<< k), ones_bit k hk]
    ac_rfl
  · intro j hj
    rw [BitVec.getLsbD_xor, h.2.2.1 j (by omega), hbit, decide_eq_false (by omega)]
    rfl
  · constructor
    · intro e; omega
    · intro e
      have := congrArg (fun x => x.getLsbD k) e
      simp only [BitVec.getLsbD_xor, h.2.2.1 k (Nat.le_refl _), hbit] at this
      simp at this
  · have := h.2.2.2.2
    omega

theorem Burst.seen {n fm : Nat} {f0 f : Nat → Int} {k c : Nat} {v : BitVec 32} (h : Burst n fm f0 f k c v) : c = 0 ↔ sumOf 0#32 (rowOf n f0) = sumOf 0#32 (rowOf n f) := by
  unfold sumOf
  rw [h.2.2.2.1, h.2.1]
  constructor
  · intro e
    rw [e, ones_of_zero, BitVec.xor_zero]
  · intro e
    have e2 := congrArg (fun x => ~~~x) e
    simp only [BitVec.not_not] at e2
    apply ones_zero (8 * n - fm)
    have e3 := congrArg (fun x => run (~~~0#32) (rowOf n f0) ^^^ x) e2
    simp only [BitVec.xor_self] at e3
    rw [e3, ← BitVec.xor_assoc, BitVec.xor_self, BitVec.zero_xor]

end Go.Proofs.YtjjencnnmpefbaaDoor
