/- Sums of lists whose bits go together. -/
import Derived.Test.YtjjencnnmpefbaaDoorCrcPlain
import Derived.Test.YtjjencnnmpefbaaDoorOwnOcts
import Derived.Laws.BitsAllLaws
namespace Go.Proofs.YtjjencnnmpefbaaDoor
open Go.ChangeShapes Go.WideShapes Go.ChangeAt Go.RowKit

theorem ofNat_xor (a b : Nat) : BitVec.ofNat 32 (a ^^^ b) = BitVec.ofNat 32 a ^^^ BitVec.ofNat 32 b := by
  apply BitVec.eq_of_toNat_eq
  simp [BitVec.toNat_xor, BitVec.toNat_ofNat]

/-- bytes whose bits go together -/
theorem xor_byte {a b : Int} (ha : 0 ≤ a ∧ a ≤ 255) (hb : 0 ≤ b ∧ b ≤ 255) :
    0 ≤ bits .xor .u8 a b ∧ bits .xor .u8 a b ≤ 255 ∧ BitVec.ofNat 32 (bits .xor .u8 a b).toNat = BitVec.ofNat 32 a.toNat ^^^ BitVec.ofNat 32 b.toNat := by
  have e := u8_xor a b ha.1 (by omega) hb.1 (by omega)
  have hlt : a.toNat ^^^ b.toNat < 2 ^ 8 := Nat.xor_lt_two_pow (by omega) (by omega)
  rw [e]
  refine ⟨by omega, by omega, ?_⟩
  rw [Int.toNat_natCast, ofNat_xor]

theorem run_three (n : Nat) (f g h d : Nat → Int) (hd : ∀ i, i < n → BitVec.ofNat 32 (d i).toNat = BitVec.ofNat 32 (f i).toNat ^^^ BitVec.ofNat 32 (g i).toNat ^^^ BitVec.ofNat 32 (h i).toNat) (r s t : BitVec 32) :
    run (r ^^^ s ^^^ t) (rowOf n d) = run r (rowOf n f) ^^^ run s (rowOf n g) ^^^ run t (rowOf n h) := by
  induction n with
  | zero => rfl
  | succ n ih =>
    rw [rowOf_succ, rowOf_succ, rowOf_succ, rowOf_succ, run_append, run_append, run_append, run_append, ih (fun i hi => hd i (by omega))]
    show fed _ _ = fed _ _ ^^^ fed _ _ ^^^ fed _ _
    unfold fed
    rw [hd n (by omega), ← ones_xor, ← ones_xor]
    congr 1
    ac_rfl

theorem sumOf_three (n : Nat) (f g h d : Nat → Int) (hd : ∀ i, i < n → BitVec.ofNat 32 (d i).toNat = BitVec.ofNat 32 (f i).toNat ^^^ BitVec.ofNat 32 (g i).toNat ^^^ BitVec.ofNat 32 (h i).toNat) :
    sumOf 0#32 (rowOf n d) = sumOf 0#32 (rowOf n f) ^^^ sumOf 0#32 (rowOf n g) ^^^ sumOf 0#32 (rowOf n h) := by
  unfold sumOf
  have e := run_three n f g h d hd (~~~0#32) (~~~0#32) (~~~0#32)
  rw [show ~~~0#32 ^^^ ~~~0#32 ^^^ ~~~0#32 = ~~~0#32 by decide] at e
  rw [e]
  simp only [← BitVec.allOnes_xor]
  generalize run _ (rowOf n f) = x
  generalize run _ (rowOf n g) = y
  generalize run _ (rowOf n h) = z
  generalize BitVec.allOnes 32 = o
  rw [show o ^^^ x ^^^ (o ^^^ y) ^^^ (o ^^^ z) = o ^^^ (x ^^^ y ^^^ z) ^^^ (o ^^^ o) by ac_rfl, BitVec.xor_self, BitVec.xor_zero]

end Go.Proofs.YtjjencnnmpefbaaDoor
