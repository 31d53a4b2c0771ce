/- The least of four numbers. -/
import Derived.Test.YtibdgjkmlomgcaaDoorSumOwn
import Derived.Laws.BitsLemmas
namespace Go.Proofs.YtibdgjkmlomgcaaDoor
open Go.ChangeShapes Go.WideShapes Go.ChangeAt Go.RowKit

theorem run_min_int4 {P : Program} (w : World) (ts : Array TypeId) (t : TypeId) (x y z v : Int) :
    (Builtin.min_ ts t #[.int .i64 x, .int .i64 y, .int .i64 z, .int .i64 v]).run P w = .ok (.int .i64 (min (min (min x y) z) v)) w := by
  simp [Builtin.min_, Builtin.min2]
  split <;> split <;> split <;> omega

/-- two sums, as numbers of 64 bits -/
theorem wd_xor64 (a b : BitVec 32) : bits .xor .i64 (wd a) (wd b) = wd (a ^^^ b) := by
  unfold wd
  have ha := a.isLt
  have hb := b.isLt
  have hx : a.toNat ^^^ b.toNat < 2 ^ 32 := Nat.xor_lt_two_pow ha hb
  show IntKind.i64.wrap ((BitVec.ofInt 64 (a.toNat : Int) ^^^ BitVec.ofInt 64 (b.toNat : Int)).toNat : Int) = _
  rw [BitVec.toNat_xor, BitVec.ofInt_natCast, BitVec.ofInt_natCast, BitVec.toNat_ofNat, BitVec.toNat_ofNat, Nat.mod_eq_of_lt (by omega), Nat.mod_eq_of_lt (by omega), BitVec.toNat_xor, IntKind.wrap_i64]
  omega

end Go.Proofs.YtibdgjkmlomgcaaDoor
