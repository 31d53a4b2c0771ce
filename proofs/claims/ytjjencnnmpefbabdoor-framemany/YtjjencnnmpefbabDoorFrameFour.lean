/- Numbers as four bytes, as the program tells and reads them. -/
import Derived.Test.YtjjencnnmpefbabDoorFramePlain
import Derived.Test.YtjjencnnmpefbabDoorOctPlain
import Derived.WalkLawsBesides
import Derived.Laws.BitsAllLaws
import Derived.LoopTactic
import Derived.Handy
namespace Go.Proofs.YtjjencnnmpefbabDoor
open Go.ChangeShapes Go.WideShapes Go.ChangeAt Go.RowKit

theorem tell_any (n : Nat) (h : n < 4294967296) (w : World) :
    Calls Tryd.prog 14 #[.int .i64 n] w fun e w' =>
      e = .returned (.agg #[.int .u8 ((n : Int) % 256), .int .u8 ((n : Int) / 256 % 256), .int .u8 ((n : Int) / 65536 % 256), .int .u8 ((n : Int) / 16777216)]) ∧ Below w.heap.size w w' := by
  go_enter Tryd.func14, Tryd.ntmps14
  go_wp2
  go_loopw [5] (fun i wr => ∃ (k : Nat) (c0 c1 c2 c3 : Int), k ≤ 4 ∧ i = .int .i64 k ∧
      wr = (w.alloc (.cells #[.int .u8 0, .int .u8 0, .int .u8 0, .int .u8 0] 39)).alloc (.cells #[.int .u8 c0, .int .u8 c1, .int .u8 c2, .int .u8 c3] 39) ∧
      Hid ((0 < k → c0 = (n : Int) % 256) ∧ (1 < k → c1 = (n : Int) / 256 % 256) ∧ (2 < k → c2 = (n : Int) / 65536 % 256) ∧ (3 < k → c3 = (n : Int) / 16777216)))
    (fun i _ => 4 - (intOf i).toNat)
  case atStart => exact ⟨0, 0, 0, 0, 0, by omega, rfl, rfl, by simp [Hid]⟩
  case round =>
    obtain ⟨k, c0, c1, c2, c3, hk, rfl, rfl, H⟩ := hrel
    rcases (show k = 0 ∨ k = 1 ∨ k = 2 ∨ k = 3 ∨ k = 4 by omega) with rfl | rfl | rfl | rfl | rfl
    · go_wp2
      go_roundw
      case rel => exact ⟨1, (n : Int) % 256, c1, c2, c3, by omega, by go_num, rfl, by simp [Hid]⟩
      case measure => simp [intOf]
    · have h0 := H.out.1 (by omega)
      subst h0
      go_wp2
      go_roundw
      case rel => exact ⟨2, (n : Int) % 256, (n : Int) / 256 % 256, c2, c3, by omega, by go_num, rfl, by simp [Hid]⟩
      case measure => simp [intOf]
    · have h0 := H.out.1 (by omega)
      have h1 := H.out.2.1 (by omega)
      subst h0 h1
      go_wp2
      go_roundw
      case rel => exact ⟨3, (n : Int) % 256, (n : Int) / 256 % 256, (n : Int) / 65536 % 256, c3, by omega, by go_num, rfl, by simp [Hid]⟩
      case measure => simp [intOf]
    · have h0 := H.out.1 (by omega)
      have h1 := H.out.2.1 (by omega)
      have h2 := H.out.2.2.1 (by omega)
      subst h0 h1 h2
      go_wp2
      go_roundw
      case rel => exact ⟨4, (n : Int) % 256, (n : Int) / 256 % 256, (n : Int) / 65536 % 256, (n : Int) / 16777216, by omega, by go_num, rfl, by simp [Hid]⟩
      case measure => simp [intOf]
    · have h0 := H.out.1 (by omega)
      have h1 := H.out.2.1 (by omega)
      have h2 := H.out.2.2.1 (by omega)
      have h3 := H.out.2.2.2 (by omega)
      subst h0 h1 h2 h3
      go_wp2
      refine bodyPost_ret (v := .agg #[.int .u8 ((n : Int) % 256), .int .u8 ((n : Int) / 256 % 256), .int .u8 ((n : Int) / 65536 % 256), .int .u8 ((n : Int) / 16777216)]) (by simp [results, Tryd.results14, go_sem]) rfl ⟨rfl, by go_grown⟩

theorem i64_or_nat (a b : Nat) (ha : a < 9223372036854775808) (hb : b < 9223372036854775808) : bits .or .i64 (a : Int) (b : Int) = ((a ||| b : Nat) : Int) := by
  have hx : a ||| b < 2 ^ 63 := Nat.or_lt_two_pow (by omega) (by omega)
  show IntKind.i64.wrap ((BitVec.ofInt 64 (a : Int) ||| BitVec.ofInt 64 (b : Int)).toNat : Int) = _
  rw [BitVec.toNat_or, BitVec.toNat_ofInt, BitVec.toNat_ofInt, IntKind.wrap_i64]
  have e1 : ((a : Int) % (2 ^ 64 : Nat)).toNat = a := by omega
  have e2 : ((b : Int) % (2 ^ 64 : Nat)).toNat = b := by omega
  rw [e1, e2]
  omega

/-- a byte is put above those that were read -/
theorem or_byte (m c : Int) (k : Nat) (hk : k ≤ 24) (m0 : 0 ≤ m) (m1 : m < ((2 ^ k : Nat) : Int)) (c0 : 0 ≤ c) (c1 : c ≤ 255) : bits .or .i64 m (c * ((2 ^ k : Nat) : Int)) = m + ((2 ^ k : Nat) : Int) * c := by
  obtain ⟨a, rfl⟩ := Int.eq_ofNat_of_zero_le m0
  obtain ⟨b, rfl⟩ := Int.eq_ofNat_of_zero_le c0
  have ha : a < 2 ^ k := by omega
  have h2 : (2 : Nat) ^ k ≤ 2 ^ 24 := Nat.pow_le_pow_right (by omega) hk
  have hb : 2 ^ k * b ≤ 2 ^ 24 * 255 := Nat.mul_le_mul h2 (by omega)
  have e : ((b : Int) * ((2 ^ k : Nat) : Int)) = ((2 ^ k * b : Nat) : Int) := by rw [Int.natCast_mul, Int.mul_comm]
  have e2 : (((2 ^ k : Nat) : Int) * (b : Int)) = ((2 ^ k * b : Nat) : Int) := by rw [Int.natCast_mul]
  have h3 : a ||| 2 ^ k * b = 2 ^ k * b + a := by rw [Nat.or_comm, Nat.two_pow_add_eq_or_of_lt ha]
  rw [e, e2, i64_or_nat a _ (by omega) (by omega), h3]
  omega

theorem told_any (ao : Option Addr) (cap : Nat) (xs : List Int) (h4 : 4 ≤ xs.length) (w : World) (he : Octs w ao cap xs) :
    Calls Tryd.prog 12 #[.slice ao xs.length cap] w fun e w' => e = .returned (.int .i64 (num4 xs)) ∧ w' = w := by
  obtain ⟨b, off, rfl, k0, l0, u0⟩ := he.at (k := 0) (by omega)
  obtain ⟨b', off', e1, k1, l1, u1⟩ := he.at (k := 1) (by omega)
  cases e1
  obtain ⟨b', off', e1, k2, l2, u2⟩ := he.at (k := 2) (by omega)
  cases e1
  obtain ⟨b', off', e1, k3, l3, u3⟩ := he.at (k := 3) (by omega)
  cases e1
  have hl := he.2.1
  clear he
  unfold num4
  generalize xs.getD 0 0 = x0 at k0 l0 u0 ⊢
  generalize xs.getD 1 0 = x1 at k1 l1 u1 ⊢
  generalize xs.getD 2 0 = x2 at k2 l2 u2 ⊢
  generalize xs.getD 3 0 = x3 at k3 l3 u3 ⊢
  generalize xs.length = n at h4 hl ⊢
  rw [Nat.add_zero] at k0
  have i0 : ∀ w, (Instr.index 39 (.agg #[.int .u8 x0, .int .u8 x1, .int .u8 x2, .int .u8 x3]) (.int .i64 0)).run Tryd.prog w = .ok (.int .u8 x0) w := fun _ => by kernel_rfl
  have i1 : ∀ w, (Instr.index 39 (.agg #[.int .u8 x0, .int .u8 x1, .int .u8 x2, .int .u8 x3]) (.int .i64 1)).run Tryd.prog w = .ok (.int .u8 x1) w := fun _ => by kernel_rfl
  have i2 : ∀ w, (Instr.index 39 (.agg #[.int .u8 x0, .int .u8 x1, .int .u8 x2, .int .u8 x3]) (.int .i64 2)).run Tryd.prog w = .ok (.int .u8 x2) w := fun _ => by kernel_rfl
  have i3 : ∀ w, (Instr.index 39 (.agg #[.int .u8 x0, .int .u8 x1, .int .u8 x2, .int .u8 x3]) (.int .i64 3)).run Tryd.prog w = .ok (.int .u8 x3) w := fun _ => by kernel_rfl
  have hat : ∀ w, (Instr.arrayAt 39 (.slice (some ⟨b, off, none⟩) n cap)).run Tryd.prog w = .ok (.pointer (some ⟨b, off, none⟩)) w := fun w => run_arrayAt w _ _ _ _ _ _ Tryd.underlying39 h4
  go_enter Tryd.func12, Tryd.ntmps12
  go_wp2
  go_loopw [3, 9] (fun q i wr => ∃ (k : Nat) (m : Int), k ≤ 4 ∧ q = .int .i64 m ∧ i = .int .i64 k ∧ wr = w ∧
      Hid ((k = 0 → m = 0) ∧ (k = 1 → m = x0) ∧ (k = 2 → m = x0 + 256 * x1) ∧ (k = 3 → m = x0 + 256 * x1 + 65536 * x2) ∧ (k = 4 → m = x0 + 256 * x1 + 65536 * x2 + 16777216 * x3)))
    (fun _ i _ => 4 - (intOf i).toNat)
  case atStart => exact ⟨0, 0, by omega, rfl, rfl, rfl, by simp [Hid]⟩
  case round =>
    obtain ⟨k, m, hk, rfl, rfl, rfl, H⟩ := hrel
    rcases (show k = 0 ∨ k = 1 ∨ k = 2 ∨ k = 3 ∨ k = 4 by omega) with rfl | rfl | rfl | rfl | rfl
    · have h0 := H.out.1 rfl
      have o : bits .or .i64 m x0 = x0 := by
        have := or_byte m x0 0 (by omega) (by omega) (by omega) l0 u0
        simp only [Nat.pow_zero, Int.cast_ofNat_Int, Int.mul_one, Int.one_mul] at this
        rw [this]; omega
      clear h0
      go_wp2
      go_roundw
      case rel => exact ⟨1, x0, by omega, rfl, by go_num, trivial, by simp [Hid]⟩
      case measure => simp [intOf]
    · have h0 := H.out.2.1 rfl
      have o : bits .or .i64 m (x1 * 256) = x0 + 256 * x1 := by rw [h0]; exact or_byte x0 x1 8 (by omega) (by omega) (by omega) l1 u1
      clear h0
      go_wp2
      go_roundw
      case rel => exact ⟨2, x0 + 256 * x1, by omega, rfl, by go_num, trivial, by simp [Hid]⟩
      case measure => simp [intOf]
    · have h0 := H.out.2.2.1 rfl
      have o : bits .or .i64 m (x2 * 65536) = x0 + 256 * x1 + 65536 * x2 := by rw [h0]; exact or_byte _ x2 16 (by omega) (by omega) (by omega) l2 u2
      clear h0
      go_wp2
      go_roundw
      case rel => exact ⟨3, x0 + 256 * x1 + 65536 * x2, by omega, rfl, by go_num, trivial, by simp [Hid]⟩
      case measure => simp [intOf]
    · have h0 := H.out.2.2.2.1 rfl
      have o : bits .or .i64 m (x3 * 16777216) = x0 + 256 * x1 + 65536 * x2 + 16777216 * x3 := by rw [h0]; exact or_byte _ x3 24 (by omega) (by omega) (by omega) l3 u3
      clear h0
      go_wp2
      go_roundw
      case rel => exact ⟨4, x0 + 256 * x1 + 65536 * x2 + 16777216 * x3, by omega, rfl, by go_num, trivial, by simp [Hid]⟩
      case measure => simp [intOf]
    · have h0 := H.out.2.2.2.2 rfl
      subst h0
      go_wp2
      go_ret
      exact ⟨rfl, rfl⟩

end Go.Proofs.YtjjencnnmpefbabDoor
