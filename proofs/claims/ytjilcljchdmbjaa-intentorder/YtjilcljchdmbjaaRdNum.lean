/- A number that is read. -/
import Derived.Test.YtjilcljchdmbjaaRdTake
import Derived.Laws.BitsAllLaws
namespace Go.Proofs.Ytjilcljchdmbjaa
open Go.ChangeShapes Go.WideShapes Go.ChangeAt Go.RowKit

theorem i64_or_nat (a b : Nat) (ha : a < 9223372036854775808) (hb : b < 9223372036854775808) : bits .or .i64 (a : Int) (b : Int) = ((a ||| b : Nat) : Int) := by
  have hx : a ||| b < 2 ^ 63 := Nat.or_lt_two_pow (by omega) (by omega)
  show IntKind.i64.wrap ((BitVec.ofInt 64 (a : Int) ||| BitVec.ofInt 64 (b : Int)).toNat : Int) = _
  rw [BitVec.toNat_or, BitVec.toNat_ofInt, BitVec.toNat_ofInt, IntKind.wrap_i64]
  have e1 : ((a : Int) % (2 ^ 64 : Nat)).toNat = a := by omega
  have e2 : ((b : Int) % (2 ^ 64 : Nat)).toNat = b := by omega
  rw [e1, e2]
  omega

/-- a byte is put above those that were read -/
theorem or_byte (m c : Int) (k : Nat) (hk : k ≤ 24) (m0 : 0 ≤ m) (m1 : m < ((2 ^ k : Nat) : Int)) (c0 : 0 ≤ c) (c1 : c ≤ 255) : bits .or .i64 m (c * ((2 ^ k : Nat) : Int)) = m + ((2 ^ k : Nat) : Int) * c := by
  obtain ⟨a, rfl⟩ := Int.eq_ofNat_of_zero_le m0
  obtain ⟨b, rfl⟩ := Int.eq_ofNat_of_zero_le c0
  have ha : a < 2 ^ k := by omega
  have h2 : (2 : Nat) ^ k ≤ 2 ^ 24 := Nat.pow_le_pow_right (by omega) hk
  have hb : 2 ^ k * b ≤ 2 ^ 24 * 255 := Nat.mul_le_mul h2 (by omega)
  have e : ((b : Int) * ((2 ^ k : Nat) : Int)) = ((2 ^ k * b : Nat) : Int) := by rw [Int.natCast_mul, Int.mul_comm]
  have e2 : (((2 ^ k : Nat) : Int) * (b : Int)) = ((2 ^ k * b : Nat) : Int) := by rw [Int.natCast_mul]
  have h3 : a ||| 2 ^ k * b = 2 ^ k * b + a := by rw [Nat.or_comm, Nat.two_pow_add_eq_or_of_lt ha]
  rw [e, e2, i64_or_nat a _ (by omega) (by omega), h3]
  omega

/-- a reader in a state: what is still to be read, or torn -/
def RdrS (w : World) (R : Nat) (st : Option (List Int)) : Prop := ∃ (a : Option Addr) (m cap : Nat) (t : Bool) (xs : List Int), Rdr w R a m cap t xs ∧ st = if t then none else some xs

theorem RdrS.later {w w' : World} {R : Nat} {st : Option (List Int)} (h : RdrS w R st) (hb : Below w.heap.size w w') : RdrS w' R st := by
  obtain ⟨a, m, cap, t, xs, h1, h2⟩ := h
  exact ⟨a, m, cap, t, xs, h1.later hb, h2⟩

/-- a number: what is read, and what is left -/
def NumIs (st : Option (List Int)) (v : Int) (st' : Option (List Int)) : Prop := (∃ n r, st.bind cut4 = some (n, r) ∧ v = n ∧ st' = some r) ∨ (st.bind cut4 = none ∧ v = 0 ∧ st' = none)

def NumPost (R : Nat) (st : Option (List Int)) (w : World) (e : Ending) (w' : World) : Prop := ∃ (v : Int) (st' : Option (List Int)), e = .returned (.int .i64 v) ∧ (0 ≤ v ∧ v ≤ 4294967295) ∧ NumIs st v st' ∧ RdrS w' R st' ∧ w.grownBy w' (some R)

set_option maxHeartbeats 4000000 in
theorem number_any (R : Nat) (st : Option (List Int)) (w : World) (h : RdrS w R st) :
    Calls Try.prog 30 #[.pointer (some ⟨R, 0, none⟩)] w fun e w' => NumPost R st w e w' := by
  generalize hpost : (fun e w' => NumPost R st w e w') = Q
  have HP : Hid (∀ e w', NumPost R st w e w' → Q e w') := fun e w' h => by rw [← hpost]; exact h
  clear hpost
  obtain ⟨a, m, cap, t, xs, h, hst⟩ := h
  by_cases ht : t = true ∨ xs.length < 4
  · have HT : Hid (st.bind cut4 = none) := by
      rw [hst]
      rcases ht with ht | ht
      · rw [ht]; rfl
      · cases t with
        | true => rfl
        | false =>
          show cut4 xs = none
          rw [cut4, if_neg (by omega)]
    have c1 : Hid (Calls Try.prog 50 #[.pointer (some ⟨R, 0, none⟩), .int .i64 4] w fun e w' => e = .returned (.slice none 0 0) ∧ Hid (RdrS w' R none ∧ w.grownBy w' (some R))) := by
      refine (take_torn R a m cap t 4 w h.two (ht.imp id (fun e => by have := h.len; omega))).mono ?_
      rintro e w' ⟨rfl, rfl⟩
      exact ⟨rfl, ⟨a, m, cap, true, xs, h.tear, rfl⟩, grown_set _⟩
    clear h ht hst
    go_enter Try.func30, Try.ntmps30
    go_wp2_with (first
      | (go_at_call 50; refine c1.out.mono ?_; clear c1; rintro e w1 ⟨rfl, H1⟩))
    go_loopw [3, 9] (fun q i wr => q = .int .i64 0 ∧ i = .int .i64 0 ∧ w1 = wr) (fun _ i _ => 0 - (intOf i).toNat)
    case atStart => exact ⟨rfl, rfl, rfl⟩
    case round =>
      obtain ⟨rfl, rfl, rfl⟩ := hrel
      go_wp2
      exact HP.out _ _ ⟨0, none, rfl, ⟨by omega, by omega⟩, .inr ⟨HT.out, rfl, rfl⟩, H1.out.1, H1.out.2⟩
  · have ht0 : t = false := by cases t with | false => rfl | true => exact absurd (.inl rfl) ht
    have h4 : 4 ≤ xs.length := by omega
    subst ht0
    have HT : Hid (st.bind cut4 = some ((num4 xs).toNat, xs.drop 4)) := by
      rw [hst]
      show cut4 xs = _
      rw [cut4, if_pos h4]
    obtain ⟨n0, n1⟩ := num4_bounds h4 h.octs.2.2.2.1
    have c1 : Hid (Calls Try.prog 50 #[.pointer (some ⟨R, 0, none⟩), .int .i64 4] w fun e w' => ∃ (b off c1 : Nat), e = .returned (.slice (some ⟨b, off, none⟩) 4 c1) ∧ Hid (RdrS w' R (some (xs.drop 4)) ∧ w.grownBy w' (some R) ∧ Octs w' (some ⟨b, off, none⟩) c1 (xs.take 4))) := by
      refine (take_ok R a m cap xs 4 w h h4).mono ?_
      rintro e w' ⟨a1, c1, a2, m2, c2, rfl, h1, h2, h3, h5⟩
      obtain ⟨b, off, rfl, -⟩ := h2.at (k := 0) (by rw [List.length_take]; omega)
      exact ⟨b, off, c1, rfl, ⟨a2, m2, c2, false, _, h5, rfl⟩, h1, h2⟩
    have HL : Hid ((xs.take 4).length = 4 ∧ num4 xs = num4 (xs.take 4)) := ⟨by rw [List.length_take]; omega, by obtain ⟨x0, x1, x2, x3, ys, rfl⟩ := four_parts h4; rfl⟩
    clear h ht hst h4
    go_enter Try.func30, Try.ntmps30
    go_wp2_with (first
      | (go_at_call 50; refine c1.out.mono ?_; clear c1; rintro e w1 ⟨b, off, c1, rfl, H1⟩))
    obtain ⟨b', off', e1, k0, l0, u0⟩ := H1.out.2.2.at (k := 0) (by rw [HL.out.1]; omega)
    cases e1
    obtain ⟨b', off', e1, k1, l1, u1⟩ := H1.out.2.2.at (k := 1) (by rw [HL.out.1]; omega)
    cases e1
    obtain ⟨b', off', e1, k2, l2, u2⟩ := H1.out.2.2.at (k := 2) (by rw [HL.out.1]; omega)
    cases e1
    obtain ⟨b', off', e1, k3, l3, u3⟩ := H1.out.2.2.at (k := 3) (by rw [HL.out.1]; omega)
    cases e1
    have HV : Hid (num4 xs = (xs.take 4).getD 0 0 + 256 * (xs.take 4).getD 1 0 + 65536 * (xs.take 4).getD 2 0 + 16777216 * (xs.take 4).getD 3 0) := HL.out.2
    generalize (xs.take 4).getD 0 0 = x0 at k0 l0 u0 HV
    generalize (xs.take 4).getD 1 0 = x1 at k1 l1 u1 HV
    generalize (xs.take 4).getD 2 0 = x2 at k2 l2 u2 HV
    generalize (xs.take 4).getD 3 0 = x3 at k3 l3 u3 HV
    rw [Nat.add_zero] at k0
    go_loopw [3, 9] (fun q i wr => ∃ (k : Nat) (m : Int), k ≤ 4 ∧ q = .int .i64 m ∧ i = .int .i64 k ∧ w1 = wr ∧
        Hid ((k = 0 → m = 0) ∧ (k = 1 → m = x0) ∧ (k = 2 → m = x0 + 256 * x1) ∧ (k = 3 → m = x0 + 256 * x1 + 65536 * x2) ∧ (k = 4 → m = x0 + 256 * x1 + 65536 * x2 + 16777216 * x3)))
      (fun _ i _ => 4 - (intOf i).toNat)
    case atStart => exact ⟨0, 0, by omega, rfl, rfl, rfl, by simp [Hid]⟩
    case round =>
      obtain ⟨k, m, hk, rfl, rfl, rfl, H⟩ := hrel
      rcases (show k = 0 ∨ k = 1 ∨ k = 2 ∨ k = 3 ∨ k = 4 by omega) with rfl | rfl | rfl | rfl | rfl
      · have h0 := H.out.1 rfl
        have o : bits .or .i64 m x0 = x0 := by
          have := or_byte m x0 0 (by omega) (by omega) (by omega) l0 u0
          simp only [Nat.pow_zero, Int.cast_ofNat_Int, Int.mul_one, Int.one_mul] at this
          rw [this]; omega
        clear h0
        go_wp2
        go_roundw
        case rel => exact ⟨1, x0, by omega, rfl, by go_num, trivial, by simp [Hid]⟩
        case measure => simp [intOf]
      · have h0 := H.out.2.1 rfl
        have o : bits .or .i64 m (x1 * 256) = x0 + 256 * x1 := by rw [h0]; exact or_byte x0 x1 8 (by omega) (by omega) (by omega) l1 u1
        clear h0
        go_wp2
        go_roundw
        case rel => exact ⟨2, x0 + 256 * x1, by omega, rfl, by go_num, trivial, by simp [Hid]⟩
        case measure => simp [intOf]
      · have h0 := H.out.2.2.1 rfl
        have o : bits .or .i64 m (x2 * 65536) = x0 + 256 * x1 + 65536 * x2 := by rw [h0]; exact or_byte _ x2 16 (by omega) (by omega) (by omega) l2 u2
        clear h0
        go_wp2
        go_roundw
        case rel => exact ⟨3, x0 + 256 * x1 + 65536 * x2, by omega, rfl, by go_num, trivial, by simp [Hid]⟩
        case measure => simp [intOf]
      · have h0 := H.out.2.2.2.1 rfl
        have o : bits .or .i64 m (x3 * 16777216) = x0 + 256 * x1 + 65536 * x2 + 16777216 * x3 := by rw [h0]; exact or_byte _ x3 24 (by omega) (by omega) (by omega) l3 u3
        clear h0
        go_wp2
        go_roundw
        case rel => exact ⟨4, x0 + 256 * x1 + 65536 * x2 + 16777216 * x3, by omega, rfl, by go_num, trivial, by simp [Hid]⟩
        case measure => simp [intOf]
      · have h0 := H.out.2.2.2.2 rfl
        have h1 : m = num4 xs := h0.trans HV.out.symm
        clear h0
        subst h1
        generalize num4 xs = v at n0 n1 HT
        go_wp2
        exact HP.out _ _ ⟨_, some (xs.drop 4), rfl, ⟨n0, n1⟩, .inl ⟨_, _, HT.out, by omega, rfl⟩, H1.out.1, H1.out.2.1⟩

end Go.Proofs.Ytjilcljchdmbjaa
