/- Bytes that are read, one behind the other: the reader in memory. -/
import Derived.Test.YtndnbkgejdindaaItTellP
import Derived.Laws.BitsAllLaws
namespace Go.Proofs.Ytndnbkgejdindaa
open Go.ChangeShapes Go.WideShapes Go.ChangeAt Go.RowKit

/-- nothing is changed but one block -/
theorem grown_refl (w : World) (r : Option Nat) : w.grownBy w r := ⟨rfl, rfl, rfl, Nat.le_refl _, fun _ _ _ => rfl⟩

theorem grown_trans {a b c : World} {r : Option Nat} (h : a.grownBy b r) (k : b.grownBy c r) : a.grownBy c r :=
  ⟨k.os.trans h.os, k.tape.trans h.tape, k.output.trans h.output, Nat.le_trans h.size k.size, fun x hx hne => (k.block x (Nat.lt_of_lt_of_le hx h.size) hne).trans (h.block x hx hne)⟩

theorem grown_below {a b : World} (h : Below a.heap.size a b) (r : Option Nat) : a.grownBy b r := ⟨h.os, h.tape, h.output, h.size, fun x hx _ => h.block x hx⟩

theorem grown_set {w : World} {R j : Nat} (u : Value) : w.grownBy (w.setCell ⟨R, j, none⟩ u) (some R) := by
  have hb : Below R w (w.setCell ⟨R, j, none⟩ u) := (Below.refl R w).setCell (Nat.le_refl R) _
  exact ⟨hb.os, hb.tape, hb.output, hb.size, fun x hx hne => Below.heap_setCell _ _ _ _ (fun e => hne (by rw [e]))⟩

theorem Two.set0 {W : World} {B : Nat} {x y : Value} (h : Two W B x y) (u : Value) : Two (W.setCell ⟨B, 0, none⟩ u) B u y := by
  obtain ⟨h1, h2, h3, h4⟩ := h
  refine ⟨?_, ?_, ?_, ?_⟩
  · exact World.cell?_setCell_same' _ _ _ (by rw [h1]; rfl)
  · rw [World.cell?_setCell_other _ _ _ _ (by simp)]; exact h2
  · rw [World.frozen?_setCell]; exact h3
  · rw [World.frozen?_setCell]; exact h4

theorem Two.set1 {W : World} {B : Nat} {x y : Value} (h : Two W B x y) (u : Value) : Two (W.setCell ⟨B, 1, none⟩ u) B x u := by
  obtain ⟨h1, h2, h3, h4⟩ := h
  refine ⟨?_, ?_, ?_, ?_⟩
  · rw [World.cell?_setCell_other _ _ _ _ (by simp)]; exact h1
  · exact World.cell?_setCell_same' _ _ _ (by rw [h2]; rfl)
  · rw [World.frozen?_setCell]; exact h3
  · rw [World.frozen?_setCell]; exact h4

/-- the reader: xs still to be read, or torn -/
structure Rdr (w : World) (R : Nat) (a : Option Addr) (m cap : Nat) (t : Bool) (xs : List Int) : Prop where
  two : Two w R (.slice a m cap) (.bool t)
  len : m = xs.length
  octs : Octs w a cap xs
  ples : Ples a cap
  ne : ∀ ad, a = some ad → ad.block < R
  few : xs.length ≤ 4000

theorem Octs.set {w : World} {a : Option Addr} {cap R j : Nat} {xs : List Int} (h : Octs w a cap xs) (hne : ∀ ad, a = some ad → ad.block < R) (u : Value) : Octs (w.setCell ⟨R, j, none⟩ u) a cap xs :=
  h.grown (grown_set u) (fun _ ad had e => Nat.ne_of_lt (hne ad had) (Option.some.inj e).symm)

theorem Rdr.tear {w : World} {R : Nat} {a : Option Addr} {m cap : Nat} {t : Bool} {xs : List Int} (h : Rdr w R a m cap t xs) : Rdr (w.setCell ⟨R, 1, none⟩ (.bool true)) R a m cap true xs :=
  ⟨h.two.set1 _, h.len, h.octs.set h.ne _, h.ples, h.ne, h.few⟩

theorem Rdr.later {w w' : World} {R : Nat} {a : Option Addr} {m cap : Nat} {t : Bool} {xs : List Int} (h : Rdr w R a m cap t xs) (hb : Below w.heap.size w w') : Rdr w' R a m cap t xs :=
  ⟨h.two.later hb, h.len, h.octs.later hb, h.ples, h.ne, h.few⟩

end Go.Proofs.Ytndnbkgejdindaa

/- The next bytes of a reader. -/
namespace Go.Proofs.Ytndnbkgejdindaa
open Go.ChangeShapes Go.WideShapes Go.ChangeAt Go.RowKit

/-- the bytes behind the first ones -/
theorem Octs.drop {w : World} {b off cap : Nat} {xs : List Int} (h : Octs w (some ⟨b, off, none⟩) cap xs) {k : Nat} (hk : k ≤ xs.length) : Octs w (some ⟨b, off + k, none⟩) (cap - k) (xs.drop k) := by
  have h1 := h.1
  have h2 := h.2.1
  refine ⟨by rw [List.length_drop]; omega, by rw [List.length_drop]; omega, (fun h => by cases h), fun y hy => h.2.2.2.1 y (List.mem_of_mem_drop hy), ?_⟩
  rcases h.2.2.2.2 with h' | ⟨b', off', e, hc⟩
  · left; subst h'; simp
  · cases e
    right
    refine ⟨b, off + k, rfl, fun i hi => ?_⟩
    rw [List.length_drop] at hi
    rw [Nat.add_assoc, hc (k + i) (by omega)]
    simp [List.getD]

theorem Octs.cut {w : World} {ao : Option Addr} {cap cap' : Nat} {xs : List Int} (h : Octs w ao cap xs) (h1 : xs.length ≤ cap') (h2 : ao = none → cap' = 0) : Octs w ao cap' xs :=
  ⟨h1, h.2.1, h2, h.2.2.2⟩

set_option maxHeartbeats 1000000 in
theorem take_torn (R : Nat) (a : Option Addr) (m cap : Nat) (t : Bool) (n : Int) (w : World) (h : Two w R (.slice a m cap) (.bool t)) (hn : t = true ∨ (m : Int) < n) :
    Calls Try.prog 86 #[.pointer (some ⟨R, 0, none⟩), .int .i64 n] w fun e w' => e = .returned (.slice none 0 0) ∧ w' = w.setCell ⟨R, 1, none⟩ (.bool true) := by
  obtain ⟨k0, k1, f0, f1⟩ := h
  cases t with
  | true =>
    clear hn
    go_enter Try.func86, Try.ntmps86
    go_wp2
    go_ret
    exact ⟨rfl, rfl⟩
  | false =>
    have hn : (m : Int) < n := by rcases hn with e | e; cases e; exact e
    go_enter Try.func86, Try.ntmps86
    go_wp2
    go_ret
    exact ⟨rfl, rfl⟩

/-- what is taken, and what is left -/
def TakePost (R n : Nat) (xs : List Int) (w : World) (e : Ending) (w' : World) : Prop := ∃ (a1 : Option Addr) (c1 : Nat) (a2 : Option Addr) (m2 c2 : Nat), e = .returned (.slice a1 n c1) ∧ w.grownBy w' (some R) ∧ Octs w' a1 c1 (xs.take n) ∧ (∀ ad, a1 = some ad → ad.block < R) ∧ Rdr w' R a2 m2 c2 false (xs.drop n)

theorem rdr_rest {w : World} {R : Nat} {a : Option Addr} {m cap n : Nat} {xs : List Int} (h : Rdr w R a m cap false xs) {a2 : Option Addr} {m2 c2 : Nat} (hm2 : m2 = (xs.drop n).length) (ho : Octs w a2 c2 (xs.drop n)) (hp : Ples a2 c2) (hne : ∀ ad, a2 = some ad → ad.block < R) : Rdr (w.setCell ⟨R, 0, none⟩ (.slice a2 m2 c2)) R a2 m2 c2 false (xs.drop n) :=
  ⟨h.two.set0 _, hm2, ho.set hne _, hp, hne, by rw [List.length_drop]; have := h.few; omega⟩

set_option maxHeartbeats 1000000 in
theorem take_ok (R : Nat) (a : Option Addr) (m cap : Nat) (xs : List Int) (n : Nat) (w : World) (h : Rdr w R a m cap false xs) (hn : n ≤ xs.length) :
    Calls Try.prog 86 #[.pointer (some ⟨R, 0, none⟩), .int .i64 n] w fun e w' => TakePost R n xs w e w' := by
  have HR := put_by h
  obtain ⟨k0, k1, f0, f1⟩ := h.two
  have hm := h.len
  have hcap := h.octs.1
  have h40 := h.few
  rcases h.ples with ⟨rfl, rfl⟩ | ⟨b, off, rfl⟩
  · have hm0 : m = 0 := by omega
    have hn0 : n = 0 := by omega
    subst hm0 hn0
    clear hm hcap hn h h40
    go_enter Try.func86, Try.ntmps86
    go_wp2
    go_ret
    have hx : xs = [] := List.length_eq_zero_iff.1 HR.out.len.symm
    subst hx
    exact ⟨none, 0, none, 0, 0, rfl, grown_set _, Octs.nil _ _ _ (fun _ => rfl), (fun _ h => by cases h), rdr_rest (n := 0) HR.out rfl (Octs.nil _ _ _ (fun _ => rfl)) Ples.none (fun _ h => by cases h)⟩
  · rw [← hm] at hn hcap h40
    clear hm h
    by_cases hc : cap = n
    · subst hc
      go_enter Try.func86, Try.ntmps86
      go_wp2
      go_ret
      have hl : xs.length = cap := by have := HR.out.len; omega
      have hd : xs.drop cap = [] := List.drop_eq_nil_of_le (by omega)
      refine ⟨_, cap, _, 0, 0, rfl, grown_set _, ((HR.out.octs.take cap).cut (by rw [List.length_take]; omega) (fun e => by cases e)).set HR.out.ne _, HR.out.ne, rdr_rest (n := cap) HR.out (by rw [hd]; rfl) (by rw [hd]; exact Octs.nil _ _ _ (fun e => by cases e)) (Ples.some _ _ _) HR.out.ne⟩
    · go_enter Try.func86, Try.ntmps86
      go_wp2
      go_ret
      have hl := HR.out.len
      refine ⟨_, n, _, m - n, cap - n, rfl, grown_set _, ((HR.out.octs.take n).cut (by rw [List.length_take]; omega) (fun e => by cases e)).set HR.out.ne _, HR.out.ne, rdr_rest (n := n) HR.out (by rw [List.length_drop]; omega) (HR.out.octs.drop (by omega)) (Ples.some _ _ _) (fun ad h => ?_)⟩
      have h1 := HR.out.ne _ rfl
      cases h
      exact h1

end Go.Proofs.Ytndnbkgejdindaa

/- A number that is read. -/
namespace Go.Proofs.Ytndnbkgejdindaa
open Go.ChangeShapes Go.WideShapes Go.ChangeAt Go.RowKit

theorem i64_or_nat (a b : Nat) (ha : a < 9223372036854775808) (hb : b < 9223372036854775808) : bits .or .i64 (a : Int) (b : Int) = ((a ||| b : Nat) : Int) := by
  have hx : a ||| b < 2 ^ 63 := Nat.or_lt_two_pow (by omega) (by omega)
  show IntKind.i64.wrap ((BitVec.ofInt 64 (a : Int) ||| BitVec.ofInt 64 (b : Int)).toNat : Int) = _
  rw [BitVec.toNat_or, BitVec.toNat_ofInt, BitVec.toNat_ofInt, IntKind.wrap_i64]
  have e1 : ((a : Int) % (2 ^ 64 : Nat)).toNat = a := by omega
  have e2 : ((b : Int) % (2 ^ 64 : Nat)).toNat = b := by omega
  rw [e1, e2]
  omega

/-- a byte is put above those that were read -/
theorem or_byte (m c : Int) (k : Nat) (hk : k ≤ 24) (m0 : 0 ≤ m) (m1 : m < ((2 ^ k : Nat) : Int)) (c0 : 0 ≤ c) (c1 : c ≤ 255) : bits .or .i64 m (c * ((2 ^ k : Nat) : Int)) = m + ((2 ^ k : Nat) : Int) * c := by
  obtain ⟨a, rfl⟩ := Int.eq_ofNat_of_zero_le m0
  obtain ⟨b, rfl⟩ := Int.eq_ofNat_of_zero_le c0
  have ha : a < 2 ^ k := by omega
  have h2 : (2 : Nat) ^ k ≤ 2 ^ 24 := Nat.pow_le_pow_right (by omega) hk
  have hb : 2 ^ k * b ≤ 2 ^ 24 * 255 := Nat.mul_le_mul h2 (by omega)
  have e : ((b : Int) * ((2 ^ k : Nat) : Int)) = ((2 ^ k * b : Nat) : Int) := by rw [Int.natCast_mul, Int.mul_comm]
  have e2 : (((2 ^ k : Nat) : Int) * (b : Int)) = ((2 ^ k * b : Nat) : Int) := by rw [Int.natCast_mul]
  have h3 : a ||| 2 ^ k * b = 2 ^ k * b + a := by rw [Nat.or_comm, Nat.two_pow_add_eq_or_of_lt ha]
  rw [e, e2, i64_or_nat a _ (by omega) (by omega), h3]
  omega

/-- a reader in a state: what is still to be read, or torn -/
def RdrS (w : World) (R : Nat) (st : Option (List Int)) : Prop := ∃ (a : Option Addr) (m cap : Nat) (t : Bool) (xs : List Int), Rdr w R a m cap t xs ∧ st = if t then none else some xs

theorem RdrS.later {w w' : World} {R : Nat} {st : Option (List Int)} (h : RdrS w R st) (hb : Below w.heap.size w w') : RdrS w' R st := by
  obtain ⟨a, m, cap, t, xs, h1, h2⟩ := h
  exact ⟨a, m, cap, t, xs, h1.later hb, h2⟩

/-- a number: what is read, and what is left -/
def NumIs (st : Option (List Int)) (v : Int) (st' : Option (List Int)) : Prop := (∃ n r, st.bind cut4 = some (n, r) ∧ v = n ∧ st' = some r) ∨ (st.bind cut4 = none ∧ v = 0 ∧ st' = none)

def NumPost (R : Nat) (st : Option (List Int)) (w : World) (e : Ending) (w' : World) : Prop := ∃ (v : Int) (st' : Option (List Int)), e = .returned (.int .i64 v) ∧ (0 ≤ v ∧ v ≤ 4294967295) ∧ NumIs st v st' ∧ RdrS w' R st' ∧ w.grownBy w' (some R)

set_option maxHeartbeats 4000000 in
theorem number_any (R : Nat) (st : Option (List Int)) (w : World) (h : RdrS w R st) :
    Calls Try.prog 70 #[.pointer (some ⟨R, 0, none⟩)] w fun e w' => NumPost R st w e w' := by
  generalize hpost : (fun e w' => NumPost R st w e w') = Q
  have HP : Hid (∀ e w', NumPost R st w e w' → Q e w') := fun e w' h => by rw [← hpost]; exact h
  clear hpost
  obtain ⟨a, m, cap, t, xs, h, hst⟩ := h
  by_cases ht : t = true ∨ xs.length < 4
  · have HT : Hid (st.bind cut4 = none) := by
      rw [hst]
      rcases ht with ht | ht
      · rw [ht]; rfl
      · cases t with
        | true => rfl
        | false =>
          show cut4 xs = none
          rw [cut4, if_neg (by omega)]
    have c1 : Hid (Calls Try.prog 86 #[.pointer (some ⟨R, 0, none⟩), .int .i64 4] w fun e w' => e = .returned (.slice none 0 0) ∧ Hid (RdrS w' R none ∧ w.grownBy w' (some R))) := by
      refine (take_torn R a m cap t 4 w h.two (ht.imp id (fun e => by have := h.len; omega))).mono ?_
      rintro e w' ⟨rfl, rfl⟩
      exact ⟨rfl, ⟨a, m, cap, true, xs, h.tear, rfl⟩, grown_set _⟩
    clear h ht hst
    go_enter Try.func70, Try.ntmps70
    go_wp2_with (first
      | (go_at_call 86; refine c1.out.mono ?_; clear c1; rintro e w1 ⟨rfl, H1⟩))
    go_loopw [3, 9] (fun q i wr => q = .int .i64 0 ∧ i = .int .i64 0 ∧ w1 = wr) (fun _ i _ => 0 - (intOf i).toNat)
    case atStart => exact ⟨rfl, rfl, rfl⟩
    case round =>
      obtain ⟨rfl, rfl, rfl⟩ := hrel
      go_wp2
      exact HP.out _ _ ⟨0, none, rfl, ⟨by omega, by omega⟩, .inr ⟨HT.out, rfl, rfl⟩, H1.out.1, H1.out.2⟩
  · have ht0 : t = false := by cases t with | false => rfl | true => exact absurd (.inl rfl) ht
    have h4 : 4 ≤ xs.length := by omega
    subst ht0
    have HT : Hid (st.bind cut4 = some ((num4 xs).toNat, xs.drop 4)) := by
      rw [hst]
      show cut4 xs = _
      rw [cut4, if_pos h4]
    obtain ⟨n0, n1⟩ := num4_bounds h4 h.octs.2.2.2.1
    have c1 : Hid (Calls Try.prog 86 #[.pointer (some ⟨R, 0, none⟩), .int .i64 4] w fun e w' => ∃ (b off c1 : Nat), e = .returned (.slice (some ⟨b, off, none⟩) 4 c1) ∧ Hid (RdrS w' R (some (xs.drop 4)) ∧ w.grownBy w' (some R) ∧ Octs w' (some ⟨b, off, none⟩) c1 (xs.take 4))) := by
      refine (take_ok R a m cap xs 4 w h h4).mono ?_
      rintro e w' ⟨a1, c1, a2, m2, c2, rfl, h1, h2, h3, h5⟩
      obtain ⟨b, off, rfl, -⟩ := h2.at (k := 0) (by rw [List.length_take]; omega)
      exact ⟨b, off, c1, rfl, ⟨a2, m2, c2, false, _, h5, rfl⟩, h1, h2⟩
    have HL : Hid ((xs.take 4).length = 4 ∧ num4 xs = num4 (xs.take 4)) := ⟨by rw [List.length_take]; omega, by obtain ⟨x0, x1, x2, x3, ys, rfl⟩ := four_parts h4; rfl⟩
    clear h ht hst h4
    go_enter Try.func70, Try.ntmps70
    go_wp2_with (first
      | (go_at_call 86; refine c1.out.mono ?_; clear c1; rintro e w1 ⟨b, off, c1, rfl, H1⟩))
    obtain ⟨b', off', e1, k0, l0, u0⟩ := H1.out.2.2.at (k := 0) (by rw [HL.out.1]; omega)
    cases e1
    obtain ⟨b', off', e1, k1, l1, u1⟩ := H1.out.2.2.at (k := 1) (by rw [HL.out.1]; omega)
    cases e1
    obtain ⟨b', off', e1, k2, l2, u2⟩ := H1.out.2.2.at (k := 2) (by rw [HL.out.1]; omega)
    cases e1
    obtain ⟨b', off', e1, k3, l3, u3⟩ := H1.out.2.2.at (k := 3) (by rw [HL.out.1]; omega)
    cases e1
    have HV : Hid (num4 xs = (xs.take 4).getD 0 0 + 256 * (xs.take 4).getD 1 0 + 65536 * (xs.take 4).getD 2 0 + 16777216 * (xs.take 4).getD 3 0) := HL.out.2
    generalize (xs.take 4).getD 0 0 = x0 at k0 l0 u0 HV
    generalize (xs.take 4).getD 1 0 = x1 at k1 l1 u1 HV
    generalize (xs.take 4).getD 2 0 = x2 at k2 l2 u2 HV
    generalize (xs.take 4).getD 3 0 = x3 at k3 l3 u3 HV
    rw [Nat.add_zero] at k0
    go_loopw [3, 9] (fun q i wr => ∃ (k : Nat) (m : Int), k ≤ 4 ∧ q = .int .i64 m ∧ i = .int .i64 k ∧ w1 = wr ∧
        Hid ((k = 0 → m = 0) ∧ (k = 1 → m = x0) ∧ (k = 2 → m = x0 + 256 * x1) ∧ (k = 3 → m = x0 + 256 * x1 + 65536 * x2) ∧ (k = 4 → m = x0 + 256 * x1 + 65536 * x2 + 16777216 * x3)))
      (fun _ i _ => 4 - (intOf i).toNat)
    case atStart => exact ⟨0, 0, by omega, rfl, rfl, rfl, by simp [Hid]⟩
    case round =>
      obtain ⟨k, m, hk, rfl, rfl, rfl, H⟩ := hrel
      rcases (show k = 0 ∨ k = 1 ∨ k = 2 ∨ k = 3 ∨ k = 4 by omega) with rfl | rfl | rfl | rfl | rfl
      · have h0 := H.out.1 rfl
        have o : bits .or .i64 m x0 = x0 := by
          have := or_byte m x0 0 (by omega) (by omega) (by omega) l0 u0
          simp only [Nat.pow_zero, Int.cast_ofNat_Int, Int.mul_one, Int.one_mul] at this
          rw [this]; omega
        clear h0
        go_wp2
        go_roundw
        case rel => exact ⟨1, x0, by omega, rfl, by go_num, trivial, by simp [Hid]⟩
        case measure => simp [intOf]
      · have h0 := H.out.2.1 rfl
        have o : bits .or .i64 m (x1 * 256) = x0 + 256 * x1 := by rw [h0]; exact or_byte x0 x1 8 (by omega) (by omega) (by omega) l1 u1
        clear h0
        go_wp2
        go_roundw
        case rel => exact ⟨2, x0 + 256 * x1, by omega, rfl, by go_num, trivial, by simp [Hid]⟩
        case measure => simp [intOf]
      · have h0 := H.out.2.2.1 rfl
        have o : bits .or .i64 m (x2 * 65536) = x0 + 256 * x1 + 65536 * x2 := by rw [h0]; exact or_byte _ x2 16 (by omega) (by omega) (by omega) l2 u2
        clear h0
        go_wp2
        go_roundw
        case rel => exact ⟨3, x0 + 256 * x1 + 65536 * x2, by omega, rfl, by go_num, trivial, by simp [Hid]⟩
        case measure => simp [intOf]
      · have h0 := H.out.2.2.2.1 rfl
        have o : bits .or .i64 m (x3 * 16777216) = x0 + 256 * x1 + 65536 * x2 + 16777216 * x3 := by rw [h0]; exact or_byte _ x3 24 (by omega) (by omega) (by omega) l3 u3
        clear h0
        go_wp2
        go_roundw
        case rel => exact ⟨4, x0 + 256 * x1 + 65536 * x2 + 16777216 * x3, by omega, rfl, by go_num, trivial, by simp [Hid]⟩
        case measure => simp [intOf]
      · have h0 := H.out.2.2.2.2 rfl
        have h1 : m = num4 xs := h0.trans HV.out.symm
        clear h0
        subst h1
        generalize num4 xs = v at n0 n1 HT
        go_wp2
        exact HP.out _ _ ⟨_, some (xs.drop 4), rfl, ⟨n0, n1⟩, .inl ⟨_, _, HT.out, by omega, rfl⟩, H1.out.1, H1.out.2.1⟩

end Go.Proofs.Ytndnbkgejdindaa

/- Texts, and the byte that tells Gone, that are read. -/
namespace Go.Proofs.Ytndnbkgejdindaa
open Go.ChangeShapes Go.WideShapes Go.ChangeAt Go.RowKit

/-- so many bytes: what is taken, and what is left -/
def TakeIs (st : Option (List Int)) (n : Nat) (ts : List Int) (st' : Option (List Int)) : Prop := (∃ xs, st = some xs ∧ n ≤ xs.length ∧ ts = xs.take n ∧ st' = some (xs.drop n)) ∨ ((∀ xs, st = some xs → xs.length < n) ∧ ts = [] ∧ st' = none)

def TakPost (R n : Nat) (st : Option (List Int)) (w : World) (e : Ending) (w' : World) : Prop := ∃ (a : Option Addr) (m c : Nat) (ts : List Int) (st' : Option (List Int)), e = .returned (.slice a m c) ∧ m = ts.length ∧ Octs w' a c ts ∧ TakeIs st n ts st' ∧ RdrS w' R st' ∧ w.grownBy w' (some R)

theorem take_any (R n : Nat) (st : Option (List Int)) (w : World) (h : RdrS w R st) :
    Calls Try.prog 86 #[.pointer (some ⟨R, 0, none⟩), .int .i64 n] w fun e w' => TakPost R n st w e w' := by
  obtain ⟨a, m, cap, t, xs, h, hst⟩ := h
  by_cases ht : t = true ∨ xs.length < n
  · refine (take_torn R a m cap t n w h.two (ht.imp id (fun e => by have := h.len; omega))).mono ?_
    rintro e w' ⟨rfl, rfl⟩
    refine ⟨none, 0, 0, [], none, rfl, rfl, Octs.nil _ _ _ (fun _ => rfl), .inr ⟨fun ys hy => ?_, rfl, rfl⟩, ⟨a, m, cap, true, xs, h.tear, rfl⟩, grown_set _⟩
    rw [hst] at hy
    rcases ht with ht | ht
    · rw [ht] at hy; cases hy
    · cases t with
      | true => cases hy
      | false =>
        cases hy
        exact ht
  · have ht0 : t = false := by cases t with | false => rfl | true => exact absurd (.inl rfl) ht
    subst ht0
    have hn : n ≤ xs.length := by omega
    refine (take_ok R a m cap xs n w h hn).mono ?_
    rintro e w' ⟨a1, c1, a2, m2, c2, rfl, h1, h2, h3, h5⟩
    exact ⟨a1, n, c1, xs.take n, some (xs.drop n), rfl, by rw [List.length_take]; omega, h2, .inl ⟨xs, hst, hn, rfl, rfl⟩, ⟨a2, m2, c2, false, _, h5, rfl⟩, h1⟩

/-- a text: what is read, and what is left -/
def TextIs (st : Option (List Int)) (ts : List Int) (st' : Option (List Int)) : Prop := (∃ r, st.bind cutT = some (ts, r) ∧ st' = some r) ∨ (st.bind cutT = none ∧ ts = [] ∧ st' = none)

theorem textIs_of {st st1 st2 : Option (List Int)} {n : Nat} {ts : List Int} (h1 : NumIs st n st1) (h2 : TakeIs st1 n ts st2) : TextIs st ts st2 := by
  cases st with
  | none =>
    rcases h1 with ⟨m, r, e, _⟩ | ⟨_, _, rfl⟩
    · cases e
    · rcases h2 with ⟨xs, e, _⟩ | ⟨_, e2, e3⟩
      · cases e
      · exact .inr ⟨rfl, e2, e3⟩
  | some b =>
    have ec : ∀ x, (some b).bind cutT = x ↔ cutT b = x := fun x => Iff.rfl
    rcases h1 with ⟨m, r, e, em, rfl⟩ | ⟨e, _, rfl⟩
    · have em2 : n = m := by omega
      subst em2
      have e : cut4 b = some (n, r) := e
      rcases h2 with ⟨xs, e1, hn, e2, e3⟩ | ⟨hn, e2, e3⟩
      · cases e1
        refine .inl ⟨r.drop n, ?_, e3⟩
        show cutT b = _
        rw [cutT, e, e2]
        simp only [hn, if_true]
      · refine .inr ⟨?_, e2, e3⟩
        show cutT b = _
        have := hn r rfl
        rw [cutT, e]
        simp only [if_neg (show ¬ n ≤ r.length by omega)]
    · have e : cut4 b = none := e
      rcases h2 with ⟨xs, e1, _⟩ | ⟨_, e2, e3⟩
      · cases e1
      · refine .inr ⟨?_, e2, e3⟩
        show cutT b = _
        rw [cutT, e]

def TextPost (R : Nat) (st : Option (List Int)) (w : World) (e : Ending) (w' : World) : Prop := ∃ (a : Option Addr) (m c : Nat) (ts : List Int) (st' : Option (List Int)), e = .returned (.slice a m c) ∧ m = ts.length ∧ Octs w' a c ts ∧ (∀ ad, a = some ad → w.heap.size ≤ ad.block) ∧ TextIs st ts st' ∧ RdrS w' R st' ∧ w.grownBy w' (some R)

set_option maxHeartbeats 4000000 in
theorem text_any (R : Nat) (st : Option (List Int)) (w : World) (h : RdrS w R st) :
    Calls Try.prog 73 #[.pointer (some ⟨R, 0, none⟩)] w fun e w' => TextPost R st w e w' := by
  generalize hpost : (fun e w' => TextPost R st w e w') = Q
  have HP : Hid (∀ e w', TextPost R st w e w' → Q e w') := fun e w' h => by rw [← hpost]; exact h
  clear hpost
  have c1 : Hid (Calls Try.prog 70 #[.pointer (some ⟨R, 0, none⟩)] w fun e w' => ∃ n : Nat, e = .returned (.int .i64 (n : Int)) ∧ Hid (∃ st1, NumIs st n st1 ∧ RdrS w' R st1 ∧ w.grownBy w' (some R))) := by
    refine (number_any R st w h).mono ?_
    rintro e w' ⟨v, st1, rfl, ⟨v0, v1⟩, h1, h2, h3⟩
    obtain ⟨n, rfl⟩ := Int.eq_ofNat_of_zero_le v0
    exact ⟨n, rfl, st1, h1, h2, h3⟩
  have c2 : Hid (∀ (V : World) (n : Nat), (∃ st1, NumIs st n st1 ∧ RdrS V R st1 ∧ w.grownBy V (some R)) → Calls Try.prog 86 #[.pointer (some ⟨R, 0, none⟩), .int .i64 (n : Int)] V fun e w' => ∃ (a : Option Addr) (m c : Nat), e = .returned (.slice a m c) ∧ m ≤ 140737488351232 ∧ Hid (∃ ts st2, m = ts.length ∧ Octs w' a c ts ∧ TextIs st ts st2 ∧ RdrS w' R st2 ∧ w.grownBy w' (some R))) := fun V n ⟨st1, g1, g2, g3⟩ => by
    refine (take_any R n st1 V g2).mono ?_
    rintro e w' ⟨a, m, c, ts, st2, rfl, h1, h2, h3, h4, h5⟩
    exact ⟨a, m, c, rfl, by rw [h1]; exact h2.2.1, ts, st2, h1, h2, textIs_of g1 h3, h4, grown_trans g3 h5⟩
  clear h
  go_enter Try.func73, Try.ntmps73
  go_upto_region 2 with (first
    | (go_at_call 70; refine c1.out.mono ?_; clear c1; rintro e w1 ⟨n, rfl, H1⟩)
    | (go_at_call 86; refine (c2.out _ _ H1.out).mono ?_; clear c2; rintro e w2 ⟨a, m, c, rfl, hm, H2⟩)
    | (at_builtin; obtain ⟨ts, st2, g1, g2, g3, g4, g5⟩ := H2.out; refine wpList_append_oct rfl (.const (.slice none 0 0)) (.tmp 6) rfl w2.heap.size (.slice none 0 0) 0 [] rfl (World.ownsRow_nil _ _ _ _) a c m ts rfl g1 g2 (by omega) (Nat.le_refl _) ?_; intro v' w3 hown hg; rw [Nat.zero_add, List.nil_append] at hown; obtain ⟨a3, c3, rfl, ho⟩ := own_octs g1 rfl g2.2.1 g2.2.2.2.1 hown; have HT := put_by (show TextPost R st w (.returned (.slice a3 ts.length c3)) w3 from ⟨a3, ts.length, c3, ts, st2, rfl, rfl, ho, (fun ad had => Nat.le_trans g5.size (own_new hown ad had)), g3, g4.later ((Below.refl _ w2).grown hg (Nat.le_refl _) (fun g h => by cases h)), grown_trans g5 (grown_below ((Below.refl _ w2).grown hg (Nat.le_refl _) (fun g h => by cases h)) _)⟩); clear hown hg ho g1 g2 g3 g4 g5))
  all_goals exact HP.out _ _ HT.out

end Go.Proofs.Ytndnbkgejdindaa
