/- A saved state's reader: the good way (nothing is torn). -/
import Derived.Test.YtndnbkgejdindaaRdAll
import Derived.Test.YtndnbkgejdindaaMlCpB
import Derived.Test.YtndnbkgejdindaaMeldBytes
import Derived.Test.YtndnbkgejdindaaTrOneB
namespace Go.Proofs.Ytndnbkgejdindaa
open Go.ChangeShapes Go.WideShapes Go.ChangeAt Go.RowKit

/-- a reader: xs still to be read -/
structure Ldr (w : World) (R : Nat) (a : Option Addr) (m cap : Nat) (xs : List Int) : Prop where
  one : Cls w R [.slice a m cap]
  len : m = xs.length
  octs : Octs w a cap xs
  ples : Ples a cap
  ne : ∀ ad, a = some ad → ad.block < R

def LdS (w : World) (R : Nat) (xs : List Int) : Prop := ∃ (a : Option Addr) (m cap : Nat), Ldr w R a m cap xs

theorem LdS.bytes {w : World} {R : Nat} {xs : List Int} (h : LdS w R xs) : ∀ y ∈ xs, 0 ≤ y ∧ y ≤ 255 := by
  obtain ⟨a, m, cap, h1⟩ := h
  exact h1.octs.2.2.2.1

/-- what else may have been written: blocks behind the reader's -/
theorem LdS.block {w w' : World} {R : Nat} {xs : List Int} (h : LdS w R xs) (hb : ∀ b, b ≤ R → w'.heap[b]? = w.heap[b]?) (hs : w.heap.size ≤ w'.heap.size) : LdS w' R xs := by
  obtain ⟨a, m, cap, h1⟩ := h
  refine ⟨a, m, cap, h1.one.block (fun _ => hb R (Nat.le_refl _)), h1.len, h1.octs.move (ok := fun b => b < R) (fun _ ad e => h1.ne ad e) ⟨hs, fun b _ hlt => hb b (Nat.le_of_lt hlt)⟩, h1.ples, h1.ne⟩

theorem LdS.later {w w' : World} {R : Nat} {xs : List Int} (h : LdS w R xs) (hb : Below w.heap.size w w') : LdS w' R xs := by
  obtain ⟨a, m, cap, h1⟩ := h
  exact ⟨a, m, cap, h1.one.later hb, h1.len, h1.octs.later hb, h1.ples, h1.ne⟩

/-- what is taken, and what is left -/
def LTake (R n : Nat) (xs : List Int) (w : World) (e : Ending) (w' : World) : Prop := ∃ (a1 : Option Addr) (c1 : Nat), e = .returned (.slice a1 n c1) ∧ w.grownBy w' (some R) ∧ Octs w' a1 c1 (xs.take n) ∧ (∀ ad, a1 = some ad → ad.block < R) ∧ LdS w' R (xs.drop n)

theorem ldr_rest {w : World} {R : Nat} {a : Option Addr} {m cap n : Nat} {xs : List Int} (h : Ldr w R a m cap xs) {a2 : Option Addr} {m2 c2 : Nat} (hm2 : m2 = (xs.drop n).length) (ho : Octs w a2 c2 (xs.drop n)) (hp : Ples a2 c2) (hne : ∀ ad, a2 = some ad → ad.block < R) : LdS (w.setCell ⟨R, 0, none⟩ (.slice a2 m2 c2)) R (xs.drop n) :=
  ⟨a2, m2, c2, h.one.set (k := 0) _, hm2, ho.set hne _, hp, hne⟩

set_option maxRecDepth 100000 in
set_option maxHeartbeats 1000000 in
theorem ltake_ok (R : Nat) (xs : List Int) (n : Nat) (w : World) (h : LdS w R xs) (hn : n ≤ xs.length) :
    Calls Try.prog 66 #[.pointer (some ⟨R, 0, none⟩), .int .i64 n] w fun e w' => LTake R n xs w e w' := by
  obtain ⟨a, m, cap, h⟩ := h
  have HR := put_by h
  obtain ⟨k0, f0⟩ := h.one 0 _ rfl
  have hm := h.len
  have hcap := h.octs.1
  have h40 := h.octs.2.1
  rcases h.ples with ⟨rfl, rfl⟩ | ⟨b, off, rfl⟩
  · have hm0 : m = 0 := by omega
    have hn0 : n = 0 := by omega
    subst hm0 hn0
    clear hm hcap hn h h40
    go_enter Try.func66, Try.ntmps66
    go_wp2
    go_ret
    have hx : xs = [] := List.length_eq_zero_iff.1 HR.out.len.symm
    subst hx
    exact ⟨none, 0, rfl, grown_set _, Octs.nil _ _ _ (fun _ => rfl), (fun _ h => by cases h), ldr_rest (n := 0) HR.out rfl (Octs.nil _ _ _ (fun _ => rfl)) Ples.none (fun _ h => by cases h)⟩
  · rw [← hm] at hn hcap h40
    clear hm h
    by_cases hc : cap = n
    · subst hc
      go_enter Try.func66, Try.ntmps66
      go_wp2
      go_ret
      have hl : xs.length = cap := by have := HR.out.len; omega
      have hd : xs.drop cap = [] := List.drop_eq_nil_of_le (by omega)
      refine ⟨_, _, rfl, grown_set _, (HR.out.octs.take cap).set HR.out.ne _, HR.out.ne, ldr_rest (n := cap) HR.out (by rw [hd]; rfl) (by rw [hd]; exact Octs.nil _ _ _ (fun e => by cases e)) (Ples.some _ _ _) HR.out.ne⟩
    · go_enter Try.func66, Try.ntmps66
      go_wp2
      go_ret
      have hl := HR.out.len
      refine ⟨_, _, rfl, grown_set _, (HR.out.octs.take n).set HR.out.ne _, HR.out.ne, ldr_rest (n := n) HR.out (by rw [List.length_drop]; omega) (HR.out.octs.drop (by omega)) (Ples.some _ _ _) (fun ad h => ?_)⟩
      have h1 := HR.out.ne _ rfl
      cases h
      exact h1

set_option maxRecDepth 100000 in
set_option maxHeartbeats 4000000 in
theorem lnumber_ok (R : Nat) (xs : List Int) (w : World) (h : LdS w R xs) (h4 : 4 ≤ xs.length) :
    Calls Try.prog 48 #[.pointer (some ⟨R, 0, none⟩)] w fun e w' => e = .returned (.int .i64 (num4 xs)) ∧ LdS w' R (xs.drop 4) ∧ w.grownBy w' (some R) := by
  generalize hpost : (fun (e : Ending) (w' : World) => e = .returned (.int .i64 (num4 xs)) ∧ LdS w' R (xs.drop 4) ∧ w.grownBy w' (some R)) = Q
  have HP : Hid (∀ w', LdS w' R (xs.drop 4) → w.grownBy w' (some R) → Q (.returned (.int .i64 (num4 xs))) w') := fun w' h1 h2 => by rw [← hpost]; exact ⟨rfl, h1, h2⟩
  clear hpost
  obtain ⟨n0, n1⟩ := num4_bounds h4 h.bytes
  have c1 : Hid (Calls Try.prog 66 #[.pointer (some ⟨R, 0, none⟩), .int .i64 4] w fun e w' => ∃ (b off c1 : Nat), e = .returned (.slice (some ⟨b, off, none⟩) 4 c1) ∧ Hid (LdS w' R (xs.drop 4) ∧ w.grownBy w' (some R) ∧ Octs w' (some ⟨b, off, none⟩) c1 (xs.take 4))) := by
    refine (ltake_ok R xs 4 w h h4).mono ?_
    rintro e w' ⟨a1, c1, rfl, h1, h2, h3, h5⟩
    obtain ⟨b, off, rfl, -⟩ := h2.at (k := 0) (by rw [List.length_take]; omega)
    exact ⟨b, off, c1, rfl, h5, h1, h2⟩
  have HL : Hid ((xs.take 4).length = 4 ∧ num4 xs = num4 (xs.take 4)) := ⟨by rw [List.length_take]; omega, by obtain ⟨x0, x1, x2, x3, ys, rfl⟩ := four_parts h4; rfl⟩
  clear h h4
  go_enter Try.func48, Try.ntmps48
  go_wp2_with (first
    | (go_at_call 66; refine c1.out.mono ?_; clear c1; rintro e w1 ⟨b, off, c1, rfl, H1⟩))
  obtain ⟨b', off', e1, k0, l0, u0⟩ := H1.out.2.2.at (k := 0) (by rw [HL.out.1]; omega)
  cases e1
  obtain ⟨b', off', e1, k1, l1, u1⟩ := H1.out.2.2.at (k := 1) (by rw [HL.out.1]; omega)
  cases e1
  obtain ⟨b', off', e1, k2, l2, u2⟩ := H1.out.2.2.at (k := 2) (by rw [HL.out.1]; omega)
  cases e1
  obtain ⟨b', off', e1, k3, l3, u3⟩ := H1.out.2.2.at (k := 3) (by rw [HL.out.1]; omega)
  cases e1
  have HV : Hid (num4 xs = (xs.take 4).getD 0 0 + 256 * (xs.take 4).getD 1 0 + 65536 * (xs.take 4).getD 2 0 + 16777216 * (xs.take 4).getD 3 0) := HL.out.2
  generalize (xs.take 4).getD 0 0 = x0 at k0 l0 u0 HV
  generalize (xs.take 4).getD 1 0 = x1 at k1 l1 u1 HV
  generalize (xs.take 4).getD 2 0 = x2 at k2 l2 u2 HV
  generalize (xs.take 4).getD 3 0 = x3 at k3 l3 u3 HV
  rw [Nat.add_zero] at k0
  go_loopw [3, 9] (fun q i wr => ∃ (k : Nat) (m : Int), k ≤ 4 ∧ q = .int .i64 m ∧ i = .int .i64 k ∧ w1 = wr ∧
      Hid ((k = 0 → m = 0) ∧ (k = 1 → m = x0) ∧ (k = 2 → m = x0 + 256 * x1) ∧ (k = 3 → m = x0 + 256 * x1 + 65536 * x2) ∧ (k = 4 → m = x0 + 256 * x1 + 65536 * x2 + 16777216 * x3)))
    (fun _ i _ => 4 - (intOf i).toNat)
  case atStart => exact ⟨0, 0, by omega, rfl, rfl, rfl, by simp [Hid]⟩
  case round =>
    obtain ⟨k, m, hk, rfl, rfl, rfl, H⟩ := hrel
    rcases (show k = 0 ∨ k = 1 ∨ k = 2 ∨ k = 3 ∨ k = 4 by omega) with rfl | rfl | rfl | rfl | rfl
    · have h0 := H.out.1 rfl
      have o : bits .or .i64 m x0 = x0 := by
        have := or_byte m x0 0 (by omega) (by omega) (by omega) l0 u0
        simp only [Nat.pow_zero, Int.cast_ofNat_Int, Int.mul_one, Int.one_mul] at this
        rw [this]; omega
      clear h0
      go_wp2
      go_roundw
      case rel => exact ⟨1, x0, by omega, rfl, by go_num, trivial, by simp [Hid]⟩
      case measure => simp [intOf]
    · have h0 := H.out.2.1 rfl
      have o : bits .or .i64 m (x1 * 256) = x0 + 256 * x1 := by rw [h0]; exact or_byte x0 x1 8 (by omega) (by omega) (by omega) l1 u1
      clear h0
      go_wp2
      go_roundw
      case rel => exact ⟨2, x0 + 256 * x1, by omega, rfl, by go_num, trivial, by simp [Hid]⟩
      case measure => simp [intOf]
    · have h0 := H.out.2.2.1 rfl
      have o : bits .or .i64 m (x2 * 65536) = x0 + 256 * x1 + 65536 * x2 := by rw [h0]; exact or_byte _ x2 16 (by omega) (by omega) (by omega) l2 u2
      clear h0
      go_wp2
      go_roundw
      case rel => exact ⟨3, x0 + 256 * x1 + 65536 * x2, by omega, rfl, by go_num, trivial, by simp [Hid]⟩
      case measure => simp [intOf]
    · have h0 := H.out.2.2.2.1 rfl
      have o : bits .or .i64 m (x3 * 16777216) = x0 + 256 * x1 + 65536 * x2 + 16777216 * x3 := by rw [h0]; exact or_byte _ x3 24 (by omega) (by omega) (by omega) l3 u3
      clear h0
      go_wp2
      go_roundw
      case rel => exact ⟨4, x0 + 256 * x1 + 65536 * x2 + 16777216 * x3, by omega, rfl, by go_num, trivial, by simp [Hid]⟩
      case measure => simp [intOf]
    · have h0 := H.out.2.2.2.2 rfl
      have h1 : m = num4 xs := h0.trans HV.out.symm
      clear h0
      subst h1
      generalize num4 xs = v at n0 n1 HP
      go_wp2
      exact HP.out _ H1.out.1 H1.out.2.1

/-- a number that stands ahead -/
theorem lnumber_le (R n : Nat) (r : List Int) (hn : n < 4294967296) (w : World) (h : LdS w R (le4 n ++ r)) :
    Calls Try.prog 48 #[.pointer (some ⟨R, 0, none⟩)] w fun e w' => e = .returned (.int .i64 (n : Int)) ∧ Hid (LdS w' R r ∧ w.grownBy w' (some R)) := by
  refine (lnumber_ok R _ w h (by rw [List.length_append, le4_length]; omega)).mono ?_
  rintro e w' ⟨rfl, h1, h2⟩
  rw [num4_le4 n hn]
  refine ⟨rfl, ?_, h2⟩
  rw [List.drop_append_of_le_length (by rw [le4_length]; exact Nat.le_refl _), ← le4_length n, List.drop_length, List.nil_append] at h1
  exact h1

end Go.Proofs.Ytndnbkgejdindaa

/- Texts, cells and dones that a saved state's reader reads, the good way. -/
namespace Go.Proofs.Ytndnbkgejdindaa
open Go.ChangeShapes Go.WideShapes Go.ChangeAt Go.RowKit

set_option maxRecDepth 100000 in
set_option maxHeartbeats 1000000 in
theorem ltext_ok (R : Nat) (t r : List Int) (ht : t.length < 4294967296) (w : World) (h : LdS w R (txt4 t ++ r)) :
    Calls Try.prog 67 #[.pointer (some ⟨R, 0, none⟩)] w fun e w' => ∃ (a : Option Addr) (n c : Nat), e = .returned (.slice a n c) ∧ Hid (IsBody w' (fun b => w.heap.size ≤ b) (.slice a n c) t ∧ LdS w' R r ∧ w.grownBy w' (some R)) := by
  generalize hpost : (fun (e : Ending) (w' : World) => ∃ (a : Option Addr) (n c : Nat), e = .returned (.slice a n c) ∧ Hid (IsBody w' (fun b => w.heap.size ≤ b) (.slice a n c) t ∧ LdS w' R r ∧ w.grownBy w' (some R))) = Q
  have HP : Hid (∀ a n c w', IsBody w' (fun b => w.heap.size ≤ b) (.slice a n c) t ∧ LdS w' R r ∧ w.grownBy w' (some R) → Q (.returned (.slice a n c)) w') := fun a n c w' h => by rw [← hpost]; exact ⟨a, n, c, rfl, h⟩
  clear hpost
  obtain ⟨n, hn⟩ : ∃ n, n = t.length := ⟨_, rfl⟩
  have c1 : Hid (Calls Try.prog 48 #[.pointer (some ⟨R, 0, none⟩)] w fun e w' => e = .returned (.int .i64 (n : Int)) ∧ Hid (LdS w' R (t ++ r) ∧ w.grownBy w' (some R))) := by
    have h0 := lnumber_le R t.length (t ++ r) ht w (by rw [← List.append_assoc]; exact h)
    rw [← hn] at h0
    exact h0
  have c2 : Hid (∀ V, LdS V R (t ++ r) → Calls Try.prog 66 #[.pointer (some ⟨R, 0, none⟩), .int .i64 (n : Int)] V fun e w' => ∃ (a1 : Option Addr) (c1 : Nat), e = .returned (.slice a1 n c1) ∧ Hid (V.grownBy w' (some R) ∧ Octs w' a1 c1 t ∧ LdS w' R r)) := fun V hV => by
    refine (ltake_ok R (t ++ r) n V hV (by rw [List.length_append]; omega)).mono ?_
    rintro e w' ⟨a1, c1, rfl, h1, h2, -, h4⟩
    rw [hn, List.take_append_of_le_length (Nat.le_refl _), List.take_length] at h2
    rw [hn, List.drop_append_of_le_length (Nat.le_refl _), List.drop_length, List.nil_append] at h4
    exact ⟨a1, c1, rfl, h1, h2, h4⟩
  have c3 : Hid (∀ (V : World) (a1 : Option Addr) (c1 : Nat), Octs V a1 c1 t → Calls Try.prog 29 #[.slice a1 n c1] V fun e w' => ∃ (b1 : Option Addr) (q1 : Nat), e = .returned (.slice b1 n q1) ∧ Hid (IsBody w' (fun b => V.heap.size ≤ b) (.slice b1 n q1) t ∧ Below V.heap.size V w')) := fun V a1 c1 ho => by
    have h0 := copiedM_any a1 c1 t V ho
    rw [← hn] at h0
    refine h0.mono ?_
    rintro e w' ⟨b1, q1, rfl, h1, h2, h3⟩
    exact ⟨b1, q1, rfl, ⟨b1, q1, by rw [hn], h1, fun _ ad e => h2 ad e⟩, h3⟩
  clear h hn
  go_enter Try.func67, Try.ntmps67
  go_wp2_with (first
    | (go_at_call 48; (with_reducible refine c1.out.mono ?_); clear c1; rintro e w1 ⟨rfl, H1⟩)
    | (go_at_call 66; (with_reducible refine (c2.out _ H1.out.1).mono ?_); clear c2; rintro e w2 ⟨a1, c1, rfl, H2⟩)
    | (go_at_call 29; (with_reducible refine (c3.out _ _ _ H2.out.2.1).mono ?_); clear c3; rintro e w3 ⟨b1, q1, rfl, H3⟩))
  have hg := grown_trans (grown_trans H1.out.2 H2.out.1) (grown_below H3.out.2 (some R))
  have hs : w.heap.size ≤ w2.heap.size := Nat.le_trans H1.out.2.size H2.out.1.size
  exact HP.out _ _ _ _ ⟨H3.out.1.move (Kept.of_below (Below.refl _ _)) (fun b _ hb => Nat.le_trans hs hb), H2.out.2.2.later H3.out.2, hg⟩

set_option maxRecDepth 100000 in
set_option maxHeartbeats 1000000 in
theorem lwhether_ok (R : Nat) (g : Bool) (r : List Int) (w : World) (h : LdS w R (flagB g :: r)) :
    Calls Try.prog 68 #[.pointer (some ⟨R, 0, none⟩)] w fun e w' => e = .returned (.bool g) ∧ Hid (LdS w' R r ∧ w.grownBy w' (some R)) := by
  have c1 : Hid (Calls Try.prog 66 #[.pointer (some ⟨R, 0, none⟩), .int .i64 1] w fun e w' => ∃ (b off c1 : Nat), e = .returned (.slice (some ⟨b, off, none⟩) 1 c1) ∧ w'.cell? ⟨b, off, none⟩ = some (.int .u8 (flagB g)) ∧ Hid (LdS w' R r ∧ w.grownBy w' (some R))) := by
    refine (ltake_ok R (flagB g :: r) 1 w h (by simp)).mono ?_
    rintro e w' ⟨a1, c1, rfl, h1, h2, -, h4⟩
    simp only [List.take_succ_cons, List.take_zero] at h2
    obtain ⟨b, off, rfl, hc, -⟩ := h2.at (k := 0) (by simp)
    exact ⟨b, off, c1, rfl, by simpa using hc, h4, h1⟩
  clear h
  go_enter Try.func68, Try.ntmps68
  cases g with
  | true =>
    go_wp2_with (first
      | (go_at_call 66; (with_reducible refine c1.out.mono ?_); clear c1; rintro e w1 ⟨b, off, c1, rfl, hc, H1⟩; simp only [flagB, if_true] at hc))
    go_ret
    exact ⟨rfl, H1.out⟩
  | false =>
    go_wp2_with (first
      | (go_at_call 66; (with_reducible refine c1.out.mono ?_); clear c1; rintro e w1 ⟨b, off, c1, rfl, hc, H1⟩; simp only [flagB, Bool.false_eq_true, if_false] at hc))
    go_ret
    exact ⟨rfl, H1.out⟩

/-- a round's variable, the row so far and the reader -/
structure LcI {α : Type} {size : Nat} (K : Kd α size) (E : TypeId) (w : World) (R X : Nat) (v : Value) (m : List α) (xs : List Int) (vs : List Value) (V : World) : Prop where
  var : Cls V X vs
  rows : Rows K (fun b => w.heap.size ≤ b ∧ b ≠ X) V w.heap.size E v m
  rd : LdS V R xs
  grown : w.grownBy V (some R)
  ord : R < w.heap.size ∧ w.heap.size ≤ X ∧ X < V.heap.size
  own : ∀ g, v.ownBlock = some g → g < X

section
variable {α : Type} {size : Nat} {K : Kd α size} {E : TypeId} {w V V' : World} {R X : Nat} {v : Value} {m : List α} {xs xs' : List Int} {vs : List Value}

theorem LcI.start {bs : List α} (h : Rows K (fun b => w.heap.size ≤ b) V w.heap.size E v bs) (hr : LdS V R xs) (hg : w.grownBy V (some R)) (hR : R < w.heap.size) (cs : List Value) (ty : TypeId) : LcI K E w R V.heap.size v bs xs cs (V.alloc (.cells cs.toArray ty)) := by
  have hb : Below V.heap.size V (V.alloc (.cells cs.toArray ty)) := (Below.refl _ V).alloc (Nat.le_refl _) _
  exact ⟨Cls.new V cs ty, (h.turned (fun b hb2 ho => ⟨ho, by omega⟩)).later hb, hr.later hb, grown_trans hg (grown_below hb _), ⟨hR, hg.size, by simp⟩, fun g e => (rows_lt h g e).2⟩

theorem LcI.call (h : LcI K E w R X v m xs vs V) (hg : V.grownBy V' (some R)) (hr : LdS V' R xs') : LcI K E w R X v m xs' vs V' := by
  have ho := h.ord
  exact ⟨h.var.grown hg (by omega), h.rows.move (Kept.of_grown hg (fun b hb e => by have h1 := Option.some.inj e; have h2 := hb.1; omega)) (fun g e => hg.block g (rows_lt h.rows g e).2 (fun e2 => by have h1 := Option.some.inj e2; have h2 := (rows_lt h.rows g e).1; omega)), hr, grown_trans h.grown hg, ⟨ho.1, ho.2.1, Nat.lt_of_lt_of_le ho.2.2 hg.size⟩, h.own⟩

theorem LcI.store (h : LcI K E w R X v m xs vs V) {k : Nat} (u : Value) : LcI K E w R X v m xs (vs.set k u) (V.setCell ⟨X, k, none⟩ u) := by
  have ho := h.ord
  have hg : V.grownBy (V.setCell ⟨X, k, none⟩ u) (some X) := grown_set u
  have hb : ∀ b, b ≠ X → (V.setCell ⟨X, k, none⟩ u).heap[b]? = V.heap[b]? := fun b hne => Below.heap_setCell _ _ _ _ hne
  refine ⟨h.var.set u, h.rows.move ⟨hg.size, fun b _ hb2 => hb b hb2.2⟩ (fun g e => hb g (by have := h.own g e; omega)), h.rd.block (fun b hbR => hb b (by omega)) hg.size, ⟨hg.os.trans h.grown.os, hg.tape.trans h.grown.tape, hg.output.trans h.grown.output, Nat.le_trans h.grown.size hg.size, fun b hb2 hne => (hb b (by omega)).trans (h.grown.block b hb2 hne)⟩, ⟨ho.1, ho.2.1, Nat.lt_of_lt_of_le ho.2.2 hg.size⟩, h.own⟩

end

/-- a body that was made behind the variable stays -/
theorem body_call {V V' : World} {R X : Nat} {u : Value} {xs : List Int} (h : IsBody V (fun b => X < b) u xs) (hRX : R < X) (hg : V.grownBy V' (some R)) : IsBody V' (fun b => X < b) u xs :=
  h.move (Kept.of_grown hg (fun b hb e => by have h1 := Option.some.inj e; have h2 : X < b := hb; omega)) (fun _ _ h => h)

theorem body_store {V : World} {X k : Nat} {u v : Value} {xs : List Int} (h : IsBody V (fun b => X < b) u xs) : IsBody (V.setCell ⟨X, k, none⟩ v) (fun b => X < b) u xs :=
  h.move ⟨(grown_set v).size, fun b _ hb => Below.heap_setCell _ _ _ _ (fun e => by have h2 : X < b := hb; have e2 : b = X := e; omega)⟩ (fun _ _ h => h)

end Go.Proofs.Ytndnbkgejdindaa

/- The cells and the dones that a saved state's reader reads, the good way. -/
namespace Go.Proofs.Ytndnbkgejdindaa
open Go.ChangeShapes Go.WideShapes Go.ChangeAt Go.RowKit

set_option maxRecDepth 100000 in
set_option maxHeartbeats 2000000 in
theorem lcells_ok (R : Nat) (l : List Cel) (p : Int) (hp : p ≤ 1048576) (hok : ∀ x ∈ l, OkC p x) (hlen : l.length ≤ 4294967295) (r : List Int) (w : World) (hR : R < w.heap.size) (h : LdS w R (le4 l.length ++ (l.flatMap encC ++ r))) :
    Calls Try.prog 49 #[.pointer (some ⟨R, 0, none⟩)] w fun e w' => ∃ (a : Option Addr) (n c : Nat), e = .returned (.slice a n c) ∧ Hid (n = l.length ∧ Rows kCel (fun b => w.heap.size ≤ b) w' w.heap.size 51 (.slice a n c) l ∧ LdS w' R r ∧ w.grownBy w' (some R)) := by
  generalize hpost : (fun (e : Ending) (w' : World) => ∃ (a : Option Addr) (n c : Nat), e = .returned (.slice a n c) ∧ Hid (n = l.length ∧ Rows kCel (fun b => w.heap.size ≤ b) w' w.heap.size 51 (.slice a n c) l ∧ LdS w' R r ∧ w.grownBy w' (some R))) = Q
  have HP : Hid (∀ a n c w', n = l.length ∧ Rows kCel (fun b => w.heap.size ≤ b) w' w.heap.size 51 (.slice a n c) l ∧ LdS w' R r ∧ w.grownBy w' (some R) → Q (.returned (.slice a n c)) w') := fun a n c w' h => by rw [← hpost]; exact ⟨a, n, c, rfl, h⟩
  clear hpost
  obtain ⟨n, hn⟩ : ∃ n, n = l.length := ⟨_, rfl⟩
  have c1 : Hid (Calls Try.prog 48 #[.pointer (some ⟨R, 0, none⟩)] w fun e w' => e = .returned (.int .i64 (n : Int)) ∧ Hid (LdS w' R (l.flatMap encC ++ r) ∧ w.grownBy w' (some R))) := by
    have h0 := lnumber_le R l.length _ (by omega) w h
    rw [← hn] at h0
    exact h0
  have HN := put_by hn
  have HOK := put_by (And.intro hp hok)
  have hn8 : n ≤ 4294967295 := by omega
  clear h hn hlen hp hok
  go_enter Try.func49, Try.ntmps49
  go_upto_region 3 with (first
    | (go_at_call 48; (with_reducible refine c1.out.mono ?_); clear c1; rintro e w1 ⟨rfl, H1⟩))
  go_loopw [3, 7] (fun v i wr => ∃ (k : Nat) (a : Option Addr) (c : Nat), k ≤ n ∧ i = .int .i64 k ∧ v = .slice a k c ∧ Hid (Rows kCel (fun b => w.heap.size ≤ b) wr w.heap.size 51 (.slice a k c) (l.take k) ∧ LdS wr R ((l.drop k).flatMap encC ++ r) ∧ w.grownBy wr (some R))) (fun _ i _ => n - (intOf i).toNat)
  case atStart => exact ⟨0, none, 0, Nat.zero_le _, rfl, rfl, Rows.nil _ _ _ _ _, H1.out.1, H1.out.2⟩
  case round =>
    obtain ⟨k, a, c, hk, rfl, rfl, HR⟩ := hrel
    rename World => wr
    by_cases hlt : k < n
    · have hx : k < l.length := by rw [← HN.out]; exact hlt
      obtain ⟨x, hxe⟩ : ∃ x, x = l[k] := ⟨_, rfl⟩
      have hdr : (l.drop k).flatMap encC ++ r = encC x ++ ((l.drop (k + 1)).flatMap encC ++ r) := by rw [List.drop_eq_getElem_cons hx, List.flatMap_cons, List.append_assoc, hxe]
      have HX := put_by (And.intro (HOK.out.2 _ (List.getElem_mem hx)) (take_succ' hx))
      rw [← hxe] at HX
      obtain ⟨rest, hrest⟩ : ∃ q, q = (l.drop (k + 1)).flatMap encC ++ r := ⟨_, rfl⟩
      have HRE := put_by hrest
      rw [← hrest] at hdr
      obtain ⟨kk, vv, g, s⟩ := x
      obtain ⟨sn, rfl⟩ : ∃ sn : Nat, s = (sn : Int) := ⟨s.toNat, by have h1 := HX.out.1.2.2.2.2.1; have h2 : 1 ≤ s := h1; omega⟩
      have ik : (k : Int) < (n : Int) := by omega
      have hrd : LdS wr R (txt4 kk ++ (flagB g :: (txt4 vv ++ (le4 sn ++ rest)))) := by have h := HR.out.2.1; rw [hdr] at h; simpa [encC, List.append_assoc] using h
      have I0 := put_by (LcI.start (K := kCel) (E := 51) HR.out.1 hrd HR.out.2.2 hR [.slice none 0 0, .slice none 0 0, .bool false, .int .i64 0] 51)
      clear hdr hrest hrd hxe
      have HLT : Hid ((l.take k).length = k) := by show _ = _; rw [List.length_take, ← HN.out]; omega
      go_upto_region 5 with (fail)
      generalize wr.heap.size = X at I0 ⊢
      generalize wr.alloc (.cells #[.slice none 0 0, .slice none 0 0, .bool false, .int .i64 0] _) = V0 at I0 ⊢
      have hT := ltext_ok R kk _ (by have h1 := HX.out.1.2.1; have h2 : kk.length ≤ 1200 := h1; omega) _ I0.out.rd
      go_upto_region 6 with (first
        | (go_at_call 67; (with_reducible refine hT.mono ?_); clear hT; rintro e w1 ⟨a1, n1, c1, rfl, H1⟩; have J1 := put_by (I0.out.call H1.out.2.2 H1.out.2.1); obtain ⟨x1, f1⟩ := J1.out.var 0 _ rfl))
      have I1 := put_by (J1.out.store (k := 0) (.slice a1 n1 c1))
      have B1 : Hid (IsBody (w1.setCell ⟨X, 0, none⟩ (.slice a1 n1 c1)) (fun b => X < b) (.slice a1 n1 c1) kk) := body_store (H1.out.1.move (Kept.of_below (Below.refl _ _)) (fun b _ hb => by have h1 := I0.out.ord; show X < b; omega))
      clear x1 f1 J1 I0 H1
      generalize w1.setCell ⟨X, 0, none⟩ (.slice a1 n1 c1) = W1 at I1 B1 ⊢
      have hT := lwhether_ok R g _ _ I1.out.rd
      go_upto_region 7 with (first
        | (go_at_call 68; (with_reducible refine hT.mono ?_); clear hT; rintro e w2 ⟨rfl, H2⟩; have J2 := put_by (I1.out.call H2.out.2 H2.out.1); obtain ⟨x2, f2⟩ := J2.out.var 2 _ rfl))
      have I2 := put_by (J2.out.store (k := 2) (.bool g))
      have B2 : Hid (IsBody (w2.setCell ⟨X, 2, none⟩ (.bool g)) (fun b => X < b) (.slice a1 n1 c1) kk) := body_store (body_call B1.out (by have h1 := I1.out.ord; omega) H2.out.2)
      clear B1
      clear x2 f2 J2 I1 H2
      generalize w2.setCell ⟨X, 2, none⟩ (.bool g) = W2 at I2 B2 ⊢
      have hT := ltext_ok R vv _ (by have h1 := HX.out.1.2.2.1; have h2 : vv.length ≤ 4000 := h1; omega) _ I2.out.rd
      go_upto_region 8 with (first
        | (go_at_call 67; (with_reducible refine hT.mono ?_); clear hT; rintro e w3 ⟨a3, n3, c3, rfl, H3⟩; have J3 := put_by (I2.out.call H3.out.2.2 H3.out.2.1); obtain ⟨x3, f3⟩ := J3.out.var 1 _ rfl))
      have I3 := put_by (J3.out.store (k := 1) (.slice a3 n3 c3))
      have B3 : Hid (IsBody (w3.setCell ⟨X, 1, none⟩ (.slice a3 n3 c3)) (fun b => X < b) (.slice a1 n1 c1) kk ∧ IsBody (w3.setCell ⟨X, 1, none⟩ (.slice a3 n3 c3)) (fun b => X < b) (.slice a3 n3 c3) vv) := ⟨body_store (body_call B2.out (by have h1 := I2.out.ord; omega) H3.out.2.2), body_store (H3.out.1.move (Kept.of_below (Below.refl _ _)) (fun b _ hb => by have h1 := I2.out.ord; show X < b; omega))⟩
      clear B2
      clear x3 f3 J3 I2 H3
      generalize w3.setCell ⟨X, 1, none⟩ (.slice a3 n3 c3) = W3 at I3 B3 ⊢
      have hT := lnumber_le R sn _ (by have h1 := HX.out.1.2.2.2.2.2; have h2 := HOK.out.1; have h3 : ((sn : Nat) : Int) ≤ p := h1; omega) _ I3.out.rd
      go_upto_region 9 with (first
        | (go_at_call 48; (with_reducible refine hT.mono ?_); clear hT; rintro e w4 ⟨rfl, H4⟩; have J4 := put_by (I3.out.call H4.out.2 H4.out.1); obtain ⟨x4, f4⟩ := J4.out.var 3 _ rfl))
      have I4 := put_by (J4.out.store (k := 3) (.int .i64 (sn : Int)))
      have B4 : Hid (IsBody (w4.setCell ⟨X, 3, none⟩ (.int .i64 (sn : Int))) (fun b => X < b) (.slice a1 n1 c1) kk ∧ IsBody (w4.setCell ⟨X, 3, none⟩ (.int .i64 (sn : Int))) (fun b => X < b) (.slice a3 n3 c3) vv) := ⟨body_store (body_call B3.out.1 (by have h1 := I3.out.ord; omega) H4.out.2), body_store (body_call B3.out.2 (by have h1 := I3.out.ord; omega) H4.out.2)⟩
      clear B3
      clear x4 f4 J4 I3 H4
      generalize w4.setCell ⟨X, 3, none⟩ (.int .i64 (sn : Int)) = W4 at I4 B4 ⊢
      obtain ⟨y0, -⟩ := I4.out.var 0 _ rfl
      obtain ⟨y1, -⟩ := I4.out.var 1 _ rfl
      obtain ⟨y2, -⟩ := I4.out.var 2 _ rfl
      obtain ⟨y3, -⟩ := I4.out.var 3 _ rfl
      have HREL : Hid (kCel.rel (fun b => (w.heap.size ≤ b ∧ b ≠ X) ∧ (Value.slice a k c).ownBlock ≠ some b) W4 ⟨kk, vv, g, (sn : Int)⟩ [.slice a1 n1 c1, .slice a3 n3 c3, .bool g, .int .i64 (sn : Int)]) := by
        have h1 := I4.out.ord
        have ho : ∀ b, b < W4.heap.size → X < b → (w.heap.size ≤ b ∧ b ≠ X) ∧ (Value.slice a k c).ownBlock ≠ some b := fun b _ hb => ⟨⟨by omega, by omega⟩, fun e => by have h2 := I4.out.own b e; omega⟩
        exact ⟨_, _, rfl, B4.out.1.move (Kept.of_below (Below.refl _ _)) ho, B4.out.2.move (Kept.of_below (Below.refl _ _)) ho⟩
      go_wp2_with (first
        | (at_builtin; refine wpList_append_oneB (K := kCel) (ok := fun b => w.heap.size ≤ b ∧ b ≠ X) eltC rfl (.tmp 21) (.tmp 23) rfl w.heap.size (.slice a k c) (l.take k) rfl I4.out.rows ⟨kk, vv, g, (sn : Int)⟩ [.slice a1 n1 c1, .slice a3 n3 c3, .bool g, .int .i64 (sn : Int)] _ _ rfl rfl HREL.out (fun b hb => ⟨Nat.le_trans I4.out.grown.size hb, by have h1 := I4.out.ord; omega⟩) (by rw [HLT.out]; omega) (by decide) I4.out.grown.size ?_; intro v9 w9 r1 r2 r3; rw [← HX.out.2] at r1; have HG9 : Hid (∀ b, b ≤ R → w9.heap[b]? = W4.heap[b]?) := (fun b hb => r2.block b (by have h1 := I4.out.ord; omega) (fun e => by have h1 := (rows_lt I4.out.rows b e.symm).1; omega)); have H9 : Hid (Rows kCel (fun b => w.heap.size ≤ b) w9 w.heap.size 51 v9 (l.take (k + 1)) ∧ LdS w9 R rest ∧ w.grownBy w9 (some R)) := ⟨r1.turned (fun b _ hb => hb.1), I4.out.rd.block HG9.out r2.size, ⟨r2.os.trans I4.out.grown.os, r2.tape.trans I4.out.grown.tape, r2.output.trans I4.out.grown.output, Nat.le_trans I4.out.grown.size r2.size, fun b hb hne => (r2.block b (Nat.lt_of_lt_of_le hb I4.out.grown.size) (fun e => by have h1 := (rows_lt I4.out.rows b e.symm).1; omega)).trans (I4.out.grown.block b hb hne)⟩⟩; obtain ⟨a9, c9, e9⟩ := rows_form H9.out.1; have hm9 : (l.take (k + 1)).length = k + 1 := (by rw [List.length_take, ← HN.out]; omega); rw [hm9] at e9; subst e9; clear hm9 r1 r2 r3))
      go_roundw
      case rel => exact ⟨k + 1, a9, c9, by omega, by go_num, rfl, H9.out.1, by rw [← HRE.out]; exact H9.out.2.1, H9.out.2.2⟩
      case measure => simp [intOf]; omega
    · have hkn : k = n := by omega
      subst hkn
      have HE : Hid (Q (.returned (.slice a k c)) wr) := by
        have h := HR.out
        rw [List.take_of_length_le (by rw [← HN.out]; exact Nat.le_refl _), List.drop_of_length_le (by rw [← HN.out]; exact Nat.le_refl _)] at h
        exact HP.out _ _ _ _ ⟨HN.out, h.1, by simpa using h.2.1, h.2.2⟩
      have ikk : ¬ (k : Int) < (k : Int) := by omega
      clear HP HR
      go_wp2
      exact HE.out

set_option maxRecDepth 100000 in
set_option maxHeartbeats 2000000 in
theorem ldones_ok (R : Nat) (l : List Dn) (p : Int) (hp : p ≤ 1048576) (hok : ∀ x ∈ l, OkD p x) (hlen : l.length ≤ 4294967295) (r : List Int) (w : World) (hR : R < w.heap.size) (h : LdS w R (le4 l.length ++ (l.flatMap encD ++ r))) :
    Calls Try.prog 50 #[.pointer (some ⟨R, 0, none⟩)] w fun e w' => ∃ (a : Option Addr) (n c : Nat), e = .returned (.slice a n c) ∧ Hid (n = l.length ∧ Rows kDn (fun b => w.heap.size ≤ b) w' w.heap.size 53 (.slice a n c) l ∧ LdS w' R r ∧ w.grownBy w' (some R)) := by
  generalize hpost : (fun (e : Ending) (w' : World) => ∃ (a : Option Addr) (n c : Nat), e = .returned (.slice a n c) ∧ Hid (n = l.length ∧ Rows kDn (fun b => w.heap.size ≤ b) w' w.heap.size 53 (.slice a n c) l ∧ LdS w' R r ∧ w.grownBy w' (some R))) = Q
  have HP : Hid (∀ a n c w', n = l.length ∧ Rows kDn (fun b => w.heap.size ≤ b) w' w.heap.size 53 (.slice a n c) l ∧ LdS w' R r ∧ w.grownBy w' (some R) → Q (.returned (.slice a n c)) w') := fun a n c w' h => by rw [← hpost]; exact ⟨a, n, c, rfl, h⟩
  clear hpost
  obtain ⟨n, hn⟩ : ∃ n, n = l.length := ⟨_, rfl⟩
  have c1 : Hid (Calls Try.prog 48 #[.pointer (some ⟨R, 0, none⟩)] w fun e w' => e = .returned (.int .i64 (n : Int)) ∧ Hid (LdS w' R (l.flatMap encD ++ r) ∧ w.grownBy w' (some R))) := by
    have h0 := lnumber_le R l.length _ (by omega) w h
    rw [← hn] at h0
    exact h0
  have HN := put_by hn
  have HOK := put_by (And.intro hp hok)
  have hn8 : n ≤ 4294967295 := by omega
  clear h hn hlen hp hok
  go_enter Try.func50, Try.ntmps50
  go_upto_region 3 with (first
    | (go_at_call 48; (with_reducible refine c1.out.mono ?_); clear c1; rintro e w1 ⟨rfl, H1⟩))
  go_loopw [3, 7] (fun v i wr => ∃ (k : Nat) (a : Option Addr) (c : Nat), k ≤ n ∧ i = .int .i64 k ∧ v = .slice a k c ∧ Hid (Rows kDn (fun b => w.heap.size ≤ b) wr w.heap.size 53 (.slice a k c) (l.take k) ∧ LdS wr R ((l.drop k).flatMap encD ++ r) ∧ w.grownBy wr (some R))) (fun _ i _ => n - (intOf i).toNat)
  case atStart => exact ⟨0, none, 0, Nat.zero_le _, rfl, rfl, Rows.nil _ _ _ _ _, H1.out.1, H1.out.2⟩
  case round =>
    obtain ⟨k, a, c, hk, rfl, rfl, HR⟩ := hrel
    rename World => wr
    by_cases hlt : k < n
    · have hx : k < l.length := by rw [← HN.out]; exact hlt
      obtain ⟨x, hxe⟩ : ∃ x, x = l[k] := ⟨_, rfl⟩
      have hdr : (l.drop k).flatMap encD ++ r = encD x ++ ((l.drop (k + 1)).flatMap encD ++ r) := by rw [List.drop_eq_getElem_cons hx, List.flatMap_cons, List.append_assoc, hxe]
      have HX := put_by (And.intro (HOK.out.2 _ (List.getElem_mem hx)) (take_succ' hx))
      rw [← hxe] at HX
      obtain ⟨rest, hrest⟩ : ∃ q, q = (l.drop (k + 1)).flatMap encD ++ r := ⟨_, rfl⟩
      have HRE := put_by hrest
      rw [← hrest] at hdr
      obtain ⟨d1, d2, d3, g⟩ := x
      obtain ⟨q1, rfl⟩ : ∃ q : Nat, d1 = (q : Int) := ⟨d1.toNat, by have h1 := HX.out.1.1.1; have h2 : 1 ≤ d1 := h1; omega⟩
      obtain ⟨q2, rfl⟩ : ∃ q : Nat, d2 = (q : Int) := ⟨d2.toNat, by have h1 := HX.out.1.2.1.1; have h2 : 1 ≤ d2 := h1; omega⟩
      obtain ⟨q3, rfl⟩ : ∃ q : Nat, d3 = (q : Int) := ⟨d3.toNat, by have h1 := HX.out.1.2.2.1; have h2 : 1 ≤ d3 := h1; omega⟩
      have ik : (k : Int) < (n : Int) := by omega
      have hrd : LdS wr R (le4 q1 ++ (le4 q2 ++ (le4 q3 ++ (flagB g :: rest)))) := by have h := HR.out.2.1; rw [hdr] at h; simpa [encD, List.append_assoc] using h
      have I0 := put_by (LcI.start (K := kDn) (E := 53) HR.out.1 hrd HR.out.2.2 hR [.int .i64 0, .int .i64 0, .int .i64 0, .bool false] 53)
      clear hdr hrest hrd hxe
      have HLT : Hid ((l.take k).length = k) := by show _ = _; rw [List.length_take, ← HN.out]; omega
      go_upto_region 5 with (fail)
      generalize wr.heap.size = X at I0 ⊢
      generalize wr.alloc (.cells #[.int .i64 0, .int .i64 0, .int .i64 0, .bool false] _) = V0 at I0 ⊢
      have hT := lnumber_le R q1 _ (by have h1 := HX.out.1.1.2; have h2 : ((q1 : Nat) : Int) ≤ 1048576 := h1; omega) _ I0.out.rd
      go_upto_region 6 with (first
        | (go_at_call 48; (with_reducible refine hT.mono ?_); clear hT; rintro e w1 ⟨rfl, H1⟩; have J1 := put_by (I0.out.call H1.out.2 H1.out.1); obtain ⟨x1, f1⟩ := J1.out.var 0 _ rfl))
      have I1 := put_by (J1.out.store (k := 0) (.int .i64 (q1 : Int)))
      clear x1 f1 J1 I0 H1
      generalize w1.setCell ⟨X, 0, none⟩ (.int .i64 (q1 : Int)) = W1 at I1 ⊢
      have hT := lnumber_le R q2 _ (by have h1 := HX.out.1.2.1.2; have h2 : ((q2 : Nat) : Int) ≤ 1048576 := h1; omega) _ I1.out.rd
      go_upto_region 7 with (first
        | (go_at_call 48; (with_reducible refine hT.mono ?_); clear hT; rintro e w2 ⟨rfl, H2⟩; have J2 := put_by (I1.out.call H2.out.2 H2.out.1); obtain ⟨x2, f2⟩ := J2.out.var 1 _ rfl))
      have I2 := put_by (J2.out.store (k := 1) (.int .i64 (q2 : Int)))
      clear x2 f2 J2 I1 H2
      generalize w2.setCell ⟨X, 1, none⟩ (.int .i64 (q2 : Int)) = W2 at I2 ⊢
      have hT := lnumber_le R q3 _ (by have h1 := HX.out.1.2.2.2; have h3 := HOK.out.1; have h2 : ((q3 : Nat) : Int) ≤ p := h1; omega) _ I2.out.rd
      go_upto_region 8 with (first
        | (go_at_call 48; (with_reducible refine hT.mono ?_); clear hT; rintro e w3 ⟨rfl, H3⟩; have J3 := put_by (I2.out.call H3.out.2 H3.out.1); obtain ⟨x3, f3⟩ := J3.out.var 2 _ rfl))
      have I3 := put_by (J3.out.store (k := 2) (.int .i64 (q3 : Int)))
      clear x3 f3 J3 I2 H3
      generalize w3.setCell ⟨X, 2, none⟩ (.int .i64 (q3 : Int)) = W3 at I3 ⊢
      have hT := lwhether_ok R g _ _ I3.out.rd
      go_upto_region 9 with (first
        | (go_at_call 68; (with_reducible refine hT.mono ?_); clear hT; rintro e w4 ⟨rfl, H4⟩; have J4 := put_by (I3.out.call H4.out.2 H4.out.1); obtain ⟨x4, f4⟩ := J4.out.var 3 _ rfl))
      have I4 := put_by (J4.out.store (k := 3) (.bool g))
      clear x4 f4 J4 I3 H4
      generalize w4.setCell ⟨X, 3, none⟩ (.bool g) = W4 at I4 ⊢
      obtain ⟨y0, -⟩ := I4.out.var 0 _ rfl
      obtain ⟨y1, -⟩ := I4.out.var 1 _ rfl
      obtain ⟨y2, -⟩ := I4.out.var 2 _ rfl
      obtain ⟨y3, -⟩ := I4.out.var 3 _ rfl
      have HREL : Hid (kDn.rel (fun b => (w.heap.size ≤ b ∧ b ≠ X) ∧ (Value.slice a k c).ownBlock ≠ some b) W4 ⟨(q1 : Int), (q2 : Int), (q3 : Int), g⟩ [.int .i64 (q1 : Int), .int .i64 (q2 : Int), .int .i64 (q3 : Int), .bool g]) := rfl
      go_wp2_with (first
        | (at_builtin; refine wpList_append_oneB (K := kDn) (ok := fun b => w.heap.size ≤ b ∧ b ≠ X) eltD rfl (.tmp 21) (.tmp 23) rfl w.heap.size (.slice a k c) (l.take k) rfl I4.out.rows ⟨(q1 : Int), (q2 : Int), (q3 : Int), g⟩ [.int .i64 (q1 : Int), .int .i64 (q2 : Int), .int .i64 (q3 : Int), .bool g] _ _ rfl rfl HREL.out (fun b hb => ⟨Nat.le_trans I4.out.grown.size hb, by have h1 := I4.out.ord; omega⟩) (by rw [HLT.out]; omega) (by decide) I4.out.grown.size ?_; intro v9 w9 r1 r2 r3; rw [← HX.out.2] at r1; have HG9 : Hid (∀ b, b ≤ R → w9.heap[b]? = W4.heap[b]?) := (fun b hb => r2.block b (by have h1 := I4.out.ord; omega) (fun e => by have h1 := (rows_lt I4.out.rows b e.symm).1; omega)); have H9 : Hid (Rows kDn (fun b => w.heap.size ≤ b) w9 w.heap.size 53 v9 (l.take (k + 1)) ∧ LdS w9 R rest ∧ w.grownBy w9 (some R)) := ⟨r1.turned (fun b _ hb => hb.1), I4.out.rd.block HG9.out r2.size, ⟨r2.os.trans I4.out.grown.os, r2.tape.trans I4.out.grown.tape, r2.output.trans I4.out.grown.output, Nat.le_trans I4.out.grown.size r2.size, fun b hb hne => (r2.block b (Nat.lt_of_lt_of_le hb I4.out.grown.size) (fun e => by have h1 := (rows_lt I4.out.rows b e.symm).1; omega)).trans (I4.out.grown.block b hb hne)⟩⟩; obtain ⟨a9, c9, e9⟩ := rows_form H9.out.1; have hm9 : (l.take (k + 1)).length = k + 1 := (by rw [List.length_take, ← HN.out]; omega); rw [hm9] at e9; subst e9; clear hm9 r1 r2 r3))
      go_roundw
      case rel => exact ⟨k + 1, a9, c9, by omega, by go_num, rfl, H9.out.1, by rw [← HRE.out]; exact H9.out.2.1, H9.out.2.2⟩
      case measure => simp [intOf]; omega
    · have hkn : k = n := by omega
      subst hkn
      have HE : Hid (Q (.returned (.slice a k c)) wr) := by
        have h := HR.out
        rw [List.take_of_length_le (by rw [← HN.out]; exact Nat.le_refl _), List.drop_of_length_le (by rw [← HN.out]; exact Nat.le_refl _)] at h
        exact HP.out _ _ _ _ ⟨HN.out, h.1, by simpa using h.2.1, h.2.2⟩
      have ikk : ¬ (k : Int) < (k : Int) := by omega
      clear HP HR
      go_wp2
      exact HE.out

end Go.Proofs.Ytndnbkgejdindaa
