/- A saved state's reader at whatever bytes: what is read, or it is torn. -/
import Derived.Test.YtndnbkgejdindaaLdRows
import Derived.WalkSmall
import Derived.Test.YtndnbkgejdindaaLdGood
namespace Go.Proofs.Ytndnbkgejdindaa
open Go.ChangeShapes Go.WideShapes Go.ChangeAt Go.RowKit

/-- it panics, and nothing old but the reader has changed -/
def Torn (R : Nat) (w : World) (e : Ending) (w' : World) : Prop := ∃ (t : TypeId) (d : Value), e = .panicked [{ v := .iface t d, recovered := false }] ∧ Hid (w.grownBy w' (some R))

set_option maxRecDepth 100000 in
set_option maxHeartbeats 1000000 in
theorem ltake_torn (R : Nat) (xs : List Int) (n : Nat) (w : World) (h : LdS w R xs) (hn : xs.length < n) :
    Calls Try.prog 66 #[.pointer (some ⟨R, 0, none⟩), .int .i64 n] w fun e w' => Torn R w e w' := by
  obtain ⟨a, m, cap, h⟩ := h
  obtain ⟨k0, f0⟩ := h.one 0 _ rfl
  rw [← h.len] at hn
  clear h f0
  have hi : (m : Int) < (n : Int) := by omega
  go_enter Try.func66, Try.ntmps66
  go_wp2
  exact ⟨rfl, _, _, rfl, grown_refl _ _⟩

/-- some bytes, or torn -/
theorem ltake_all (R : Nat) (xs : List Int) (n : Nat) (w : World) (h : LdS w R xs) :
    Calls Try.prog 66 #[.pointer (some ⟨R, 0, none⟩), .int .i64 n] w fun e w' => (∃ (a1 : Option Addr) (c1 : Nat), e = .returned (.slice a1 n c1) ∧ Hid (n ≤ xs.length ∧ w.grownBy w' (some R) ∧ Octs w' a1 c1 (xs.take n) ∧ LdS w' R (xs.drop n))) ∨ Torn R w e w' := by
  by_cases hn : n ≤ xs.length
  · refine (ltake_ok R xs n w h hn).mono ?_
    rintro e w' ⟨a1, c1, rfl, h1, h2, -, h4⟩
    exact .inl ⟨a1, c1, rfl, hn, h1, h2, h4⟩
  · exact (ltake_torn R xs n w h (by omega)).mono fun e w' h => .inr h

set_option maxRecDepth 100000 in
set_option maxHeartbeats 1000000 in
theorem lnumber_torn (R : Nat) (xs : List Int) (w : World) (h : LdS w R xs) (hn : xs.length < 4) :
    Calls Try.prog 48 #[.pointer (some ⟨R, 0, none⟩)] w fun e w' => Torn R w e w' := by
  have c1 := put_by (ltake_torn R xs 4 w h hn)
  clear h hn
  go_enter Try.func48, Try.ntmps48
  go_wp2_with (fail)
  refine c1.out.mono ?_
  rintro e w1 ⟨t, d, rfl, H1⟩
  exact ⟨rfl, _, _, rfl, H1⟩

/-- a number, or torn -/
theorem lnumber_all (R : Nat) (xs : List Int) (w : World) (h : LdS w R xs) :
    Calls Try.prog 48 #[.pointer (some ⟨R, 0, none⟩)] w fun e w' => (∃ n : Nat, e = .returned (.int .i64 (n : Int)) ∧ n < 4294967296 ∧ Hid (∃ r, xs = le4 n ++ r ∧ LdS w' R r ∧ w.grownBy w' (some R))) ∨ Torn R w e w' := by
  by_cases h4 : 4 ≤ xs.length
  · have hb := h.bytes
    refine (lnumber_ok R xs w h h4).mono ?_
    rintro e w' ⟨rfl, h1, h2⟩
    obtain ⟨n0, n1⟩ := num4_bounds h4 hb
    obtain ⟨q, hq⟩ := Int.eq_ofNat_of_zero_le n0
    have e1 : cut4 xs = some (q, xs.drop 4) := by rw [cut4, if_pos h4, hq]; rfl
    exact .inl ⟨q, by rw [hq], (cut4_inv hb e1).2, xs.drop 4, (cut4_inv hb e1).1, h1, h2⟩
  · exact (lnumber_torn R xs w h (by omega)).mono fun e w' h => .inr h

set_option maxRecDepth 100000 in
set_option maxHeartbeats 1000000 in
/-- a text, or torn -/
theorem ltext_all (R : Nat) (xs : List Int) (w : World) (h : LdS w R xs) :
    Calls Try.prog 67 #[.pointer (some ⟨R, 0, none⟩)] w fun e w' => (∃ (a : Option Addr) (n c : Nat), e = .returned (.slice a n c) ∧ Hid (∃ t r, xs = txt4 t ++ r ∧ IsBody w' (fun b => w.heap.size ≤ b) (.slice a n c) t ∧ LdS w' R r ∧ w.grownBy w' (some R))) ∨ Torn R w e w' := by
  generalize hpost : (fun (e : Ending) (w' : World) => (∃ (a : Option Addr) (n c : Nat), e = .returned (.slice a n c) ∧ Hid (∃ t r, xs = txt4 t ++ r ∧ IsBody w' (fun b => w.heap.size ≤ b) (.slice a n c) t ∧ LdS w' R r ∧ w.grownBy w' (some R))) ∨ Torn R w e w') = Q
  have HP : Hid (∀ a n c w', (∃ t r, xs = txt4 t ++ r ∧ IsBody w' (fun b => w.heap.size ≤ b) (.slice a n c) t ∧ LdS w' R r ∧ w.grownBy w' (some R)) → Q (.returned (.slice a n c)) w') := fun a n c w' h => by rw [← hpost]; exact .inl ⟨a, n, c, rfl, h⟩
  have HT : Hid (∀ t d w', w.grownBy w' (some R) → Q (.panicked [{ v := .iface t d, recovered := false }]) w') := fun t d w' h => by rw [← hpost]; exact .inr ⟨t, d, rfl, h⟩
  clear hpost
  have c1 := put_by (lnumber_all R xs w h)
  have c3 : Hid (∀ (V : World) (a1 : Option Addr) (n c1 : Nat) (t : List Int), n = t.length → Octs V a1 c1 t → Calls Try.prog 29 #[.slice a1 n c1] V fun e w' => ∃ (b1 : Option Addr) (q1 : Nat), e = .returned (.slice b1 n q1) ∧ Hid (IsBody w' (fun b => V.heap.size ≤ b) (.slice b1 n q1) t ∧ Below V.heap.size V w')) := fun V a1 n c1 t hn ho => by
    have h0 := copiedM_any a1 c1 t V ho
    rw [← hn] at h0
    refine h0.mono ?_
    rintro e w' ⟨b1, q1, rfl, h1, h2, h3⟩
    exact ⟨b1, q1, rfl, ⟨b1, q1, by rw [hn], h1, fun _ ad e => h2 ad e⟩, h3⟩
  clear h
  go_enter Try.func67, Try.ntmps67
  go_wp2_with (fail)
  refine c1.out.mono ?_
  clear c1
  rintro e w1 (⟨n, rfl, hn, H1⟩ | ⟨t, d, rfl, H1⟩)
  case inr => exact ⟨rfl, HT.out _ _ _ H1.out⟩
  obtain ⟨r, hr⟩ := H1.out
  have HR := put_by hr
  clear H1 hr
  have c2 := put_by (ltake_all R r n w1 HR.out.2.1)
  go_wp2_with (fail)
  refine c2.out.mono ?_
  clear c2
  rintro e w2 (⟨a1, q1, rfl, H2⟩ | ⟨t, d, rfl, H2⟩)
  case inr => exact ⟨rfl, HT.out _ _ _ (grown_trans HR.out.2.2 H2.out)⟩
  have hl : (r.take n).length = n := by rw [List.length_take]; have := H2.out.1; omega
  have c4 := put_by (c3.out w2 a1 n q1 (r.take n) hl.symm H2.out.2.2.1)
  clear c3
  have HL := put_by hl
  clear hl
  go_wp2_with (first
    | (go_at_call 29; (with_reducible refine c4.out.mono ?_); clear c4; rintro e w3 ⟨b1, q1, rfl, H3⟩))
  refine HP.out _ _ _ _ ⟨r.take n, r.drop n, ?_, ?_, ?_, ?_⟩
  · rw [HR.out.1, txt4, HL.out, List.append_assoc, List.take_append_drop]
  · exact H3.out.1.move (Kept.of_below (Below.refl _ _)) (fun b _ hb => Nat.le_trans (Nat.le_trans HR.out.2.2.size H2.out.2.1.size) hb)
  · exact H2.out.2.2.2.later H3.out.2
  · exact grown_trans (grown_trans HR.out.2.2 H2.out.2.1) (grown_below H3.out.2 (some R))

set_option maxRecDepth 100000 in
set_option maxHeartbeats 1000000 in
/-- whether something is so, or torn -/
theorem lwhether_all (R : Nat) (xs : List Int) (w : World) (h : LdS w R xs) :
    Calls Try.prog 68 #[.pointer (some ⟨R, 0, none⟩)] w fun e w' => (∃ g : Bool, e = .returned (.bool g) ∧ Hid (∃ r, xs = flagB g :: r ∧ LdS w' R r ∧ w.grownBy w' (some R))) ∨ Torn R w e w' := by
  match xs, h with
  | [], h =>
    refine Calls.mono ?_ (fun e w' h => .inr h)
    have c1 := put_by (ltake_torn R [] 1 w h (by decide))
    clear h
    go_enter Try.func68, Try.ntmps68
    go_wp2_with (fail)
    refine c1.out.mono ?_
    rintro e w1 ⟨t, d, rfl, H1⟩
    exact ⟨rfl, _, _, rfl, H1⟩
  | y :: r, h =>
    by_cases h1 : y = 1
    · subst h1
      refine (lwhether_ok R true r w h).mono ?_
      rintro e w' ⟨rfl, H⟩
      exact .inl ⟨true, rfl, r, rfl, H.out⟩
    by_cases h0 : y = 0
    · subst h0
      refine (lwhether_ok R false r w h).mono ?_
      rintro e w' ⟨rfl, H⟩
      exact .inl ⟨false, rfl, r, rfl, H.out⟩
    refine Calls.mono ?_ (fun e w' h => .inr h)
    have c1 : Hid (Calls Try.prog 66 #[.pointer (some ⟨R, 0, none⟩), .int .i64 1] w fun e w' => ∃ (b off c1 : Nat), e = .returned (.slice (some ⟨b, off, none⟩) 1 c1) ∧ w'.cell? ⟨b, off, none⟩ = some (.int .u8 y) ∧ Hid (w.grownBy w' (some R))) := by
      refine (ltake_ok R (y :: r) 1 w h (by simp)).mono ?_
      rintro e w' ⟨a1, c1, rfl, h1, h2, -, h4⟩
      simp only [List.take_succ_cons, List.take_zero] at h2
      obtain ⟨b, off, rfl, hc, -⟩ := h2.at (k := 0) (by simp)
      exact ⟨b, off, c1, rfl, by simpa using hc, h1⟩
    have g1 : (y != 1) = true := by simp [h1]
    have g0 : (y != 0) = true := by simp [h0]
    clear h h1 h0
    go_enter Try.func68, Try.ntmps68
    go_wp2_with (first
      | (go_at_call 66; (with_reducible refine c1.out.mono ?_); clear c1; rintro e w1 ⟨b, off, c1, rfl, hc, H1⟩))
    exact ⟨rfl, _, _, rfl, H1⟩

end Go.Proofs.Ytndnbkgejdindaa

/- The cells that a saved state's reader reads of whatever bytes, or it is torn. -/
namespace Go.Proofs.Ytndnbkgejdindaa
open Go.ChangeShapes Go.WideShapes Go.ChangeAt Go.RowKit

theorem flat_len {α : Type} (f : α → List Int) (hf : ∀ x, 1 ≤ (f x).length) (l : List α) : l.length ≤ (l.flatMap f).length := by
  induction l with
  | nil => simp
  | cons x l ih => rw [List.flatMap_cons, List.length_append, List.length_cons]; have := hf x; omega
theorem encC_pos (x : Cel) : 1 ≤ (encC x).length := by simp only [encC, List.length_append, List.length_cons]; omega
theorem encD_pos (x : Dn) : 1 ≤ (encD x).length := by simp only [encD, List.length_append, List.length_cons]; omega

set_option maxRecDepth 100000 in
set_option maxHeartbeats 4000000 in
theorem lcells_all (R : Nat) (xs : List Int) (w : World) (hR : R < w.heap.size) (h : LdS w R xs) :
    Calls Try.prog 49 #[.pointer (some ⟨R, 0, none⟩)] w fun e w' => (∃ (a : Option Addr) (n c : Nat), e = .returned (.slice a n c) ∧ n < 4294967296 ∧ Hid (∃ l r, n = l.length ∧ xs = le4 l.length ++ (l.flatMap encC ++ r) ∧ Rows kCel (fun b => w.heap.size ≤ b) w' w.heap.size 51 (.slice a n c) l ∧ LdS w' R r ∧ w.grownBy w' (some R))) ∨ Torn R w e w' := by
  generalize hpost : (fun (e : Ending) (w' : World) => (∃ (a : Option Addr) (n c : Nat), e = .returned (.slice a n c) ∧ n < 4294967296 ∧ Hid (∃ l r, n = l.length ∧ xs = le4 l.length ++ (l.flatMap encC ++ r) ∧ Rows kCel (fun b => w.heap.size ≤ b) w' w.heap.size 51 (.slice a n c) l ∧ LdS w' R r ∧ w.grownBy w' (some R))) ∨ Torn R w e w') = Q
  have HP : Hid (∀ a n c w', n < 4294967296 → (∃ l r, n = l.length ∧ xs = le4 l.length ++ (l.flatMap encC ++ r) ∧ Rows kCel (fun b => w.heap.size ≤ b) w' w.heap.size 51 (.slice a n c) l ∧ LdS w' R r ∧ w.grownBy w' (some R)) → Q (.returned (.slice a n c)) w') := fun a n c w' hn h => by rw [← hpost]; exact .inl ⟨a, n, c, rfl, hn, h⟩
  have HT : Hid (∀ t d w', w.grownBy w' (some R) → Q (.panicked [{ v := .iface t d, recovered := false }]) w') := fun t d w' h => by rw [← hpost]; exact .inr ⟨t, d, rfl, h⟩
  clear hpost
  have c1 := put_by (lnumber_all R xs w h)
  clear h
  go_enter Try.func49, Try.ntmps49
  go_wp2_with (fail)
  refine c1.out.mono ?_
  clear c1
  rintro e w1 (⟨n, rfl, hn, H0⟩ | ⟨t, d, rfl, H1⟩)
  case inr => exact ⟨rfl, HT.out _ _ _ H1.out⟩
  obtain ⟨xs0, hx0⟩ := H0.out
  have H1 := put_by hx0
  clear H0 hx0
  go_upto_region 3 with (fail)
  go_loopw [3, 7] (fun v i wr => ∃ (k : Nat) (a : Option Addr) (c : Nat), k ≤ n ∧ i = .int .i64 k ∧ v = .slice a k c ∧ Hid (∃ l r, l.length = k ∧ xs0 = l.flatMap encC ++ r ∧ Rows kCel (fun b => w.heap.size ≤ b) wr w.heap.size 51 (.slice a k c) l ∧ LdS wr R r ∧ w.grownBy wr (some R))) (fun _ i _ => n - (intOf i).toNat)
  case atStart => exact ⟨0, none, 0, Nat.zero_le _, rfl, rfl, [], xs0, rfl, rfl, Rows.nil _ _ _ _ _, H1.out.2.1, H1.out.2.2⟩
  case round =>
    obtain ⟨k, a, c, hk, rfl, rfl, HR⟩ := hrel
    rename World => wr
    obtain ⟨l, rest, hl⟩ := HR.out
    have HL := put_by hl
    clear HR hl
    have hkf : k ≤ 4294967295 := by omega
    by_cases hlt : k < n
    · have ik : (k : Int) < (n : Int) := by omega
      have I0 := put_by (LcI.start (K := kCel) (E := 51) HL.out.2.2.1 HL.out.2.2.2.1 HL.out.2.2.2.2 hR [.slice none 0 0, .slice none 0 0, .bool false, .int .i64 0] 51)
      go_upto_region 5 with (fail)
      generalize wr.heap.size = X at I0 ⊢
      generalize wr.alloc (.cells #[.slice none 0 0, .slice none 0 0, .bool false, .int .i64 0] _) = V0 at I0 ⊢
      have hT := ltext_all R rest _ I0.out.rd
      go_wp2_with (fail)
      refine hT.mono ?_
      clear hT
      rintro e w1 (⟨a1, n1, c1, rfl, H1⟩ | ⟨t, d, rfl, H⟩)
      case inr => exact ⟨rfl, HT.out _ _ _ (grown_trans I0.out.grown H.out)⟩
      obtain ⟨t1, r1, hx1⟩ := H1.out
      have G1 := put_by hx1
      clear hx1 H1
      have J1 := put_by (I0.out.call G1.out.2.2.2 G1.out.2.2.1)
      obtain ⟨x1, f1⟩ := J1.out.var 0 _ rfl
      go_upto_region 6 with (fail)
      have I1 := put_by (J1.out.store (k := 0) (.slice a1 n1 c1))
      have B1 : Hid (IsBody (w1.setCell ⟨X, 0, none⟩ (.slice a1 n1 c1)) (fun b => X < b) (.slice a1 n1 c1) t1) := body_store (G1.out.2.1.move (Kept.of_below (Below.refl _ _)) (fun b _ hb => by have h1 := I0.out.ord; have h2 : _ ≤ b := hb; show X < b; omega))
      have E1 : Hid (rest = txt4 t1 ++ r1) := G1.out.1
      clear x1 f1 J1 I0 G1
      generalize w1.setCell ⟨X, 0, none⟩ (.slice a1 n1 c1) = W1 at I1 B1 ⊢
      have hT := lwhether_all R r1 _ I1.out.rd
      go_wp2_with (fail)
      refine hT.mono ?_
      clear hT
      rintro e w2 (⟨g2, rfl, H2⟩ | ⟨t, d, rfl, H⟩)
      case inr => exact ⟨rfl, HT.out _ _ _ (grown_trans I1.out.grown H.out)⟩
      obtain ⟨r2, hx2⟩ := H2.out
      have G2 := put_by hx2
      clear hx2 H2
      have J2 := put_by (I1.out.call G2.out.2.2 G2.out.2.1)
      obtain ⟨x2, f2⟩ := J2.out.var 2 _ rfl
      go_upto_region 7 with (fail)
      have I2 := put_by (J2.out.store (k := 2) (.bool g2))
      have B2 : Hid (IsBody (w2.setCell ⟨X, 2, none⟩ (.bool g2)) (fun b => X < b) (.slice a1 n1 c1) t1) := body_store (body_call B1.out (by have h1 := I1.out.ord; omega) G2.out.2.2)
      have E2 : Hid (r1 = flagB g2 :: r2) := G2.out.1
      clear x2 f2 J2 I1 G2 B1
      generalize w2.setCell ⟨X, 2, none⟩ (.bool g2) = W2 at I2 B2 ⊢
      have hT := ltext_all R r2 _ I2.out.rd
      go_wp2_with (fail)
      refine hT.mono ?_
      clear hT
      rintro e w3 (⟨a3, n3, c3, rfl, H3⟩ | ⟨t, d, rfl, H⟩)
      case inr => exact ⟨rfl, HT.out _ _ _ (grown_trans I2.out.grown H.out)⟩
      obtain ⟨t3, r3, hx3⟩ := H3.out
      have G3 := put_by hx3
      clear hx3 H3
      have J3 := put_by (I2.out.call G3.out.2.2.2 G3.out.2.2.1)
      obtain ⟨x3, f3⟩ := J3.out.var 1 _ rfl
      go_upto_region 8 with (fail)
      have I3 := put_by (J3.out.store (k := 1) (.slice a3 n3 c3))
      have B3 : Hid (IsBody (w3.setCell ⟨X, 1, none⟩ (.slice a3 n3 c3)) (fun b => X < b) (.slice a1 n1 c1) t1 ∧ IsBody (w3.setCell ⟨X, 1, none⟩ (.slice a3 n3 c3)) (fun b => X < b) (.slice a3 n3 c3) t3) := ⟨body_store (body_call B2.out (by have h1 := I2.out.ord; omega) G3.out.2.2.2), body_store (G3.out.2.1.move (Kept.of_below (Below.refl _ _)) (fun b _ hb => by have h1 := I2.out.ord; have h2 : _ ≤ b := hb; show X < b; omega))⟩
      have E3 : Hid (r2 = txt4 t3 ++ r3) := G3.out.1
      clear x3 f3 J3 I2 G3 B2
      generalize w3.setCell ⟨X, 1, none⟩ (.slice a3 n3 c3) = W3 at I3 B3 ⊢
      have hT := lnumber_all R r3 _ I3.out.rd
      go_wp2_with (fail)
      refine hT.mono ?_
      clear hT
      rintro e w4 (⟨n4, rfl, hn4, H4⟩ | ⟨t, d, rfl, H⟩)
      case inr => exact ⟨rfl, HT.out _ _ _ (grown_trans I3.out.grown H.out)⟩
      obtain ⟨r4, hx4⟩ := H4.out
      have G4 := put_by hx4
      clear hx4 H4
      have J4 := put_by (I3.out.call G4.out.2.2 G4.out.2.1)
      obtain ⟨x4, f4⟩ := J4.out.var 3 _ rfl
      go_upto_region 9 with (fail)
      have I4 := put_by (J4.out.store (k := 3) (.int .i64 (n4 : Int)))
      have B4 : Hid (IsBody (w4.setCell ⟨X, 3, none⟩ (.int .i64 (n4 : Int))) (fun b => X < b) (.slice a1 n1 c1) t1 ∧ IsBody (w4.setCell ⟨X, 3, none⟩ (.int .i64 (n4 : Int))) (fun b => X < b) (.slice a3 n3 c3) t3) := ⟨body_store (body_call B3.out.1 (by have h1 := I3.out.ord; omega) G4.out.2.2), body_store (body_call B3.out.2 (by have h1 := I3.out.ord; omega) G4.out.2.2)⟩
      have E4 : Hid (r3 = le4 n4 ++ r4) := G4.out.1
      clear x4 f4 J4 I3 G4 B3
      generalize w4.setCell ⟨X, 3, none⟩ (.int .i64 (n4 : Int)) = W4 at I4 B4 ⊢
      obtain ⟨y0, -⟩ := I4.out.var 0 _ rfl
      obtain ⟨y1, -⟩ := I4.out.var 1 _ rfl
      obtain ⟨y2, -⟩ := I4.out.var 2 _ rfl
      obtain ⟨y3, -⟩ := I4.out.var 3 _ rfl
      have HREL : Hid (kCel.rel (fun b => (w.heap.size ≤ b ∧ b ≠ X) ∧ (Value.slice a k c).ownBlock ≠ some b) W4 (⟨t1, t3, g2, (n4 : Int)⟩ : Cel) [.slice a1 n1 c1, .slice a3 n3 c3, .bool g2, .int .i64 (n4 : Int)]) := by
        have h1 := I4.out.ord
        have ho : ∀ b, b < W4.heap.size → X < b → (w.heap.size ≤ b ∧ b ≠ X) ∧ (Value.slice a k c).ownBlock ≠ some b := fun b _ hb => ⟨⟨by omega, by omega⟩, fun e => by have h2 := I4.out.own b e; omega⟩
        exact ⟨_, _, rfl, B4.out.1.move (Kept.of_below (Below.refl _ _)) ho, B4.out.2.move (Kept.of_below (Below.refl _ _)) ho⟩
      have HLE : Hid (xs0 = (l ++ [(⟨t1, t3, g2, (n4 : Int)⟩ : Cel)]).flatMap encC ++ r4) := by
        show _ = _
        rw [HL.out.2.1, E1.out, E2.out, E3.out, E4.out]
        simp [encC, List.append_assoc]
      go_wp2_with (first
        | (at_builtin; refine wpList_append_oneB (K := kCel) (ok := fun b => w.heap.size ≤ b ∧ b ≠ X) eltC rfl (.tmp 21) (.tmp 23) rfl w.heap.size (.slice a k c) l rfl I4.out.rows (⟨t1, t3, g2, (n4 : Int)⟩ : Cel) [.slice a1 n1 c1, .slice a3 n3 c3, .bool g2, .int .i64 (n4 : Int)] _ _ rfl rfl HREL.out (fun b hb => ⟨Nat.le_trans I4.out.grown.size hb, by have h1 := I4.out.ord; omega⟩) (by rw [HL.out.1]; omega) (by decide) I4.out.grown.size ?_; intro v9 w9 r1 r2 r3; have HG9 : Hid (∀ b, b ≤ R → w9.heap[b]? = W4.heap[b]?) := (fun b hb => r2.block b (by have h1 := I4.out.ord; omega) (fun e => by have h1 := (rows_lt I4.out.rows b e.symm).1; omega)); have H9 : Hid (Rows kCel (fun b => w.heap.size ≤ b) w9 w.heap.size 51 v9 (l ++ [(⟨t1, t3, g2, (n4 : Int)⟩ : Cel)]) ∧ LdS w9 R r4 ∧ w.grownBy w9 (some R)) := ⟨r1.turned (fun b _ hb => hb.1), I4.out.rd.block HG9.out r2.size, ⟨r2.os.trans I4.out.grown.os, r2.tape.trans I4.out.grown.tape, r2.output.trans I4.out.grown.output, Nat.le_trans I4.out.grown.size r2.size, fun b hb hne => (r2.block b (Nat.lt_of_lt_of_le hb I4.out.grown.size) (fun e => by have h1 := (rows_lt I4.out.rows b e.symm).1; omega)).trans (I4.out.grown.block b hb hne)⟩⟩; obtain ⟨a9, c9, e9⟩ := rows_form H9.out.1; have hm9 : (l ++ [(⟨t1, t3, g2, (n4 : Int)⟩ : Cel)]).length = k + 1 := (by rw [List.length_append, HL.out.1]; rfl); rw [hm9] at e9; subst e9; clear r1 r2 r3))
      go_roundw
      case rel => exact ⟨k + 1, a9, c9, by omega, by go_num, rfl, l ++ [(⟨t1, t3, g2, (n4 : Int)⟩ : Cel)], r4, hm9, HLE.out, H9.out.1, H9.out.2.1, H9.out.2.2⟩
      case measure => simp [intOf]; omega
    · have hkn : k = n := by omega
      subst hkn
      have HE : Hid (Q (.returned (.slice a k c)) wr) := by
        have h := HL.out
        exact HP.out _ _ _ _ hn ⟨l, rest, h.1.symm, by rw [h.1, ← h.2.1]; exact H1.out.1, h.2.2.1, h.2.2.2.1, h.2.2.2.2⟩
      have ikk : ¬ (k : Int) < (k : Int) := by omega
      clear HP HL
      go_wp2
      exact HE.out

end Go.Proofs.Ytndnbkgejdindaa

/- The dones that a saved state's reader reads of whatever bytes, or it is torn. -/
namespace Go.Proofs.Ytndnbkgejdindaa
open Go.ChangeShapes Go.WideShapes Go.ChangeAt Go.RowKit

set_option maxRecDepth 100000 in
set_option maxHeartbeats 4000000 in
theorem ldones_all (R : Nat) (xs : List Int) (w : World) (hR : R < w.heap.size) (h : LdS w R xs) :
    Calls Try.prog 50 #[.pointer (some ⟨R, 0, none⟩)] w fun e w' => (∃ (a : Option Addr) (n c : Nat), e = .returned (.slice a n c) ∧ n < 4294967296 ∧ Hid (∃ l r, n = l.length ∧ xs = le4 l.length ++ (l.flatMap encD ++ r) ∧ Rows kDn (fun b => w.heap.size ≤ b) w' w.heap.size 53 (.slice a n c) l ∧ LdS w' R r ∧ w.grownBy w' (some R))) ∨ Torn R w e w' := by
  generalize hpost : (fun (e : Ending) (w' : World) => (∃ (a : Option Addr) (n c : Nat), e = .returned (.slice a n c) ∧ n < 4294967296 ∧ Hid (∃ l r, n = l.length ∧ xs = le4 l.length ++ (l.flatMap encD ++ r) ∧ Rows kDn (fun b => w.heap.size ≤ b) w' w.heap.size 53 (.slice a n c) l ∧ LdS w' R r ∧ w.grownBy w' (some R))) ∨ Torn R w e w') = Q
  have HP : Hid (∀ a n c w', n < 4294967296 → (∃ l r, n = l.length ∧ xs = le4 l.length ++ (l.flatMap encD ++ r) ∧ Rows kDn (fun b => w.heap.size ≤ b) w' w.heap.size 53 (.slice a n c) l ∧ LdS w' R r ∧ w.grownBy w' (some R)) → Q (.returned (.slice a n c)) w') := fun a n c w' hn h => by rw [← hpost]; exact .inl ⟨a, n, c, rfl, hn, h⟩
  have HT : Hid (∀ t d w', w.grownBy w' (some R) → Q (.panicked [{ v := .iface t d, recovered := false }]) w') := fun t d w' h => by rw [← hpost]; exact .inr ⟨t, d, rfl, h⟩
  clear hpost
  have c1 := put_by (lnumber_all R xs w h)
  clear h
  go_enter Try.func50, Try.ntmps50
  go_wp2_with (fail)
  refine c1.out.mono ?_
  clear c1
  rintro e w1 (⟨n, rfl, hn, H0⟩ | ⟨t, d, rfl, H1⟩)
  case inr => exact ⟨rfl, HT.out _ _ _ H1.out⟩
  obtain ⟨xs0, hx0⟩ := H0.out
  have H1 := put_by hx0
  clear H0 hx0
  go_upto_region 3 with (fail)
  go_loopw [3, 7] (fun v i wr => ∃ (k : Nat) (a : Option Addr) (c : Nat), k ≤ n ∧ i = .int .i64 k ∧ v = .slice a k c ∧ Hid (∃ l r, l.length = k ∧ xs0 = l.flatMap encD ++ r ∧ Rows kDn (fun b => w.heap.size ≤ b) wr w.heap.size 53 (.slice a k c) l ∧ LdS wr R r ∧ w.grownBy wr (some R))) (fun _ i _ => n - (intOf i).toNat)
  case atStart => exact ⟨0, none, 0, Nat.zero_le _, rfl, rfl, [], xs0, rfl, rfl, Rows.nil _ _ _ _ _, H1.out.2.1, H1.out.2.2⟩
  case round =>
    obtain ⟨k, a, c, hk, rfl, rfl, HR⟩ := hrel
    rename World => wr
    obtain ⟨l, rest, hl⟩ := HR.out
    have HL := put_by hl
    clear HR hl
    have hkf : k ≤ 4294967295 := by omega
    by_cases hlt : k < n
    · have ik : (k : Int) < (n : Int) := by omega
      have I0 := put_by (LcI.start (K := kDn) (E := 53) HL.out.2.2.1 HL.out.2.2.2.1 HL.out.2.2.2.2 hR [.int .i64 0, .int .i64 0, .int .i64 0, .bool false] 53)
      go_upto_region 5 with (fail)
      generalize wr.heap.size = X at I0 ⊢
      generalize wr.alloc (.cells #[.int .i64 0, .int .i64 0, .int .i64 0, .bool false] _) = V0 at I0 ⊢
      have hT := lnumber_all R rest _ I0.out.rd
      go_wp2_with (fail)
      refine hT.mono ?_
      clear hT
      rintro e w1 (⟨n1, rfl, hn1, H1⟩ | ⟨t, d, rfl, H⟩)
      case inr => exact ⟨rfl, HT.out _ _ _ (grown_trans I0.out.grown H.out)⟩
      obtain ⟨r1, hx1⟩ := H1.out
      have G1 := put_by hx1
      clear hx1 H1
      have J1 := put_by (I0.out.call G1.out.2.2 G1.out.2.1)
      obtain ⟨x1, f1⟩ := J1.out.var 0 _ rfl
      go_upto_region 6 with (fail)
      have I1 := put_by (J1.out.store (k := 0) (.int .i64 (n1 : Int)))
      have E1 : Hid (rest = le4 n1 ++ r1) := G1.out.1
      clear x1 f1 J1 I0 G1
      generalize w1.setCell ⟨X, 0, none⟩ (.int .i64 (n1 : Int)) = W1 at I1 ⊢
      have hT := lnumber_all R r1 _ I1.out.rd
      go_wp2_with (fail)
      refine hT.mono ?_
      clear hT
      rintro e w2 (⟨n2, rfl, hn2, H2⟩ | ⟨t, d, rfl, H⟩)
      case inr => exact ⟨rfl, HT.out _ _ _ (grown_trans I1.out.grown H.out)⟩
      obtain ⟨r2, hx2⟩ := H2.out
      have G2 := put_by hx2
      clear hx2 H2
      have J2 := put_by (I1.out.call G2.out.2.2 G2.out.2.1)
      obtain ⟨x2, f2⟩ := J2.out.var 1 _ rfl
      go_upto_region 7 with (fail)
      have I2 := put_by (J2.out.store (k := 1) (.int .i64 (n2 : Int)))
      have E2 : Hid (r1 = le4 n2 ++ r2) := G2.out.1
      clear x2 f2 J2 I1 G2
      generalize w2.setCell ⟨X, 1, none⟩ (.int .i64 (n2 : Int)) = W2 at I2 ⊢
      have hT := lnumber_all R r2 _ I2.out.rd
      go_wp2_with (fail)
      refine hT.mono ?_
      clear hT
      rintro e w3 (⟨n3, rfl, hn3, H3⟩ | ⟨t, d, rfl, H⟩)
      case inr => exact ⟨rfl, HT.out _ _ _ (grown_trans I2.out.grown H.out)⟩
      obtain ⟨r3, hx3⟩ := H3.out
      have G3 := put_by hx3
      clear hx3 H3
      have J3 := put_by (I2.out.call G3.out.2.2 G3.out.2.1)
      obtain ⟨x3, f3⟩ := J3.out.var 2 _ rfl
      go_upto_region 8 with (fail)
      have I3 := put_by (J3.out.store (k := 2) (.int .i64 (n3 : Int)))
      have E3 : Hid (r2 = le4 n3 ++ r3) := G3.out.1
      clear x3 f3 J3 I2 G3
      generalize w3.setCell ⟨X, 2, none⟩ (.int .i64 (n3 : Int)) = W3 at I3 ⊢
      have hT := lwhether_all R r3 _ I3.out.rd
      go_wp2_with (fail)
      refine hT.mono ?_
      clear hT
      rintro e w4 (⟨g4, rfl, H4⟩ | ⟨t, d, rfl, H⟩)
      case inr => exact ⟨rfl, HT.out _ _ _ (grown_trans I3.out.grown H.out)⟩
      obtain ⟨r4, hx4⟩ := H4.out
      have G4 := put_by hx4
      clear hx4 H4
      have J4 := put_by (I3.out.call G4.out.2.2 G4.out.2.1)
      obtain ⟨x4, f4⟩ := J4.out.var 3 _ rfl
      go_upto_region 9 with (fail)
      have I4 := put_by (J4.out.store (k := 3) (.bool g4))
      have E4 : Hid (r3 = flagB g4 :: r4) := G4.out.1
      clear x4 f4 J4 I3 G4
      generalize w4.setCell ⟨X, 3, none⟩ (.bool g4) = W4 at I4 ⊢
      obtain ⟨y0, -⟩ := I4.out.var 0 _ rfl
      obtain ⟨y1, -⟩ := I4.out.var 1 _ rfl
      obtain ⟨y2, -⟩ := I4.out.var 2 _ rfl
      obtain ⟨y3, -⟩ := I4.out.var 3 _ rfl
      have HREL : Hid (kDn.rel (fun b => (w.heap.size ≤ b ∧ b ≠ X) ∧ (Value.slice a k c).ownBlock ≠ some b) W4 (⟨(n1 : Int), (n2 : Int), (n3 : Int), g4⟩ : Dn) [.int .i64 (n1 : Int), .int .i64 (n2 : Int), .int .i64 (n3 : Int), .bool g4]) := rfl
      have HLE : Hid (xs0 = (l ++ [(⟨(n1 : Int), (n2 : Int), (n3 : Int), g4⟩ : Dn)]).flatMap encD ++ r4) := by
        show _ = _
        rw [HL.out.2.1, E1.out, E2.out, E3.out, E4.out]
        simp [encD, List.append_assoc]
      go_wp2_with (first
        | (at_builtin; refine wpList_append_oneB (K := kDn) (ok := fun b => w.heap.size ≤ b ∧ b ≠ X) eltD rfl (.tmp 21) (.tmp 23) rfl w.heap.size (.slice a k c) l rfl I4.out.rows (⟨(n1 : Int), (n2 : Int), (n3 : Int), g4⟩ : Dn) [.int .i64 (n1 : Int), .int .i64 (n2 : Int), .int .i64 (n3 : Int), .bool g4] _ _ rfl rfl HREL.out (fun b hb => ⟨Nat.le_trans I4.out.grown.size hb, by have h1 := I4.out.ord; omega⟩) (by rw [HL.out.1]; omega) (by decide) I4.out.grown.size ?_; intro v9 w9 r1 r2 r3; have HG9 : Hid (∀ b, b ≤ R → w9.heap[b]? = W4.heap[b]?) := (fun b hb => r2.block b (by have h1 := I4.out.ord; omega) (fun e => by have h1 := (rows_lt I4.out.rows b e.symm).1; omega)); have H9 : Hid (Rows kDn (fun b => w.heap.size ≤ b) w9 w.heap.size 53 v9 (l ++ [(⟨(n1 : Int), (n2 : Int), (n3 : Int), g4⟩ : Dn)]) ∧ LdS w9 R r4 ∧ w.grownBy w9 (some R)) := ⟨r1.turned (fun b _ hb => hb.1), I4.out.rd.block HG9.out r2.size, ⟨r2.os.trans I4.out.grown.os, r2.tape.trans I4.out.grown.tape, r2.output.trans I4.out.grown.output, Nat.le_trans I4.out.grown.size r2.size, fun b hb hne => (r2.block b (Nat.lt_of_lt_of_le hb I4.out.grown.size) (fun e => by have h1 := (rows_lt I4.out.rows b e.symm).1; omega)).trans (I4.out.grown.block b hb hne)⟩⟩; obtain ⟨a9, c9, e9⟩ := rows_form H9.out.1; have hm9 : (l ++ [(⟨(n1 : Int), (n2 : Int), (n3 : Int), g4⟩ : Dn)]).length = k + 1 := (by rw [List.length_append, HL.out.1]; rfl); rw [hm9] at e9; subst e9; clear r1 r2 r3))
      go_roundw
      case rel => exact ⟨k + 1, a9, c9, by omega, by go_num, rfl, l ++ [(⟨(n1 : Int), (n2 : Int), (n3 : Int), g4⟩ : Dn)], r4, hm9, HLE.out, H9.out.1, H9.out.2.1, H9.out.2.2⟩
      case measure => simp [intOf]; omega
    · have hkn : k = n := by omega
      subst hkn
      have HE : Hid (Q (.returned (.slice a k c)) wr) := by
        have h := HL.out
        exact HP.out _ _ _ _ hn ⟨l, rest, h.1.symm, by rw [h.1, ← h.2.1]; exact H1.out.1, h.2.2.1, h.2.2.2.1, h.2.2.2.2⟩
      have ikk : ¬ (k : Int) < (k : Int) := by omega
      clear HP HL
      go_wp2
      exact HE.out

end Go.Proofs.Ytndnbkgejdindaa

/- The closure that recovers. -/
namespace Go.Proofs.Ytndnbkgejdindaa
open Go.ChangeShapes Go.WideShapes Go.ChangeAt Go.RowKit

set_option maxHeartbeats 1000000 in
theorem lcatch_torn (H B : Nat) (t : TypeId) (d v0 v1 v2 b0 : Value) (w : World) (hs : Cls w H [v0, v1, v2]) (hb : Cls w B [b0]) (hne : H ≠ B) :
    CallsD Try.prog 47 #[.pointer (some ⟨H, 0, none⟩), .pointer (some ⟨B, 0, none⟩)] (.panicking [{ v := .iface t d, recovered := false }]) w fun e u' w' => e = .returned (.tuple #[]) ∧ u' = .panicking [{ v := .iface t d, recovered := true }] ∧ Cls w' H [.int .i64 0, .slice none 0 0, .slice none 0 0] ∧ Cls w' B [.bool false] ∧ w' = (((w.setCell ⟨H, 0, none⟩ (.int .i64 0)).setCell ⟨H, 1, none⟩ (.slice none 0 0)).setCell ⟨H, 2, none⟩ (.slice none 0 0)).setCell ⟨B, 0, none⟩ (.bool false) := by
  obtain ⟨k0, f0⟩ := hs 0 _ rfl
  obtain ⟨k1, f1⟩ := hs 1 _ rfl
  obtain ⟨k2, f2⟩ := hs 2 _ rfl
  obtain ⟨k3, f3⟩ := hb 0 _ rfl
  have e1 := ((((hs.set (k := 0) (.int .i64 0)).set (k := 1) (.slice none 0 0)).set (k := 2) (.slice none 0 0)).grown (R := B) (grown_set (j := 0) (.bool false)) hne)
  have e2 := (((hb.grown (R := H) (grown_set (w := w) (j := 0) (.int .i64 0)) (Ne.symm hne)).grown (R := H) (grown_set (j := 1) (.slice none 0 0)) (Ne.symm hne)).grown (R := H) (grown_set (j := 2) (.slice none 0 0)) (Ne.symm hne)).set (k := 0) (.bool false)
  have HE := put_by (And.intro e1 e2)
  clear e1 e2 hs hb
  refine callsD_of_wpS Try.func47 rfl fun c₀ cs hu => ?_
  apply wpS_seq
  apply wpS_region
  simp [wpOpsS, go_sem, recoverD, hu, Try.ntmps47, Exit.thenS]
  refine wpS_cond (t := true) (by simp [Act.eval, Array.replicate]) ?_
  simp only [if_true]
  apply wpS_region
  simp [wpOpsS, go_sem, k0, k1, k2, k3, f0, f1, f2, f3, bodyPostS, results, Try.results47]
  exact HE.out

/-- behind a reading that is torn -/
theorem LsI.gone {w W W' : World} {H B R : Nat} {xs : List Int} {vs : List Value} (h : LsI w H B R xs vs W) (hg : W.grownBy W' (some R)) : Cls W' H vs ∧ Cls W' B [.bool false] ∧ Below w.heap.size w W' ∧ H ≠ B ∧ w.heap.size ≤ H ∧ w.heap.size ≤ B := by
  obtain ⟨e1, e2, e3⟩ := h.ord
  exact ⟨h.st.grown hg (by omega), h.okc.grown hg (by omega), ⟨hg.os.trans h.below.os, hg.tape.trans h.below.tape, hg.output.trans h.below.output, Nat.le_trans h.below.size hg.size, fun b hb => (hg.block b (by have := h.size; omega) (fun e => by have := Option.some.inj e; omega)).trans (h.below.block b hb)⟩, by omega, by omega, by omega⟩

end Go.Proofs.Ytndnbkgejdindaa

/- readState at whatever bytes. -/
namespace Go.Proofs.Ytndnbkgejdindaa
open Go.ChangeShapes Go.WideShapes Go.ChangeAt Go.RowKit

set_option maxRecDepth 100000 in
set_option maxHeartbeats 4000000 in
theorem readState_all (xs : List Int) (a : Option Addr) (m cap : Nat) (w : World) (hm : m = xs.length) (ho : Octs w a cap xs) (hpl : Ples a cap) (hlt : ∀ ad, a = some ad → ad.block < w.heap.size) :
    Calls Try.prog 23 #[.slice a m cap] w fun e w' => ∃ (p : Nat) (ca : Option Addr) (n1 cc : Nat) (da : Option Addr) (n2 dc : Nat) (g : Bool), e = .returned (.tuple #[.agg #[.int .i64 (p : Int), .slice ca n1 cc, .slice da n2 dc], .bool g]) ∧ Hid (Below w.heap.size w w' ∧ (g = true → ∃ cs ds, (cs.length < 4294967296 ∧ ds.length < 4294967296) ∧ xs = encS ⟨(p : Int), cs, ds⟩ ∧ n1 = cs.length ∧ n2 = ds.length ∧ StIs (fun b => w.heap.size ≤ b) w' cs ds ca cc da dc)) := by
  generalize hpost : (fun (e : Ending) (w' : World) => ∃ (p : Nat) (ca : Option Addr) (n1 cc : Nat) (da : Option Addr) (n2 dc : Nat) (g : Bool), e = .returned (.tuple #[.agg #[.int .i64 (p : Int), .slice ca n1 cc, .slice da n2 dc], .bool g]) ∧ Hid (Below w.heap.size w w' ∧ (g = true → ∃ cs ds, (cs.length < 4294967296 ∧ ds.length < 4294967296) ∧ xs = encS ⟨(p : Int), cs, ds⟩ ∧ n1 = cs.length ∧ n2 = ds.length ∧ StIs (fun b => w.heap.size ≤ b) w' cs ds ca cc da dc))) = Q
  have HP : Hid (∀ (p : Nat) ca n1 cc da n2 dc (g : Bool) w', (Below w.heap.size w w' ∧ (g = true → ∃ cs ds, (cs.length < 4294967296 ∧ ds.length < 4294967296) ∧ xs = encS ⟨(p : Int), cs, ds⟩ ∧ n1 = cs.length ∧ n2 = ds.length ∧ StIs (fun b => w.heap.size ≤ b) w' cs ds ca cc da dc)) → Q (.returned (.tuple #[.agg #[.int .i64 (p : Int), .slice ca n1 cc, .slice da n2 dc], .bool g])) w') := fun p ca n1 cc da n2 dc g w' h => by rw [← hpost]; exact ⟨p, ca, n1, cc, da, n2, dc, g, rfl, h⟩
  clear hpost
  have hmf : ∀ (fn : Fn) (first cap : Array Value) (w : World), (Instr.makeFunc fn first cap).run Try.prog w = .ok (.func fn first cap) w := fun _ _ _ _ => rfl
  have I0 : Hid (∀ t1 t2 t3, LsI w w.heap.size (w.heap.size + 1) (w.heap.size + 1 + 1) xs [.int .i64 0, .slice none 0 0, .slice none 0 0] (((w.alloc (.cells #[.int .i64 0, .slice none 0 0, .slice none 0 0] t1)).alloc (.cells #[.bool false] t2)).alloc (.cells #[.slice a m cap] t3))) := fun t1 t2 t3 => LsI.start w a m cap _ hm ho hpl hlt t1 t2 t3
  clear hm ho hpl hlt
  go_enter_defers Try.func23, Try.ntmps23
  go_upto_region 3 with (fail)
  generalize hW : (((w.alloc (.cells #[.int .i64 0, .slice none 0 0, .slice none 0 0] _)).alloc (.cells #[.bool false] _)).alloc (.cells #[.slice a m cap] _)) = W0
  have I1 := put_by (I0.out 25 4 88)
  rw [hW] at I1
  clear hW I0
  generalize w.heap.size + 1 + 1 = R at I1 ⊢
  generalize w.heap.size + 1 = B at I1 ⊢
  generalize w.heap.size = H at I1 ⊢
  have hT := lnumber_all R xs _ I1.out.rd
  go_wp2_with (fail)
  refine hT.mono ?_
  clear hT
  rintro e w1 (⟨p, rfl, hp, G1⟩ | ⟨t, d, rfl, H1⟩)
  case inr =>
    have G := put_by (I1.out.gone H1.out)
    refine leaves_cons (f := 47) (args := #[.pointer (some ⟨H, 0, none⟩), .pointer (some ⟨B, 0, none⟩)]) (by simp) (by simp [go_sem]) ?_
    refine (lcatch_torn H B _ _ (.int .i64 0) (.slice none 0 0) (.slice none 0 0) (.bool false) _ G.out.1 G.out.2.1 G.out.2.2.2.1).mono ?_
    rintro e u' w'' ⟨rfl, rfl, k1, k2, hw⟩
    obtain ⟨y0, -⟩ := k1 0 _ rfl
    obtain ⟨y1, -⟩ := k1 1 _ rfl
    obtain ⟨y2, -⟩ := k1 2 _ rfl
    obtain ⟨y3, -⟩ := k2 0 _ rfl
    have hB : Hid (Below w.heap.size w w'') := by
      rw [hw]
      exact (((G.out.2.2.1.setCell G.out.2.2.2.2.1 _).setCell G.out.2.2.2.2.1 _).setCell G.out.2.2.2.2.1 _).setCell G.out.2.2.2.2.2 _
    clear hw
    simp [Leaves, settle, results, Try.results23, go_sem, y0, y1, y2, y3]
    exact HP.out 0 _ _ _ _ _ _ false _ ⟨hB.out, fun h => by cases h⟩
  obtain ⟨xs1, hx1⟩ := G1.out
  have E1 := put_by hx1
  clear G1 hx1
  have J1 := put_by (I1.out.call E1.out.2.1 E1.out.2.2)
  obtain ⟨x1, f1⟩ := J1.out.st 0 _ rfl
  go_upto_region 4 with (fail)
  have I2 := put_by (J1.out.store (k := 0) (.int .i64 (p : Int)) (by decide) (by intro z e; cases e))
  clear x1 f1 J1 I1
  generalize w1.setCell ⟨H, 0, none⟩ (.int .i64 (p : Int)) = W1 at I2 ⊢
  have hT := lcells_all R xs1 W1 I2.out.size I2.out.rd
  clear hp
  have EX1 : Hid (xs = le4 p ++ xs1) := E1.out.1
  clear E1
  go_wp2_with (fail)
  refine hT.mono ?_
  clear hT
  rintro e w2 (⟨ca, n1, cc, rfl, hb1, G2⟩ | ⟨t, d, rfl, H1⟩)
  case inr =>
    have G := put_by (I2.out.gone H1.out)
    refine leaves_cons (f := 47) (args := #[.pointer (some ⟨H, 0, none⟩), .pointer (some ⟨B, 0, none⟩)]) (by simp) (by simp [go_sem]) ?_
    refine (lcatch_torn H B _ _ (.int .i64 (p : Int)) (.slice none 0 0) (.slice none 0 0) (.bool false) _ G.out.1 G.out.2.1 G.out.2.2.2.1).mono ?_
    rintro e u' w'' ⟨rfl, rfl, k1, k2, hw⟩
    obtain ⟨y0, -⟩ := k1 0 _ rfl
    obtain ⟨y1, -⟩ := k1 1 _ rfl
    obtain ⟨y2, -⟩ := k1 2 _ rfl
    obtain ⟨y3, -⟩ := k2 0 _ rfl
    have hB : Hid (Below w.heap.size w w'') := by
      rw [hw]
      exact (((G.out.2.2.1.setCell G.out.2.2.2.2.1 _).setCell G.out.2.2.2.2.1 _).setCell G.out.2.2.2.2.1 _).setCell G.out.2.2.2.2.2 _
    clear hw
    simp [Leaves, settle, results, Try.results23, go_sem, y0, y1, y2, y3]
    exact HP.out 0 _ _ _ _ _ _ false _ ⟨hB.out, fun h => by cases h⟩
  obtain ⟨cs, xs2, hx2⟩ := G2.out
  have H2 := put_by hx2
  clear G2 hx2
  have J2 := put_by (I2.out.call H2.out.2.2.2.1 H2.out.2.2.2.2)
  obtain ⟨x1, f1⟩ := J2.out.st 1 _ rfl
  go_upto_region 5 with (fail)
  have I3 := put_by (J2.out.store (k := 1) (.slice ca n1 cc) (by decide) (by intro z e; cases e))
  have C3 : Hid (Lies kCel (fun b => R < b) (w2.setCell ⟨H, 1, none⟩ (.slice ca n1 cc)) ca cc cs ∧ n1 = cs.length) := by
    obtain ⟨e1, e2, e3⟩ := I2.out.ord
    have hs := I2.out.size
    obtain ⟨hn, hl, -, -⟩ := rows_lies H2.out.2.2.1 (fun b hb => hb)
    exact ⟨(hl.move (ok' := fun b => R < b) (Kept.of_below (Below.refl _ _)) (fun b _ hb => by have h2 : W1.heap.size ≤ b := hb; show R < b; omega)).move (Kept.of_grown (grown_set _) (fun b hb e => by have h1 := Option.some.inj e; have h2 : R < b := hb; omega)) (fun _ _ h => h), hn⟩
  have EX2 : Hid (xs1 = le4 cs.length ++ (cs.flatMap encC ++ xs2)) := H2.out.2.1
  clear x1 f1 J2 I2 H2
  generalize w2.setCell ⟨H, 1, none⟩ (.slice ca n1 cc) = W2 at I3 C3 ⊢
  have hT := ldones_all R xs2 W2 I3.out.size I3.out.rd
  go_wp2_with (fail)
  refine hT.mono ?_
  clear hT
  rintro e w3 (⟨da, n2, dc, rfl, hb2, G3⟩ | ⟨t, d, rfl, H1⟩)
  case inr =>
    have G := put_by (I3.out.gone H1.out)
    refine leaves_cons (f := 47) (args := #[.pointer (some ⟨H, 0, none⟩), .pointer (some ⟨B, 0, none⟩)]) (by simp) (by simp [go_sem]) ?_
    refine (lcatch_torn H B _ _ (.int .i64 (p : Int)) (.slice ca n1 cc) (.slice none 0 0) (.bool false) _ G.out.1 G.out.2.1 G.out.2.2.2.1).mono ?_
    rintro e u' w'' ⟨rfl, rfl, k1, k2, hw⟩
    obtain ⟨y0, -⟩ := k1 0 _ rfl
    obtain ⟨y1, -⟩ := k1 1 _ rfl
    obtain ⟨y2, -⟩ := k1 2 _ rfl
    obtain ⟨y3, -⟩ := k2 0 _ rfl
    have hB : Hid (Below w.heap.size w w'') := by
      rw [hw]
      exact (((G.out.2.2.1.setCell G.out.2.2.2.2.1 _).setCell G.out.2.2.2.2.1 _).setCell G.out.2.2.2.2.1 _).setCell G.out.2.2.2.2.2 _
    clear hw
    simp [Leaves, settle, results, Try.results23, go_sem, y0, y1, y2, y3]
    exact HP.out 0 _ _ _ _ _ _ false _ ⟨hB.out, fun h => by cases h⟩
  obtain ⟨ds, xs3, hx3⟩ := G3.out
  have H3 := put_by hx3
  clear G3 hx3
  have J3 := put_by (I3.out.call H3.out.2.2.2.1 H3.out.2.2.2.2)
  obtain ⟨x1, f1⟩ := J3.out.st 2 _ rfl
  go_upto_region 6 with (fail)
  have I4 := put_by (J3.out.store (k := 2) (.slice da n2 dc) (by decide) (by intro z e; cases e))
  have C4 : Hid ((Lies kCel (fun b => R < b) (w3.setCell ⟨H, 2, none⟩ (.slice da n2 dc)) ca cc cs ∧ n1 = cs.length) ∧ Lies kDn (fun b => R < b) (w3.setCell ⟨H, 2, none⟩ (.slice da n2 dc)) da dc ds ∧ n2 = ds.length) := by
    obtain ⟨e1, e2, e3⟩ := I3.out.ord
    have hs := I3.out.size
    obtain ⟨hn, hl, -, -⟩ := rows_lies H3.out.2.2.1 (fun b hb => hb)
    have hk : Kept (fun b => R < b) w3 (w3.setCell ⟨H, 2, none⟩ (.slice da n2 dc)) := Kept.of_grown (grown_set _) (fun b hb e => by have h1 := Option.some.inj e; have h2 : R < b := hb; omega)
    exact ⟨⟨(C3.out.1.move (Kept.of_grown H3.out.2.2.2.2 (fun b hb e => by have h1 := Option.some.inj e; have h2 : R < b := hb; omega)) (fun _ _ h => h)).move hk (fun _ _ h => h), C3.out.2⟩, (hl.move (ok' := fun b => R < b) (Kept.of_below (Below.refl _ _)) (fun b _ hb => by have h2 : W2.heap.size ≤ b := hb; show R < b; omega)).move hk (fun _ _ h => h), hn⟩
  have EX3 : Hid (xs2 = le4 ds.length ++ (ds.flatMap encD ++ xs3)) := H3.out.2.1
  have H6 : Hid (cs.length < 4294967296 ∧ ds.length < 4294967296) := by
    have h1 := C4.out.1.2
    have h2 := C4.out.2.2
    constructor <;> omega
  clear hb1 hb2
  clear x1 f1 J3 I3 H3 C3
  generalize w3.setCell ⟨H, 2, none⟩ (.slice da n2 dc) = W3 at I4 C4 ⊢
  obtain ⟨ra, rm, rc, hL⟩ := I4.out.rd
  have HRM : Hid (rm = xs3.length) := hL.len
  have hS : (fun V : World => Cls V H [.int .i64 (p : Int), .slice ca n1 cc, .slice da n2 dc] ∧ Cls V B [.bool false] ∧ V.cell? ⟨R, 0, none⟩ = some (.slice ra rm rc)) W3.drew := ⟨fun j u e => I4.out.st j u e, fun j u e => I4.out.okc j u e, (hL.one 0 _ rfl).1⟩
  clear hL
  refine noPan ?_
  refine region_plain (fun V => Cls V H [.int .i64 (p : Int), .slice ca n1 cc, .slice da n2 dc] ∧ Cls V B [.bool false] ∧ V.cell? ⟨R, 0, none⟩ = some (.slice ra rm rc)) 8 (by kernel_rfl) ?_
  change wpAnyU _ _ _ _ _ 9 #[false, false, false, false, false, false, false, false, false] _ W3.drew
  refine V_takeS [8] 18 (k := 0) (v := .agg #[.int .i64 (p : Int), .slice ca n1 cc, .slice da n2 dc]) rfl rfl (by kernel_rfl) (by kernel_rfl) (by kernel_rfl) (by kernel_rfl) (by kernel_rfl) (by kernel_rfl) (fun c _ _ h => absurd rfl (h.1 c)) (Or.inl ⟨by rfl, fun V hV => ?_⟩) hS ?_
  · obtain ⟨z0, z1, z2⟩ := hV
    obtain ⟨y0, -⟩ := z0 0 _ rfl
    obtain ⟨y1, -⟩ := z0 1 _ rfl
    obtain ⟨y2, -⟩ := z0 2 _ rfl
    clear z0 z1
    go_simp
  try simp only [Act.put, List.setIfInBounds_toArray, List.set_cons_zero, List.set_cons_succ]
  refine V_takeS [8] 19 (k := 1) (v := .pointer (some ⟨R, 0, none⟩)) rfl rfl (by kernel_rfl) (by kernel_rfl) (by kernel_rfl) (by kernel_rfl) (by kernel_rfl) (by kernel_rfl) (fun c _ _ h => absurd rfl (h.1 c)) (Or.inl ⟨by rfl, fun V hV => ?_⟩) hS ?_
  · obtain ⟨z0, z1, z2⟩ := hV
    obtain ⟨y0, -⟩ := z0 0 _ rfl
    obtain ⟨y1, -⟩ := z0 1 _ rfl
    obtain ⟨y2, -⟩ := z0 2 _ rfl
    clear z0 z1
    go_simp
  try simp only [Act.put, List.setIfInBounds_toArray, List.set_cons_zero, List.set_cons_succ]
  refine V_takeS [8] 20 (k := 2) (v := .pointer (some ⟨R, 0, none⟩)) rfl rfl (by kernel_rfl) (by kernel_rfl) (by kernel_rfl) (by kernel_rfl) (by kernel_rfl) (by kernel_rfl) (fun c _ _ h => absurd rfl (h.1 c)) (Or.inl ⟨by rfl, fun V hV => ?_⟩) hS ?_
  · obtain ⟨z0, z1, z2⟩ := hV
    obtain ⟨y0, -⟩ := z0 0 _ rfl
    obtain ⟨y1, -⟩ := z0 1 _ rfl
    obtain ⟨y2, -⟩ := z0 2 _ rfl
    clear z0 z1
    go_simp
  try simp only [Act.put, List.setIfInBounds_toArray, List.set_cons_zero, List.set_cons_succ]
  refine V_takeS [8] 21 (k := 3) (v := .pointer (some ⟨R, 0, none⟩)) rfl rfl (by kernel_rfl) (by kernel_rfl) (by kernel_rfl) (by kernel_rfl) (by kernel_rfl) (by kernel_rfl) (fun c _ _ h => absurd rfl (h.1 c)) (Or.inl ⟨by rfl, fun V hV => ?_⟩) hS ?_
  · obtain ⟨z0, z1, z2⟩ := hV
    obtain ⟨y0, -⟩ := z0 0 _ rfl
    obtain ⟨y1, -⟩ := z0 1 _ rfl
    obtain ⟨y2, -⟩ := z0 2 _ rfl
    clear z0 z1
    go_simp
  try simp only [Act.put, List.setIfInBounds_toArray, List.set_cons_zero, List.set_cons_succ]
  refine V_takeS [8] 22 (k := 4) (v := .slice ra rm rc) rfl rfl (by kernel_rfl) (by kernel_rfl) (by kernel_rfl) (by kernel_rfl) (by kernel_rfl) (by kernel_rfl) (fun c _ _ h => absurd rfl (h.1 c)) (Or.inl ⟨by rfl, fun V hV => ?_⟩) hS ?_
  · obtain ⟨z0, z1, z2⟩ := hV
    obtain ⟨y0, -⟩ := z0 0 _ rfl
    obtain ⟨y1, -⟩ := z0 1 _ rfl
    obtain ⟨y2, -⟩ := z0 2 _ rfl
    clear z0 z1
    go_simp
  try simp only [Act.put, List.setIfInBounds_toArray, List.set_cons_zero, List.set_cons_succ]
  refine V_takeS [8] 23 (k := 5) (v := .int .i64 (rm : Int)) rfl rfl (by kernel_rfl) (by kernel_rfl) (by kernel_rfl) (by kernel_rfl) (by kernel_rfl) (by kernel_rfl) (fun c _ _ h => absurd rfl (h.1 c)) (Or.inl ⟨by rfl, fun V hV => ?_⟩) hS ?_
  · obtain ⟨z0, z1, z2⟩ := hV
    obtain ⟨y0, -⟩ := z0 0 _ rfl
    obtain ⟨y1, -⟩ := z0 1 _ rfl
    obtain ⟨y2, -⟩ := z0 2 _ rfl
    clear z0 z1
    go_simp
  try simp only [Act.put, List.setIfInBounds_toArray, List.set_cons_zero, List.set_cons_succ]
  refine V_takeS [8] 24 (k := 6) (v := .bool ((rm : Int) == 0)) rfl rfl (by kernel_rfl) (by kernel_rfl) (by kernel_rfl) (by kernel_rfl) (by kernel_rfl) (by kernel_rfl) (fun c _ _ h => absurd rfl (h.1 c)) (Or.inl ⟨by rfl, fun V hV => ?_⟩) hS ?_
  · obtain ⟨z0, z1, z2⟩ := hV
    obtain ⟨y0, -⟩ := z0 0 _ rfl
    obtain ⟨y1, -⟩ := z0 1 _ rfl
    obtain ⟨y2, -⟩ := z0 2 _ rfl
    clear z0 z1
    go_simp
  try simp only [Act.put, List.setIfInBounds_toArray, List.set_cons_zero, List.set_cons_succ]
  obtain ⟨y0, f0⟩ := I4.out.st 0 _ rfl
  obtain ⟨y1, f1⟩ := I4.out.st 1 _ rfl
  obtain ⟨y2, f2⟩ := I4.out.st 2 _ rfl
  refine U_one (i := 7) (listed' := #[true, true, true, true, true, true, true, true, false]) (by kernel_rfl) rfl (by kernel_rfl) rfl (fun K hK => ?_)
  go_simp
  have I7 := put_by (((I4.out.store (k := 0) (.int .i64 (p : Int)) (by decide) (by intro z e; cases e)).store (k := 1) (.slice ca n1 cc) (by decide) (by intro z e; cases e)).store (k := 2) (.slice da n2 dc) (by decide) (by intro z e; cases e))
  have hR7 : (((W3.setCell ⟨H, 0, none⟩ (.int .i64 (p : Int))).setCell ⟨H, 1, none⟩ (.slice ca n1 cc)).setCell ⟨H, 2, none⟩ (.slice da n2 dc)).cell? ⟨R, 0, none⟩ = some (.slice ra rm rc) := by
    obtain ⟨e1, e2, e3⟩ := I4.out.ord
    have h0 : W3.cell? ⟨R, 0, none⟩ = some (.slice ra rm rc) := hS.2.2
    rw [World.cell?_setCell_other _ _ _ _ (by intro q; cases q <;> omega), World.cell?_setCell_other _ _ _ _ (by intro q; cases q <;> omega), World.cell?_setCell_other _ _ _ _ (by intro q; cases q <;> omega)]
    exact h0
  have C7 : Hid ((Lies kCel (fun b => R < b) (((W3.setCell ⟨H, 0, none⟩ (.int .i64 (p : Int))).setCell ⟨H, 1, none⟩ (.slice ca n1 cc)).setCell ⟨H, 2, none⟩ (.slice da n2 dc)) ca cc cs ∧ n1 = cs.length) ∧ Lies kDn (fun b => R < b) (((W3.setCell ⟨H, 0, none⟩ (.int .i64 (p : Int))).setCell ⟨H, 1, none⟩ (.slice ca n1 cc)).setCell ⟨H, 2, none⟩ (.slice da n2 dc)) da dc ds ∧ n2 = ds.length) := by
    obtain ⟨e1, e2, e3⟩ := I4.out.ord
    have hb : ∀ b, R < b → some H ≠ some b := fun b hb e => by have h1 := Option.some.inj e; omega
    have hk : Kept (fun b => R < b) W3 (((W3.setCell ⟨H, 0, none⟩ (.int .i64 (p : Int))).setCell ⟨H, 1, none⟩ (.slice ca n1 cc)).setCell ⟨H, 2, none⟩ (.slice da n2 dc)) := ((Kept.of_grown (grown_set _) hb).trans (Kept.of_grown (grown_set _) hb)).trans (Kept.of_grown (grown_set _) hb)
    exact ⟨⟨C4.out.1.1.move hk (fun _ _ h => h), C4.out.1.2⟩, C4.out.2.1.move hk (fun _ _ h => h), C4.out.2.2⟩
  refine hK _ _ (fun _ => ⟨fun j u e => I7.out.st j u e, fun j u e => I7.out.okc j u e, hR7⟩) ?_
  clear hK K y0 f0 y1 f1 y2 f2 hR7 hS
  generalize ((W3.setCell ⟨H, 0, none⟩ (.int .i64 (p : Int))).setCell ⟨H, 1, none⟩ (.slice ca n1 cc)).setCell ⟨H, 2, none⟩ (.slice da n2 dc) = X7 at I7 C7 ⊢
  obtain ⟨g0, g1⟩ := I7.out.okc 0 _ rfl
  refine U_one (i := 8) (listed' := #[true, true, true, true, true, true, true, true, true]) (by kernel_rfl) rfl (by kernel_rfl) rfl (fun K hK => ?_)
  go_simp
  refine hK _ _ (fun hh => by cases (show true = false from hh)) ?_
  clear hK K
  refine U_done (by kernel_rfl) ⟨(fun c e => by cases e), ?_⟩ _
  have I8 : Hid (Cls (X7.setCell ⟨B, 0, none⟩ (.bool ((rm : Int) == 0))) H [.int .i64 (p : Int), .slice ca n1 cc, .slice da n2 dc] ∧ Cls (X7.setCell ⟨B, 0, none⟩ (.bool ((rm : Int) == 0))) B [.bool ((rm : Int) == 0)]) := by
    obtain ⟨e1, e2, e3⟩ := I7.out.ord
    exact ⟨I7.out.st.grown (grown_set _) (by omega), I7.out.okc.set (k := 0) _⟩
  have C8 : Hid (n1 = cs.length ∧ n2 = ds.length ∧ StIs (fun b => w.heap.size ≤ b) (X7.setCell ⟨B, 0, none⟩ (.bool ((rm : Int) == 0))).drew cs ds ca cc da dc ∧ Below w.heap.size w (X7.setCell ⟨B, 0, none⟩ (.bool ((rm : Int) == 0))).drew) := by
    obtain ⟨e1, e2, e3⟩ := I7.out.ord
    have hk : Kept (fun b => R < b) X7 (X7.setCell ⟨B, 0, none⟩ (.bool ((rm : Int) == 0))).drew := Kept.of_grown (w' := X7.setCell ⟨B, 0, none⟩ (.bool ((rm : Int) == 0))) (grown_set _) (fun b hb e => by have h1 := Option.some.inj e; have h2 : R < b := hb; omega)
    refine ⟨C7.out.1.2, C7.out.2.2, ⟨C7.out.1.1.move hk (fun b _ hb => by have h2 : R < b := hb; show w.heap.size ≤ b; omega), C7.out.2.1.move hk (fun b _ hb => by have h2 : R < b := hb; show w.heap.size ≤ b; omega), ?_⟩, (I7.out.below.setCell (by show w.heap.size ≤ B; omega) (.bool ((rm : Int) == 0))).drew⟩
    have h1 := H6.out.1
    have h2 := H6.out.2
    constructor <;> omega
  clear g0 g1 I7 C7 I4 C4
  generalize X7.setCell ⟨B, 0, none⟩ (.bool ((rm : Int) == 0)) = X8 at I8 C8 ⊢
  obtain ⟨y0, -⟩ := I8.out.1 0 _ rfl
  obtain ⟨y1, -⟩ := I8.out.1 1 _ rfl
  obtain ⟨y2, -⟩ := I8.out.1 2 _ rfl
  obtain ⟨y3, -⟩ := I8.out.2 0 _ rfl
  go_wp2
  refine leaves_cons (f := 47) (args := #[.pointer (some ⟨H, 0, none⟩), .pointer (some ⟨B, 0, none⟩)]) (by simp) (by simp [go_sem]) ?_
  refine (lcatch_any ⟨H, 0, none⟩ ⟨B, 0, none⟩ _).mono ?_
  rintro e u' w'' ⟨rfl, rfl, rfl⟩
  simp [Leaves, settle, results, Try.results23, go_sem, y0, y1, y2, y3]
  refine HP.out p _ _ _ _ _ _ _ _ ⟨C8.out.2.2.2, fun hg => ⟨cs, ds, H6.out, ?_, C8.out.1, C8.out.2.1, C8.out.2.2.1⟩⟩
  have h3 : xs3 = [] := List.length_eq_zero_iff.1 (by rw [← HRM.out]; simpa using hg)
  rw [EX1.out, EX2.out, EX3.out, h3]
  simp [encS]

end Go.Proofs.Ytndnbkgejdindaa
