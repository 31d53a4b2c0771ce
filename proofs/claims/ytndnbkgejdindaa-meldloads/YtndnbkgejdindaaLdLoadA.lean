/- Load, the good way: what was saved is loaded. -/
import Derived.Test.YtndnbkgejdindaaLdGood
import Derived.Test.YtndnbkgejdindaaMlMayS
import Derived.Test.YtndnbkgejdindaaLdAll
namespace Go.Proofs.Ytndnbkgejdindaa
open Go.ChangeShapes Go.WideShapes Go.ChangeAt Go.RowKit

set_option maxRecDepth 100000 in
set_option maxHeartbeats 4000000 in
theorem Load_good (p : Nat) (cs : List Cel) (ds : List Dn) (hM : MayS ⟨(p : Int), cs, ds⟩) (hc6 : cs.length ≤ 4294967295) (hd6 : ds.length ≤ 4294967295) (a : Option Addr) (m cap : Nat) (w : World) (hm : m = (encS ⟨(p : Int), cs, ds⟩).length) (ho : Octs w a cap (encS ⟨(p : Int), cs, ds⟩)) (hpl : Ples a cap) (hlt : ∀ ad, a = some ad → ad.block < w.heap.size) :
    Calls Try.prog 13 #[.slice a m cap] w fun e w' => ∃ (ca : Option Addr) (n1 cc : Nat) (da : Option Addr) (n2 dc : Nat), e = .returned (.tuple #[.agg #[.int .i64 (p : Int), .slice ca n1 cc, .slice da n2 dc], .int .i64 0]) ∧ Hid (n1 = cs.length ∧ n2 = ds.length ∧ StIs (fun b => w.heap.size ≤ b) w' cs ds ca cc da dc ∧ Below w.heap.size w w') := by
  generalize hpost : (fun (e : Ending) (w' : World) => ∃ (ca : Option Addr) (n1 cc : Nat) (da : Option Addr) (n2 dc : Nat), e = .returned (.tuple #[.agg #[.int .i64 (p : Int), .slice ca n1 cc, .slice da n2 dc], .int .i64 0]) ∧ Hid (n1 = cs.length ∧ n2 = ds.length ∧ StIs (fun b => w.heap.size ≤ b) w' cs ds ca cc da dc ∧ Below w.heap.size w w')) = Q
  have HP : Hid (∀ ca n1 cc da n2 dc w', n1 = cs.length ∧ n2 = ds.length ∧ StIs (fun b => w.heap.size ≤ b) w' cs ds ca cc da dc ∧ Below w.heap.size w w' → Q (.returned (.tuple #[.agg #[.int .i64 (p : Int), .slice ca n1 cc, .slice da n2 dc], .int .i64 0])) w') := fun ca n1 cc da n2 dc w' h => by rw [← hpost]; exact ⟨ca, n1, cc, da, n2, dc, rfl, h⟩
  clear hpost
  obtain ⟨H, hH⟩ : ∃ H, H = w.heap.size := ⟨_, rfl⟩
  have HH := put_by hH
  have c1 : Hid (Calls Try.prog 23 #[.slice a m cap] (w.alloc (.cells #[.int .i64 0, .slice none 0 0, .slice none 0 0] 25)) fun e w' => ∃ (ca : Option Addr) (n1 cc : Nat) (da : Option Addr) (n2 dc : Nat), e = .returned (.tuple #[.agg #[.int .i64 (p : Int), .slice ca n1 cc, .slice da n2 dc], .bool true]) ∧ Hid (n1 = cs.length ∧ n2 = ds.length ∧ StIs (fun b => H < b) w' cs ds ca cc da dc ∧ Below H w w' ∧ Cls w' H [.int .i64 0, .slice none 0 0, .slice none 0 0] ∧ H < w'.heap.size)) := by
    have b0 := (Below.refl w.heap.size w).alloc (Nat.le_refl _) (.cells #[.int .i64 0, .slice none 0 0, .slice none 0 0] 25)
    have s0 : (w.alloc (.cells #[.int .i64 0, .slice none 0 0, .slice none 0 0] 25)).heap.size = w.heap.size + 1 := by simp
    have c0 := Cls.new w [.int .i64 0, .slice none 0 0, .slice none 0 0] 25
    refine (readState_good p cs ds hM hc6 hd6 a m cap _ hm (ho.later b0) hpl (fun ad e => by have := hlt ad e; omega)).mono ?_
    rintro e w' ⟨ca, n1, cc, da, n2, dc, rfl, h1, h2, h3, h4⟩
    rw [s0] at h3 h4
    refine ⟨ca, n1, cc, da, n2, dc, rfl, h1, h2, ⟨h3.cells.move (Kept.of_below (Below.refl _ _)) (fun b _ hb => by have h : w.heap.size + 1 ≤ b := hb; show H < b; omega), h3.dones.move (Kept.of_below (Below.refl _ _)) (fun b _ hb => by have h : w.heap.size + 1 ≤ b := hb; show H < b; omega), h3.few⟩, ?_, ?_, ?_⟩
    · rw [hH]; exact b0.trans (h4.mono (by omega))
    · rw [hH]; exact c0.later (by rw [s0]; exact h4)
    · have := h4.size; rw [s0] at this; omega
  have c2 : Hid (∀ (W : World) (ca : Option Addr) (n1 cc : Nat) (da : Option Addr) (n2 dc : Nat), n1 = cs.length ∧ n2 = ds.length ∧ StIs (fun b => H < b) W cs ds ca cc da dc ∧ Below H w W ∧ Cls W H [.int .i64 0, .slice none 0 0, .slice none 0 0] ∧ H < W.heap.size → Calls Try.prog 16 #[.agg #[.int .i64 (p : Int), .slice ca n1 cc, .slice da n2 dc]] (W.alloc (.cells #[.int .i64 (p : Int), .slice ca n1 cc, .slice da n2 dc] 25)) fun e w' => e = .returned (.bool true) ∧ Hid (StIs (fun b => H < b) w' cs ds ca cc da dc ∧ Below H w w' ∧ Cls w' H [.int .i64 0, .slice none 0 0, .slice none 0 0] ∧ Cls w' W.heap.size [.int .i64 (p : Int), .slice ca n1 cc, .slice da n2 dc])) := by
    rintro W ca n1 cc da n2 dc ⟨rfl, rfl, h3, h4, h5, h6⟩
    have b0 := (Below.refl W.heap.size W).alloc (Nat.le_refl _) (.cells #[.int .i64 (p : Int), .slice ca cs.length cc, .slice da ds.length dc] 25)
    have s0 : (W.alloc (.cells #[.int .i64 (p : Int), .slice ca cs.length cc, .slice da ds.length dc] 25)).heap.size = W.heap.size + 1 := by simp
    have c0 := Cls.new W [.int .i64 (p : Int), .slice ca cs.length cc, .slice da ds.length dc] 25
    refine (MayS_any _ (p : Int) cs ds ca cc da dc _ (h3.later b0) true (by simp [hM])).mono ?_
    rintro e w' ⟨rfl, h7⟩
    rw [s0] at h7
    have b1 : Below W.heap.size W w' := b0.trans (h7.mono (by omega))
    exact ⟨rfl, h3.later b1, h4.trans (b1.mono (by omega)), h5.later b1, c0.later (by rw [s0]; exact h7)⟩
  clear hM hc6 hd6 hm ho hpl hlt hH
  go_enter Try.func13, Try.ntmps13
  go_wp2_with (first
    | (go_at_call 23; (with_reducible refine c1.out.mono ?_); clear c1; rintro e w1 ⟨ca, n1, cc, da, n2, dc, rfl, H1⟩)
    | (go_at_call 16; (with_reducible refine (c2.out _ _ _ _ _ _ _ H1.out).mono ?_); clear c2; rintro e w2 ⟨rfl, H2⟩; obtain ⟨y0, -⟩ := H2.out.2.2.2 0 _ rfl; obtain ⟨y1, -⟩ := H2.out.2.2.2 1 _ rfl; obtain ⟨y2, -⟩ := H2.out.2.2.2 2 _ rfl; have hq : Cls w2 w.heap.size [.int .i64 0, .slice none 0 0, .slice none 0 0] := (by rw [← HH.out]; exact H2.out.2.2.1); obtain ⟨q0, g0⟩ := hq 0 _ rfl; obtain ⟨q1, g1⟩ := hq 1 _ rfl; obtain ⟨q2, g2⟩ := hq 2 _ rfl; clear hq))
  have C : Hid (n1 = cs.length ∧ n2 = ds.length ∧ StIs (fun b => w.heap.size ≤ b) (((w2.setCell ⟨w.heap.size, 0, none⟩ (.int .i64 (p : Int))).setCell ⟨w.heap.size, 1, none⟩ (.slice ca n1 cc)).setCell ⟨w.heap.size, 2, none⟩ (.slice da n2 dc)) cs ds ca cc da dc ∧ Below w.heap.size w (((w2.setCell ⟨w.heap.size, 0, none⟩ (.int .i64 (p : Int))).setCell ⟨w.heap.size, 1, none⟩ (.slice ca n1 cc)).setCell ⟨w.heap.size, 2, none⟩ (.slice da n2 dc))) := by
    have hH := HH.out
    have hb : ∀ b, H < b → some w.heap.size ≠ some b := fun b hb e => by have h1 := Option.some.inj e; omega
    have hk : Kept (fun b => H < b) w2 (((w2.setCell ⟨w.heap.size, 0, none⟩ (.int .i64 (p : Int))).setCell ⟨w.heap.size, 1, none⟩ (.slice ca n1 cc)).setCell ⟨w.heap.size, 2, none⟩ (.slice da n2 dc)) := ((Kept.of_grown (grown_set _) hb).trans (Kept.of_grown (grown_set _) hb)).trans (Kept.of_grown (grown_set _) hb)
    have hbl : Below w.heap.size w w2 := by rw [← hH]; exact H2.out.2.1
    exact ⟨H1.out.1, H1.out.2.1, ⟨H2.out.1.cells.move hk (fun b _ hb => by have h2 : H < b := hb; show w.heap.size ≤ b; omega), H2.out.1.dones.move hk (fun b _ hb => by have h2 : H < b := hb; show w.heap.size ≤ b; omega), H2.out.1.few⟩, ((hbl.setCell (Nat.le_refl _) _).setCell (Nat.le_refl _) _).setCell (Nat.le_refl _) _⟩
  refine bodyPost_ret (v := .tuple #[.agg #[.int .i64 (p : Int), .slice ca n1 cc, .slice da n2 dc], .int .i64 0]) (by simp [results, Try.results13, go_sem, q0, q1, q2]) rfl (HP.out _ _ _ _ _ _ _ C.out)

end Go.Proofs.Ytndnbkgejdindaa

/- Load at whatever bytes. -/
namespace Go.Proofs.Ytndnbkgejdindaa
open Go.ChangeShapes Go.WideShapes Go.ChangeAt Go.RowKit

theorem flat_many {α : Type} (f : α → List Int) (k : Nat) (hf : ∀ x, k ≤ (f x).length) (l : List α) : k * l.length ≤ (l.flatMap f).length := by
  induction l with
  | nil => simp
  | cons x l ih => rw [List.flatMap_cons, List.length_append, List.length_cons, Nat.mul_succ]; have := hf x; omega

theorem encC_many (x : Cel) : 13 ≤ (encC x).length := by simp only [encC, txt4, List.length_append, List.length_cons, le4_length]; omega
theorem encD_many (x : Dn) : 13 ≤ (encD x).length := by simp only [encD, List.length_append, List.length_cons, List.length_nil, le4_length]; omega

/-- what has few bytes has few things -/
theorem encS_many (s : Sta) : 13 * s.cells.length + 13 * s.dones.length ≤ (encS s).length := by
  have h1 := flat_many encC 13 encC_many s.cells
  have h2 := flat_many encD 13 encD_many s.dones
  simp only [encS, List.length_append]
  omega

/-- so few that a number of four bytes tells how many -/
def FewS (s : Sta) : Prop := s.cells.length < 4294967296 ∧ s.dones.length < 4294967296

def LoadBad (xs : List Int) : Prop := ¬ ∃ s : Sta, MayS s ∧ FewS s ∧ encS s = xs

/-- what Load comes to -/
def LdPost (xs : List Int) (w : World) (e : Ending) (w' : World) : Prop :=
  (∃ (p : Nat) (cs : List Cel) (ds : List Dn) (ca : Option Addr) (n1 cc : Nat) (da : Option Addr) (n2 dc : Nat), e = .returned (.tuple #[.agg #[.int .i64 (p : Int), .slice ca n1 cc, .slice da n2 dc], .int .i64 0]) ∧ Hid (MayS ⟨(p : Int), cs, ds⟩ ∧ FewS ⟨(p : Int), cs, ds⟩ ∧ encS ⟨(p : Int), cs, ds⟩ = xs ∧ n1 = cs.length ∧ n2 = ds.length ∧ StIs (fun b => w.heap.size ≤ b) w' cs ds ca cc da dc ∧ Below w.heap.size w w')) ∨
  (e = .returned (.tuple #[.agg #[.int .i64 0, .slice none 0 0, .slice none 0 0], .int .i64 4]) ∧ Hid (LoadBad xs ∧ Below w.heap.size w w'))

set_option maxRecDepth 100000 in
set_option maxHeartbeats 4000000 in
theorem Load_bad (xs : List Int) (hbad : LoadBad xs) (a : Option Addr) (m cap : Nat) (w : World) (hm : m = xs.length) (ho : Octs w a cap xs) (hpl : Ples a cap) (hlt : ∀ ad, a = some ad → ad.block < w.heap.size) :
    Calls Try.prog 13 #[.slice a m cap] w fun e w' => e = .returned (.tuple #[.agg #[.int .i64 0, .slice none 0 0, .slice none 0 0], .int .i64 4]) ∧ Hid (Below w.heap.size w w') := by
  generalize hpost : (fun (e : Ending) (w' : World) => e = .returned (.tuple #[.agg #[.int .i64 0, .slice none 0 0, .slice none 0 0], .int .i64 4]) ∧ Hid (Below w.heap.size w w')) = Q
  have HP : Hid (∀ w', Below w.heap.size w w' → Q (.returned (.tuple #[.agg #[.int .i64 0, .slice none 0 0, .slice none 0 0], .int .i64 4])) w') := fun w' h => by rw [← hpost]; exact ⟨rfl, h⟩
  clear hpost
  obtain ⟨H, hH⟩ : ∃ H, H = w.heap.size := ⟨_, rfl⟩
  have HH := put_by hH
  have c1 : Hid (Calls Try.prog 23 #[.slice a m cap] (w.alloc (.cells #[.int .i64 0, .slice none 0 0, .slice none 0 0] 25)) fun e w' => ∃ (p : Nat) (ca : Option Addr) (n1 cc : Nat) (da : Option Addr) (n2 dc : Nat) (g : Bool), e = .returned (.tuple #[.agg #[.int .i64 (p : Int), .slice ca n1 cc, .slice da n2 dc], .bool g]) ∧ Hid (Below H w w' ∧ Cls w' H [.int .i64 0, .slice none 0 0, .slice none 0 0] ∧ H < w'.heap.size ∧ (g = true → ∃ cs ds, ¬ MayS ⟨(p : Int), cs, ds⟩ ∧ n1 = cs.length ∧ n2 = ds.length ∧ StIs (fun b => H < b) w' cs ds ca cc da dc))) := by
    have b0 := (Below.refl w.heap.size w).alloc (Nat.le_refl _) (.cells #[.int .i64 0, .slice none 0 0, .slice none 0 0] 25)
    have s0 : (w.alloc (.cells #[.int .i64 0, .slice none 0 0, .slice none 0 0] 25)).heap.size = w.heap.size + 1 := by simp
    have c0 := Cls.new w [.int .i64 0, .slice none 0 0, .slice none 0 0] 25
    refine (readState_all xs a m cap _ hm (ho.later b0) hpl (fun ad e => by have := hlt ad e; omega)).mono ?_
    rintro e w' ⟨p, ca, n1, cc, da, n2, dc, g, rfl, h4, h1⟩
    rw [s0] at h1 h4
    refine ⟨p, ca, n1, cc, da, n2, dc, g, rfl, ?_, ?_, ?_, ?_⟩
    · rw [hH]; exact b0.trans (h4.mono (by omega))
    · rw [hH]; exact c0.later (by rw [s0]; exact h4)
    · have := h4.size; rw [s0] at this; omega
    · intro hg
      obtain ⟨cs, ds, q0, q1, q2, q3, h3⟩ := h1 hg
      exact ⟨cs, ds, fun hM => hbad ⟨_, hM, q0, q1.symm⟩, q2, q3, h3.cells.move (Kept.of_below (Below.refl _ _)) (fun b _ hb => by have h : w.heap.size + 1 ≤ b := hb; show H < b; omega), h3.dones.move (Kept.of_below (Below.refl _ _)) (fun b _ hb => by have h : w.heap.size + 1 ≤ b := hb; show H < b; omega), h3.few⟩
  clear hm ho hpl hlt hH hbad
  go_enter Try.func13, Try.ntmps13
  go_upto_region 2 with (first
    | (go_at_call 23; (with_reducible refine c1.out.mono ?_); clear c1; rintro e w1 ⟨p, ca, n1, cc, da, n2, dc, g, rfl, H1⟩))
  have HV : Hid (Cls (w1.alloc (.cells #[.int .i64 (p : Int), .slice ca n1 cc, .slice da n2 dc] 25)) H [.int .i64 0, .slice none 0 0, .slice none 0 0] ∧ Below H w (w1.alloc (.cells #[.int .i64 (p : Int), .slice ca n1 cc, .slice da n2 dc] 25)) ∧ Cls (w1.alloc (.cells #[.int .i64 (p : Int), .slice ca n1 cc, .slice da n2 dc] 25)) w1.heap.size [.int .i64 (p : Int), .slice ca n1 cc, .slice da n2 dc] ∧ (g = true → ∃ cs ds, ¬ MayS ⟨(p : Int), cs, ds⟩ ∧ n1 = cs.length ∧ n2 = ds.length ∧ StIs (fun b => H < b) (w1.alloc (.cells #[.int .i64 (p : Int), .slice ca n1 cc, .slice da n2 dc] 25)) cs ds ca cc da dc) ∧ H < (w1.alloc (.cells #[.int .i64 (p : Int), .slice ca n1 cc, .slice da n2 dc] 25)).heap.size ∧ w1.heap.size < (w1.alloc (.cells #[.int .i64 (p : Int), .slice ca n1 cc, .slice da n2 dc] 25)).heap.size) := by
    obtain ⟨h1, h2, h3, h4⟩ := H1.out
    have b1 := (Below.refl w1.heap.size w1).alloc (Nat.le_refl _) (.cells #[.int .i64 (p : Int), .slice ca n1 cc, .slice da n2 dc] 25)
    have s1 : (w1.alloc (.cells #[.int .i64 (p : Int), .slice ca n1 cc, .slice da n2 dc] 25)).heap.size = w1.heap.size + 1 := by simp
    refine ⟨h2.later b1, h1.trans (b1.mono (by omega)), Cls.new w1 [.int .i64 (p : Int), .slice ca n1 cc, .slice da n2 dc] 25, fun hg => ?_, by omega, by omega⟩
    obtain ⟨cs, ds, q0, q1, q2, q3⟩ := h4 hg
    exact ⟨cs, ds, q0, q1, q2, q3.later b1⟩
  clear H1
  generalize w1.alloc (.cells #[.int .i64 (p : Int), .slice ca n1 cc, .slice da n2 dc] _) = W1 at HV ⊢
  generalize w1.heap.size = X at HV ⊢
  have HZ : Hid (∀ V, Below H w V → Below w.heap.size w (((V.setCell ⟨w.heap.size, 0, none⟩ (.int .i64 0)).setCell ⟨w.heap.size, 1, none⟩ (.slice none 0 0)).setCell ⟨w.heap.size, 2, none⟩ (.slice none 0 0))) := fun V hV => by
    rw [HH.out] at hV
    exact ((hV.setCell (Nat.le_refl _) _).setCell (Nat.le_refl _) _).setCell (Nat.le_refl _) _
  cases g with
  | false =>
    have hq : Cls W1 w.heap.size [.int .i64 0, .slice none 0 0, .slice none 0 0] := by rw [← HH.out]; exact HV.out.1
    obtain ⟨q0, g0⟩ := hq 0 _ rfl
    obtain ⟨q1, g1⟩ := hq 1 _ rfl
    obtain ⟨q2, g2⟩ := hq 2 _ rfl
    clear hq
    go_wp2
    exact bodyPost_ret (v := .tuple #[.agg #[.int .i64 0, .slice none 0 0, .slice none 0 0], .int .i64 4]) (by simp [results, Try.results13, go_sem, q0, q1, q2]) rfl (HP.out _ (HZ.out _ HV.out.2.1))
  | true =>
    obtain ⟨cs, ds, hM, rfl, rfl, hS⟩ := HV.out.2.2.2.1 rfl
    have hq3 := HV.out.2.2.1
    obtain ⟨y0, -⟩ := hq3 0 _ rfl
    obtain ⟨y1, -⟩ := hq3 1 _ rfl
    obtain ⟨y2, -⟩ := hq3 2 _ rfl
    have c2 : Hid (Calls Try.prog 16 #[.agg #[.int .i64 (p : Int), .slice ca cs.length cc, .slice da ds.length dc]] W1 fun e w' => e = .returned (.bool false) ∧ Hid (Below W1.heap.size W1 w')) := by
      refine (MayS_any _ (p : Int) cs ds ca cc da dc _ hS false (by simp [hM])).mono ?_
      rintro e w' ⟨rfl, h7⟩
      exact ⟨rfl, h7⟩
    clear hM hS hq3
    go_wp2_with (first
      | (go_at_call 16; (with_reducible refine c2.out.mono ?_); clear c2; rintro e w2 ⟨rfl, H2⟩; have hq : Cls w2 w.heap.size [.int .i64 0, .slice none 0 0, .slice none 0 0] := (by rw [← HH.out]; exact HV.out.1.later H2.out); obtain ⟨q0, g0⟩ := hq 0 _ rfl; obtain ⟨q1, g1⟩ := hq 1 _ rfl; obtain ⟨q2, g2⟩ := hq 2 _ rfl; clear hq))
    exact bodyPost_ret (v := .tuple #[.agg #[.int .i64 0, .slice none 0 0, .slice none 0 0], .int .i64 4]) (by simp [results, Try.results13, go_sem, q0, q1, q2]) rfl (HP.out _ (HZ.out _ (HV.out.2.1.trans (H2.out.mono (Nat.le_of_lt HV.out.2.2.2.2.1)))))

theorem Load_any (xs : List Int) (a : Option Addr) (m cap : Nat) (w : World) (hm : m = xs.length) (ho : Octs w a cap xs) (hpl : Ples a cap) (hlt : ∀ ad, a = some ad → ad.block < w.heap.size) :
    Calls Try.prog 13 #[.slice a m cap] w fun e w' => LdPost xs w e w' := by
  by_cases h : ∃ s : Sta, MayS s ∧ FewS s ∧ encS s = xs
  · obtain ⟨⟨p, cs, ds⟩, hM, hFw, he⟩ := h
    obtain ⟨q, rfl⟩ : ∃ q : Nat, p = (q : Int) := ⟨p.toNat, by have h1 := hM.pos.1; have h2 : 0 ≤ p := h1; omega⟩
    have h3 : cs.length < 4294967296 := hFw.1
    have h4 : ds.length < 4294967296 := hFw.2
    subst he
    refine (Load_good q cs ds hM (by omega) (by omega) a m cap w hm ho hpl hlt).mono ?_
    rintro e w' ⟨ca, n1, cc, da, n2, dc, rfl, h1⟩
    exact .inl ⟨q, cs, ds, ca, n1, cc, da, n2, dc, rfl, hM, hFw, rfl, h1.out⟩
  · refine (Load_bad xs h a m cap w hm ho hpl hlt).mono ?_
    rintro e w' ⟨rfl, h1⟩
    exact .inr ⟨rfl, h, h1.out⟩

end Go.Proofs.Ytndnbkgejdindaa
