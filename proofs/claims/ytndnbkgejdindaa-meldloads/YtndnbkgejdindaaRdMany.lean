/- The byte that tells Gone. -/
import Derived.Test.YtndnbkgejdindaaRdText
import Derived.Laws.EntriesVeiled
namespace Go.Proofs.Ytndnbkgejdindaa
open Go.ChangeShapes Go.WideShapes Go.ChangeAt Go.RowKit

def GoneIs (st : Option (List Int)) (g : Bool) (st' : Option (List Int)) : Prop := (∃ r, st.bind cutB = some (g, r) ∧ st' = some r) ∨ (st.bind cutB = none ∧ g = false ∧ st' = none)

def GonePost (R : Nat) (st : Option (List Int)) (w : World) (e : Ending) (w' : World) : Prop := ∃ (g : Bool) (st' : Option (List Int)), e = .returned (.bool g) ∧ GoneIs st g st' ∧ RdrS w' R st' ∧ w.grownBy w' (some R)

set_option maxRecDepth 100000 in
set_option maxHeartbeats 1000000 in
theorem gone_any (R : Nat) (st : Option (List Int)) (w : World) (h : RdrS w R st) :
    Calls Try.prog 76 #[.pointer (some ⟨R, 0, none⟩)] w fun e w' => GonePost R st w e w' := by
  generalize hpost : (fun e w' => GonePost R st w e w') = Q
  have HP : Hid (∀ e w', GonePost R st w e w' → Q e w') := fun e w' h => by rw [← hpost]; exact h
  clear hpost
  have c1 : Hid (Calls Try.prog 86 #[.pointer (some ⟨R, 0, none⟩), .int .i64 1] w fun e w' => ∃ (a : Option Addr) (m c : Nat), e = .returned (.slice a m c) ∧ Hid (∃ ts st1, m = ts.length ∧ Octs w' a c ts ∧ TakeIs st 1 ts st1 ∧ RdrS w' R st1 ∧ w.grownBy w' (some R))) := by
    refine (take_any R 1 st w h).mono ?_
    rintro e w' ⟨a, m, c, ts, st1, rfl, h1, h2, h3, h4, h5⟩
    exact ⟨a, m, c, rfl, ts, st1, h1, h2, h3, h4, h5⟩
  clear h
  go_enter Try.func76, Try.ntmps76
  go_upto_region 2 with (first
    | (go_at_call 86; refine c1.out.mono ?_; clear c1; rintro e w1 ⟨a, m, c, rfl, H1⟩))
  obtain ⟨ts, st1, g1, g2, g3, g4, g5⟩ := H1.out
  rcases g3 with ⟨xs, rfl, hn, e2, rfl⟩ | ⟨hn, rfl, rfl⟩
  · match xs, hn with
    | y :: r, _ =>
      replace e2 : ts = [y] := e2
      subst e2
      replace g1 : m = 1 := g1
      subst g1
      obtain ⟨b, off, rfl, kc, y0, y1⟩ := g2.at (k := 0) (by simp)
      replace kc : w1.cell? ⟨b, off, none⟩ = some (.int .u8 y) := by simpa using kc
      replace y0 : 0 ≤ y := y0
      replace y1 : y ≤ 255 := y1
      have H4 : Hid (RdrS w1 R (some r) ∧ w.grownBy w1 (some R)) := ⟨g4, g5⟩
      clear g2 g4 g5 H1
      by_cases h1 : y = 1
      · subst h1
        go_wp2
        exact HP.out _ _ ⟨true, some r, rfl, .inl ⟨r, rfl, rfl⟩, H4.out.1, H4.out.2⟩
      · by_cases h0 : y = 0
        · subst h0
          go_wp2
          exact HP.out _ _ ⟨false, some r, rfl, .inl ⟨r, rfl, rfl⟩, H4.out.1, H4.out.2⟩
        · obtain ⟨a5, m5, c5, t5, xs5, h5, e5⟩ := H4.out.1
          obtain ⟨k0, k1, f0, f1⟩ := h5.two
          have H5 := put_by (show RdrS (w1.setCell ⟨R, 1, none⟩ (.bool true)) R none from ⟨a5, m5, c5, true, xs5, h5.tear, rfl⟩)
          have HG := put_by (grown_trans H4.out.2 (grown_set (j := 1) (.bool true)))
          have HN : Hid ((some (y :: r)).bind cutB = none) := by
            show cutB (y :: r) = none
            rw [cutB]
            simp only [if_neg h0, if_neg h1]
          have b1 : (y != 1) = true := by simpa using h1
          have b0 : (y != 0) = true := by simpa using h0
          clear h5 e5 H4
          go_wp2
          exact HP.out _ _ ⟨false, none, rfl, .inr ⟨HN.out, rfl, rfl⟩, H5.out, HG.out⟩
  · replace g1 : m = 0 := g1
    subst g1
    obtain ⟨a5, m5, c5, t5, xs5, h5, e5⟩ := g4
    obtain ⟨k0, k1, f0, f1⟩ := h5.two
    have H5 := put_by (show RdrS (w1.setCell ⟨R, 1, none⟩ (.bool true)) R none from ⟨a5, m5, c5, true, xs5, h5.tear, rfl⟩)
    have HG := put_by (grown_trans g5 (grown_set (j := 1) (.bool true)))
    have HN : Hid (st.bind cutB = none) := by
      cases st with
      | none => rfl
      | some xs =>
        have h0 := hn xs rfl
        have : xs = [] := List.length_eq_zero_iff.1 (by omega)
        subst this
        rfl
    clear h5 e5 g2 g5 H1 hn
    go_wp2
    exact HP.out _ _ ⟨false, none, rfl, .inr ⟨HN.out, rfl, rfl⟩, H5.out, HG.out⟩

end Go.Proofs.Ytndnbkgejdindaa

/- One read and one write that are read. -/
namespace Go.Proofs.Ytndnbkgejdindaa
open Go.ChangeShapes Go.WideShapes Go.ChangeAt Go.RowKit

theorem cell_grown {w w' : World} {R C j : Nat} {u : Value} (h : w.cell? ⟨C, j, none⟩ = some u) (hg : w.grownBy w' (some R)) (hne : C ≠ R) : w'.cell? ⟨C, j, none⟩ = some u :=
  (World.cell?_of_block (hg.block C (World.block_lt_of_cell? _ _ h) (fun e => hne (Option.some.inj e)))).trans h

theorem frozen_grown {w w' : World} {R C j : Nat} (hlt : C < w.heap.size) (h : w.frozen? ⟨C, j, none⟩ = false) (hg : w.grownBy w' (some R)) (hne : C ≠ R) : w'.frozen? ⟨C, j, none⟩ = false :=
  (World.frozen?_of_block (hg.block C hlt (fun e => hne (Option.some.inj e)))).trans h

theorem Two.grown {w w' : World} {R B : Nat} {u v : Value} (h : Two w B u v) (hg : w.grownBy w' (some R)) (hne : B ≠ R) : Two w' B u v :=
  have hlt := World.block_lt_of_cell? _ _ h.c0
  ⟨cell_grown h.c0 hg hne, cell_grown h.c1 hg hne, frozen_grown hlt h.f0 hg hne, frozen_grown hlt h.f1 hg hne⟩

/-- a variable of three cells -/
structure Tri (W : World) (B : Nat) (u v t : Value) : Prop where
  c0 : W.cell? ⟨B, 0, none⟩ = some u
  c1 : W.cell? ⟨B, 1, none⟩ = some v
  c2 : W.cell? ⟨B, 2, none⟩ = some t
  f0 : W.frozen? ⟨B, 0, none⟩ = false
  f1 : W.frozen? ⟨B, 1, none⟩ = false
  f2 : W.frozen? ⟨B, 2, none⟩ = false

theorem Tri.new (W : World) (u v t : Value) (ty : TypeId) : Tri (W.alloc (.cells #[u, v, t] ty)) W.heap.size u v t := ⟨by simp, by simp, by simp, by simp, by simp, by simp⟩

theorem Tri.grown {w w' : World} {R B : Nat} {u v t : Value} (h : Tri w B u v t) (hg : w.grownBy w' (some R)) (hne : B ≠ R) : Tri w' B u v t :=
  have hlt := World.block_lt_of_cell? _ _ h.c0
  ⟨cell_grown h.c0 hg hne, cell_grown h.c1 hg hne, cell_grown h.c2 hg hne, frozen_grown hlt h.f0 hg hne, frozen_grown hlt h.f1 hg hne, frozen_grown hlt h.f2 hg hne⟩

theorem Tri.set {W : World} {B : Nat} {x y z : Value} (h : Tri W B x y z) (u v t : Value) : Tri (((W.setCell ⟨B, 0, none⟩ u).setCell ⟨B, 1, none⟩ v).setCell ⟨B, 2, none⟩ t) B u v t := by
  refine ⟨?_, ?_, ?_, ?_, ?_, ?_⟩
  · rw [World.cell?_setCell_other _ _ _ _ (by simp), World.cell?_setCell_other _ _ _ _ (by simp)]
    exact World.cell?_setCell_same' _ _ _ (by rw [h.c0]; rfl)
  · rw [World.cell?_setCell_other _ _ _ _ (by simp)]
    exact World.cell?_setCell_same' _ _ _ (by rw [World.cell?_setCell_other _ _ _ _ (by simp), h.c1]; rfl)
  · exact World.cell?_setCell_same' _ _ _ (by rw [World.cell?_setCell_other _ _ _ _ (by simp), World.cell?_setCell_other _ _ _ _ (by simp), h.c2]; rfl)
  · rw [World.frozen?_setCell, World.frozen?_setCell, World.frozen?_setCell]
    exact h.f0
  · rw [World.frozen?_setCell, World.frozen?_setCell, World.frozen?_setCell]
    exact h.f1
  · rw [World.frozen?_setCell, World.frozen?_setCell, World.frozen?_setCell]
    exact h.f2

/-- another block is written -/
theorem RdrS.other {w w' : World} {R B : Nat} {st : Option (List Int)} (h : RdrS w R st) (hg : w.grownBy w' (some B)) (hB : R < B) : RdrS w' R st := by
  obtain ⟨a, m, cap, t, xs, h, e⟩ := h
  exact ⟨a, m, cap, t, xs, ⟨h.two.grown hg (Nat.ne_of_lt hB), h.len, h.octs.grown hg (fun _ ad had e => by have := h.ne ad had; have := Option.some.inj e; omega), h.ples, h.ne, h.few⟩, e⟩

/-- one thing: what is read, and what is left -/
def OneIs {α : Type} (f : List Int → Option (α × List Int)) (st : Option (List Int)) (x : α) (st' : Option (List Int)) : Prop := (∃ r, st.bind f = some (x, r) ∧ st' = some r) ∨ (st.bind f = none ∧ st' = none)

theorem rd_of {st st1 st2 : Option (List Int)} {lo hi : List Int} (h1 : TextIs st lo st1) (h2 : TextIs st1 hi st2) : OneIs cutRd st (lo, hi) st2 := by
  cases st with
  | none =>
    rcases h1 with ⟨r, e, _⟩ | ⟨_, _, rfl⟩
    · cases e
    · rcases h2 with ⟨r, e, _⟩ | ⟨_, _, rfl⟩
      · cases e
      · exact .inr ⟨rfl, rfl⟩
  | some b =>
    rcases h1 with ⟨r, e, rfl⟩ | ⟨e, _, rfl⟩
    · replace e : cutT b = some (lo, r) := e
      rcases h2 with ⟨r2, e2, rfl⟩ | ⟨e2, _, rfl⟩
      · replace e2 : cutT r = some (hi, r2) := e2
        exact .inl ⟨r2, show cutRd b = _ by simp only [cutRd, e, e2], rfl⟩
      · replace e2 : cutT r = none := e2
        exact .inr ⟨show cutRd b = _ by simp only [cutRd, e, e2], rfl⟩
    · replace e : cutT b = none := e
      rcases h2 with ⟨r2, e2, _⟩ | ⟨_, _, rfl⟩
      · cases e2
      · exact .inr ⟨show cutRd b = _ by simp only [cutRd, e], rfl⟩

theorem wt_of {st st1 st2 st3 : Option (List Int)} {k v : List Int} {g : Bool} (h1 : TextIs st k st1) (h2 : GoneIs st1 g st2) (h3 : TextIs st2 v st3) : OneIs cutWt st ⟨k, v, g⟩ st3 := by
  cases st with
  | none =>
    rcases h1 with ⟨r, e, _⟩ | ⟨_, _, rfl⟩
    · cases e
    · rcases h2 with ⟨r, e, _⟩ | ⟨_, _, rfl⟩
      · cases e
      · rcases h3 with ⟨r, e, _⟩ | ⟨_, _, rfl⟩
        · cases e
        · exact .inr ⟨rfl, rfl⟩
  | some b =>
    rcases h1 with ⟨r, e, rfl⟩ | ⟨e, _, rfl⟩
    · replace e : cutT b = some (k, r) := e
      rcases h2 with ⟨r2, e2, rfl⟩ | ⟨e2, _, rfl⟩
      · replace e2 : cutB r = some (g, r2) := e2
        rcases h3 with ⟨r3, e3, rfl⟩ | ⟨e3, _, rfl⟩
        · replace e3 : cutT r2 = some (v, r3) := e3
          exact .inl ⟨r3, show cutWt b = _ by simp only [cutWt, e, e2, e3], rfl⟩
        · replace e3 : cutT r2 = none := e3
          exact .inr ⟨show cutWt b = _ by simp only [cutWt, e, e2, e3], rfl⟩
      · replace e2 : cutB r = none := e2
        rcases h3 with ⟨r3, e3, _⟩ | ⟨_, _, rfl⟩
        · cases e3
        · exact .inr ⟨show cutWt b = _ by simp only [cutWt, e, e2], rfl⟩
    · replace e : cutT b = none := e
      rcases h2 with ⟨r2, e2, _⟩ | ⟨_, _, rfl⟩
      · cases e2
      · rcases h3 with ⟨r3, e3, _⟩ | ⟨_, _, rfl⟩
        · cases e3
        · exact .inr ⟨show cutWt b = _ by simp only [cutWt, e], rfl⟩

/-- what a read that is read comes to -/
def RngPost (R : Nat) (st : Option (List Int)) (w : World) (e : Ending) (w' : World) : Prop := ∃ (a1 : Option Addr) (m1 c1 : Nat) (a2 : Option Addr) (m2 c2 : Nat) (x : Ent) (st' : Option (List Int)), e = .returned (.agg #[.slice a1 m1 c1, .slice a2 m2 c2]) ∧ kEnt.rel (fun b => w.heap.size < b) w' x [.slice a1 m1 c1, .slice a2 m2 c2] ∧ OneIs cutRd st x st' ∧ RdrS w' R st' ∧ w.grownBy w' (some R)

/-- what a write that is read comes to -/
def WtPost (R : Nat) (st : Option (List Int)) (w : World) (e : Ending) (w' : World) : Prop := ∃ (a1 : Option Addr) (m1 c1 : Nat) (a2 : Option Addr) (m2 c2 : Nat) (g : Bool) (x : Wt) (st' : Option (List Int)), e = .returned (.agg #[.slice a1 m1 c1, .slice a2 m2 c2, .bool g]) ∧ kWt.rel (fun b => w.heap.size < b) w' x [.slice a1 m1 c1, .slice a2 m2 c2, .bool g] ∧ OneIs cutWt st x st' ∧ RdrS w' R st' ∧ w.grownBy w' (some R)

/-- the world within: a variable that names the reader, the reader, all else as it was -/
structure ClI (w0 : World) (C R : Nat) (st : Option (List Int)) (W : World) : Prop where
  cap : W.cell? ⟨C, 0, none⟩ = some (.pointer (some ⟨R, 0, none⟩))
  rdr : RdrS W R st
  grown : w0.grownBy W (some R)

theorem ClI.next {w0 W W' : World} {C R : Nat} {st st' : Option (List Int)} (h : ClI w0 C R st W) (hne : C ≠ R) (hr : RdrS W' R st') (hg : W.grownBy W' (some R)) : ClI w0 C R st' W' :=
  ⟨cell_grown h.cap hg hne, hr, grown_trans h.grown hg⟩

theorem kept_old {w w' : World} {R : Nat} {ok : Nat → Prop} (hg : w.grownBy w' (some R)) (hok : ¬ ok R) : Kept ok w w' := Kept.of_grown hg (fun b hb e => hok (by rw [Option.some.inj e]; exact hb))

set_option maxHeartbeats 4000000 in
theorem rng_any (C R : Nat) (st : Option (List Int)) (w : World) (h : RdrS w R st) (hc : w.cell? ⟨C, 0, none⟩ = some (.pointer (some ⟨R, 0, none⟩))) (hne : C ≠ R) :
    Calls Try.prog 72 #[.pointer (some ⟨C, 0, none⟩)] w fun e w' => RngPost R st w e w' := by
  generalize hpost : (fun e w' => RngPost R st w e w') = Q
  have HP : Hid (∀ e w', RngPost R st w e w' → Q e w') := fun e w' h => by rw [← hpost]; exact h
  clear hpost
  have hR : R < w.heap.size := by obtain ⟨a, m, cap, t, xs, h, -⟩ := h; exact World.block_lt_of_cell? _ _ h.two.c0
  have hba := (Below.refl w.heap.size w).alloc (Nat.le_refl _) (.cells #[.slice none 0 0, .slice none 0 0] 76)
  have H0 : Hid (ClI (w.alloc (.cells #[.slice none 0 0, .slice none 0 0] 76)) C R st (w.alloc (.cells #[.slice none 0 0, .slice none 0 0] 76))) := ⟨(hba.cell (p := ⟨C, 0, none⟩) (World.block_lt_of_cell? _ _ hc)).trans hc, h.later hba, grown_refl _ _⟩
  have HT := put_by (Two.new w (.slice none 0 0) (.slice none 0 0) 76)
  have HB := put_by hba
  have HR := put_by hR
  clear h hc hba hR
  go_enter Try.func72, Try.ntmps72
  go_upto_region 1 with (fail)
  have HS : Hid ((w.alloc (.cells #[.slice none 0 0, .slice none 0 0] 76)).heap.size = w.heap.size + 1) := by simp [Hid]
  generalize w.alloc (.cells #[.slice none 0 0, .slice none 0 0] 76) = W0 at H0 HT HB HS ⊢
  have c1 : Hid (Calls Try.prog 73 #[.pointer (some ⟨R, 0, none⟩)] W0 fun e w' => ∃ (a : Option Addr) (m c : Nat), e = .returned (.slice a m c) ∧ w'.cell? ⟨C, 0, none⟩ = some (.pointer (some ⟨R, 0, none⟩)) ∧ Hid (∃ ts st1, TextIs st ts st1 ∧ ClI W0 C R st1 w' ∧ IsBody w' (fun b => w.heap.size < b) (.slice a m c) ts)) := by
    refine (text_any R st W0 H0.out.rdr).mono ?_
    rintro e w' ⟨a, m, c, ts, st1, rfl, rfl, h2, h3, h4, h5, h6⟩
    have h7 := H0.out.next hne h5 h6
    exact ⟨a, _, c, rfl, h7.cap, ts, st1, h4, h7, a, c, rfl, h2, fun _ ad hd => by have := h3 ad hd; have := HS.out; omega⟩
  have c2 : Hid (∀ (V : World) (a : Option Addr) (m c : Nat), (∃ ts st1, TextIs st ts st1 ∧ ClI W0 C R st1 V ∧ IsBody V (fun b => w.heap.size < b) (.slice a m c) ts) → Calls Try.prog 73 #[.pointer (some ⟨R, 0, none⟩)] V fun e w' => ∃ (a2 : Option Addr) (m2 c2 : Nat), e = .returned (.slice a2 m2 c2) ∧ Two w' w.heap.size (.slice none 0 0) (.slice none 0 0) ∧ Hid (∃ x st2, OneIs cutRd st x st2 ∧ ClI W0 C R st2 w' ∧ kEnt.rel (fun b => w.heap.size < b) w' x [.slice a m c, .slice a2 m2 c2])) := fun V a m c ⟨ts, st1, g1, g2, g3⟩ => by
    refine (text_any R st1 V g2.rdr).mono ?_
    rintro e w' ⟨a2, m2, c2, ts2, st2, rfl, rfl, h2, h3, h4, h5, h6⟩
    have h7 := g2.next hne h5 h6
    refine ⟨a2, _, c2, rfl, HT.out.grown h7.grown (by have := HR.out; omega), (ts, ts2), st2, rd_of g1 h4, h7, _, _, rfl, g3.move (kept_old h6 (by have := HR.out; omega)) (fun _ _ q => q), a2, c2, rfl, h2, fun _ ad hd => ?_⟩
    have := h3 ad hd
    have := g2.grown.size
    have := HS.out
    omega
  have k0 := H0.out.cap
  clear hne
  go_wp2_with (first
    | (go_at_call 73; (with_reducible refine c1.out.mono ?_); clear c1; rintro e w1 ⟨a, m, c, rfl, k1, H1⟩)
    | (go_at_call 73; (with_reducible refine (c2.out _ _ _ _ H1.out).mono ?_); clear c2; rintro e w2 ⟨a2, m2, c2, rfl, ⟨t0, t1, t2, t3⟩, H2⟩))
  obtain ⟨x, st2, g1, g2, g3⟩ := H2.out
  have ht := (Two.mk t0 t1 t2 t3).set (.slice a m c) (.slice a2 m2 c2)
  have h6 : Kept (fun b => w.heap.size < b) w2 ((w2.setCell ⟨w.heap.size, 0, none⟩ (.slice a m c)).setCell ⟨w.heap.size, 1, none⟩ (.slice a2 m2 c2)) := ⟨by simp, fun b _ ho => (heap_setCell_other _ _ _ _ (Nat.ne_of_gt ho)).trans (heap_setCell_other _ _ _ _ (Nat.ne_of_gt ho))⟩
  have hR := HR.out
  have h7 : w.grownBy ((w2.setCell ⟨w.heap.size, 0, none⟩ (.slice a m c)).setCell ⟨w.heap.size, 1, none⟩ (.slice a2 m2 c2)) (some R) := by
    have q1 : w.grownBy w2 (some R) := grown_trans (grown_below HB.out _) g2.grown
    have q2 := below_two (Below.refl w.heap.size w2) (Nat.le_refl _) (.slice a m c) (.slice a2 m2 c2)
    exact ⟨q2.os.trans q1.os, q2.tape.trans q1.tape, q2.output.trans q1.output, Nat.le_trans q1.size q2.size, fun b hb hn => (q2.block b hb).trans (q1.block b hb hn)⟩
  have h8 : RdrS ((w2.setCell ⟨w.heap.size, 0, none⟩ (.slice a m c)).setCell ⟨w.heap.size, 1, none⟩ (.slice a2 m2 c2)) R st2 := (g2.rdr.other (grown_set (j := 0) (.slice a m c)) hR).other (grown_set (j := 1) (.slice a2 m2 c2)) hR
  have z0 := ht.c0
  have z1 := ht.c1
  generalize (w2.setCell _ _).setCell _ _ = W9 at ht h6 h7 h8 z0 z1 ⊢
  go_wp2
  exact bodyPost_ret (v := .agg #[.slice a m c, .slice a2 m2 c2]) (by simp [results, Try.results72, go_sem, asAddr, z0, z1]) rfl (HP.out _ _ ⟨a, m, c, a2, m2, c2, x, st2, rfl, kEnt.move h6 (fun _ _ q => q) g3, g1, h8, h7⟩)

set_option maxHeartbeats 4000000 in
theorem wt_any (C R : Nat) (st : Option (List Int)) (w : World) (h : RdrS w R st) (hc : w.cell? ⟨C, 0, none⟩ = some (.pointer (some ⟨R, 0, none⟩))) (hne : C ≠ R) :
    Calls Try.prog 75 #[.pointer (some ⟨C, 0, none⟩)] w fun e w' => WtPost R st w e w' := by
  generalize hpost : (fun e w' => WtPost R st w e w') = Q
  have HP : Hid (∀ e w', WtPost R st w e w' → Q e w') := fun e w' h => by rw [← hpost]; exact h
  clear hpost
  have hR : R < w.heap.size := by obtain ⟨a, m, cap, t, xs, h, -⟩ := h; exact World.block_lt_of_cell? _ _ h.two.c0
  have hba := (Below.refl w.heap.size w).alloc (Nat.le_refl _) (.cells #[.slice none 0 0, .slice none 0 0, .bool false] 79)
  have H0 : Hid (ClI (w.alloc (.cells #[.slice none 0 0, .slice none 0 0, .bool false] 79)) C R st (w.alloc (.cells #[.slice none 0 0, .slice none 0 0, .bool false] 79))) := ⟨(hba.cell (p := ⟨C, 0, none⟩) (World.block_lt_of_cell? _ _ hc)).trans hc, h.later hba, grown_refl _ _⟩
  have HT := put_by (Tri.new w (.slice none 0 0) (.slice none 0 0) (.bool false) 79)
  have HB := put_by hba
  have HR := put_by hR
  clear h hc hba hR
  go_enter Try.func75, Try.ntmps75
  go_upto_region 1 with (fail)
  have HS : Hid ((w.alloc (.cells #[.slice none 0 0, .slice none 0 0, .bool false] 79)).heap.size = w.heap.size + 1) := by simp [Hid]
  generalize w.alloc (.cells #[.slice none 0 0, .slice none 0 0, .bool false] 79) = W0 at H0 HT HB HS ⊢
  have c1 : Hid (Calls Try.prog 73 #[.pointer (some ⟨R, 0, none⟩)] W0 fun e w' => ∃ (a : Option Addr) (m c : Nat), e = .returned (.slice a m c) ∧ w'.cell? ⟨C, 0, none⟩ = some (.pointer (some ⟨R, 0, none⟩)) ∧ Hid (∃ ts st1, TextIs st ts st1 ∧ ClI W0 C R st1 w' ∧ IsBody w' (fun b => w.heap.size < b) (.slice a m c) ts)) := by
    refine (text_any R st W0 H0.out.rdr).mono ?_
    rintro e w' ⟨a, m, c, ts, st1, rfl, rfl, h2, h3, h4, h5, h6⟩
    have h7 := H0.out.next hne h5 h6
    exact ⟨a, _, c, rfl, h7.cap, ts, st1, h4, h7, a, c, rfl, h2, fun _ ad hd => by have := h3 ad hd; have := HS.out; omega⟩
  have c2 : Hid (∀ (V : World) (a : Option Addr) (m c : Nat), (∃ ts st1, TextIs st ts st1 ∧ ClI W0 C R st1 V ∧ IsBody V (fun b => w.heap.size < b) (.slice a m c) ts) → Calls Try.prog 76 #[.pointer (some ⟨R, 0, none⟩)] V fun e w' => ∃ g : Bool, e = .returned (.bool g) ∧ w'.cell? ⟨C, 0, none⟩ = some (.pointer (some ⟨R, 0, none⟩)) ∧ Hid (∃ ts st1 st2, TextIs st ts st1 ∧ GoneIs st1 g st2 ∧ ClI W0 C R st2 w' ∧ IsBody w' (fun b => w.heap.size < b) (.slice a m c) ts)) := fun V a m c ⟨ts, st1, g1, g2, g3⟩ => by
    refine (gone_any R st1 V g2.rdr).mono ?_
    rintro e w' ⟨g, st2, rfl, h4, h5, h6⟩
    have h7 := g2.next hne h5 h6
    exact ⟨g, rfl, h7.cap, ts, st1, st2, g1, h4, h7, g3.move (kept_old h6 (by have := HR.out; omega)) (fun _ _ q => q)⟩
  have c3 : Hid (∀ (V : World) (a : Option Addr) (m c : Nat) (g : Bool), (∃ ts st1 st2, TextIs st ts st1 ∧ GoneIs st1 g st2 ∧ ClI W0 C R st2 V ∧ IsBody V (fun b => w.heap.size < b) (.slice a m c) ts) → Calls Try.prog 73 #[.pointer (some ⟨R, 0, none⟩)] V fun e w' => ∃ (a2 : Option Addr) (m2 c2 : Nat), e = .returned (.slice a2 m2 c2) ∧ Tri w' w.heap.size (.slice none 0 0) (.slice none 0 0) (.bool false) ∧ Hid (∃ x st2, OneIs cutWt st x st2 ∧ ClI W0 C R st2 w' ∧ kWt.rel (fun b => w.heap.size < b) w' x [.slice a m c, .slice a2 m2 c2, .bool g])) := fun V a m c g ⟨ts, st1, st2, g1, g4, g2, g3⟩ => by
    refine (text_any R st2 V g2.rdr).mono ?_
    rintro e w' ⟨a2, m2, c2, ts2, st3, rfl, rfl, h2, h3, h4, h5, h6⟩
    have h7 := g2.next hne h5 h6
    refine ⟨a2, _, c2, rfl, HT.out.grown h7.grown (by have := HR.out; omega), ⟨ts, ts2, g⟩, st3, wt_of g1 g4 h4, h7, _, _, rfl, g3.move (kept_old h6 (by have := HR.out; omega)) (fun _ _ q => q), a2, c2, rfl, h2, fun _ ad hd => ?_⟩
    have := h3 ad hd
    have := g2.grown.size
    have := HS.out
    omega
  have k0 := H0.out.cap
  clear hne
  go_wp2_with (first
    | (go_at_call 73; (with_reducible refine c1.out.mono ?_); clear c1; rintro e w1 ⟨a, m, c, rfl, k1, H1⟩)
    | (go_at_call 76; (with_reducible refine (c2.out _ _ _ _ H1.out).mono ?_); clear c2; rintro e w3 ⟨g, rfl, k3, H3⟩)
    | (go_at_call 73; (with_reducible refine (c3.out _ _ _ _ _ H3.out).mono ?_); clear c3; rintro e w2 ⟨a2, m2, c2, rfl, ⟨t0, t1, t4, t2, t3, t5⟩, H2⟩))
  obtain ⟨x, st2, g1, g2, g3⟩ := H2.out
  have ht := (Tri.mk t0 t1 t4 t2 t3 t5).set (.slice a m c) (.slice a2 m2 c2) (.bool g)
  have h6 : Kept (fun b => w.heap.size < b) w2 (((w2.setCell ⟨w.heap.size, 0, none⟩ (.slice a m c)).setCell ⟨w.heap.size, 1, none⟩ (.slice a2 m2 c2)).setCell ⟨w.heap.size, 2, none⟩ (.bool g)) := ⟨by simp, fun b _ ho => (heap_setCell_other _ _ _ _ (Nat.ne_of_gt ho)).trans ((heap_setCell_other _ _ _ _ (Nat.ne_of_gt ho)).trans (heap_setCell_other _ _ _ _ (Nat.ne_of_gt ho)))⟩
  have hR := HR.out
  have h7 : w.grownBy (((w2.setCell ⟨w.heap.size, 0, none⟩ (.slice a m c)).setCell ⟨w.heap.size, 1, none⟩ (.slice a2 m2 c2)).setCell ⟨w.heap.size, 2, none⟩ (.bool g)) (some R) := by
    have q1 : w.grownBy w2 (some R) := grown_trans (grown_below HB.out _) g2.grown
    have q2 := (below_two (Below.refl w.heap.size w2) (Nat.le_refl _) (.slice a m c) (.slice a2 m2 c2)).setCell (p := ⟨w.heap.size, 2, none⟩) (Nat.le_refl _) (.bool g)
    exact ⟨q2.os.trans q1.os, q2.tape.trans q1.tape, q2.output.trans q1.output, Nat.le_trans q1.size q2.size, fun b hb hn => (q2.block b hb).trans (q1.block b hb hn)⟩
  have h8 : RdrS (((w2.setCell ⟨w.heap.size, 0, none⟩ (.slice a m c)).setCell ⟨w.heap.size, 1, none⟩ (.slice a2 m2 c2)).setCell ⟨w.heap.size, 2, none⟩ (.bool g)) R st2 := (g2.rdr.other (grown_set (j := 0) (.slice a m c)) hR).other (grown_set (j := 1) (.slice a2 m2 c2)) hR |>.other (grown_set (j := 2) (.bool g)) hR
  have z0 := ht.c0
  have z1 := ht.c1
  have z2 := ht.c2
  generalize ((w2.setCell _ _).setCell _ _).setCell _ _ = W9 at ht h6 h7 h8 z0 z1 z2 ⊢
  go_wp2
  exact bodyPost_ret (v := .agg #[.slice a m c, .slice a2 m2 c2, .bool g]) (by simp [results, Try.results75, go_sem, asAddr, z0, z1, z2]) rfl (HP.out _ _ ⟨a, m, c, a2, m2, c2, g, x, st2, rfl, kWt.move h6 (fun _ _ q => q) g3, g1, h8, h7⟩)

end Go.Proofs.Ytndnbkgejdindaa

/- Many things that are read. -/
namespace Go.Proofs.Ytndnbkgejdindaa
open Go.ChangeShapes Go.WideShapes Go.ChangeAt Go.RowKit

section
variable {α : Type} {f : List Int → Option (α × List Int)}

theorem cutN_snoc : ∀ {k : Nat} {b r r' : List Int} {l : List α} {x : α}, cutN f k b = some (l, r) → f r = some (x, r') → cutN f (k + 1) b = some (l ++ [x], r')
  | 0, b, r, r', l, x, h, hf => by
    simp only [cutN, Option.some.injEq, Prod.mk.injEq] at h
    obtain ⟨rfl, rfl⟩ := h
    simp only [cutN, hf, List.nil_append]
  | k + 1, b, r, r', l, x, h, hf => by
    unfold cutN at h
    cases h1 : f b with
    | none => rw [h1] at h; cases h
    | some p =>
      obtain ⟨y, r1⟩ := p
      rw [h1] at h
      cases h2 : cutN f k r1 with
      | none => simp only [h2] at h; cases h
      | some p =>
        obtain ⟨l2, r2⟩ := p
        simp only [h2, Option.some.injEq, Prod.mk.injEq] at h
        obtain ⟨rfl, rfl⟩ := h
        have h3 := cutN_snoc h2 hf
        show (match f b with | some (x, r) => (match cutN f (k + 1) r with | some (l, r) => some (x :: l, r) | none => none) | none => none) = _
        rw [h1]
        simp only [h3, List.cons_append]

theorem cutN_torn : ∀ {k n : Nat} {b r : List Int} {l : List α}, cutN f k b = some (l, r) → f r = none → k < n → cutN f n b = none
  | 0, n + 1, b, r, l, h, hf, _ => by
    simp only [cutN, Option.some.injEq, Prod.mk.injEq] at h
    obtain ⟨rfl, rfl⟩ := h
    simp only [cutN, hf]
  | k + 1, n + 1, b, r, l, h, hf, hk => by
    unfold cutN at h
    cases h1 : f b with
    | none => rw [h1] at h; cases h
    | some p =>
      obtain ⟨y, r1⟩ := p
      rw [h1] at h
      cases h2 : cutN f k r1 with
      | none => simp only [h2] at h; cases h
      | some p =>
        obtain ⟨l2, r2⟩ := p
        simp only [h2, Option.some.injEq, Prod.mk.injEq] at h
        obtain ⟨rfl, rfl⟩ := h
        have h3 := cutN_torn (n := n) h2 hf (by omega)
        simp only [cutN, h1, h3]

theorem cutN_len (hf : ∀ b x r, f b = some (x, r) → r.length < b.length) : ∀ {k : Nat} {b r : List Int} {l : List α}, cutN f k b = some (l, r) → l.length = k ∧ k + r.length ≤ b.length
  | 0, b, r, l, h => by
    simp only [cutN, Option.some.injEq, Prod.mk.injEq] at h
    obtain ⟨rfl, rfl⟩ := h
    simp
  | k + 1, b, r, l, h => by
    unfold cutN at h
    cases h1 : f b with
    | none => rw [h1] at h; cases h
    | some p =>
      obtain ⟨y, r1⟩ := p
      rw [h1] at h
      cases h2 : cutN f k r1 with
      | none => simp only [h2] at h; cases h
      | some p =>
        obtain ⟨l2, r2⟩ := p
        simp only [h2, Option.some.injEq, Prod.mk.injEq] at h
        obtain ⟨rfl, rfl⟩ := h
        have h3 := cutN_len hf h2
        have h4 := hf _ _ _ h1
        simp only [List.length_cons]
        omega

/-- many things: what is read, and what is left -/
def ManyIs (f : List Int → Option (α × List Int)) (st : Option (List Int)) (l : List α) (st' : Option (List Int)) : Prop := (∃ n b r, st.bind cut4 = some (n, b) ∧ cutN f n b = some (l, r) ∧ st' = some r) ∨ ((∀ n b, st.bind cut4 = some (n, b) → cutN f n b = none) ∧ st' = none)

/-- so many have been read -/
def Prgs (f : List Int → Option (α × List Int)) (st : Option (List Int)) (n : Nat) (l : List α) (st2 : Option (List Int)) : Prop := (∃ b r, st.bind cut4 = some (n, b) ∧ b.length ≤ 4000 ∧ cutN f l.length b = some (l, r) ∧ st2 = some r) ∨ ((∀ n b, st.bind cut4 = some (n, b) → cutN f n b = none) ∧ st2 = none)

theorem Prgs.start {st st1 : Option (List Int)} {n : Nat} (h : NumIs st n st1) (hf : ∀ b, st1 = some b → b.length ≤ 4000) : Prgs f st n [] st1 := by
  rcases h with ⟨m, r, e, em, rfl⟩ | ⟨e, _, rfl⟩
  · have em2 : n = m := by omega
    subst em2
    exact .inl ⟨r, r, e, hf r rfl, rfl, rfl⟩
  · exact .inr ⟨fun n b e2 => (by rw [e] at e2; cases e2), rfl⟩

theorem Prgs.step {st st2 st3 : Option (List Int)} {n : Nat} {l : List α} {x : α} (h : Prgs f st n l st2) (hn : l.length < n) (h2 : st2 ≠ none) (h1 : OneIs f st2 x st3) : Prgs f st n (l ++ [x]) st3 := by
  rcases h with ⟨b, r, e, hb, hc, rfl⟩ | ⟨_, rfl⟩
  · rcases h1 with ⟨r2, e2, rfl⟩ | ⟨e2, rfl⟩
    · exact .inl ⟨b, r2, e, hb, by rw [List.length_append]; exact cutN_snoc hc e2, rfl⟩
    · refine .inr ⟨fun n' b' e3 => ?_, rfl⟩
      rw [e] at e3
      cases e3
      exact cutN_torn hc e2 hn
  · exact absurd rfl h2

theorem Prgs.done {st st2 : Option (List Int)} {n : Nat} {l : List α} (h : Prgs f st n l st2) (hn : l.length = n ∨ st2 = none) : ManyIs f st l st2 := by
  rcases h with ⟨b, r, e, _, hc, rfl⟩ | h
  · rcases hn with rfl | hn
    · exact .inl ⟨_, b, r, e, hc, rfl⟩
    · cases hn
  · exact .inr h

theorem Prgs.few {st st2 : Option (List Int)} {n : Nat} {l : List α} (hf : ∀ b x r, f b = some (x, r) → r.length < b.length) (h : Prgs f st n l st2) (h2 : st2 ≠ none) : l.length ≤ 4000 := by
  rcases h with ⟨b, r, _, hb, hc, rfl⟩ | ⟨_, rfl⟩
  · have := (cutN_len hf hc).2
    omega
  · exact absurd rfl h2

end

theorem cut4_len {b r : List Int} {n : Nat} (h : cut4 b = some (n, r)) : r.length + 4 = b.length := by
  unfold cut4 at h
  split at h
  · simp only [Option.some.injEq, Prod.mk.injEq] at h
    rw [← h.2, List.length_drop]
    omega
  · cases h

theorem cutT_len {b x r : List Int} (h : cutT b = some (x, r)) : r.length + 4 ≤ b.length := by
  unfold cutT at h
  cases hc : cut4 b with
  | none => rw [hc] at h; cases h
  | some p =>
    obtain ⟨n, q⟩ := p
    rw [hc] at h
    have := cut4_len hc
    simp only at h
    split at h
    · simp only [Option.some.injEq, Prod.mk.injEq] at h
      rw [← h.2, List.length_drop]
      omega
    · cases h

theorem cutRd_len : ∀ (b : List Int) (x : Ent) (r : List Int), cutRd b = some (x, r) → r.length < b.length := by
  intro b x r h
  unfold cutRd at h
  cases h1 : cutT b with
  | none => rw [h1] at h; cases h
  | some p =>
    obtain ⟨lo, r1⟩ := p
    rw [h1] at h
    cases h2 : cutT r1 with
    | none => simp only [h2] at h; cases h
    | some p =>
      obtain ⟨hi, r2⟩ := p
      simp only [h2, Option.some.injEq, Prod.mk.injEq] at h
      have := cutT_len h1
      have := cutT_len h2
      rw [← h.2]
      omega

theorem cutWt_len : ∀ (b : List Int) (x : Wt) (r : List Int), cutWt b = some (x, r) → r.length < b.length := by
  intro b x r h
  unfold cutWt at h
  cases h1 : cutT b with
  | none => rw [h1] at h; cases h
  | some p =>
    obtain ⟨k, r1⟩ := p
    rw [h1] at h
    cases h2 : cutB r1 with
    | none => simp only [h2] at h; cases h
    | some p =>
      obtain ⟨g, r2⟩ := p
      have e2 := cutB_inv h2
      cases h3 : cutT r2 with
      | none => simp only [h2, h3] at h; cases h
      | some p =>
        obtain ⟨v, r3⟩ := p
        simp only [h2, h3, Option.some.injEq, Prod.mk.injEq] at h
        have := cutT_len h1
        have := cutT_len h3
        rw [e2] at h1
        have e3 : r1.length = r2.length + 1 := by rw [e2]; rfl
        rw [← h.2]
        omega

/-- how many a slice has -/
def slLen : Value → Nat
  | .slice _ m _ => m
  | _ => 0

theorem grown_own {w w4 w5 : World} {R : Nat} {o : Option Nat} (h : w.grownBy w4 (some R)) (hg : w4.grownBy w5 o) (ho : ∀ g, o = some g → w.heap.size ≤ g) : w.grownBy w5 (some R) :=
  ⟨hg.os.trans h.os, hg.tape.trans h.tape, hg.output.trans h.output, Nat.le_trans h.size hg.size, fun b hb hn => (hg.block b (Nat.lt_of_lt_of_le hb h.size) (fun e => by have := ho b e.symm; omega)).trans (h.block b hb hn)⟩

theorem RdrS.own {w w' : World} {R : Nat} {o : Option Nat} {st : Option (List Int)} (h : RdrS w R st) (hg : w.grownBy w' o) (ho : ∀ g, o = some g → R < g) : RdrS w' R st := by
  obtain ⟨a, m, cap, t, xs, h, e⟩ := h
  have hb : w'.heap[R]? = w.heap[R]? := hg.block R (World.block_lt_of_cell? _ _ h.two.c0) (fun e => by have := ho R e.symm; omega)
  exact ⟨a, m, cap, t, xs, ⟨⟨(World.cell?_of_block hb).trans h.two.c0, (World.cell?_of_block hb).trans h.two.c1, (World.frozen?_of_block hb).trans h.two.f0, (World.frozen?_of_block hb).trans h.two.f1⟩, h.len, h.octs.grown hg (fun _ ad had e => by have := h.ne ad had; have := ho _ e; omega), h.ples, h.ne, h.few⟩, e⟩

theorem RdrS.few {w : World} {R : Nat} {st : Option (List Int)} (h : RdrS w R st) : ∀ b, st = some b → b.length ≤ 4000 := fun b e => by
  obtain ⟨a, m, cap, t, xs, h, e2⟩ := h
  cases t with
  | true => rw [e2] at e; cases e
  | false => rw [e2] at e; cases e; exact h.few

/-- what many come to -/
def ManyRPost (R : Nat) (st : Option (List Int)) (w : World) (e : Ending) (w' : World) : Prop := ∃ (a : Option Addr) (n c : Nat) (l : List Ent) (st' : Option (List Int)), e = .returned (.slice a n c) ∧ n = l.length ∧ n ≤ 4001 ∧ Lies kEnt (fun b => w.heap.size ≤ b) w' a c l ∧ Ples a c ∧ ManyIs cutRd st l st' ∧ RdrS w' R st' ∧ w.grownBy w' (some R)

/-- on the way -/
structure ManR (w : World) (C R : Nat) (st : Option (List Int)) (n : Nat) (a : Option Addr) (m c : Nat) (l : List Ent) (st2 : Option (List Int)) (wr : World) : Prop where
  cli : ClI w C R st2 wr
  rows : Rows kEnt (fun b => w.heap.size ≤ b) wr w.heap.size 76 (.slice a m c) l
  len : m = l.length
  prog : Prgs cutRd st n l st2
  few : m ≤ 4001
  le : m ≤ n

set_option maxRecDepth 100000 in
set_option maxHeartbeats 8000000 in
theorem manyR_any (C R : Nat) (st : Option (List Int)) (w : World) (h : RdrS w R st) (hc : w.cell? ⟨C, 0, none⟩ = some (.pointer (some ⟨R, 0, none⟩))) (hne : C ≠ R) :
    Calls Try.prog 71 #[.pointer (some ⟨R, 0, none⟩), .func (.func 72) #[] #[.pointer (some ⟨C, 0, none⟩)]] w fun e w' => ManyRPost R st w e w' := by
  generalize hpost : (fun e w' => ManyRPost R st w e w') = Q
  have HO : Hid (∀ w', ¬ Q .outgrown w') := fun w' hh => by
    rw [← hpost] at hh
    obtain ⟨a, n, c, l, st', h, -⟩ := hh
    cases h
  have HP : Hid (∀ e w', ManyRPost R st w e w' → Q e w') := fun e w' h => by rw [← hpost]; exact h
  clear hpost
  have hR : R < w.heap.size := by obtain ⟨a, m, cap, t, xs, h, -⟩ := h; exact World.block_lt_of_cell? _ _ h.two.c0
  have HR : Hid (R < w.heap.size ∧ C ≠ R ∧ C < w.heap.size) := ⟨hR, hne, World.block_lt_of_cell? _ _ hc⟩
  have c0 : Hid (Calls Try.prog 70 #[.pointer (some ⟨R, 0, none⟩)] w fun e w' => ∃ n : Nat, e = .returned (.int .i64 (n : Int)) ∧ n ≤ 4294967295 ∧ Hid (∃ st1, ManR w C R st n none 0 0 [] st1 w')) := by
    refine (number_any R st w h).mono ?_
    rintro e w' ⟨v, st1, rfl, ⟨v0, v1⟩, h1, h2, h3⟩
    obtain ⟨n, rfl⟩ := Int.eq_ofNat_of_zero_le v0
    exact ⟨n, rfl, by omega, st1, ⟨cell_grown hc h3 hne, h2, h3⟩, Rows.nil _ _ _ _ _, rfl, Prgs.start h1 h2.few, by omega, by omega⟩
  have c1 : Hid (∀ (V : World) (n : Nat) (a : Option Addr) (m c : Nat) (l : List Ent) (st2 : Option (List Int)), ManR w C R st n a m c l st2 V → st2 ≠ none → m < n → Calls Try.prog 72 #[.pointer (some ⟨C, 0, none⟩)] V fun e w' => ∃ (a1 : Option Addr) (m1 c1 : Nat) (a2 : Option Addr) (m2 c2 : Nat) (x : Ent), e = .returned (.agg #[.slice a1 m1 c1, .slice a2 m2 c2]) ∧ Hid (kEnt.rel (fun b => w.heap.size ≤ b ∧ (Value.slice a m c).ownBlock ≠ some b) w' x [.slice a1 m1 c1, .slice a2 m2 c2] ∧ Rows kEnt (fun b => w.heap.size ≤ b) w' w.heap.size 76 (.slice a m c) l ∧ m = l.length ∧ m ≤ 4000 ∧ ∃ st3, Prgs cutRd st n (l ++ [x]) st3 ∧ ClI w C R st3 w')) := fun V n a m c l st2 hM h2 hn => by
    refine (rng_any C R st2 V hM.cli.rdr hM.cli.cap HR.out.2.1).mono ?_
    rintro e w' ⟨a1, m1, c1, a2, m2, c2, x, st3, rfl, h1, h4, h5, h6⟩
    have hR := HR.out.1
    have hV := hM.cli.grown.size
    have hlt := rows_lt hM.rows
    have hl : m ≤ 4000 := by rw [hM.len]; exact hM.prog.few cutRd_len h2
    refine ⟨a1, m1, c1, a2, m2, c2, x, rfl, kEnt.move (Kept.of_below (Below.refl _ _)) (fun b _ hb => ⟨by omega, fun e => by have := (hlt b e).2; omega⟩) h1, hM.rows.move (kept_old h6 (by omega)) (fun g e => h6.block g (hlt g e).2 (fun e2 => by have := (hlt g e).1; have := Option.some.inj e2; omega)), hM.len, hl, st3, hM.prog.step (by rw [← hM.len]; exact hn) h2 h4, hM.cli.next HR.out.2.1 h5 h6⟩
  clear h hc hne hR
  go_enter Try.func71, Try.ntmps71
  go_upto_region 2 with (first
    | (go_at_call 70; (with_reducible refine c0.out.mono ?_); clear c0; rintro e w1 ⟨n, rfl, hn, H1⟩))
  go_wp2
  go_loopw [6] (fun s wr => ∃ (a : Option Addr) (m c : Nat), m ≤ 4001 ∧ s = .slice a m c ∧ Hid (∃ (l : List Ent) (st2 : Option (List Int)), ManR w C R st n a m c l st2 wr)) (fun s _ => n - slLen s)
  case atStart => exact ⟨none, 0, 0, by omega, rfl, [], H1.out⟩
  case round =>
    obtain ⟨a, m, c, hm, rfl, H⟩ := hrel
    rename World => wr
    obtain ⟨l, st2, HM⟩ := H.out
    have HM := put_by HM
    clear H
    obtain ⟨ra, rm, rc, t, xs, hr, hst⟩ := HM.out.cli.rdr
    have k1 := hr.two.c1
    clear hr
    have HE : Hid (∀ l2 st4, ManR w C R st n a m c l2 st4 wr → (m = n ∨ st4 = none) → ManyRPost R st w (.returned (.slice a m c)) wr) := fun l2 st4 hM h2 => by
      obtain ⟨q1, q2, q3, -⟩ := rows_lies hM.rows (fun _ h => h)
      exact ⟨a, m, c, l2, st4, rfl, hM.len, hM.few, q2, q3, hM.prog.done (h2.imp (fun e => by rw [← hM.len]; exact e) id), hM.cli.rdr, hM.cli.grown⟩
    by_cases hlt : m < n
    · have hlt1 : (m : Int) < (n : Int) := by omega
      cases t with
      | true =>
        have H9 := put_by (HE.out l st2 HM.out (.inr (by rw [hst]; rfl)))
        clear HM HE c1 hst
        go_wp2
        exact HP.out _ _ H9.out
      | false =>
        have d1 := put_by (c1.out wr n a m c l st2 HM.out (by rw [hst]; simp) hlt)
        have HS : Hid (w.heap.size ≤ wr.heap.size) := HM.out.cli.grown.size
        clear HM HE c1 hst
        go_wp2_with (first
          | (go_at_call 72; (with_reducible refine d1.out.mono ?_); clear d1; rintro e w4 ⟨a1, m1, c1, a2, m2, c2, x, rfl, H4⟩)
          | (at_builtin; obtain ⟨g1, g2, g3, g4, st3, g5, g6⟩ := H4.out; refine wpList_append_one (K := kEnt) (ok := fun b => w.heap.size ≤ b) eltR rfl (.tmp 20) (.tmp 23) rfl w.heap.size (.slice a m c) l rfl g2 x [.slice a1 m1 c1, .slice a2 m2 c2] _ _ rfl rfl g1 (fun b hb => by have := g6.grown.size; show w.heap.size ≤ b; omega) (by omega) (by decide) g6.grown.size ?_; intro v' w5 r1 r2 r3; obtain ⟨a6, c6, rfl⟩ := rows_form r1; have H6 : Hid (∃ st3, ManR w C R st n a6 (l ++ [x]).length c6 (l ++ [x]) st3 w5 ∧ (l ++ [x]).length = m + 1) := ⟨st3, ⟨⟨(World.cell?_of_block (r2.block C (World.block_lt_of_cell? _ _ g6.cap) (fun e => by have := (rows_lt g2 C e.symm).1; have := HR.out.2.2; omega))).trans g6.cap, g6.rdr.own r2 (fun g e => by have := (rows_lt g2 g e).1; have := HR.out.1; omega), grown_own g6.grown r2 (fun g e => (rows_lt g2 g e).1)⟩, r1, rfl, g5, by rw [List.length_append, List.length_singleton]; omega, by rw [List.length_append, List.length_singleton]; omega⟩, by rw [List.length_append, List.length_singleton, ← g3]⟩; clear g1 g2 g3 g4 g5 g6 r1 r2 r3 H4; generalize (l ++ [x]).length = m6 at H6 ⊢))
        go_roundw
        case rel => exact ⟨a6, m6, c6, by obtain ⟨_, h, _⟩ := H6.out; exact h.few, rfl, by obtain ⟨st3, h, _⟩ := H6.out; exact ⟨_, st3, h⟩⟩
        case measure =>
          obtain ⟨_, _, h⟩ := H6.out
          simp only [slLen]
          omega
    · have hlt1 : ¬ (m : Int) < (n : Int) := by omega
      have hmn : m = n := by have := HM.out.le; omega
      have H9 := put_by (HE.out l st2 HM.out (.inl hmn))
      clear HM HE c1 hst hmn
      go_wp2
      exact HP.out _ _ H9.out

/-- what many come to -/
def ManyWPost (R : Nat) (st : Option (List Int)) (w : World) (e : Ending) (w' : World) : Prop := ∃ (a : Option Addr) (n c : Nat) (l : List Wt) (st' : Option (List Int)), e = .returned (.slice a n c) ∧ n = l.length ∧ n ≤ 4001 ∧ Lies kWt (fun b => w.heap.size ≤ b) w' a c l ∧ Ples a c ∧ ManyIs cutWt st l st' ∧ RdrS w' R st' ∧ w.grownBy w' (some R)

/-- on the way -/
structure ManW (w : World) (C R : Nat) (st : Option (List Int)) (n : Nat) (a : Option Addr) (m c : Nat) (l : List Wt) (st2 : Option (List Int)) (wr : World) : Prop where
  cli : ClI w C R st2 wr
  rows : Rows kWt (fun b => w.heap.size ≤ b) wr w.heap.size 79 (.slice a m c) l
  len : m = l.length
  prog : Prgs cutWt st n l st2
  few : m ≤ 4001
  le : m ≤ n

set_option maxRecDepth 100000 in
set_option maxHeartbeats 8000000 in
theorem manyW_any (C R : Nat) (st : Option (List Int)) (w : World) (h : RdrS w R st) (hc : w.cell? ⟨C, 0, none⟩ = some (.pointer (some ⟨R, 0, none⟩))) (hne : C ≠ R) :
    Calls Try.prog 74 #[.pointer (some ⟨R, 0, none⟩), .func (.func 75) #[] #[.pointer (some ⟨C, 0, none⟩)]] w fun e w' => ManyWPost R st w e w' := by
  generalize hpost : (fun e w' => ManyWPost R st w e w') = Q
  have HO : Hid (∀ w', ¬ Q .outgrown w') := fun w' hh => by
    rw [← hpost] at hh
    obtain ⟨a, n, c, l, st', h, -⟩ := hh
    cases h
  have HP : Hid (∀ e w', ManyWPost R st w e w' → Q e w') := fun e w' h => by rw [← hpost]; exact h
  clear hpost
  have hR : R < w.heap.size := by obtain ⟨a, m, cap, t, xs, h, -⟩ := h; exact World.block_lt_of_cell? _ _ h.two.c0
  have HR : Hid (R < w.heap.size ∧ C ≠ R ∧ C < w.heap.size) := ⟨hR, hne, World.block_lt_of_cell? _ _ hc⟩
  have c0 : Hid (Calls Try.prog 70 #[.pointer (some ⟨R, 0, none⟩)] w fun e w' => ∃ n : Nat, e = .returned (.int .i64 (n : Int)) ∧ n ≤ 4294967295 ∧ Hid (∃ st1, ManW w C R st n none 0 0 [] st1 w')) := by
    refine (number_any R st w h).mono ?_
    rintro e w' ⟨v, st1, rfl, ⟨v0, v1⟩, h1, h2, h3⟩
    obtain ⟨n, rfl⟩ := Int.eq_ofNat_of_zero_le v0
    exact ⟨n, rfl, by omega, st1, ⟨cell_grown hc h3 hne, h2, h3⟩, Rows.nil _ _ _ _ _, rfl, Prgs.start h1 h2.few, by omega, by omega⟩
  have c1 : Hid (∀ (V : World) (n : Nat) (a : Option Addr) (m c : Nat) (l : List Wt) (st2 : Option (List Int)), ManW w C R st n a m c l st2 V → st2 ≠ none → m < n → Calls Try.prog 75 #[.pointer (some ⟨C, 0, none⟩)] V fun e w' => ∃ (a1 : Option Addr) (m1 c1 : Nat) (a2 : Option Addr) (m2 c2 : Nat) (g9 : Bool) (x : Wt), e = .returned (.agg #[.slice a1 m1 c1, .slice a2 m2 c2, .bool g9]) ∧ Hid (kWt.rel (fun b => w.heap.size ≤ b ∧ (Value.slice a m c).ownBlock ≠ some b) w' x [.slice a1 m1 c1, .slice a2 m2 c2, .bool g9] ∧ Rows kWt (fun b => w.heap.size ≤ b) w' w.heap.size 79 (.slice a m c) l ∧ m = l.length ∧ m ≤ 4000 ∧ ∃ st3, Prgs cutWt st n (l ++ [x]) st3 ∧ ClI w C R st3 w')) := fun V n a m c l st2 hM h2 hn => by
    refine (wt_any C R st2 V hM.cli.rdr hM.cli.cap HR.out.2.1).mono ?_
    rintro e w' ⟨a1, m1, c1, a2, m2, c2, g9, x, st3, rfl, h1, h4, h5, h6⟩
    have hR := HR.out.1
    have hV := hM.cli.grown.size
    have hlt := rows_lt hM.rows
    have hl : m ≤ 4000 := by rw [hM.len]; exact hM.prog.few cutWt_len h2
    refine ⟨a1, m1, c1, a2, m2, c2, g9, x, rfl, kWt.move (Kept.of_below (Below.refl _ _)) (fun b _ hb => ⟨by omega, fun e => by have := (hlt b e).2; omega⟩) h1, hM.rows.move (kept_old h6 (by omega)) (fun g e => h6.block g (hlt g e).2 (fun e2 => by have := (hlt g e).1; have := Option.some.inj e2; omega)), hM.len, hl, st3, hM.prog.step (by rw [← hM.len]; exact hn) h2 h4, hM.cli.next HR.out.2.1 h5 h6⟩
  clear h hc hne hR
  go_enter Try.func74, Try.ntmps74
  go_upto_region 2 with (first
    | (go_at_call 70; (with_reducible refine c0.out.mono ?_); clear c0; rintro e w1 ⟨n, rfl, hn, H1⟩))
  go_wp2
  go_loopw [6] (fun s wr => ∃ (a : Option Addr) (m c : Nat), m ≤ 4001 ∧ s = .slice a m c ∧ Hid (∃ (l : List Wt) (st2 : Option (List Int)), ManW w C R st n a m c l st2 wr)) (fun s _ => n - slLen s)
  case atStart => exact ⟨none, 0, 0, by omega, rfl, [], H1.out⟩
  case round =>
    obtain ⟨a, m, c, hm, rfl, H⟩ := hrel
    rename World => wr
    obtain ⟨l, st2, HM⟩ := H.out
    have HM := put_by HM
    clear H
    obtain ⟨ra, rm, rc, t, xs, hr, hst⟩ := HM.out.cli.rdr
    have k1 := hr.two.c1
    clear hr
    have HE : Hid (∀ l2 st4, ManW w C R st n a m c l2 st4 wr → (m = n ∨ st4 = none) → ManyWPost R st w (.returned (.slice a m c)) wr) := fun l2 st4 hM h2 => by
      obtain ⟨q1, q2, q3, -⟩ := rows_lies hM.rows (fun _ h => h)
      exact ⟨a, m, c, l2, st4, rfl, hM.len, hM.few, q2, q3, hM.prog.done (h2.imp (fun e => by rw [← hM.len]; exact e) id), hM.cli.rdr, hM.cli.grown⟩
    by_cases hlt : m < n
    · have hlt1 : (m : Int) < (n : Int) := by omega
      cases t with
      | true =>
        have H9 := put_by (HE.out l st2 HM.out (.inr (by rw [hst]; rfl)))
        clear HM HE c1 hst
        go_wp2
        exact HP.out _ _ H9.out
      | false =>
        have d1 := put_by (c1.out wr n a m c l st2 HM.out (by rw [hst]; simp) hlt)
        have HS : Hid (w.heap.size ≤ wr.heap.size) := HM.out.cli.grown.size
        clear HM HE c1 hst
        go_wp2_with (first
          | (go_at_call 75; (with_reducible refine d1.out.mono ?_); clear d1; rintro e w4 ⟨a1, m1, c1, a2, m2, c2, g9, x, rfl, H4⟩)
          | (at_builtin; obtain ⟨g1, g2, g3, g4, st3, g5, g6⟩ := H4.out; refine wpList_append_one (K := kWt) (ok := fun b => w.heap.size ≤ b) eltW rfl (.tmp 20) (.tmp 23) rfl w.heap.size (.slice a m c) l rfl g2 x [.slice a1 m1 c1, .slice a2 m2 c2, .bool g9] _ _ rfl rfl g1 (fun b hb => by have := g6.grown.size; show w.heap.size ≤ b; omega) (by omega) (by decide) g6.grown.size ?_; intro v' w5 r1 r2 r3; obtain ⟨a6, c6, rfl⟩ := rows_form r1; have H6 : Hid (∃ st3, ManW w C R st n a6 (l ++ [x]).length c6 (l ++ [x]) st3 w5 ∧ (l ++ [x]).length = m + 1) := ⟨st3, ⟨⟨(World.cell?_of_block (r2.block C (World.block_lt_of_cell? _ _ g6.cap) (fun e => by have := (rows_lt g2 C e.symm).1; have := HR.out.2.2; omega))).trans g6.cap, g6.rdr.own r2 (fun g e => by have := (rows_lt g2 g e).1; have := HR.out.1; omega), grown_own g6.grown r2 (fun g e => (rows_lt g2 g e).1)⟩, r1, rfl, g5, by rw [List.length_append, List.length_singleton]; omega, by rw [List.length_append, List.length_singleton]; omega⟩, by rw [List.length_append, List.length_singleton, ← g3]⟩; clear g1 g2 g3 g4 g5 g6 r1 r2 r3 H4; generalize (l ++ [x]).length = m6 at H6 ⊢))
        go_roundw
        case rel => exact ⟨a6, m6, c6, by obtain ⟨_, h, _⟩ := H6.out; exact h.few, rfl, by obtain ⟨st3, h, _⟩ := H6.out; exact ⟨_, st3, h⟩⟩
        case measure =>
          obtain ⟨_, _, h⟩ := H6.out
          simp only [slLen]
          omega
    · have hlt1 : ¬ (m : Int) < (n : Int) := by omega
      have hmn : m = n := by have := HM.out.le; omega
      have H9 := put_by (HE.out l st2 HM.out (.inl hmn))
      clear HM HE c1 hst hmn
      go_wp2
      exact HP.out _ _ H9.out

end Go.Proofs.Ytndnbkgejdindaa
