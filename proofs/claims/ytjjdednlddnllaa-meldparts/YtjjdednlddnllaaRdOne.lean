/- One read and one write that are read. -/
import Derived.Test.YtjjdednlddnllaaRdGone
namespace Go.Proofs.Ytjjdednlddnllaa
open Go.ChangeShapes Go.WideShapes Go.ChangeAt Go.RowKit

theorem cell_grown {w w' : World} {R C j : Nat} {u : Value} (h : w.cell? ⟨C, j, none⟩ = some u) (hg : w.grownBy w' (some R)) (hne : C ≠ R) : w'.cell? ⟨C, j, none⟩ = some u :=
  (World.cell?_of_block (hg.block C (World.block_lt_of_cell? _ _ h) (fun e => hne (Option.some.inj e)))).trans h

theorem frozen_grown {w w' : World} {R C j : Nat} (hlt : C < w.heap.size) (h : w.frozen? ⟨C, j, none⟩ = false) (hg : w.grownBy w' (some R)) (hne : C ≠ R) : w'.frozen? ⟨C, j, none⟩ = false :=
  (World.frozen?_of_block (hg.block C hlt (fun e => hne (Option.some.inj e)))).trans h

theorem Two.grown {w w' : World} {R B : Nat} {u v : Value} (h : Two w B u v) (hg : w.grownBy w' (some R)) (hne : B ≠ R) : Two w' B u v :=
  have hlt := World.block_lt_of_cell? _ _ h.c0
  ⟨cell_grown h.c0 hg hne, cell_grown h.c1 hg hne, frozen_grown hlt h.f0 hg hne, frozen_grown hlt h.f1 hg hne⟩

/-- a variable of three cells -/
structure Tri (W : World) (B : Nat) (u v t : Value) : Prop where
  c0 : W.cell? ⟨B, 0, none⟩ = some u
  c1 : W.cell? ⟨B, 1, none⟩ = some v
  c2 : W.cell? ⟨B, 2, none⟩ = some t
  f0 : W.frozen? ⟨B, 0, none⟩ = false
  f1 : W.frozen? ⟨B, 1, none⟩ = false
  f2 : W.frozen? ⟨B, 2, none⟩ = false

theorem Tri.new (W : World) (u v t : Value) (ty : TypeId) : Tri (W.alloc (.cells #[u, v, t] ty)) W.heap.size u v t := ⟨by simp, by simp, by simp, by simp, by simp, by simp⟩

theorem Tri.grown {w w' : World} {R B : Nat} {u v t : Value} (h : Tri w B u v t) (hg : w.grownBy w' (some R)) (hne : B ≠ R) : Tri w' B u v t :=
  have hlt := World.block_lt_of_cell? _ _ h.c0
  ⟨cell_grown h.c0 hg hne, cell_grown h.c1 hg hne, cell_grown h.c2 hg hne, frozen_grown hlt h.f0 hg hne, frozen_grown hlt h.f1 hg hne, frozen_grown hlt h.f2 hg hne⟩

theorem Tri.set {W : World} {B : Nat} {x y z : Value} (h : Tri W B x y z) (u v t : Value) : Tri (((W.setCell ⟨B, 0, none⟩ u).setCell ⟨B, 1, none⟩ v).setCell ⟨B, 2, none⟩ t) B u v t := by
  refine ⟨?_, ?_, ?_, ?_, ?_, ?_⟩
  · rw [World.cell?_setCell_other _ _ _ _ (by simp), World.cell?_setCell_other _ _ _ _ (by simp)]
    exact World.cell?_setCell_same' _ _ _ (by rw [h.c0]; rfl)
  · rw [World.cell?_setCell_other _ _ _ _ (by simp)]
    exact World.cell?_setCell_same' _ _ _ (by rw [World.cell?_setCell_other _ _ _ _ (by simp), h.c1]; rfl)
  · exact World.cell?_setCell_same' _ _ _ (by rw [World.cell?_setCell_other _ _ _ _ (by simp), World.cell?_setCell_other _ _ _ _ (by simp), h.c2]; rfl)
  · rw [World.frozen?_setCell, World.frozen?_setCell, World.frozen?_setCell]
    exact h.f0
  · rw [World.frozen?_setCell, World.frozen?_setCell, World.frozen?_setCell]
    exact h.f1
  · rw [World.frozen?_setCell, World.frozen?_setCell, World.frozen?_setCell]
    exact h.f2

/-- another block is written -/
theorem RdrS.other {w w' : World} {R B : Nat} {st : Option (List Int)} (h : RdrS w R st) (hg : w.grownBy w' (some B)) (hB : R < B) : RdrS w' R st := by
  obtain ⟨a, m, cap, t, xs, h, e⟩ := h
  exact ⟨a, m, cap, t, xs, ⟨h.two.grown hg (Nat.ne_of_lt hB), h.len, h.octs.grown hg (fun _ ad had e => by have := h.ne ad had; have := Option.some.inj e; omega), h.ples, h.ne, h.few⟩, e⟩

/-- one thing: what is read, and what is left -/
def OneIs {α : Type} (f : List Int → Option (α × List Int)) (st : Option (List Int)) (x : α) (st' : Option (List Int)) : Prop := (∃ r, st.bind f = some (x, r) ∧ st' = some r) ∨ (st.bind f = none ∧ st' = none)

theorem rd_of {st st1 st2 : Option (List Int)} {lo hi : List Int} (h1 : TextIs st lo st1) (h2 : TextIs st1 hi st2) : OneIs cutRd st (lo, hi) st2 := by
  cases st with
  | none =>
    rcases h1 with ⟨r, e, _⟩ | ⟨_, _, rfl⟩
    · cases e
    · rcases h2 with ⟨r, e, _⟩ | ⟨_, _, rfl⟩
      · cases e
      · exact .inr ⟨rfl, rfl⟩
  | some b =>
    rcases h1 with ⟨r, e, rfl⟩ | ⟨e, _, rfl⟩
    · replace e : cutT b = some (lo, r) := e
      rcases h2 with ⟨r2, e2, rfl⟩ | ⟨e2, _, rfl⟩
      · replace e2 : cutT r = some (hi, r2) := e2
        exact .inl ⟨r2, show cutRd b = _ by simp only [cutRd, e, e2], rfl⟩
      · replace e2 : cutT r = none := e2
        exact .inr ⟨show cutRd b = _ by simp only [cutRd, e, e2], rfl⟩
    · replace e : cutT b = none := e
      rcases h2 with ⟨r2, e2, _⟩ | ⟨_, _, rfl⟩
      · cases e2
      · exact .inr ⟨show cutRd b = _ by simp only [cutRd, e], rfl⟩

theorem wt_of {st st1 st2 st3 : Option (List Int)} {k v : List Int} {g : Bool} (h1 : TextIs st k st1) (h2 : GoneIs st1 g st2) (h3 : TextIs st2 v st3) : OneIs cutWt st ⟨k, v, g⟩ st3 := by
  cases st with
  | none =>
    rcases h1 with ⟨r, e, _⟩ | ⟨_, _, rfl⟩
    · cases e
    · rcases h2 with ⟨r, e, _⟩ | ⟨_, _, rfl⟩
      · cases e
      · rcases h3 with ⟨r, e, _⟩ | ⟨_, _, rfl⟩
        · cases e
        · exact .inr ⟨rfl, rfl⟩
  | some b =>
    rcases h1 with ⟨r, e, rfl⟩ | ⟨e, _, rfl⟩
    · replace e : cutT b = some (k, r) := e
      rcases h2 with ⟨r2, e2, rfl⟩ | ⟨e2, _, rfl⟩
      · replace e2 : cutB r = some (g, r2) := e2
        rcases h3 with ⟨r3, e3, rfl⟩ | ⟨e3, _, rfl⟩
        · replace e3 : cutT r2 = some (v, r3) := e3
          exact .inl ⟨r3, show cutWt b = _ by simp only [cutWt, e, e2, e3], rfl⟩
        · replace e3 : cutT r2 = none := e3
          exact .inr ⟨show cutWt b = _ by simp only [cutWt, e, e2, e3], rfl⟩
      · replace e2 : cutB r = none := e2
        rcases h3 with ⟨r3, e3, _⟩ | ⟨_, _, rfl⟩
        · cases e3
        · exact .inr ⟨show cutWt b = _ by simp only [cutWt, e, e2], rfl⟩
    · replace e : cutT b = none := e
      rcases h2 with ⟨r2, e2, _⟩ | ⟨_, _, rfl⟩
      · cases e2
      · rcases h3 with ⟨r3, e3, _⟩ | ⟨_, _, rfl⟩
        · cases e3
        · exact .inr ⟨show cutWt b = _ by simp only [cutWt, e], rfl⟩

/-- what a read that is read comes to -/
def RngPost (R : Nat) (st : Option (List Int)) (w : World) (e : Ending) (w' : World) : Prop := ∃ (a1 : Option Addr) (m1 c1 : Nat) (a2 : Option Addr) (m2 c2 : Nat) (x : Ent) (st' : Option (List Int)), e = .returned (.agg #[.slice a1 m1 c1, .slice a2 m2 c2]) ∧ kEnt.rel (fun b => w.heap.size < b) w' x [.slice a1 m1 c1, .slice a2 m2 c2] ∧ OneIs cutRd st x st' ∧ RdrS w' R st' ∧ w.grownBy w' (some R)

/-- what a write that is read comes to -/
def WtPost (R : Nat) (st : Option (List Int)) (w : World) (e : Ending) (w' : World) : Prop := ∃ (a1 : Option Addr) (m1 c1 : Nat) (a2 : Option Addr) (m2 c2 : Nat) (g : Bool) (x : Wt) (st' : Option (List Int)), e = .returned (.agg #[.slice a1 m1 c1, .slice a2 m2 c2, .bool g]) ∧ kWt.rel (fun b => w.heap.size < b) w' x [.slice a1 m1 c1, .slice a2 m2 c2, .bool g] ∧ OneIs cutWt st x st' ∧ RdrS w' R st' ∧ w.grownBy w' (some R)

/-- the world within: a variable that names the reader, the reader, all else as it was -/
structure ClI (w0 : World) (C R : Nat) (st : Option (List Int)) (W : World) : Prop where
  cap : W.cell? ⟨C, 0, none⟩ = some (.pointer (some ⟨R, 0, none⟩))
  rdr : RdrS W R st
  grown : w0.grownBy W (some R)

theorem ClI.next {w0 W W' : World} {C R : Nat} {st st' : Option (List Int)} (h : ClI w0 C R st W) (hne : C ≠ R) (hr : RdrS W' R st') (hg : W.grownBy W' (some R)) : ClI w0 C R st' W' :=
  ⟨cell_grown h.cap hg hne, hr, grown_trans h.grown hg⟩

theorem kept_old {w w' : World} {R : Nat} {ok : Nat → Prop} (hg : w.grownBy w' (some R)) (hok : ¬ ok R) : Kept ok w w' := Kept.of_grown hg (fun b hb e => hok (by rw [Option.some.inj e]; exact hb))

set_option maxHeartbeats 4000000 in
theorem rng_any (C R : Nat) (st : Option (List Int)) (w : World) (h : RdrS w R st) (hc : w.cell? ⟨C, 0, none⟩ = some (.pointer (some ⟨R, 0, none⟩))) (hne : C ≠ R) :
    Calls Try.prog 95 #[.pointer (some ⟨C, 0, none⟩)] w fun e w' => RngPost R st w e w' := by
  generalize hpost : (fun e w' => RngPost R st w e w') = Q
  have HP : Hid (∀ e w', RngPost R st w e w' → Q e w') := fun e w' h => by rw [← hpost]; exact h
  clear hpost
  have hR : R < w.heap.size := by obtain ⟨a, m, cap, t, xs, h, -⟩ := h; exact World.block_lt_of_cell? _ _ h.two.c0
  have hba := (Below.refl w.heap.size w).alloc (Nat.le_refl _) (.cells #[.slice none 0 0, .slice none 0 0] 97)
  have H0 : Hid (ClI (w.alloc (.cells #[.slice none 0 0, .slice none 0 0] 97)) C R st (w.alloc (.cells #[.slice none 0 0, .slice none 0 0] 97))) := ⟨(hba.cell (p := ⟨C, 0, none⟩) (World.block_lt_of_cell? _ _ hc)).trans hc, h.later hba, grown_refl _ _⟩
  have HT := put_by (Two.new w (.slice none 0 0) (.slice none 0 0) 97)
  have HB := put_by hba
  have HR := put_by hR
  clear h hc hba hR
  go_enter Try.func95, Try.ntmps95
  go_upto_region 1 with (fail)
  have HS : Hid ((w.alloc (.cells #[.slice none 0 0, .slice none 0 0] 97)).heap.size = w.heap.size + 1) := by simp [Hid]
  generalize w.alloc (.cells #[.slice none 0 0, .slice none 0 0] 97) = W0 at H0 HT HB HS ⊢
  have c1 : Hid (Calls Try.prog 96 #[.pointer (some ⟨R, 0, none⟩)] W0 fun e w' => ∃ (a : Option Addr) (m c : Nat), e = .returned (.slice a m c) ∧ w'.cell? ⟨C, 0, none⟩ = some (.pointer (some ⟨R, 0, none⟩)) ∧ Hid (∃ ts st1, TextIs st ts st1 ∧ ClI W0 C R st1 w' ∧ IsBody w' (fun b => w.heap.size < b) (.slice a m c) ts)) := by
    refine (text_any R st W0 H0.out.rdr).mono ?_
    rintro e w' ⟨a, m, c, ts, st1, rfl, rfl, h2, h3, h4, h5, h6⟩
    have h7 := H0.out.next hne h5 h6
    exact ⟨a, _, c, rfl, h7.cap, ts, st1, h4, h7, a, c, rfl, h2, fun _ ad hd => by have := h3 ad hd; have := HS.out; omega⟩
  have c2 : Hid (∀ (V : World) (a : Option Addr) (m c : Nat), (∃ ts st1, TextIs st ts st1 ∧ ClI W0 C R st1 V ∧ IsBody V (fun b => w.heap.size < b) (.slice a m c) ts) → Calls Try.prog 96 #[.pointer (some ⟨R, 0, none⟩)] V fun e w' => ∃ (a2 : Option Addr) (m2 c2 : Nat), e = .returned (.slice a2 m2 c2) ∧ Two w' w.heap.size (.slice none 0 0) (.slice none 0 0) ∧ Hid (∃ x st2, OneIs cutRd st x st2 ∧ ClI W0 C R st2 w' ∧ kEnt.rel (fun b => w.heap.size < b) w' x [.slice a m c, .slice a2 m2 c2])) := fun V a m c ⟨ts, st1, g1, g2, g3⟩ => by
    refine (text_any R st1 V g2.rdr).mono ?_
    rintro e w' ⟨a2, m2, c2, ts2, st2, rfl, rfl, h2, h3, h4, h5, h6⟩
    have h7 := g2.next hne h5 h6
    refine ⟨a2, _, c2, rfl, HT.out.grown h7.grown (by have := HR.out; omega), (ts, ts2), st2, rd_of g1 h4, h7, _, _, rfl, g3.move (kept_old h6 (by have := HR.out; omega)) (fun _ _ q => q), a2, c2, rfl, h2, fun _ ad hd => ?_⟩
    have := h3 ad hd
    have := g2.grown.size
    have := HS.out
    omega
  have k0 := H0.out.cap
  clear hne
  go_wp2_with (first
    | (go_at_call 96; (with_reducible refine c1.out.mono ?_); clear c1; rintro e w1 ⟨a, m, c, rfl, k1, H1⟩)
    | (go_at_call 96; (with_reducible refine (c2.out _ _ _ _ H1.out).mono ?_); clear c2; rintro e w2 ⟨a2, m2, c2, rfl, ⟨t0, t1, t2, t3⟩, H2⟩))
  obtain ⟨x, st2, g1, g2, g3⟩ := H2.out
  have ht := (Two.mk t0 t1 t2 t3).set (.slice a m c) (.slice a2 m2 c2)
  have h6 : Kept (fun b => w.heap.size < b) w2 ((w2.setCell ⟨w.heap.size, 0, none⟩ (.slice a m c)).setCell ⟨w.heap.size, 1, none⟩ (.slice a2 m2 c2)) := ⟨by simp, fun b _ ho => (heap_setCell_other _ _ _ _ (Nat.ne_of_gt ho)).trans (heap_setCell_other _ _ _ _ (Nat.ne_of_gt ho))⟩
  have hR := HR.out
  have h7 : w.grownBy ((w2.setCell ⟨w.heap.size, 0, none⟩ (.slice a m c)).setCell ⟨w.heap.size, 1, none⟩ (.slice a2 m2 c2)) (some R) := by
    have q1 : w.grownBy w2 (some R) := grown_trans (grown_below HB.out _) g2.grown
    have q2 := below_two (Below.refl w.heap.size w2) (Nat.le_refl _) (.slice a m c) (.slice a2 m2 c2)
    exact ⟨q2.os.trans q1.os, q2.tape.trans q1.tape, q2.output.trans q1.output, Nat.le_trans q1.size q2.size, fun b hb hn => (q2.block b hb).trans (q1.block b hb hn)⟩
  have h8 : RdrS ((w2.setCell ⟨w.heap.size, 0, none⟩ (.slice a m c)).setCell ⟨w.heap.size, 1, none⟩ (.slice a2 m2 c2)) R st2 := (g2.rdr.other (grown_set (j := 0) (.slice a m c)) hR).other (grown_set (j := 1) (.slice a2 m2 c2)) hR
  have z0 := ht.c0
  have z1 := ht.c1
  generalize (w2.setCell _ _).setCell _ _ = W9 at ht h6 h7 h8 z0 z1 ⊢
  go_wp2
  exact bodyPost_ret (v := .agg #[.slice a m c, .slice a2 m2 c2]) (by simp [results, Try.results95, go_sem, asAddr, z0, z1]) rfl (HP.out _ _ ⟨a, m, c, a2, m2, c2, x, st2, rfl, kEnt.move h6 (fun _ _ q => q) g3, g1, h8, h7⟩)

set_option maxHeartbeats 4000000 in
theorem wt_any (C R : Nat) (st : Option (List Int)) (w : World) (h : RdrS w R st) (hc : w.cell? ⟨C, 0, none⟩ = some (.pointer (some ⟨R, 0, none⟩))) (hne : C ≠ R) :
    Calls Try.prog 98 #[.pointer (some ⟨C, 0, none⟩)] w fun e w' => WtPost R st w e w' := by
  generalize hpost : (fun e w' => WtPost R st w e w') = Q
  have HP : Hid (∀ e w', WtPost R st w e w' → Q e w') := fun e w' h => by rw [← hpost]; exact h
  clear hpost
  have hR : R < w.heap.size := by obtain ⟨a, m, cap, t, xs, h, -⟩ := h; exact World.block_lt_of_cell? _ _ h.two.c0
  have hba := (Below.refl w.heap.size w).alloc (Nat.le_refl _) (.cells #[.slice none 0 0, .slice none 0 0, .bool false] 100)
  have H0 : Hid (ClI (w.alloc (.cells #[.slice none 0 0, .slice none 0 0, .bool false] 100)) C R st (w.alloc (.cells #[.slice none 0 0, .slice none 0 0, .bool false] 100))) := ⟨(hba.cell (p := ⟨C, 0, none⟩) (World.block_lt_of_cell? _ _ hc)).trans hc, h.later hba, grown_refl _ _⟩
  have HT := put_by (Tri.new w (.slice none 0 0) (.slice none 0 0) (.bool false) 100)
  have HB := put_by hba
  have HR := put_by hR
  clear h hc hba hR
  go_enter Try.func98, Try.ntmps98
  go_upto_region 1 with (fail)
  have HS : Hid ((w.alloc (.cells #[.slice none 0 0, .slice none 0 0, .bool false] 100)).heap.size = w.heap.size + 1) := by simp [Hid]
  generalize w.alloc (.cells #[.slice none 0 0, .slice none 0 0, .bool false] 100) = W0 at H0 HT HB HS ⊢
  have c1 : Hid (Calls Try.prog 96 #[.pointer (some ⟨R, 0, none⟩)] W0 fun e w' => ∃ (a : Option Addr) (m c : Nat), e = .returned (.slice a m c) ∧ w'.cell? ⟨C, 0, none⟩ = some (.pointer (some ⟨R, 0, none⟩)) ∧ Hid (∃ ts st1, TextIs st ts st1 ∧ ClI W0 C R st1 w' ∧ IsBody w' (fun b => w.heap.size < b) (.slice a m c) ts)) := by
    refine (text_any R st W0 H0.out.rdr).mono ?_
    rintro e w' ⟨a, m, c, ts, st1, rfl, rfl, h2, h3, h4, h5, h6⟩
    have h7 := H0.out.next hne h5 h6
    exact ⟨a, _, c, rfl, h7.cap, ts, st1, h4, h7, a, c, rfl, h2, fun _ ad hd => by have := h3 ad hd; have := HS.out; omega⟩
  have c2 : Hid (∀ (V : World) (a : Option Addr) (m c : Nat), (∃ ts st1, TextIs st ts st1 ∧ ClI W0 C R st1 V ∧ IsBody V (fun b => w.heap.size < b) (.slice a m c) ts) → Calls Try.prog 99 #[.pointer (some ⟨R, 0, none⟩)] V fun e w' => ∃ g : Bool, e = .returned (.bool g) ∧ w'.cell? ⟨C, 0, none⟩ = some (.pointer (some ⟨R, 0, none⟩)) ∧ Hid (∃ ts st1 st2, TextIs st ts st1 ∧ GoneIs st1 g st2 ∧ ClI W0 C R st2 w' ∧ IsBody w' (fun b => w.heap.size < b) (.slice a m c) ts)) := fun V a m c ⟨ts, st1, g1, g2, g3⟩ => by
    refine (gone_any R st1 V g2.rdr).mono ?_
    rintro e w' ⟨g, st2, rfl, h4, h5, h6⟩
    have h7 := g2.next hne h5 h6
    exact ⟨g, rfl, h7.cap, ts, st1, st2, g1, h4, h7, g3.move (kept_old h6 (by have := HR.out; omega)) (fun _ _ q => q)⟩
  have c3 : Hid (∀ (V : World) (a : Option Addr) (m c : Nat) (g : Bool), (∃ ts st1 st2, TextIs st ts st1 ∧ GoneIs st1 g st2 ∧ ClI W0 C R st2 V ∧ IsBody V (fun b => w.heap.size < b) (.slice a m c) ts) → Calls Try.prog 96 #[.pointer (some ⟨R, 0, none⟩)] V fun e w' => ∃ (a2 : Option Addr) (m2 c2 : Nat), e = .returned (.slice a2 m2 c2) ∧ Tri w' w.heap.size (.slice none 0 0) (.slice none 0 0) (.bool false) ∧ Hid (∃ x st2, OneIs cutWt st x st2 ∧ ClI W0 C R st2 w' ∧ kWt.rel (fun b => w.heap.size < b) w' x [.slice a m c, .slice a2 m2 c2, .bool g])) := fun V a m c g ⟨ts, st1, st2, g1, g4, g2, g3⟩ => by
    refine (text_any R st2 V g2.rdr).mono ?_
    rintro e w' ⟨a2, m2, c2, ts2, st3, rfl, rfl, h2, h3, h4, h5, h6⟩
    have h7 := g2.next hne h5 h6
    refine ⟨a2, _, c2, rfl, HT.out.grown h7.grown (by have := HR.out; omega), ⟨ts, ts2, g⟩, st3, wt_of g1 g4 h4, h7, _, _, rfl, g3.move (kept_old h6 (by have := HR.out; omega)) (fun _ _ q => q), a2, c2, rfl, h2, fun _ ad hd => ?_⟩
    have := h3 ad hd
    have := g2.grown.size
    have := HS.out
    omega
  have k0 := H0.out.cap
  clear hne
  go_wp2_with (first
    | (go_at_call 96; (with_reducible refine c1.out.mono ?_); clear c1; rintro e w1 ⟨a, m, c, rfl, k1, H1⟩)
    | (go_at_call 99; (with_reducible refine (c2.out _ _ _ _ H1.out).mono ?_); clear c2; rintro e w3 ⟨g, rfl, k3, H3⟩)
    | (go_at_call 96; (with_reducible refine (c3.out _ _ _ _ _ H3.out).mono ?_); clear c3; rintro e w2 ⟨a2, m2, c2, rfl, ⟨t0, t1, t4, t2, t3, t5⟩, H2⟩))
  obtain ⟨x, st2, g1, g2, g3⟩ := H2.out
  have ht := (Tri.mk t0 t1 t4 t2 t3 t5).set (.slice a m c) (.slice a2 m2 c2) (.bool g)
  have h6 : Kept (fun b => w.heap.size < b) w2 (((w2.setCell ⟨w.heap.size, 0, none⟩ (.slice a m c)).setCell ⟨w.heap.size, 1, none⟩ (.slice a2 m2 c2)).setCell ⟨w.heap.size, 2, none⟩ (.bool g)) := ⟨by simp, fun b _ ho => (heap_setCell_other _ _ _ _ (Nat.ne_of_gt ho)).trans ((heap_setCell_other _ _ _ _ (Nat.ne_of_gt ho)).trans (heap_setCell_other _ _ _ _ (Nat.ne_of_gt ho)))⟩
  have hR := HR.out
  have h7 : w.grownBy (((w2.setCell ⟨w.heap.size, 0, none⟩ (.slice a m c)).setCell ⟨w.heap.size, 1, none⟩ (.slice a2 m2 c2)).setCell ⟨w.heap.size, 2, none⟩ (.bool g)) (some R) := by
    have q1 : w.grownBy w2 (some R) := grown_trans (grown_below HB.out _) g2.grown
    have q2 := (below_two (Below.refl w.heap.size w2) (Nat.le_refl _) (.slice a m c) (.slice a2 m2 c2)).setCell (p := ⟨w.heap.size, 2, none⟩) (Nat.le_refl _) (.bool g)
    exact ⟨q2.os.trans q1.os, q2.tape.trans q1.tape, q2.output.trans q1.output, Nat.le_trans q1.size q2.size, fun b hb hn => (q2.block b hb).trans (q1.block b hb hn)⟩
  have h8 : RdrS (((w2.setCell ⟨w.heap.size, 0, none⟩ (.slice a m c)).setCell ⟨w.heap.size, 1, none⟩ (.slice a2 m2 c2)).setCell ⟨w.heap.size, 2, none⟩ (.bool g)) R st2 := (g2.rdr.other (grown_set (j := 0) (.slice a m c)) hR).other (grown_set (j := 1) (.slice a2 m2 c2)) hR |>.other (grown_set (j := 2) (.bool g)) hR
  have z0 := ht.c0
  have z1 := ht.c1
  have z2 := ht.c2
  generalize ((w2.setCell _ _).setCell _ _).setCell _ _ = W9 at ht h6 h7 h8 z0 z1 z2 ⊢
  go_wp2
  exact bodyPost_ret (v := .agg #[.slice a m c, .slice a2 m2 c2, .bool g]) (by simp [results, Try.results98, go_sem, asAddr, z0, z1, z2]) rfl (HP.out _ _ ⟨a, m, c, a2, m2, c2, g, x, st2, rfl, kWt.move h6 (fun _ _ q => q) g3, g1, h8, h7⟩)

end Go.Proofs.Ytjjdednlddnllaa
