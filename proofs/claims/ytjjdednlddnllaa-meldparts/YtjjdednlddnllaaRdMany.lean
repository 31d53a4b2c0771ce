/- Many things that are read. -/
import Derived.Test.YtjjdednlddnllaaRdOne
import Derived.Laws.EntriesVeiled
namespace Go.Proofs.Ytjjdednlddnllaa
open Go.ChangeShapes Go.WideShapes Go.ChangeAt Go.RowKit

section
variable {α : Type} {f : List Int → Option (α × List Int)}

theorem cutN_snoc : ∀ {k : Nat} {b r r' : List Int} {l : List α} {x : α}, cutN f k b = some (l, r) → f r = some (x, r') → cutN f (k + 1) b = some (l ++ [x], r')
  | 0, b, r, r', l, x, h, hf => by
    simp only [cutN, Option.some.injEq, Prod.mk.injEq] at h
    obtain ⟨rfl, rfl⟩ := h
    simp only [cutN, hf, List.nil_append]
  | k + 1, b, r, r', l, x, h, hf => by
    unfold cutN at h
    cases h1 : f b with
    | none => rw [h1] at h; cases h
    | some p =>
      obtain ⟨y, r1⟩ := p
      rw [h1] at h
      cases h2 : cutN f k r1 with
      | none => simp only [h2] at h; cases h
      | some p =>
        obtain ⟨l2, r2⟩ := p
        simp only [h2, Option.some.injEq, Prod.mk.injEq] at h
        obtain ⟨rfl, rfl⟩ := h
        have h3 := cutN_snoc h2 hf
        show (match f b with | some (x, r) => (match cutN f (k + 1) r with | some (l, r) => some (x :: l, r) | none => none) | none => none) = _
        rw [h1]
        simp only [h3, List.cons_append]

theorem cutN_torn : ∀ {k n : Nat} {b r : List Int} {l : List α}, cutN f k b = some (l, r) → f r = none → k < n → cutN f n b = none
  | 0, n + 1, b, r, l, h, hf, _ => by
    simp only [cutN, Option.some.injEq, Prod.mk.injEq] at h
    obtain ⟨rfl, rfl⟩ := h
    simp only [cutN, hf]
  | k + 1, n + 1, b, r, l, h, hf, hk => by
    unfold cutN at h
    cases h1 : f b with
    | none => rw [h1] at h; cases h
    | some p =>
      obtain ⟨y, r1⟩ := p
      rw [h1] at h
      cases h2 : cutN f k r1 with
      | none => simp only [h2] at h; cases h
      | some p =>
        obtain ⟨l2, r2⟩ := p
        simp only [h2, Option.some.injEq, Prod.mk.injEq] at h
        obtain ⟨rfl, rfl⟩ := h
        have h3 := cutN_torn (n := n) h2 hf (by omega)
        simp only [cutN, h1, h3]

theorem cutN_len (hf : ∀ b x r, f b = some (x, r) → r.length < b.length) : ∀ {k : Nat} {b r : List Int} {l : List α}, cutN f k b = some (l, r) → l.length = k ∧ k + r.length ≤ b.length
  | 0, b, r, l, h => by
    simp only [cutN, Option.some.injEq, Prod.mk.injEq] at h
    obtain ⟨rfl, rfl⟩ := h
    simp
  | k + 1, b, r, l, h => by
    unfold cutN at h
    cases h1 : f b with
    | none => rw [h1] at h; cases h
    | some p =>
      obtain ⟨y, r1⟩ := p
      rw [h1] at h
      cases h2 : cutN f k r1 with
      | none => simp only [h2] at h; cases h
      | some p =>
        obtain ⟨l2, r2⟩ := p
        simp only [h2, Option.some.injEq, Prod.mk.injEq] at h
        obtain ⟨rfl, rfl⟩ := h
        have h3 := cutN_len hf h2
        have h4 := hf _ _ _ h1
        simp only [List.length_cons]
        omega

/-- many things: what is read, and what is left -/
def ManyIs (f : List Int → Option (α × List Int)) (st : Option (List Int)) (l : List α) (st' : Option (List Int)) : Prop := (∃ n b r, st.bind cut4 = some (n, b) ∧ cutN f n b = some (l, r) ∧ st' = some r) ∨ ((∀ n b, st.bind cut4 = some (n, b) → cutN f n b = none) ∧ st' = none)

/-- so many have been read -/
def Prgs (f : List Int → Option (α × List Int)) (st : Option (List Int)) (n : Nat) (l : List α) (st2 : Option (List Int)) : Prop := (∃ b r, st.bind cut4 = some (n, b) ∧ b.length ≤ 4000 ∧ cutN f l.length b = some (l, r) ∧ st2 = some r) ∨ ((∀ n b, st.bind cut4 = some (n, b) → cutN f n b = none) ∧ st2 = none)

theorem Prgs.start {st st1 : Option (List Int)} {n : Nat} (h : NumIs st n st1) (hf : ∀ b, st1 = some b → b.length ≤ 4000) : Prgs f st n [] st1 := by
  rcases h with ⟨m, r, e, em, rfl⟩ | ⟨e, _, rfl⟩
  · have em2 : n = m := by omega
    subst em2
    exact .inl ⟨r, r, e, hf r rfl, rfl, rfl⟩
  · exact .inr ⟨fun n b e2 => (by rw [e] at e2; cases e2), rfl⟩

theorem Prgs.step {st st2 st3 : Option (List Int)} {n : Nat} {l : List α} {x : α} (h : Prgs f st n l st2) (hn : l.length < n) (h2 : st2 ≠ none) (h1 : OneIs f st2 x st3) : Prgs f st n (l ++ [x]) st3 := by
  rcases h with ⟨b, r, e, hb, hc, rfl⟩ | ⟨_, rfl⟩
  · rcases h1 with ⟨r2, e2, rfl⟩ | ⟨e2, rfl⟩
    · exact .inl ⟨b, r2, e, hb, by rw [List.length_append]; exact cutN_snoc hc e2, rfl⟩
    · refine .inr ⟨fun n' b' e3 => ?_, rfl⟩
      rw [e] at e3
      cases e3
      exact cutN_torn hc e2 hn
  · exact absurd rfl h2

theorem Prgs.done {st st2 : Option (List Int)} {n : Nat} {l : List α} (h : Prgs f st n l st2) (hn : l.length = n ∨ st2 = none) : ManyIs f st l st2 := by
  rcases h with ⟨b, r, e, _, hc, rfl⟩ | h
  · rcases hn with rfl | hn
    · exact .inl ⟨_, b, r, e, hc, rfl⟩
    · cases hn
  · exact .inr h

theorem Prgs.few {st st2 : Option (List Int)} {n : Nat} {l : List α} (hf : ∀ b x r, f b = some (x, r) → r.length < b.length) (h : Prgs f st n l st2) (h2 : st2 ≠ none) : l.length ≤ 4000 := by
  rcases h with ⟨b, r, _, hb, hc, rfl⟩ | ⟨_, rfl⟩
  · have := (cutN_len hf hc).2
    omega
  · exact absurd rfl h2

end

theorem cut4_len {b r : List Int} {n : Nat} (h : cut4 b = some (n, r)) : r.length + 4 = b.length := by
  unfold cut4 at h
  split at h
  · simp only [Option.some.injEq, Prod.mk.injEq] at h
    rw [← h.2, List.length_drop]
    omega
  · cases h

theorem cutT_len {b x r : List Int} (h : cutT b = some (x, r)) : r.length + 4 ≤ b.length := by
  unfold cutT at h
  cases hc : cut4 b with
  | none => rw [hc] at h; cases h
  | some p =>
    obtain ⟨n, q⟩ := p
    rw [hc] at h
    have := cut4_len hc
    simp only at h
    split at h
    · simp only [Option.some.injEq, Prod.mk.injEq] at h
      rw [← h.2, List.length_drop]
      omega
    · cases h

theorem cutRd_len : ∀ (b : List Int) (x : Ent) (r : List Int), cutRd b = some (x, r) → r.length < b.length := by
  intro b x r h
  unfold cutRd at h
  cases h1 : cutT b with
  | none => rw [h1] at h; cases h
  | some p =>
    obtain ⟨lo, r1⟩ := p
    rw [h1] at h
    cases h2 : cutT r1 with
    | none => simp only [h2] at h; cases h
    | some p =>
      obtain ⟨hi, r2⟩ := p
      simp only [h2, Option.some.injEq, Prod.mk.injEq] at h
      have := cutT_len h1
      have := cutT_len h2
      rw [← h.2]
      omega

theorem cutWt_len : ∀ (b : List Int) (x : Wt) (r : List Int), cutWt b = some (x, r) → r.length < b.length := by
  intro b x r h
  unfold cutWt at h
  cases h1 : cutT b with
  | none => rw [h1] at h; cases h
  | some p =>
    obtain ⟨k, r1⟩ := p
    rw [h1] at h
    cases h2 : cutB r1 with
    | none => simp only [h2] at h; cases h
    | some p =>
      obtain ⟨g, r2⟩ := p
      have e2 := cutB_inv h2
      cases h3 : cutT r2 with
      | none => simp only [h2, h3] at h; cases h
      | some p =>
        obtain ⟨v, r3⟩ := p
        simp only [h2, h3, Option.some.injEq, Prod.mk.injEq] at h
        have := cutT_len h1
        have := cutT_len h3
        rw [e2] at h1
        have e3 : r1.length = r2.length + 1 := by rw [e2]; rfl
        rw [← h.2]
        omega

/-- how many a slice has -/
def slLen : Value → Nat
  | .slice _ m _ => m
  | _ => 0

theorem grown_own {w w4 w5 : World} {R : Nat} {o : Option Nat} (h : w.grownBy w4 (some R)) (hg : w4.grownBy w5 o) (ho : ∀ g, o = some g → w.heap.size ≤ g) : w.grownBy w5 (some R) :=
  ⟨hg.os.trans h.os, hg.tape.trans h.tape, hg.output.trans h.output, Nat.le_trans h.size hg.size, fun b hb hn => (hg.block b (Nat.lt_of_lt_of_le hb h.size) (fun e => by have := ho b e.symm; omega)).trans (h.block b hb hn)⟩

theorem RdrS.own {w w' : World} {R : Nat} {o : Option Nat} {st : Option (List Int)} (h : RdrS w R st) (hg : w.grownBy w' o) (ho : ∀ g, o = some g → R < g) : RdrS w' R st := by
  obtain ⟨a, m, cap, t, xs, h, e⟩ := h
  have hb : w'.heap[R]? = w.heap[R]? := hg.block R (World.block_lt_of_cell? _ _ h.two.c0) (fun e => by have := ho R e.symm; omega)
  exact ⟨a, m, cap, t, xs, ⟨⟨(World.cell?_of_block hb).trans h.two.c0, (World.cell?_of_block hb).trans h.two.c1, (World.frozen?_of_block hb).trans h.two.f0, (World.frozen?_of_block hb).trans h.two.f1⟩, h.len, h.octs.grown hg (fun _ ad had e => by have := h.ne ad had; have := ho _ e; omega), h.ples, h.ne, h.few⟩, e⟩

theorem RdrS.few {w : World} {R : Nat} {st : Option (List Int)} (h : RdrS w R st) : ∀ b, st = some b → b.length ≤ 4000 := fun b e => by
  obtain ⟨a, m, cap, t, xs, h, e2⟩ := h
  cases t with
  | true => rw [e2] at e; cases e
  | false => rw [e2] at e; cases e; exact h.few

/-- what many come to -/
def ManyRPost (R : Nat) (st : Option (List Int)) (w : World) (e : Ending) (w' : World) : Prop := ∃ (a : Option Addr) (n c : Nat) (l : List Ent) (st' : Option (List Int)), e = .returned (.slice a n c) ∧ n = l.length ∧ n ≤ 4001 ∧ Lies kEnt (fun b => w.heap.size ≤ b) w' a c l ∧ Ples a c ∧ ManyIs cutRd st l st' ∧ RdrS w' R st' ∧ w.grownBy w' (some R)

/-- on the way -/
structure ManR (w : World) (C R : Nat) (st : Option (List Int)) (n : Nat) (a : Option Addr) (m c : Nat) (l : List Ent) (st2 : Option (List Int)) (wr : World) : Prop where
  cli : ClI w C R st2 wr
  rows : Rows kEnt (fun b => w.heap.size ≤ b) wr w.heap.size 97 (.slice a m c) l
  len : m = l.length
  prog : Prgs cutRd st n l st2
  few : m ≤ 4001
  le : m ≤ n

set_option maxRecDepth 100000 in
set_option maxHeartbeats 8000000 in
theorem manyR_any (C R : Nat) (st : Option (List Int)) (w : World) (h : RdrS w R st) (hc : w.cell? ⟨C, 0, none⟩ = some (.pointer (some ⟨R, 0, none⟩))) (hne : C ≠ R) :
    Calls Try.prog 94 #[.pointer (some ⟨R, 0, none⟩), .func (.func 95) #[] #[.pointer (some ⟨C, 0, none⟩)]] w fun e w' => ManyRPost R st w e w' := by
  generalize hpost : (fun e w' => ManyRPost R st w e w') = Q
  have HO : Hid (∀ w', ¬ Q .outgrown w') := fun w' hh => by
    rw [← hpost] at hh
    obtain ⟨a, n, c, l, st', h, -⟩ := hh
    cases h
  have HP : Hid (∀ e w', ManyRPost R st w e w' → Q e w') := fun e w' h => by rw [← hpost]; exact h
  clear hpost
  have hR : R < w.heap.size := by obtain ⟨a, m, cap, t, xs, h, -⟩ := h; exact World.block_lt_of_cell? _ _ h.two.c0
  have HR : Hid (R < w.heap.size ∧ C ≠ R ∧ C < w.heap.size) := ⟨hR, hne, World.block_lt_of_cell? _ _ hc⟩
  have c0 : Hid (Calls Try.prog 93 #[.pointer (some ⟨R, 0, none⟩)] w fun e w' => ∃ n : Nat, e = .returned (.int .i64 (n : Int)) ∧ n ≤ 4294967295 ∧ Hid (∃ st1, ManR w C R st n none 0 0 [] st1 w')) := by
    refine (number_any R st w h).mono ?_
    rintro e w' ⟨v, st1, rfl, ⟨v0, v1⟩, h1, h2, h3⟩
    obtain ⟨n, rfl⟩ := Int.eq_ofNat_of_zero_le v0
    exact ⟨n, rfl, by omega, st1, ⟨cell_grown hc h3 hne, h2, h3⟩, Rows.nil _ _ _ _ _, rfl, Prgs.start h1 h2.few, by omega, by omega⟩
  have c1 : Hid (∀ (V : World) (n : Nat) (a : Option Addr) (m c : Nat) (l : List Ent) (st2 : Option (List Int)), ManR w C R st n a m c l st2 V → st2 ≠ none → m < n → Calls Try.prog 95 #[.pointer (some ⟨C, 0, none⟩)] V fun e w' => ∃ (a1 : Option Addr) (m1 c1 : Nat) (a2 : Option Addr) (m2 c2 : Nat) (x : Ent), e = .returned (.agg #[.slice a1 m1 c1, .slice a2 m2 c2]) ∧ Hid (kEnt.rel (fun b => w.heap.size ≤ b ∧ (Value.slice a m c).ownBlock ≠ some b) w' x [.slice a1 m1 c1, .slice a2 m2 c2] ∧ Rows kEnt (fun b => w.heap.size ≤ b) w' w.heap.size 97 (.slice a m c) l ∧ m = l.length ∧ m ≤ 4000 ∧ ∃ st3, Prgs cutRd st n (l ++ [x]) st3 ∧ ClI w C R st3 w')) := fun V n a m c l st2 hM h2 hn => by
    refine (rng_any C R st2 V hM.cli.rdr hM.cli.cap HR.out.2.1).mono ?_
    rintro e w' ⟨a1, m1, c1, a2, m2, c2, x, st3, rfl, h1, h4, h5, h6⟩
    have hR := HR.out.1
    have hV := hM.cli.grown.size
    have hlt := rows_lt hM.rows
    have hl : m ≤ 4000 := by rw [hM.len]; exact hM.prog.few cutRd_len h2
    refine ⟨a1, m1, c1, a2, m2, c2, x, rfl, kEnt.move (Kept.of_below (Below.refl _ _)) (fun b _ hb => ⟨by omega, fun e => by have := (hlt b e).2; omega⟩) h1, hM.rows.move (kept_old h6 (by omega)) (fun g e => h6.block g (hlt g e).2 (fun e2 => by have := (hlt g e).1; have := Option.some.inj e2; omega)), hM.len, hl, st3, hM.prog.step (by rw [← hM.len]; exact hn) h2 h4, hM.cli.next HR.out.2.1 h5 h6⟩
  clear h hc hne hR
  go_enter Try.func94, Try.ntmps94
  go_upto_region 2 with (first
    | (go_at_call 93; (with_reducible refine c0.out.mono ?_); clear c0; rintro e w1 ⟨n, rfl, hn, H1⟩))
  go_wp2
  go_loopw [6] (fun s wr => ∃ (a : Option Addr) (m c : Nat), m ≤ 4001 ∧ s = .slice a m c ∧ Hid (∃ (l : List Ent) (st2 : Option (List Int)), ManR w C R st n a m c l st2 wr)) (fun s _ => n - slLen s)
  case atStart => exact ⟨none, 0, 0, by omega, rfl, [], H1.out⟩
  case round =>
    obtain ⟨a, m, c, hm, rfl, H⟩ := hrel
    rename World => wr
    obtain ⟨l, st2, HM⟩ := H.out
    have HM := put_by HM
    clear H
    obtain ⟨ra, rm, rc, t, xs, hr, hst⟩ := HM.out.cli.rdr
    have k1 := hr.two.c1
    clear hr
    have HE : Hid (∀ l2 st4, ManR w C R st n a m c l2 st4 wr → (m = n ∨ st4 = none) → ManyRPost R st w (.returned (.slice a m c)) wr) := fun l2 st4 hM h2 => by
      obtain ⟨q1, q2, q3, -⟩ := rows_lies hM.rows (fun _ h => h)
      exact ⟨a, m, c, l2, st4, rfl, hM.len, hM.few, q2, q3, hM.prog.done (h2.imp (fun e => by rw [← hM.len]; exact e) id), hM.cli.rdr, hM.cli.grown⟩
    by_cases hlt : m < n
    · have hlt1 : (m : Int) < (n : Int) := by omega
      cases t with
      | true =>
        have H9 := put_by (HE.out l st2 HM.out (.inr (by rw [hst]; rfl)))
        clear HM HE c1 hst
        go_wp2
        exact HP.out _ _ H9.out
      | false =>
        have d1 := put_by (c1.out wr n a m c l st2 HM.out (by rw [hst]; simp) hlt)
        have HS : Hid (w.heap.size ≤ wr.heap.size) := HM.out.cli.grown.size
        clear HM HE c1 hst
        go_wp2_with (first
          | (go_at_call 95; (with_reducible refine d1.out.mono ?_); clear d1; rintro e w4 ⟨a1, m1, c1, a2, m2, c2, x, rfl, H4⟩)
          | (at_builtin; obtain ⟨g1, g2, g3, g4, st3, g5, g6⟩ := H4.out; refine wpList_append_one (K := kEnt) (ok := fun b => w.heap.size ≤ b) eltR rfl (.tmp 20) (.tmp 23) rfl w.heap.size (.slice a m c) l rfl g2 x [.slice a1 m1 c1, .slice a2 m2 c2] _ _ rfl rfl g1 (fun b hb => by have := g6.grown.size; show w.heap.size ≤ b; omega) (by omega) (by decide) g6.grown.size ?_; intro v' w5 r1 r2 r3; obtain ⟨a6, c6, rfl⟩ := rows_form r1; have H6 : Hid (∃ st3, ManR w C R st n a6 (l ++ [x]).length c6 (l ++ [x]) st3 w5 ∧ (l ++ [x]).length = m + 1) := ⟨st3, ⟨⟨(World.cell?_of_block (r2.block C (World.block_lt_of_cell? _ _ g6.cap) (fun e => by have := (rows_lt g2 C e.symm).1; have := HR.out.2.2; omega))).trans g6.cap, g6.rdr.own r2 (fun g e => by have := (rows_lt g2 g e).1; have := HR.out.1; omega), grown_own g6.grown r2 (fun g e => (rows_lt g2 g e).1)⟩, r1, rfl, g5, by rw [List.length_append, List.length_singleton]; omega, by rw [List.length_append, List.length_singleton]; omega⟩, by rw [List.length_append, List.length_singleton, ← g3]⟩; clear g1 g2 g3 g4 g5 g6 r1 r2 r3 H4; generalize (l ++ [x]).length = m6 at H6 ⊢))
        go_roundw
        case rel => exact ⟨a6, m6, c6, by obtain ⟨_, h, _⟩ := H6.out; exact h.few, rfl, by obtain ⟨st3, h, _⟩ := H6.out; exact ⟨_, st3, h⟩⟩
        case measure =>
          obtain ⟨_, _, h⟩ := H6.out
          simp only [slLen]
          omega
    · have hlt1 : ¬ (m : Int) < (n : Int) := by omega
      have hmn : m = n := by have := HM.out.le; omega
      have H9 := put_by (HE.out l st2 HM.out (.inl hmn))
      clear HM HE c1 hst hmn
      go_wp2
      exact HP.out _ _ H9.out

/-- what many come to -/
def ManyWPost (R : Nat) (st : Option (List Int)) (w : World) (e : Ending) (w' : World) : Prop := ∃ (a : Option Addr) (n c : Nat) (l : List Wt) (st' : Option (List Int)), e = .returned (.slice a n c) ∧ n = l.length ∧ n ≤ 4001 ∧ Lies kWt (fun b => w.heap.size ≤ b) w' a c l ∧ Ples a c ∧ ManyIs cutWt st l st' ∧ RdrS w' R st' ∧ w.grownBy w' (some R)

/-- on the way -/
structure ManW (w : World) (C R : Nat) (st : Option (List Int)) (n : Nat) (a : Option Addr) (m c : Nat) (l : List Wt) (st2 : Option (List Int)) (wr : World) : Prop where
  cli : ClI w C R st2 wr
  rows : Rows kWt (fun b => w.heap.size ≤ b) wr w.heap.size 100 (.slice a m c) l
  len : m = l.length
  prog : Prgs cutWt st n l st2
  few : m ≤ 4001
  le : m ≤ n

set_option maxRecDepth 100000 in
set_option maxHeartbeats 8000000 in
theorem manyW_any (C R : Nat) (st : Option (List Int)) (w : World) (h : RdrS w R st) (hc : w.cell? ⟨C, 0, none⟩ = some (.pointer (some ⟨R, 0, none⟩))) (hne : C ≠ R) :
    Calls Try.prog 97 #[.pointer (some ⟨R, 0, none⟩), .func (.func 98) #[] #[.pointer (some ⟨C, 0, none⟩)]] w fun e w' => ManyWPost R st w e w' := by
  generalize hpost : (fun e w' => ManyWPost R st w e w') = Q
  have HO : Hid (∀ w', ¬ Q .outgrown w') := fun w' hh => by
    rw [← hpost] at hh
    obtain ⟨a, n, c, l, st', h, -⟩ := hh
    cases h
  have HP : Hid (∀ e w', ManyWPost R st w e w' → Q e w') := fun e w' h => by rw [← hpost]; exact h
  clear hpost
  have hR : R < w.heap.size := by obtain ⟨a, m, cap, t, xs, h, -⟩ := h; exact World.block_lt_of_cell? _ _ h.two.c0
  have HR : Hid (R < w.heap.size ∧ C ≠ R ∧ C < w.heap.size) := ⟨hR, hne, World.block_lt_of_cell? _ _ hc⟩
  have c0 : Hid (Calls Try.prog 93 #[.pointer (some ⟨R, 0, none⟩)] w fun e w' => ∃ n : Nat, e = .returned (.int .i64 (n : Int)) ∧ n ≤ 4294967295 ∧ Hid (∃ st1, ManW w C R st n none 0 0 [] st1 w')) := by
    refine (number_any R st w h).mono ?_
    rintro e w' ⟨v, st1, rfl, ⟨v0, v1⟩, h1, h2, h3⟩
    obtain ⟨n, rfl⟩ := Int.eq_ofNat_of_zero_le v0
    exact ⟨n, rfl, by omega, st1, ⟨cell_grown hc h3 hne, h2, h3⟩, Rows.nil _ _ _ _ _, rfl, Prgs.start h1 h2.few, by omega, by omega⟩
  have c1 : Hid (∀ (V : World) (n : Nat) (a : Option Addr) (m c : Nat) (l : List Wt) (st2 : Option (List Int)), ManW w C R st n a m c l st2 V → st2 ≠ none → m < n → Calls Try.prog 98 #[.pointer (some ⟨C, 0, none⟩)] V fun e w' => ∃ (a1 : Option Addr) (m1 c1 : Nat) (a2 : Option Addr) (m2 c2 : Nat) (g9 : Bool) (x : Wt), e = .returned (.agg #[.slice a1 m1 c1, .slice a2 m2 c2, .bool g9]) ∧ Hid (kWt.rel (fun b => w.heap.size ≤ b ∧ (Value.slice a m c).ownBlock ≠ some b) w' x [.slice a1 m1 c1, .slice a2 m2 c2, .bool g9] ∧ Rows kWt (fun b => w.heap.size ≤ b) w' w.heap.size 100 (.slice a m c) l ∧ m = l.length ∧ m ≤ 4000 ∧ ∃ st3, Prgs cutWt st n (l ++ [x]) st3 ∧ ClI w C R st3 w')) := fun V n a m c l st2 hM h2 hn => by
    refine (wt_any C R st2 V hM.cli.rdr hM.cli.cap HR.out.2.1).mono ?_
    rintro e w' ⟨a1, m1, c1, a2, m2, c2, g9, x, st3, rfl, h1, h4, h5, h6⟩
    have hR := HR.out.1
    have hV := hM.cli.grown.size
    have hlt := rows_lt hM.rows
    have hl : m ≤ 4000 := by rw [hM.len]; exact hM.prog.few cutWt_len h2
    refine ⟨a1, m1, c1, a2, m2, c2, g9, x, rfl, kWt.move (Kept.of_below (Below.refl _ _)) (fun b _ hb => ⟨by omega, fun e => by have := (hlt b e).2; omega⟩) h1, hM.rows.move (kept_old h6 (by omega)) (fun g e => h6.block g (hlt g e).2 (fun e2 => by have := (hlt g e).1; have := Option.some.inj e2; omega)), hM.len, hl, st3, hM.prog.step (by rw [← hM.len]; exact hn) h2 h4, hM.cli.next HR.out.2.1 h5 h6⟩
  clear h hc hne hR
  go_enter Try.func97, Try.ntmps97
  go_upto_region 2 with (first
    | (go_at_call 93; (with_reducible refine c0.out.mono ?_); clear c0; rintro e w1 ⟨n, rfl, hn, H1⟩))
  go_wp2
  go_loopw [6] (fun s wr => ∃ (a : Option Addr) (m c : Nat), m ≤ 4001 ∧ s = .slice a m c ∧ Hid (∃ (l : List Wt) (st2 : Option (List Int)), ManW w C R st n a m c l st2 wr)) (fun s _ => n - slLen s)
  case atStart => exact ⟨none, 0, 0, by omega, rfl, [], H1.out⟩
  case round =>
    obtain ⟨a, m, c, hm, rfl, H⟩ := hrel
    rename World => wr
    obtain ⟨l, st2, HM⟩ := H.out
    have HM := put_by HM
    clear H
    obtain ⟨ra, rm, rc, t, xs, hr, hst⟩ := HM.out.cli.rdr
    have k1 := hr.two.c1
    clear hr
    have HE : Hid (∀ l2 st4, ManW w C R st n a m c l2 st4 wr → (m = n ∨ st4 = none) → ManyWPost R st w (.returned (.slice a m c)) wr) := fun l2 st4 hM h2 => by
      obtain ⟨q1, q2, q3, -⟩ := rows_lies hM.rows (fun _ h => h)
      exact ⟨a, m, c, l2, st4, rfl, hM.len, hM.few, q2, q3, hM.prog.done (h2.imp (fun e => by rw [← hM.len]; exact e) id), hM.cli.rdr, hM.cli.grown⟩
    by_cases hlt : m < n
    · have hlt1 : (m : Int) < (n : Int) := by omega
      cases t with
      | true =>
        have H9 := put_by (HE.out l st2 HM.out (.inr (by rw [hst]; rfl)))
        clear HM HE c1 hst
        go_wp2
        exact HP.out _ _ H9.out
      | false =>
        have d1 := put_by (c1.out wr n a m c l st2 HM.out (by rw [hst]; simp) hlt)
        have HS : Hid (w.heap.size ≤ wr.heap.size) := HM.out.cli.grown.size
        clear HM HE c1 hst
        go_wp2_with (first
          | (go_at_call 98; (with_reducible refine d1.out.mono ?_); clear d1; rintro e w4 ⟨a1, m1, c1, a2, m2, c2, g9, x, rfl, H4⟩)
          | (at_builtin; obtain ⟨g1, g2, g3, g4, st3, g5, g6⟩ := H4.out; refine wpList_append_one (K := kWt) (ok := fun b => w.heap.size ≤ b) eltW rfl (.tmp 20) (.tmp 23) rfl w.heap.size (.slice a m c) l rfl g2 x [.slice a1 m1 c1, .slice a2 m2 c2, .bool g9] _ _ rfl rfl g1 (fun b hb => by have := g6.grown.size; show w.heap.size ≤ b; omega) (by omega) (by decide) g6.grown.size ?_; intro v' w5 r1 r2 r3; obtain ⟨a6, c6, rfl⟩ := rows_form r1; have H6 : Hid (∃ st3, ManW w C R st n a6 (l ++ [x]).length c6 (l ++ [x]) st3 w5 ∧ (l ++ [x]).length = m + 1) := ⟨st3, ⟨⟨(World.cell?_of_block (r2.block C (World.block_lt_of_cell? _ _ g6.cap) (fun e => by have := (rows_lt g2 C e.symm).1; have := HR.out.2.2; omega))).trans g6.cap, g6.rdr.own r2 (fun g e => by have := (rows_lt g2 g e).1; have := HR.out.1; omega), grown_own g6.grown r2 (fun g e => (rows_lt g2 g e).1)⟩, r1, rfl, g5, by rw [List.length_append, List.length_singleton]; omega, by rw [List.length_append, List.length_singleton]; omega⟩, by rw [List.length_append, List.length_singleton, ← g3]⟩; clear g1 g2 g3 g4 g5 g6 r1 r2 r3 H4; generalize (l ++ [x]).length = m6 at H6 ⊢))
        go_roundw
        case rel => exact ⟨a6, m6, c6, by obtain ⟨_, h, _⟩ := H6.out; exact h.few, rfl, by obtain ⟨st3, h, _⟩ := H6.out; exact ⟨_, st3, h⟩⟩
        case measure =>
          obtain ⟨_, _, h⟩ := H6.out
          simp only [slLen]
          omega
    · have hlt1 : ¬ (m : Int) < (n : Int) := by omega
      have hmn : m = n := by have := HM.out.le; omega
      have H9 := put_by (HE.out l st2 HM.out (.inl hmn))
      clear HM HE c1 hst hmn
      go_wp2
      exact HP.out _ _ H9.out

end Go.Proofs.Ytjjdednlddnllaa
