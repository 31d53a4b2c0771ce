/- An intent that is read from bytes. -/
import Derived.Test.YtndnbkgejdindaaRdMany
import Derived.RegionTactic
import Derived.ChangeAlike
namespace Go.Proofs.Ytndnbkgejdindaa
open Go.ChangeShapes Go.WideShapes Go.ChangeAt Go.RowKit

/-- a variable of several cells -/
def Cls (W : World) (B : Nat) (vs : List Value) : Prop := ∀ j u, vs[j]? = some u → W.cell? ⟨B, j, none⟩ = some u ∧ W.frozen? ⟨B, j, none⟩ = false

theorem Cls.set {W : World} {B : Nat} {vs : List Value} (h : Cls W B vs) {k : Nat} (x : Value) : Cls (W.setCell ⟨B, k, none⟩ x) B (vs.set k x) := by
  intro j u e
  rw [World.frozen?_setCell]
  have hj : j < vs.length := by have := (List.getElem?_eq_some_iff.1 e).1; rwa [List.length_set] at this
  have h0 := h j _ (List.getElem?_eq_getElem hj)
  refine ⟨?_, h0.2⟩
  by_cases hjk : k = j
  · subst hjk
    rw [List.getElem?_set_self hj] at e
    cases e
    exact World.cell?_setCell_same' _ _ _ (by rw [h0.1]; rfl)
  · rw [List.getElem?_set_ne hjk] at e
    rw [World.cell?_setCell_other _ _ _ _ (by simp)]
    exact (h j u e).1

theorem Cls.block {W W' : World} {B : Nat} {vs : List Value} (h : Cls W B vs) (hb : B < W.heap.size → W'.heap[B]? = W.heap[B]?) : Cls W' B vs := by
  intro j u e
  have h0 := h j u e
  have h1 := hb (World.block_lt_of_cell? _ _ h0.1)
  exact ⟨(World.cell?_of_block h1).trans h0.1, (World.frozen?_of_block h1).trans h0.2⟩

theorem Cls.grown {W W' : World} {B R : Nat} {vs : List Value} (h : Cls W B vs) (hg : W.grownBy W' (some R)) (hne : B ≠ R) : Cls W' B vs := h.block (fun hb => hg.block B hb (fun e => hne (Option.some.inj e)))

theorem Cls.new (W : World) (vs : List Value) (ty : TypeId) : Cls (W.alloc (.cells vs.toArray ty)) W.heap.size vs := by
  intro j u e
  have hh := heap_alloc_new W (.cells vs.toArray ty)
  simp only [World.cell?, World.frozen?, hh]
  refine ⟨by simpa using e, rfl⟩

theorem Cls.later {W W' : World} {B : Nat} {vs : List Value} (h : Cls W B vs) (hb : Below W.heap.size W W') : Cls W' B vs := h.block (fun hB => hb.block B hB)

/-- a reader, the variable that names it, an intent's variable and the result's -/
structure RI (w : World) (R C X : Nat) (st : Option (List Int)) (vs : List Value) (W : World) : Prop where
  ord : R = w.heap.size + 1 ∧ C = w.heap.size + 2 ∧ X = w.heap.size + 3
  cap : W.cell? ⟨C, 0, none⟩ = some (.pointer (some ⟨R, 0, none⟩))
  rdr : RdrS W R st
  below : Below w.heap.size w W
  res : Cls W w.heap.size [.int .i64 0, .int .i64 0, .int .i64 0, .slice none 0 0, .slice none 0 0]
  var : Cls W X vs
  size : X < W.heap.size

theorem RI.call {w W W' : World} {R C X : Nat} {st st' : Option (List Int)} {vs : List Value} (h : RI w R C X st vs W) (hr : RdrS W' R st') (hg : W.grownBy W' (some R)) : RI w R C X st' vs W' := by
  obtain ⟨e1, e2, e3⟩ := h.ord
  exact ⟨h.ord, cell_grown h.cap hg (by omega), hr, ⟨hg.os.trans h.below.os, hg.tape.trans h.below.tape, hg.output.trans h.below.output, Nat.le_trans h.below.size hg.size, fun b hb => (hg.block b (by have := h.size; omega) (fun e => by have := Option.some.inj e; omega)).trans (h.below.block b hb)⟩, h.res.grown hg (by omega), h.var.grown hg (by omega), Nat.lt_of_lt_of_le h.size hg.size⟩

theorem RI.store {w W : World} {R C X : Nat} {st : Option (List Int)} {vs : List Value} (h : RI w R C X st vs W) {k : Nat} (u : Value) : RI w R C X st (vs.set k u) (W.setCell ⟨X, k, none⟩ u) := by
  obtain ⟨e1, e2, e3⟩ := h.ord
  have hg : W.grownBy (W.setCell ⟨X, k, none⟩ u) (some X) := grown_set u
  exact ⟨h.ord, cell_grown h.cap hg (by omega), h.rdr.other hg (by omega), h.below.setCell (by show w.heap.size ≤ X; omega) u, h.res.grown hg (by omega), h.var.set u, by simpa using h.size⟩

/-- how it begins -/
theorem RI.start (w : World) (a : Option Addr) (m cap : Nat) (xs : List Int) (hm : m = xs.length) (ho : Octs w a cap xs) (hp : Ples a cap) (hl : ∀ ad, a = some ad → ad.block < w.heap.size) (hf : xs.length ≤ 4000) (R C X : Nat) (ord : R = w.heap.size + 1 ∧ C = w.heap.size + 2 ∧ X = w.heap.size + 3) (t1 t2 t3 t4 : TypeId) :
    RI w R C X (some xs) [.int .i64 0, .int .i64 0, .int .i64 0, .slice none 0 0, .slice none 0 0] ((((w.alloc (.cells #[.int .i64 0, .int .i64 0, .int .i64 0, .slice none 0 0, .slice none 0 0] t1)).alloc (.cells #[.slice a m cap, .bool false] t2)).alloc (.cells #[.pointer (some ⟨R, 0, none⟩)] t3)).alloc (.cells #[.int .i64 0, .int .i64 0, .int .i64 0, .slice none 0 0, .slice none 0 0] t4)) := by
  obtain ⟨rfl, rfl, rfl⟩ := ord
  have b1 := (Below.refl w.heap.size w).alloc (Nat.le_refl _) (.cells #[.int .i64 0, .int .i64 0, .int .i64 0, .slice none 0 0, .slice none 0 0] t1)
  have c1 := Cls.new w [.int .i64 0, .int .i64 0, .int .i64 0, .slice none 0 0, .slice none 0 0] t1
  have s1 : (w.alloc (.cells #[.int .i64 0, .int .i64 0, .int .i64 0, .slice none 0 0, .slice none 0 0] t1)).heap.size = w.heap.size + 1 := by simp
  generalize w.alloc (.cells #[.int .i64 0, .int .i64 0, .int .i64 0, .slice none 0 0, .slice none 0 0] t1) = W1 at b1 c1 s1 ⊢
  have b2 := (Below.refl W1.heap.size W1).alloc (Nat.le_refl _) (.cells #[.slice a m cap, .bool false] t2)
  have r2 := Two.new W1 (.slice a m cap) (.bool false) t2
  have s2 : (W1.alloc (.cells #[.slice a m cap, .bool false] t2)).heap.size = w.heap.size + 2 := by simp [s1]
  rw [s1] at r2
  generalize W1.alloc (.cells #[.slice a m cap, .bool false] t2) = W2 at b2 r2 s2 ⊢
  have b3 := (Below.refl W2.heap.size W2).alloc (Nat.le_refl _) (.cells #[.pointer (some ⟨w.heap.size + 1, 0, none⟩)] t3)
  have p3 : (W2.alloc (.cells #[.pointer (some ⟨w.heap.size + 1, 0, none⟩)] t3)).cell? ⟨w.heap.size + 2, 0, none⟩ = some (.pointer (some ⟨w.heap.size + 1, 0, none⟩)) := by rw [← s2]; simp
  have s3 : (W2.alloc (.cells #[.pointer (some ⟨w.heap.size + 1, 0, none⟩)] t3)).heap.size = w.heap.size + 3 := by simp [s2]
  generalize W2.alloc (.cells #[.pointer (some ⟨w.heap.size + 1, 0, none⟩)] t3) = W3 at b3 p3 s3 ⊢
  have b4 := (Below.refl W3.heap.size W3).alloc (Nat.le_refl _) (.cells #[.int .i64 0, .int .i64 0, .int .i64 0, .slice none 0 0, .slice none 0 0] t4)
  have c4 := Cls.new W3 [.int .i64 0, .int .i64 0, .int .i64 0, .slice none 0 0, .slice none 0 0] t4
  rw [s3] at c4
  have s4 : (W3.alloc (.cells #[.int .i64 0, .int .i64 0, .int .i64 0, .slice none 0 0, .slice none 0 0] t4)).heap.size = w.heap.size + 4 := by simp [s3]
  generalize W3.alloc (.cells #[.int .i64 0, .int .i64 0, .int .i64 0, .slice none 0 0, .slice none 0 0] t4) = W4 at b4 c4 s4 ⊢
  have b12 := b2.trans (b3.mono (by omega)) |>.trans (b4.mono (by omega))
  have b02 := b1.trans (b12.mono (by omega))
  have b24 := b3.trans (b4.mono (by omega))
  refine ⟨⟨rfl, rfl, rfl⟩, (b4.cell (p := ⟨w.heap.size + 2, 0, none⟩) (by show w.heap.size + 2 < W3.heap.size; omega)).trans p3, ⟨a, m, cap, false, xs, ⟨r2.later b24, hm, ho.later b02, hp, fun ad e => by have := hl ad e; omega, hf⟩, rfl⟩, b02, c1.later b12, c4, by omega⟩

/-- what is read of an intent's bytes, one behind the other -/
structure Chain (xs : List Int) (c n s : Int) (rs : List Ent) (ws : List Wt) (st : Option (List Int)) : Prop where
  ex : ∃ s1 s2 s3 s4, NumIs (some xs) c s1 ∧ NumIs s1 n s2 ∧ NumIs s2 s s3 ∧ ManyIs cutRd s3 rs s4 ∧ ManyIs cutWt s4 ws st

theorem Chain.good {xs : List Int} {c n s : Int} {rs : List Ent} {ws : List Wt} (h : Chain xs c n s rs ws (some [])) (hb : Bytes8 xs) : encI ⟨c, n, s, rs, ws⟩ = xs := by
  obtain ⟨s1, s2, s3, s4, h1, h2, h3, h4, h5⟩ := h.ex
  rcases h5 with ⟨m, b6, r7, e6, e7, e8⟩ | ⟨_, e⟩
  · cases e8
    cases s4 with
    | none => cases e6
    | some r5 =>
      rcases h4 with ⟨k, b4, r5', e4, e5, e9⟩ | ⟨_, e⟩
      · cases e9
        cases s3 with
        | none => cases e4
        | some r3 =>
          rcases h3 with ⟨q3, r3', e3, rfl, e10⟩ | ⟨_, _, e⟩
          · cases e10
            cases s2 with
            | none => cases e3
            | some r2 =>
              rcases h2 with ⟨q2, r2', e2, rfl, e11⟩ | ⟨_, _, e⟩
              · cases e11
                cases s1 with
                | none => cases e2
                | some r1 =>
                  rcases h1 with ⟨q1, r1', e1, rfl, e12⟩ | ⟨_, _, e⟩
                  · cases e12
                    exact encI_inv hb e1 e2 e3 e4 e5 e6 e7
                  · cases e
              · cases e
          · cases e
      · cases e
  · cases e

theorem Chain.same {x : Itt} {c n s : Int} {rs : List Ent} {ws : List Wt} {st : Option (List Int)} (hx : MayI x) (h : Chain (encI x) c n s rs ws st) : st = some [] ∧ x = ⟨c, n, s, rs, ws⟩ := by
  obtain ⟨s1, s2, s3, s4, h1, h2, h3, h4, h5⟩ := h.ex
  obtain ⟨r1, r2, r3, r4, r5, a1, a2, a3, a4, a5, a6, a7⟩ := encI_cut hx
  have n1 : ∀ {b r : List Int} {q : Nat} {v : Int} {st' : Option (List Int)}, NumIs (some b) v st' → cut4 b = some (q, r) → st' = some r ∧ v = q := by
    intro b r q v st' h e
    rcases h with ⟨m, r', e', e2, rfl⟩ | ⟨e', _, _⟩
    · have e'' : cut4 b = some (m, r') := e'
      rw [e] at e''
      cases e''
      exact ⟨rfl, e2⟩
    · have e'' : cut4 b = none := e'
      rw [e] at e''
      cases e''
  have n2 : ∀ {α : Type} {f : List Int → Option (α × List Int)} {b r r' : List Int} {q : Nat} {l l' : List α} {st' : Option (List Int)}, ManyIs f (some b) l st' → cut4 b = some (q, r) → cutN f q r = some (l', r') → st' = some r' ∧ l = l' := by
    intro α f b r r' q l l' st' h e e2
    rcases h with ⟨m, b', r'', e', e3, rfl⟩ | ⟨e', _⟩
    · have e'' : cut4 b = some (m, b') := e'
      rw [e] at e''
      cases e''
      rw [e2] at e3
      cases e3
      exact ⟨rfl, rfl⟩
    · rw [e' q r e] at e2
      cases e2
  obtain ⟨rfl, q1⟩ := n1 h1 a1
  obtain ⟨rfl, q2⟩ := n1 h2 a2
  obtain ⟨rfl, q3⟩ := n1 h3 a3
  obtain ⟨rfl, q4⟩ := n2 h4 a4 a5
  obtain ⟨q6, q5⟩ := n2 h5 a6 a7
  refine ⟨q6, ?_⟩
  have m1 := hx.client
  have m2 := hx.number
  have m3 := hx.base
  cases x
  simp only at q1 q2 q3 q4 q5 m1 m2 m3
  subst q4 q5
  congr 1 <;> omega

/-- what reading comes to -/
def ReadPost (xs : List Int) (w : World) (e : Ending) (w' : World) : Prop := ∃ (c n s : Int) (ra : Option Addr) (rn rc : Nat) (wa : Option Addr) (wn wc : Nat) (good : Bool), e = .returned (.tuple #[.agg #[.int .i64 c, .int .i64 n, .int .i64 s, .slice ra rn rc, .slice wa wn wc], .bool good]) ∧ Below w.heap.size w w' ∧ ∃ (rs : List Ent) (ws : List Wt), rn = rs.length ∧ wn = ws.length ∧ ItIs (fun b => w.heap.size ≤ b) w' rs ws ra rc wa wc ∧ (good = true → encI ⟨c, n, s, rs, ws⟩ = xs) ∧ (∀ x, MayI x → encI x = xs → good = true ∧ x = ⟨c, n, s, rs, ws⟩)

set_option maxRecDepth 100000 in
set_option maxHeartbeats 8000000 in
theorem readIntent_any (a : Option Addr) (cap : Nat) (xs : List Int) (w : World) (ho : Octs w a cap xs) (hp : Ples a cap) (hl : ∀ ad, a = some ad → ad.block < w.heap.size) (hf : xs.length ≤ 4000) :
    Calls Try.prog 55 #[.slice a xs.length cap] w fun e w' => ReadPost xs w e w' := by
  generalize hpost : (fun e w' => ReadPost xs w e w') = Q
  have HP : Hid (∀ e w', ReadPost xs w e w' → Q e w') := fun e w' h => by rw [← hpost]; exact h
  clear hpost
  obtain ⟨m, hm⟩ : ∃ m, m = xs.length := ⟨_, rfl⟩
  rw [← hm]
  have H0 := put_by (RI.start w a m cap xs hm ho hp hl hf)
  have HB : Hid (Bytes8 xs) := ho.2.2.2.1
  clear ho hp hl hf hm
  go_enter Try.func55, Try.ntmps55
  go_upto_region 3 with (fail)
  generalize hX : w.heap.size + 1 + 1 + 1 = X
  generalize hC : w.heap.size + 1 + 1 = C
  generalize hR : w.heap.size + 1 = R
  have H0 := put_by (H0.out R C X ⟨by omega, by omega, by omega⟩ 65 111 109 65)
  clear hX hC hR
  generalize (((w.alloc (.cells #[.int .i64 0, .int .i64 0, .int .i64 0, .slice none 0 0, .slice none 0 0] _)).alloc (.cells #[.slice a m cap, .bool false] _)).alloc (.cells #[.pointer (some ⟨R, 0, none⟩)] _)).alloc (.cells #[.int .i64 0, .int .i64 0, .int .i64 0, .slice none 0 0, .slice none 0 0] _) = W0 at H0 ⊢
  have cN : Hid (∀ (P : Option (List Int) → Prop) (V : World) (vs : List Value), (∃ st, P st ∧ RI w R C X st vs V) → Calls Try.prog 70 #[.pointer (some ⟨R, 0, none⟩)] V fun e w' => ∃ v : Int, e = .returned (.int .i64 v) ∧ Hid (∃ st', (∃ st, P st ∧ NumIs st v st') ∧ RI w R C X st' vs w')) := fun P V vs ⟨st, h1, h2⟩ => by
    refine (number_any R st V h2.rdr).mono ?_
    rintro e w' ⟨v, st', rfl, -, g1, g2, g3⟩
    exact ⟨v, rfl, st', ⟨st, h1, g1⟩, h2.call g2 g3⟩
  have cR : Hid (∀ (P : Option (List Int) → Prop) (V : World) (vs : List Value), (∃ st, P st ∧ RI w R C X st vs V) → Calls Try.prog 71 #[.pointer (some ⟨R, 0, none⟩), .func (.func 72) #[] #[.pointer (some ⟨C, 0, none⟩)]] V fun e w' => ∃ (a : Option Addr) (n c : Nat), e = .returned (.slice a n c) ∧ Hid (∃ l : List Ent, (n = l.length ∧ n ≤ 4001 ∧ Lies kEnt (fun b => X < b) w' a c l) ∧ ∃ st', (∃ st, P st ∧ ManyIs cutRd st l st') ∧ RI w R C X st' vs w')) := fun P V vs ⟨st, h1, h2⟩ => by
    have ho := h2.ord
    refine (manyR_any C R st V h2.rdr h2.cap (by omega)).mono ?_
    rintro e w' ⟨a, n, c, l, st', rfl, g1, g2, g3, g4, g5, g6, g7⟩
    exact ⟨a, n, c, rfl, l, ⟨g1, g2, g3.move (Kept.of_below (Below.refl _ _)) (fun b _ hb => by have := h2.size; omega)⟩, st', ⟨st, h1, g5⟩, h2.call g6 g7⟩
  have cW : Hid (∀ (P : Option (List Int) → Prop) (V : World) (vs : List Value) (ra : Option Addr) (rc : Nat) (rs : List Ent), Lies kEnt (fun b => X < b) V ra rc rs → (∃ st, P st ∧ RI w R C X st vs V) → Calls Try.prog 74 #[.pointer (some ⟨R, 0, none⟩), .func (.func 75) #[] #[.pointer (some ⟨C, 0, none⟩)]] V fun e w' => ∃ (a : Option Addr) (n c : Nat), e = .returned (.slice a n c) ∧ Hid (Lies kEnt (fun b => X < b) w' ra rc rs ∧ ∃ l : List Wt, (n = l.length ∧ n ≤ 4001 ∧ Lies kWt (fun b => X < b) w' a c l) ∧ ∃ st', (∃ st, P st ∧ ManyIs cutWt st l st') ∧ RI w R C X st' vs w')) := fun P V vs ra rc rs hr ⟨st, h1, h2⟩ => by
    have ho := h2.ord
    refine (manyW_any C R st V h2.rdr h2.cap (by omega)).mono ?_
    rintro e w' ⟨a, n, c, l, st', rfl, g1, g2, g3, g4, g5, g6, g7⟩
    exact ⟨a, n, c, rfl, hr.move (kept_old g7 (by omega)) (fun _ _ q => q), l, ⟨g1, g2, g3.move (Kept.of_below (Below.refl _ _)) (fun b _ hb => by have := h2.size; omega)⟩, st', ⟨st, h1, g5⟩, h2.call g6 g7⟩
  have J0 : Hid (∃ st, (st = some xs) ∧ RI w R C X st [.int .i64 0, .int .i64 0, .int .i64 0, .slice none 0 0, .slice none 0 0] W0) := ⟨_, rfl, H0.out⟩
  have k0 := H0.out.cap
  clear H0
  go_upto_region 4 with (first
    | (go_at_call 70; (with_reducible refine (cN.out _ _ _ J0.out).mono ?_); clear J0; rintro e w1 ⟨c, rfl, J1⟩; obtain ⟨st1, p1, q1⟩ := J1.out; obtain ⟨x0, f0⟩ := q1.var 0 _ rfl; clear p1 q1))
  replace J1 := put_by (show ∃ st', _ ∧ RI w R C X st' _ _ from (let ⟨st', p, q⟩ := J1.out; ⟨st', p, q.store (k := 0) (.int .i64 c)⟩))
  have k1 := (let ⟨_, _, q⟩ := J1.out; RI.cap q)
  clear x0 f0 k0
  generalize w1.setCell _ _ = W1 at J1 k1 ⊢
  go_upto_region 5 with (first
    | (go_at_call 70; (with_reducible refine (cN.out _ _ _ J1.out).mono ?_); clear J1; rintro e w2 ⟨n, rfl, J2⟩; obtain ⟨st2, p2, q2⟩ := J2.out; obtain ⟨x0, f0⟩ := q2.var 1 _ rfl; clear p2 q2))
  replace J2 := put_by (show ∃ st', _ ∧ RI w R C X st' _ _ from (let ⟨st', p, q⟩ := J2.out; ⟨st', p, q.store (k := 1) (.int .i64 n)⟩))
  have k2 := (let ⟨_, _, q⟩ := J2.out; RI.cap q)
  clear x0 f0 k1
  generalize w2.setCell _ _ = W2 at J2 k2 ⊢
  go_upto_region 6 with (first
    | (go_at_call 70; (with_reducible refine (cN.out _ _ _ J2.out).mono ?_); clear J2; rintro e w3 ⟨s, rfl, J3⟩; obtain ⟨st3, p3, q3⟩ := J3.out; obtain ⟨x0, f0⟩ := q3.var 2 _ rfl; clear p3 q3))
  replace J3 := put_by (show ∃ st', _ ∧ RI w R C X st' _ _ from (let ⟨st', p, q⟩ := J3.out; ⟨st', p, q.store (k := 2) (.int .i64 s)⟩))
  have k3 := (let ⟨_, _, q⟩ := J3.out; RI.cap q)
  clear x0 f0 k2
  generalize w3.setCell _ _ = W3 at J3 k3 ⊢
  go_upto_region 7 with (first
    | (go_at_call 71; (with_reducible refine (cR.out _ _ _ J3.out).mono ?_); clear J3; rintro e w4 ⟨ra, rn, rc, rfl, J4⟩; obtain ⟨x0, f0⟩ := (let ⟨_, _, _, _, q⟩ := J4.out; RI.var q 3 _ rfl)))
  obtain ⟨rs, g4, st4, p4, q4⟩ := J4.out
  have M4 := put_by p4
  replace J4 := put_by (show ∃ st', st' = st4 ∧ RI w R C X st' _ _ from ⟨st4, rfl, q4.store (k := 3) (.slice ra rn rc)⟩)
  have G4 : Hid ((rn = rs.length ∧ rn ≤ 4001) ∧ Lies kEnt (fun b => X < b) (w4.setCell ⟨X, 3, none⟩ (.slice ra rn rc)) ra rc rs) := ⟨⟨g4.1, g4.2.1⟩, g4.2.2.move (kept_old (grown_set _) (Nat.lt_irrefl X)) (fun _ _ q => q)⟩
  have k4 := (let ⟨_, _, q⟩ := J4.out; RI.cap q)
  clear x0 f0 k3 p4 q4 g4
  generalize w4.setCell _ _ = W4 at J4 G4 k4 ⊢
  go_upto_region 8 with (first
    | (go_at_call 74; (with_reducible refine (cW.out _ _ _ _ _ _ G4.out.2 J4.out).mono ?_); clear J4; rintro e w5 ⟨wa, wn, wc, rfl, J5⟩; obtain ⟨x0, f0⟩ := (let ⟨_, _, _, _, _, q⟩ := J5.out; RI.var q 4 _ rfl)))
  obtain ⟨g9, ws, g5, st5, p5, q5⟩ := J5.out
  replace J5 := put_by (And.intro p5 (q5.store (k := 4) (.slice wa wn wc)))
  have G5 : Hid (ItIs (fun _ => True) (w5.setCell ⟨X, 4, none⟩ (.slice wa wn wc)) rs ws ra rc wa wc ∧ rn = rs.length ∧ wn = ws.length ∧ Lies kEnt (fun b => X < b) (w5.setCell ⟨X, 4, none⟩ (.slice wa wn wc)) ra rc rs ∧ Lies kWt (fun b => X < b) (w5.setCell ⟨X, 4, none⟩ (.slice wa wn wc)) wa wc ws) := by
    have i1 := g9.move (kept_old (grown_set (j := 4) (.slice wa wn wc)) (Nat.lt_irrefl X)) (fun _ _ q => q)
    have i2 := g5.2.2.move (kept_old (grown_set (j := 4) (.slice wa wn wc)) (Nat.lt_irrefl X)) (fun _ _ q => q)
    have i3 := G4.out.1
    exact ⟨⟨i1.move (Kept.of_below (Below.refl _ _)) (fun _ _ _ => trivial), i2.move (Kept.of_below (Below.refl _ _)) (fun _ _ _ => trivial), by omega, by omega⟩, i3.1, g5.1, i1, i2⟩
  clear x0 f0 k4 p5 q5 g5 g9 G4
  generalize w5.setCell _ _ = W5 at J5 G5 ⊢
  obtain ⟨ra5, rm5, rc5, t, ys, hr, hst⟩ := J5.out.2.rdr
  obtain ⟨r0, r1, -, -⟩ := hr.two
  have HY : Hid (rm5 = ys.length ∧ rm5 ≤ 4000) := ⟨hr.len, by have := hr.few; have := hr.len; omega⟩
  have k5 := J5.out.2.cap
  obtain ⟨y0, -⟩ := J5.out.2.var 0 _ rfl
  obtain ⟨y1, -⟩ := J5.out.2.var 1 _ rfl
  obtain ⟨y2, -⟩ := J5.out.2.var 2 _ rfl
  obtain ⟨y3, -⟩ := J5.out.2.var 3 _ rfl
  obtain ⟨y4, -⟩ := J5.out.2.var 4 _ rfl
  obtain ⟨z0, o0⟩ := J5.out.2.res 0 _ rfl
  obtain ⟨z1, o1⟩ := J5.out.2.res 1 _ rfl
  obtain ⟨z2, o2⟩ := J5.out.2.res 2 _ rfl
  obtain ⟨z3, o3⟩ := J5.out.2.res 3 _ rfl
  obtain ⟨z4, o4⟩ := J5.out.2.res 4 _ rfl
  have HO := J5.out.2.ord
  have nC : C ≠ w.heap.size := by omega
  have nR : R ≠ w.heap.size := by omega
  have nX : X ≠ w.heap.size := by omega
  have mC : w.heap.size ≠ C := by omega
  have mR : w.heap.size ≠ R := by omega
  have mX : w.heap.size ≠ X := by omega
  have HCh : Hid (Chain xs c n s rs ws st5) := by
    obtain ⟨⟨st, rfl, e5⟩, -⟩ := J5.out
    obtain ⟨s3, ⟨s2, ⟨s1, ⟨s0, rfl, e1⟩, e2⟩, e3⟩, e4⟩ := M4.out
    exact ⟨s1, s2, s3, _, e1, e2, e3, e4, e5⟩
  have HE : Hid (∀ good : Bool, (good = true ↔ st5 = some []) → ∀ W9, Below w.heap.size W5 W9 → Kept (fun b => X < b) W5 W9 → ReadPost xs w (.returned (.tuple #[.agg #[.int .i64 c, .int .i64 n, .int .i64 s, .slice ra rn rc, .slice wa wn wc], .bool good])) W9) := fun good hg W9 hb hk => by
    obtain ⟨i1, i2, i3, i4, i5⟩ := G5.out
    have hord := J5.out.2.ord
    refine ⟨c, n, s, ra, rn, rc, wa, wn, wc, good, rfl, J5.out.2.below.trans hb, rs, ws, i2, i3, ⟨i4.move hk (fun b _ hb => by omega), i5.move hk (fun b _ hb => by omega), i1.few⟩, fun h => ?_, fun x hx e => ?_⟩
    · have := HCh.out
      rw [hg.1 h] at this
      exact this.good HB.out
    · have := HCh.out
      rw [← e] at this
      obtain ⟨j1, j2⟩ := this.same hx
      exact ⟨hg.2 j1, j2⟩
  obtain ⟨good, hgood⟩ := bool_of (st5 = some [])
  have HS : Hid (t = false → (good = true ↔ rm5 = 0)) := fun e => by
    rw [hgood, hst, e, HY.out.1]
    simp
  have HT : Hid (t = true → good = false) := fun e => of_not hgood (by rw [hst, e]; simp)
  have HG := put_by (HE.out good hgood)
  have HF : Hid (Cls ((((((W5.setCell ⟨w.heap.size, 0, none⟩ (.int .i64 c)).setCell ⟨w.heap.size, 1, none⟩ (.int .i64 n)).setCell ⟨w.heap.size, 2, none⟩ (.int .i64 s)).setCell ⟨w.heap.size, 3, none⟩ (.slice ra rn rc)).setCell ⟨w.heap.size, 4, none⟩ (.slice wa wn wc)).drew) w.heap.size [.int .i64 c, .int .i64 n, .int .i64 s, .slice ra rn rc, .slice wa wn wc] ∧ Below w.heap.size W5 ((((((W5.setCell ⟨w.heap.size, 0, none⟩ (.int .i64 c)).setCell ⟨w.heap.size, 1, none⟩ (.int .i64 n)).setCell ⟨w.heap.size, 2, none⟩ (.int .i64 s)).setCell ⟨w.heap.size, 3, none⟩ (.slice ra rn rc)).setCell ⟨w.heap.size, 4, none⟩ (.slice wa wn wc)).drew) ∧ Kept (fun b => X < b) W5 ((((((W5.setCell ⟨w.heap.size, 0, none⟩ (.int .i64 c)).setCell ⟨w.heap.size, 1, none⟩ (.int .i64 n)).setCell ⟨w.heap.size, 2, none⟩ (.int .i64 s)).setCell ⟨w.heap.size, 3, none⟩ (.slice ra rn rc)).setCell ⟨w.heap.size, 4, none⟩ (.slice wa wn wc)).drew)) := by
    have hc := ((((J5.out.2.res.set (k := 0) (.int .i64 c)).set (k := 1) (.int .i64 n)).set (k := 2) (.int .i64 s)).set (k := 3) (.slice ra rn rc)).set (k := 4) (.slice wa wn wc)
    have hb : Below w.heap.size W5 ((((((W5.setCell ⟨w.heap.size, 0, none⟩ (.int .i64 c)).setCell ⟨w.heap.size, 1, none⟩ (.int .i64 n)).setCell ⟨w.heap.size, 2, none⟩ (.int .i64 s)).setCell ⟨w.heap.size, 3, none⟩ (.slice ra rn rc)).setCell ⟨w.heap.size, 4, none⟩ (.slice wa wn wc)).drew) := (((((Below.refl w.heap.size W5).setCell (Nat.le_refl _) _).setCell (Nat.le_refl _) _).setCell (Nat.le_refl _) _).setCell (Nat.le_refl _) _).setCell (Nat.le_refl _) _ |>.drew
    have hk : ∀ (V : World) (j : Nat) (u : Value), Kept (fun b => X < b) V (V.setCell ⟨w.heap.size, j, none⟩ u) := fun V j u => kept_old (grown_set u) (by omega)
    exact ⟨hc.later (Below.refl _ _).drew, hb, (((((hk _ _ _).trans (hk _ _ _)).trans (hk _ _ _)).trans (hk _ _ _)).trans (hk _ _ _)).trans (Kept.of_below (Below.refl _ _).drew)⟩
  clear hr cN cR cW HO hst hgood J5 M4 HCh G5 HB H0 HE
  cases t with
  | true =>
    obtain rfl := HT.out rfl
    go_region
    generalize ((((((W5.setCell _ _).setCell _ _).setCell _ _).setCell _ _).setCell _ _).drew) = W9 at HF ⊢
    obtain ⟨v0, -⟩ := HF.out.1 0 _ rfl
    obtain ⟨v1, -⟩ := HF.out.1 1 _ rfl
    obtain ⟨v2, -⟩ := HF.out.1 2 _ rfl
    obtain ⟨v3, -⟩ := HF.out.1 3 _ rfl
    obtain ⟨v4, -⟩ := HF.out.1 4 _ rfl
    go_wp2
    exact bodyPost_ret (v := .tuple #[.agg #[.int .i64 c, .int .i64 n, .int .i64 s, .slice ra rn rc, .slice wa wn wc], .bool false]) (by simp [results, Try.results55, go_sem, asAddr, v0, v1, v2, v3, v4]) rfl (HP.out _ _ (HG.out W9 HF.out.2.1 HF.out.2.2))
  | false =>
    by_cases h0 : rm5 = 0
    · obtain rfl := (HS.out rfl).2 h0
      subst h0
      go_region
      generalize ((((((W5.setCell _ _).setCell _ _).setCell _ _).setCell _ _).setCell _ _).drew) = W9 at HF ⊢
      obtain ⟨v0, -⟩ := HF.out.1 0 _ rfl
      obtain ⟨v1, -⟩ := HF.out.1 1 _ rfl
      obtain ⟨v2, -⟩ := HF.out.1 2 _ rfl
      obtain ⟨v3, -⟩ := HF.out.1 3 _ rfl
      obtain ⟨v4, -⟩ := HF.out.1 4 _ rfl
      go_wp2
      exact bodyPost_ret (v := .tuple #[.agg #[.int .i64 c, .int .i64 n, .int .i64 s, .slice ra rn rc, .slice wa wn wc], .bool true]) (by simp [results, Try.results55, go_sem, asAddr, v0, v1, v2, v3, v4]) rfl (HP.out _ _ (HG.out W9 HF.out.2.1 HF.out.2.2))
    · obtain rfl : good = false := of_not (HS.out rfl) h0
      have h1 : ((rm5 : Int) == 0) = false := by simpa using h0
      go_region
      generalize ((((((W5.setCell _ _).setCell _ _).setCell _ _).setCell _ _).setCell _ _).drew) = W9 at HF ⊢
      obtain ⟨v0, -⟩ := HF.out.1 0 _ rfl
      obtain ⟨v1, -⟩ := HF.out.1 1 _ rfl
      obtain ⟨v2, -⟩ := HF.out.1 2 _ rfl
      obtain ⟨v3, -⟩ := HF.out.1 3 _ rfl
      obtain ⟨v4, -⟩ := HF.out.1 4 _ rfl
      go_wp2
      exact bodyPost_ret (v := .tuple #[.agg #[.int .i64 c, .int .i64 n, .int .i64 s, .slice ra rn rc, .slice wa wn wc], .bool false]) (by simp [results, Try.results55, go_sem, asAddr, v0, v1, v2, v3, v4]) rfl (HP.out _ _ (HG.out W9 HF.out.2.1 HF.out.2.2))

end Go.Proofs.Ytndnbkgejdindaa
