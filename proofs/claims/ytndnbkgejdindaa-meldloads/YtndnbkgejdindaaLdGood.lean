/- A saved state read back: the closure that finds nothing to recover, and readState, the good way. -/
import Derived.Test.YtndnbkgejdindaaLdRows
import Derived.Test.YtndnbkgejdindaaAnyU
import Derived.Defers
import Derived.Recover
namespace Go.Proofs.Ytndnbkgejdindaa
open Go.ChangeShapes Go.WideShapes Go.ChangeAt Go.RowKit

theorem lcatch_any (p q : Addr) (w : World) :
    CallsD Try.prog 47 #[.pointer (some p), .pointer (some q)] .returning w fun e u' w' => e = .returned (.tuple #[]) ∧ u' = .returning ∧ w' = w := by
  refine callsD_of_wpS Try.func47 rfl fun c₀ cs hu => ?_
  apply wpS_seq
  apply wpS_region
  simp [wpOpsS, go_sem, recoverD, hu, Try.ntmps47, Exit.thenS]
  refine wpS_cond (t := false) (by simp [Act.eval, Array.replicate]) ?_
  simp only [Bool.false_eq_true, if_false]
  refine wpS_of_wp (wp_skip ?_)
  cases c₀
  simp_all [bodyPostS, results, Try.results47]

/-- the reader, the result's variables -/
structure LsI (w : World) (H B R : Nat) (xs : List Int) (vs : List Value) (W : World) : Prop where
  ord : H = w.heap.size ∧ B = w.heap.size + 1 ∧ R = w.heap.size + 2
  rd : LdS W R xs
  below : Below w.heap.size w W
  st : Cls W H vs
  okc : Cls W B [.bool false]
  size : R < W.heap.size
  three : vs.length = 3
  kind : ∀ (j : Nat) (z : Int), vs[j]? ≠ some (Value.int .u8 z)
  past : ∀ j, 3 ≤ j → W.cell? ⟨H, j, none⟩ = none

theorem LsI.call {w W W' : World} {H B R : Nat} {xs xs' : List Int} {vs : List Value} (h : LsI w H B R xs vs W) (hr : LdS W' R xs') (hg : W.grownBy W' (some R)) : LsI w H B R xs' vs W' := by
  obtain ⟨e1, e2, e3⟩ := h.ord
  exact ⟨h.ord, hr, ⟨hg.os.trans h.below.os, hg.tape.trans h.below.tape, hg.output.trans h.below.output, Nat.le_trans h.below.size hg.size, fun b hb => (hg.block b (by have := h.size; omega) (fun e => by have := Option.some.inj e; omega)).trans (h.below.block b hb)⟩, h.st.grown hg (by omega), h.okc.grown hg (by omega), Nat.lt_of_lt_of_le h.size hg.size, h.three, h.kind, fun j hj => (World.cell?_of_block (a := ⟨H, j, none⟩) (hg.block H (by have := h.size; omega) (fun e => by have := Option.some.inj e; omega))).trans (h.past j hj)⟩

/-- the bytes lie in no variable of the call's -/
theorem LsI.apart {w W : World} {H B R : Nat} {xs : List Int} {vs : List Value} (h : LsI w H B R xs vs W) {a : Option Addr} {cap : Nat} (ho : Octs W a cap xs) (hx : xs ≠ []) : ∀ ad, a = some ad → some H ≠ some ad.block := by
  rintro ad rfl e
  cases e
  rcases ho.2.2.2.2 with h0 | ⟨b, off, e, hc⟩
  · exact hx h0
  · cases e
    have h1 := hc 0 (List.length_pos_iff.2 hx)
    rw [Nat.add_zero] at h1
    by_cases h3 : 3 ≤ off
    · rw [h.past off h3] at h1
      cases h1
    · have hlt : off < vs.length := by rw [h.three]; omega
      have h2 := (h.st off _ (List.getElem?_eq_getElem hlt)).1
      rw [h1] at h2
      exact h.kind off _ ((List.getElem?_eq_getElem hlt).trans h2.symm)

theorem LsI.store {w W : World} {H B R : Nat} {xs : List Int} {vs : List Value} (h : LsI w H B R xs vs W) {k : Nat} (u : Value) (hk : k < 3) (hu : ∀ z : Int, u ≠ Value.int .u8 z) : LsI w H B R xs (vs.set k u) (W.setCell ⟨H, k, none⟩ u) := by
  obtain ⟨e1, e2, e3⟩ := h.ord
  have hg : W.grownBy (W.setCell ⟨H, k, none⟩ u) (some H) := grown_set u
  refine ⟨h.ord, ?_, h.below.setCell (by show w.heap.size ≤ H; omega) u, h.st.set u, h.okc.grown hg (by omega), by simpa using h.size, by rw [List.length_set]; exact h.three, fun j z e => ?_, fun j hj => ?_⟩
  · obtain ⟨a, m, cap, h1⟩ := h.rd
    exact ⟨a, m, cap, h1.one.grown hg (by omega), h1.len, h1.octs.grown hg (fun hx => h.apart h1.octs hx), h1.ples, h1.ne⟩
  · by_cases hjk : k = j
    · subst hjk
      rw [List.getElem?_set_self (by rw [h.three]; exact hk)] at e
      exact hu z (Option.some.inj e)
    · rw [List.getElem?_set_ne hjk] at e
      exact h.kind j z e
  · rw [World.cell?_setCell_other _ _ _ _ (by intro q; cases q; omega)]
    exact h.past j hj

/-- how it begins -/
theorem LsI.start (w : World) (a : Option Addr) (m cap : Nat) (xs : List Int) (hm : m = xs.length) (ho : Octs w a cap xs) (hp : Ples a cap) (hl : ∀ ad, a = some ad → ad.block < w.heap.size) (t1 t2 t3 : TypeId) :
    LsI w w.heap.size (w.heap.size + 1) (w.heap.size + 2) xs [.int .i64 0, .slice none 0 0, .slice none 0 0] (((w.alloc (.cells #[.int .i64 0, .slice none 0 0, .slice none 0 0] t1)).alloc (.cells #[.bool false] t2)).alloc (.cells #[.slice a m cap] t3)) := by
  have b1 := (Below.refl w.heap.size w).alloc (Nat.le_refl _) (.cells #[.int .i64 0, .slice none 0 0, .slice none 0 0] t1)
  have c1 := Cls.new w [.int .i64 0, .slice none 0 0, .slice none 0 0] t1
  have s1 : (w.alloc (.cells #[.int .i64 0, .slice none 0 0, .slice none 0 0] t1)).heap.size = w.heap.size + 1 := by simp
  have p1 : ∀ j, 3 ≤ j → (w.alloc (.cells #[.int .i64 0, .slice none 0 0, .slice none 0 0] t1)).cell? ⟨w.heap.size, j, none⟩ = none := fun j hj => by
    have hh := heap_alloc_new w (.cells #[.int .i64 0, .slice none 0 0, .slice none 0 0] t1)
    simp only [World.cell?, hh]
    simpa using hj
  generalize w.alloc (.cells #[.int .i64 0, .slice none 0 0, .slice none 0 0] t1) = W1 at b1 c1 s1 p1 ⊢
  have b2 := (Below.refl W1.heap.size W1).alloc (Nat.le_refl _) (.cells #[.bool false] t2)
  have c2 := Cls.new W1 [.bool false] t2
  have s2 : (W1.alloc (.cells #[.bool false] t2)).heap.size = w.heap.size + 2 := by simp [s1]
  rw [s1] at c2
  generalize W1.alloc (.cells #[.bool false] t2) = W2 at b2 c2 s2 ⊢
  have b3 := (Below.refl W2.heap.size W2).alloc (Nat.le_refl _) (.cells #[.slice a m cap] t3)
  have c3 := Cls.new W2 [.slice a m cap] t3
  rw [s2] at c3
  have s3 : (W2.alloc (.cells #[.slice a m cap] t3)).heap.size = w.heap.size + 3 := by simp [s2]
  generalize W2.alloc (.cells #[.slice a m cap] t3) = W3 at b3 c3 s3 ⊢
  have b23 := b2.trans (b3.mono (by omega))
  have b02 := b1.trans (b23.mono (by omega))
  refine ⟨⟨rfl, rfl, rfl⟩, ⟨a, m, cap, c3, hm, ho.later b02, hp, fun ad e => by have := hl ad e; omega⟩, b02, c1.later b23, c2.later (by rw [s2]; rw [s2] at b3; exact b3), by omega, rfl, fun j z e => ?_, fun j hj => (World.cell?_of_block (a := ⟨w.heap.size, j, none⟩) (b23.block w.heap.size (by omega))).trans (p1 j hj)⟩
  match j with
  | 0 => cases e
  | 1 => cases e
  | 2 => cases e
  | _ + 3 => cases e

end Go.Proofs.Ytndnbkgejdindaa

/- readState, the good way: what was saved is read back. -/
namespace Go.Proofs.Ytndnbkgejdindaa
open Go.ChangeShapes Go.WideShapes Go.ChangeAt Go.RowKit

/-- no panic comes of it -/
def NoPan (Q : Exit → Act → World → Prop) (e : Exit) (a : Act) (w : World) : Prop := (∀ c, e ≠ .panic c) ∧ Q e a w

theorem noPan {P : Program} {c : Code} {Q : Exit → Act → World → Prop} {a : Act} {w : World} (h : c.wp P (NoPan Q) a w) : c.wp P Q a w := Code.wp_mono (fun _ _ _ h => h.2) h

set_option maxRecDepth 100000 in
set_option maxHeartbeats 4000000 in
theorem readState_good (p : Nat) (cs : List Cel) (ds : List Dn) (hM : MayS ⟨(p : Int), cs, ds⟩) (hc6 : cs.length ≤ 4294967295) (hd6 : ds.length ≤ 4294967295) (a : Option Addr) (m cap : Nat) (w : World) (hm : m = (encS ⟨(p : Int), cs, ds⟩).length) (ho : Octs w a cap (encS ⟨(p : Int), cs, ds⟩)) (hpl : Ples a cap) (hlt : ∀ ad, a = some ad → ad.block < w.heap.size) :
    Calls Try.prog 23 #[.slice a m cap] w fun e w' => ∃ (ca : Option Addr) (n1 cc : Nat) (da : Option Addr) (n2 dc : Nat), e = .returned (.tuple #[.agg #[.int .i64 (p : Int), .slice ca n1 cc, .slice da n2 dc], .bool true]) ∧ Hid (n1 = cs.length ∧ n2 = ds.length ∧ StIs (fun b => w.heap.size ≤ b) w' cs ds ca cc da dc ∧ Below w.heap.size w w') := by
  generalize hpost : (fun (e : Ending) (w' : World) => ∃ (ca : Option Addr) (n1 cc : Nat) (da : Option Addr) (n2 dc : Nat), e = .returned (.tuple #[.agg #[.int .i64 (p : Int), .slice ca n1 cc, .slice da n2 dc], .bool true]) ∧ Hid (n1 = cs.length ∧ n2 = ds.length ∧ StIs (fun b => w.heap.size ≤ b) w' cs ds ca cc da dc ∧ Below w.heap.size w w')) = Q
  have HP : Hid (∀ ca n1 cc da n2 dc w', n1 = cs.length ∧ n2 = ds.length ∧ StIs (fun b => w.heap.size ≤ b) w' cs ds ca cc da dc ∧ Below w.heap.size w w' → Q (.returned (.tuple #[.agg #[.int .i64 (p : Int), .slice ca n1 cc, .slice da n2 dc], .bool true])) w') := fun ca n1 cc da n2 dc w' h => by rw [← hpost]; exact ⟨ca, n1, cc, da, n2, dc, rfl, h⟩
  clear hpost
  have hmf : ∀ (fn : Fn) (first cap : Array Value) (w : World), (Instr.makeFunc fn first cap).run Try.prog w = .ok (.func fn first cap) w := fun _ _ _ _ => rfl
  have hp6 : (p : Int) ≤ 1048576 := hM.pos.2
  have HM := put_by hM
  have H6 : Hid (cs.length ≤ 4294967295 ∧ ds.length ≤ 4294967295) := ⟨hc6, hd6⟩
  have hxs : encS ⟨(p : Int), cs, ds⟩ = le4 p ++ (le4 cs.length ++ (cs.flatMap encC ++ (le4 ds.length ++ (ds.flatMap encD ++ [])))) := by simp [encS]
  rw [hxs] at hm ho
  have I0 : Hid (∀ t1 t2 t3, LsI w w.heap.size (w.heap.size + 1) (w.heap.size + 1 + 1) (le4 p ++ (le4 cs.length ++ (cs.flatMap encC ++ (le4 ds.length ++ (ds.flatMap encD ++ []))))) [.int .i64 0, .slice none 0 0, .slice none 0 0] (((w.alloc (.cells #[.int .i64 0, .slice none 0 0, .slice none 0 0] t1)).alloc (.cells #[.bool false] t2)).alloc (.cells #[.slice a m cap] t3))) := fun t1 t2 t3 => LsI.start w a m cap _ hm ho hpl hlt t1 t2 t3
  clear hM hc6 hd6 hm ho hpl hlt hxs
  have hq : p < 4294967296 := by omega
  go_enter_defers Try.func23, Try.ntmps23
  go_upto_region 3 with (fail)
  generalize hW : (((w.alloc (.cells #[.int .i64 0, .slice none 0 0, .slice none 0 0] _)).alloc (.cells #[.bool false] _)).alloc (.cells #[.slice a m cap] _)) = W0
  have I1 := put_by (I0.out 25 4 88)
  rw [hW] at I1
  clear hW I0
  generalize w.heap.size + 1 + 1 = R at I1 ⊢
  generalize w.heap.size + 1 = B at I1 ⊢
  generalize w.heap.size = H at I1 ⊢
  have hT := lnumber_le R p _ hq _ I1.out.rd
  go_upto_region 4 with (first
    | (go_at_call 48; (with_reducible refine hT.mono ?_); clear hT; rintro e w1 ⟨rfl, H1⟩; have J1 := put_by (I1.out.call H1.out.1 H1.out.2); obtain ⟨x1, f1⟩ := J1.out.st 0 _ rfl))
  have I2 := put_by (J1.out.store (k := 0) (.int .i64 (p : Int)) (by decide) (by intro z e; cases e))
  clear x1 f1 J1 I1 H1
  generalize w1.setCell ⟨H, 0, none⟩ (.int .i64 (p : Int)) = W1 at I2 ⊢
  have hT := lcells_ok R cs p hp6 HM.out.cells H6.out.1 _ W1 I2.out.size I2.out.rd
  go_upto_region 5 with (first
    | (go_at_call 49; (with_reducible refine hT.mono ?_); clear hT; rintro e w2 ⟨ca, n1, cc, rfl, H2⟩; have J2 := put_by (I2.out.call H2.out.2.2.1 H2.out.2.2.2); obtain ⟨x1, f1⟩ := J2.out.st 1 _ rfl))
  have I3 := put_by (J2.out.store (k := 1) (.slice ca n1 cc) (by decide) (by intro z e; cases e))
  have C3 : Hid (Lies kCel (fun b => R < b) (w2.setCell ⟨H, 1, none⟩ (.slice ca n1 cc)) ca cc cs ∧ n1 = cs.length) := by
    obtain ⟨e1, e2, e3⟩ := I2.out.ord
    have hs := I2.out.size
    obtain ⟨hn, hl, -, -⟩ := rows_lies H2.out.2.1 (fun b hb => hb)
    exact ⟨(hl.move (ok' := fun b => R < b) (Kept.of_below (Below.refl _ _)) (fun b _ hb => by have h2 : W1.heap.size ≤ b := hb; show R < b; omega)).move (Kept.of_grown (grown_set _) (fun b hb e => by have h1 := Option.some.inj e; have h2 : R < b := hb; omega)) (fun _ _ h => h), hn⟩
  clear x1 f1 J2 I2 H2
  generalize w2.setCell ⟨H, 1, none⟩ (.slice ca n1 cc) = W2 at I3 C3 ⊢
  have hT := ldones_ok R ds p hp6 HM.out.dones H6.out.2 _ W2 I3.out.size I3.out.rd
  go_upto_region 6 with (first
    | (go_at_call 50; (with_reducible refine hT.mono ?_); clear hT; rintro e w3 ⟨da, n2, dc, rfl, H3⟩; have J3 := put_by (I3.out.call H3.out.2.2.1 H3.out.2.2.2); obtain ⟨x1, f1⟩ := J3.out.st 2 _ rfl))
  have I4 := put_by (J3.out.store (k := 2) (.slice da n2 dc) (by decide) (by intro z e; cases e))
  have C4 : Hid ((Lies kCel (fun b => R < b) (w3.setCell ⟨H, 2, none⟩ (.slice da n2 dc)) ca cc cs ∧ n1 = cs.length) ∧ Lies kDn (fun b => R < b) (w3.setCell ⟨H, 2, none⟩ (.slice da n2 dc)) da dc ds ∧ n2 = ds.length) := by
    obtain ⟨e1, e2, e3⟩ := I3.out.ord
    have hs := I3.out.size
    obtain ⟨hn, hl, -, -⟩ := rows_lies H3.out.2.1 (fun b hb => hb)
    have hk : Kept (fun b => R < b) w3 (w3.setCell ⟨H, 2, none⟩ (.slice da n2 dc)) := Kept.of_grown (grown_set _) (fun b hb e => by have h1 := Option.some.inj e; have h2 : R < b := hb; omega)
    exact ⟨⟨(C3.out.1.move (Kept.of_grown H3.out.2.2.2 (fun b hb e => by have h1 := Option.some.inj e; have h2 : R < b := hb; omega)) (fun _ _ h => h)).move hk (fun _ _ h => h), C3.out.2⟩, (hl.move (ok' := fun b => R < b) (Kept.of_below (Below.refl _ _)) (fun b _ hb => by have h2 : W2.heap.size ≤ b := hb; show R < b; omega)).move hk (fun _ _ h => h), hn⟩
  clear x1 f1 J3 I3 H3 C3
  generalize w3.setCell ⟨H, 2, none⟩ (.slice da n2 dc) = W3 at I4 C4 ⊢
  obtain ⟨ra, rm, rc, hL⟩ := I4.out.rd
  have hrm : rm = 0 := hL.len
  subst hrm
  have hS : (fun V : World => Cls V H [.int .i64 (p : Int), .slice ca n1 cc, .slice da n2 dc] ∧ Cls V B [.bool false] ∧ V.cell? ⟨R, 0, none⟩ = some (.slice ra 0 rc)) W3.drew := ⟨fun j u e => I4.out.st j u e, fun j u e => I4.out.okc j u e, (hL.one 0 _ rfl).1⟩
  clear hL
  refine noPan ?_
  refine region_plain (fun V => Cls V H [.int .i64 (p : Int), .slice ca n1 cc, .slice da n2 dc] ∧ Cls V B [.bool false] ∧ V.cell? ⟨R, 0, none⟩ = some (.slice ra 0 rc)) 8 (by kernel_rfl) ?_
  change wpAnyU _ _ _ _ _ 9 #[false, false, false, false, false, false, false, false, false] _ W3.drew
  refine V_takeS [8] 18 (k := 0) (v := .agg #[.int .i64 (p : Int), .slice ca n1 cc, .slice da n2 dc]) rfl rfl (by kernel_rfl) (by kernel_rfl) (by kernel_rfl) (by kernel_rfl) (by kernel_rfl) (by kernel_rfl) (fun c _ _ h => absurd rfl (h.1 c)) (Or.inl ⟨by rfl, fun V hV => ?_⟩) hS ?_
  · obtain ⟨z0, z1, z2⟩ := hV
    obtain ⟨y0, -⟩ := z0 0 _ rfl
    obtain ⟨y1, -⟩ := z0 1 _ rfl
    obtain ⟨y2, -⟩ := z0 2 _ rfl
    clear z0 z1
    go_simp
  try simp only [Act.put, List.setIfInBounds_toArray, List.set_cons_zero, List.set_cons_succ]
  refine V_takeS [8] 19 (k := 1) (v := .pointer (some ⟨R, 0, none⟩)) rfl rfl (by kernel_rfl) (by kernel_rfl) (by kernel_rfl) (by kernel_rfl) (by kernel_rfl) (by kernel_rfl) (fun c _ _ h => absurd rfl (h.1 c)) (Or.inl ⟨by rfl, fun V hV => ?_⟩) hS ?_
  · obtain ⟨z0, z1, z2⟩ := hV
    obtain ⟨y0, -⟩ := z0 0 _ rfl
    obtain ⟨y1, -⟩ := z0 1 _ rfl
    obtain ⟨y2, -⟩ := z0 2 _ rfl
    clear z0 z1
    go_simp
  try simp only [Act.put, List.setIfInBounds_toArray, List.set_cons_zero, List.set_cons_succ]
  refine V_takeS [8] 20 (k := 2) (v := .pointer (some ⟨R, 0, none⟩)) rfl rfl (by kernel_rfl) (by kernel_rfl) (by kernel_rfl) (by kernel_rfl) (by kernel_rfl) (by kernel_rfl) (fun c _ _ h => absurd rfl (h.1 c)) (Or.inl ⟨by rfl, fun V hV => ?_⟩) hS ?_
  · obtain ⟨z0, z1, z2⟩ := hV
    obtain ⟨y0, -⟩ := z0 0 _ rfl
    obtain ⟨y1, -⟩ := z0 1 _ rfl
    obtain ⟨y2, -⟩ := z0 2 _ rfl
    clear z0 z1
    go_simp
  try simp only [Act.put, List.setIfInBounds_toArray, List.set_cons_zero, List.set_cons_succ]
  refine V_takeS [8] 21 (k := 3) (v := .pointer (some ⟨R, 0, none⟩)) rfl rfl (by kernel_rfl) (by kernel_rfl) (by kernel_rfl) (by kernel_rfl) (by kernel_rfl) (by kernel_rfl) (fun c _ _ h => absurd rfl (h.1 c)) (Or.inl ⟨by rfl, fun V hV => ?_⟩) hS ?_
  · obtain ⟨z0, z1, z2⟩ := hV
    obtain ⟨y0, -⟩ := z0 0 _ rfl
    obtain ⟨y1, -⟩ := z0 1 _ rfl
    obtain ⟨y2, -⟩ := z0 2 _ rfl
    clear z0 z1
    go_simp
  try simp only [Act.put, List.setIfInBounds_toArray, List.set_cons_zero, List.set_cons_succ]
  refine V_takeS [8] 22 (k := 4) (v := .slice ra 0 rc) rfl rfl (by kernel_rfl) (by kernel_rfl) (by kernel_rfl) (by kernel_rfl) (by kernel_rfl) (by kernel_rfl) (fun c _ _ h => absurd rfl (h.1 c)) (Or.inl ⟨by rfl, fun V hV => ?_⟩) hS ?_
  · obtain ⟨z0, z1, z2⟩ := hV
    obtain ⟨y0, -⟩ := z0 0 _ rfl
    obtain ⟨y1, -⟩ := z0 1 _ rfl
    obtain ⟨y2, -⟩ := z0 2 _ rfl
    clear z0 z1
    go_simp
  try simp only [Act.put, List.setIfInBounds_toArray, List.set_cons_zero, List.set_cons_succ]
  refine V_takeS [8] 23 (k := 5) (v := .int .i64 0) rfl rfl (by kernel_rfl) (by kernel_rfl) (by kernel_rfl) (by kernel_rfl) (by kernel_rfl) (by kernel_rfl) (fun c _ _ h => absurd rfl (h.1 c)) (Or.inl ⟨by rfl, fun V hV => ?_⟩) hS ?_
  · obtain ⟨z0, z1, z2⟩ := hV
    obtain ⟨y0, -⟩ := z0 0 _ rfl
    obtain ⟨y1, -⟩ := z0 1 _ rfl
    obtain ⟨y2, -⟩ := z0 2 _ rfl
    clear z0 z1
    go_simp
  try simp only [Act.put, List.setIfInBounds_toArray, List.set_cons_zero, List.set_cons_succ]
  refine V_takeS [8] 24 (k := 6) (v := .bool true) rfl rfl (by kernel_rfl) (by kernel_rfl) (by kernel_rfl) (by kernel_rfl) (by kernel_rfl) (by kernel_rfl) (fun c _ _ h => absurd rfl (h.1 c)) (Or.inl ⟨by rfl, fun V hV => ?_⟩) hS ?_
  · obtain ⟨z0, z1, z2⟩ := hV
    obtain ⟨y0, -⟩ := z0 0 _ rfl
    obtain ⟨y1, -⟩ := z0 1 _ rfl
    obtain ⟨y2, -⟩ := z0 2 _ rfl
    clear z0 z1
    go_simp
  try simp only [Act.put, List.setIfInBounds_toArray, List.set_cons_zero, List.set_cons_succ]
  obtain ⟨y0, f0⟩ := I4.out.st 0 _ rfl
  obtain ⟨y1, f1⟩ := I4.out.st 1 _ rfl
  obtain ⟨y2, f2⟩ := I4.out.st 2 _ rfl
  refine U_one (i := 7) (listed' := #[true, true, true, true, true, true, true, true, false]) (by kernel_rfl) rfl (by kernel_rfl) rfl (fun K hK => ?_)
  go_simp
  have I7 := put_by (((I4.out.store (k := 0) (.int .i64 (p : Int)) (by decide) (by intro z e; cases e)).store (k := 1) (.slice ca n1 cc) (by decide) (by intro z e; cases e)).store (k := 2) (.slice da n2 dc) (by decide) (by intro z e; cases e))
  have hR7 : (((W3.setCell ⟨H, 0, none⟩ (.int .i64 (p : Int))).setCell ⟨H, 1, none⟩ (.slice ca n1 cc)).setCell ⟨H, 2, none⟩ (.slice da n2 dc)).cell? ⟨R, 0, none⟩ = some (.slice ra 0 rc) := by
    obtain ⟨e1, e2, e3⟩ := I4.out.ord
    have h0 : W3.cell? ⟨R, 0, none⟩ = some (.slice ra 0 rc) := hS.2.2
    rw [World.cell?_setCell_other _ _ _ _ (by intro q; cases q <;> omega), World.cell?_setCell_other _ _ _ _ (by intro q; cases q <;> omega), World.cell?_setCell_other _ _ _ _ (by intro q; cases q <;> omega)]
    exact h0
  have C7 : Hid ((Lies kCel (fun b => R < b) (((W3.setCell ⟨H, 0, none⟩ (.int .i64 (p : Int))).setCell ⟨H, 1, none⟩ (.slice ca n1 cc)).setCell ⟨H, 2, none⟩ (.slice da n2 dc)) ca cc cs ∧ n1 = cs.length) ∧ Lies kDn (fun b => R < b) (((W3.setCell ⟨H, 0, none⟩ (.int .i64 (p : Int))).setCell ⟨H, 1, none⟩ (.slice ca n1 cc)).setCell ⟨H, 2, none⟩ (.slice da n2 dc)) da dc ds ∧ n2 = ds.length) := by
    obtain ⟨e1, e2, e3⟩ := I4.out.ord
    have hb : ∀ b, R < b → some H ≠ some b := fun b hb e => by have h1 := Option.some.inj e; omega
    have hk : Kept (fun b => R < b) W3 (((W3.setCell ⟨H, 0, none⟩ (.int .i64 (p : Int))).setCell ⟨H, 1, none⟩ (.slice ca n1 cc)).setCell ⟨H, 2, none⟩ (.slice da n2 dc)) := ((Kept.of_grown (grown_set _) hb).trans (Kept.of_grown (grown_set _) hb)).trans (Kept.of_grown (grown_set _) hb)
    exact ⟨⟨C4.out.1.1.move hk (fun _ _ h => h), C4.out.1.2⟩, C4.out.2.1.move hk (fun _ _ h => h), C4.out.2.2⟩
  refine hK _ _ (fun _ => ⟨fun j u e => I7.out.st j u e, fun j u e => I7.out.okc j u e, hR7⟩) ?_
  clear hK K y0 f0 y1 f1 y2 f2 hR7 hS
  generalize ((W3.setCell ⟨H, 0, none⟩ (.int .i64 (p : Int))).setCell ⟨H, 1, none⟩ (.slice ca n1 cc)).setCell ⟨H, 2, none⟩ (.slice da n2 dc) = X7 at I7 C7 ⊢
  obtain ⟨g0, g1⟩ := I7.out.okc 0 _ rfl
  refine U_one (i := 8) (listed' := #[true, true, true, true, true, true, true, true, true]) (by kernel_rfl) rfl (by kernel_rfl) rfl (fun K hK => ?_)
  go_simp
  refine hK _ _ (fun hh => by cases (show true = false from hh)) ?_
  clear hK K
  refine U_done (by kernel_rfl) ⟨(fun c e => by cases e), ?_⟩ _
  have I8 : Hid (Cls (X7.setCell ⟨B, 0, none⟩ (.bool true)) H [.int .i64 (p : Int), .slice ca n1 cc, .slice da n2 dc] ∧ Cls (X7.setCell ⟨B, 0, none⟩ (.bool true)) B [.bool true]) := by
    obtain ⟨e1, e2, e3⟩ := I7.out.ord
    exact ⟨I7.out.st.grown (grown_set _) (by omega), I7.out.okc.set (k := 0) _⟩
  have C8 : Hid (n1 = cs.length ∧ n2 = ds.length ∧ StIs (fun b => w.heap.size ≤ b) (X7.setCell ⟨B, 0, none⟩ (.bool true)).drew cs ds ca cc da dc ∧ Below w.heap.size w (X7.setCell ⟨B, 0, none⟩ (.bool true)).drew) := by
    obtain ⟨e1, e2, e3⟩ := I7.out.ord
    have hk : Kept (fun b => R < b) X7 (X7.setCell ⟨B, 0, none⟩ (.bool true)).drew := Kept.of_grown (w' := X7.setCell ⟨B, 0, none⟩ (.bool true)) (grown_set _) (fun b hb e => by have h1 := Option.some.inj e; have h2 : R < b := hb; omega)
    refine ⟨C7.out.1.2, C7.out.2.2, ⟨C7.out.1.1.move hk (fun b _ hb => by have h2 : R < b := hb; show w.heap.size ≤ b; omega), C7.out.2.1.move hk (fun b _ hb => by have h2 : R < b := hb; show w.heap.size ≤ b; omega), ?_⟩, (I7.out.below.setCell (by show w.heap.size ≤ B; omega) (.bool true)).drew⟩
    have h1 := H6.out.1
    have h2 := H6.out.2
    constructor <;> omega
  clear g0 g1 I7 C7 I4 C4
  generalize X7.setCell ⟨B, 0, none⟩ (.bool true) = X8 at I8 C8 ⊢
  obtain ⟨y0, -⟩ := I8.out.1 0 _ rfl
  obtain ⟨y1, -⟩ := I8.out.1 1 _ rfl
  obtain ⟨y2, -⟩ := I8.out.1 2 _ rfl
  obtain ⟨y3, -⟩ := I8.out.2 0 _ rfl
  go_wp2
  refine leaves_cons (f := 47) (args := #[.pointer (some ⟨H, 0, none⟩), .pointer (some ⟨B, 0, none⟩)]) (by simp) (by simp [go_sem]) ?_
  refine (lcatch_any ⟨H, 0, none⟩ ⟨B, 0, none⟩ _).mono ?_
  rintro e u' w'' ⟨rfl, rfl, rfl⟩
  simp [Leaves, settle, results, Try.results23, go_sem, y0, y1, y2, y3]
  exact HP.out _ _ _ _ _ _ _ C8.out

end Go.Proofs.Ytndnbkgejdindaa
