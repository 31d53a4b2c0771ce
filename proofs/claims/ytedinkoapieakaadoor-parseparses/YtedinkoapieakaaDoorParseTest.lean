/- Package parse: one test at most: the contract, at every state. -/
import Derived.Test.YtedinkoapieakaaDoorParseLevels
namespace Go.Proofs.YtedinkoapieakaaDoor
open Go.ChangeShapes Go.WideShapes Go.ChangeAt Go.RowKit

/-- an expression of one part, of a variable's value -/
theorem LS.made1 {c : RC} {w : World} {so : Option Addr} {signs : List (List UInt8)} {T : Nat} {W : World} {a : Ex} {d : ED} {s : St} (op : Int) (h : Hid (LS c w so signs T W a d s)) :
    Calls Tryd.prog 113 #[.int .i64 op, .slice (some ⟨W.heap.size, 0, none⟩) 1 1] (W.alloc (.cells #[.int .i64 d.op, .int .i64 d.vk, .int .i64 d.vi, .string d.vt, .string d.tb, .string d.nm, .int .i64 0, .slice d.ao d.n d.cap] 35)) fun e w' => ∃ d3 : ED, e = .returned (exval d3) ∧ c.R < w'.heap.size ∧ Hid (LS c w so signs T w' a d s ∧ IsEx (fun b => w.heap.size + 1 ≤ b ∧ b ≠ T) w' (.un op a) d3) := by
  have h4 := h.out.on.size
  have h5 := h.out.var.1
  simp at h4
  refine (Go.Proofs.YtedinkoapieakaaDoor.made1 op (ok := fun b => w.heap.size + 1 ≤ b ∧ b ≠ T) (c := c) (w0 := W) (s := s) ⟨by omega, by omega⟩ (hide ⟨h.out.on.here, h.out.ex⟩)).mono fun e w' ⟨d3, h1, h2⟩ => ⟨d3, h1, h2.out.1.lt, h.out.go h2.out.1, h2.out.2⟩

set_option maxRecDepth 100000 in
set_option maxHeartbeats 4000000 in
theorem test_part {c : RC} {k : Nat} {ex : St → Ex × St} (hx : Shrinks ex) (hp : Part 125 c (sumP ex) k) : Part 122 c (testP ex) k := by
  intro w s hs h
  have hR := h.lt
  have HH := hide h
  have HP := hide hp
  have cP : Calls Tryd.prog 125 #[.pointer (some ⟨c.R, 0, none⟩)] (w.alloc zeroEx) fun e w1 => ∃ d : ED, e = .returned (exval d) ∧ c.R < w1.heap.size ∧ Hid (LS c w none [] w1.heap.size (w1.alloc (.cells #[.int .i64 d.op, .int .i64 d.vk, .int .i64 d.vi, .string d.vt, .string d.tb, .string d.nm, .int .i64 0, .slice d.ao d.n d.cap] 35)) (sumP ex s).1 d (sumP ex s).2) := by
    refine (hp (w.alloc zeroEx) s hs (h.alloc zeroEx).here).mono fun e w1 ⟨d, h1, h2, h3⟩ => ⟨d, h1, h2.lt, ⟨h2.alloc _, ⟨by simp, .inl rfl⟩, ?_, VarEx.new w1 d _, ?_, (fun x hx => by cases hx), hR⟩⟩
    · exact (h3.weak (ok' := fun b => w.heap.size + 1 ≤ b ∧ b ≠ w1.heap.size) (fun b hb hlt => ⟨by simp at hb; omega, by omega⟩)).alloc _
    · have := h2.size
      simp at this
      omega
  have hs1 : (sumP ex s).2.len < k := Nat.lt_of_le_of_lt (sumP_shrinks hx s) hs
  unfold testP
  generalize sumP ex s = p at cP hs1 ⊢
  obtain ⟨a, s1⟩ := p
  simp only at cP hs1 ⊢
  have cA : Hid (∀ (w1 : World) (d : ED), Hid (LS c w none [] w1.heap.size (w1.alloc (.cells #[.int .i64 d.op, .int .i64 d.vk, .int .i64 d.vi, .string d.vt, .string d.tb, .string d.nm, .int .i64 0, .slice d.ao d.n d.cap] 35)) a d s1) → Calls Tryd.prog 66 #[.pointer (some ⟨c.R, 0, none⟩), .slice (some ⟨w1.heap.size + 1, 0, none⟩) 6 6] ((w1.alloc (.cells #[.int .i64 d.op, .int .i64 d.vk, .int .i64 d.vi, .string d.vt, .string d.tb, .string d.nm, .int .i64 0, .slice d.ao d.n d.cap] 35)).alloc (.cells #[.string ⟨#[61]⟩, .string ⟨#[60, 62]⟩, .string ⟨#[60]⟩, .string ⟨#[60, 61]⟩, .string ⟨#[62]⟩, .string ⟨#[62, 61]⟩] 9)) fun e w2 => e = .returned (.string (str (anyOf cmpSigns s1).1)) ∧ c.R < w2.heap.size ∧ Hid (LS c w none [] w1.heap.size w2 a d (anyOf cmpSigns s1).2)) :=
    fun w1 d hW => (anyOfk (c := c) cmpSigns #[.string ⟨#[61]⟩, .string ⟨#[60, 62]⟩, .string ⟨#[60]⟩, .string ⟨#[60, 61]⟩, .string ⟨#[62]⟩, .string ⟨#[62, 61]⟩] rfl 6 rfl (by decide) (A := w1.heap.size + 1) (KeptBy.triv c) (by simp) (hide ⟨hW.out.on.here, trivial⟩)).mono fun e w2 ⟨h1, h2, h3⟩ => ⟨h1, h2, hW.out.go h3.out.1⟩
  have cO : Hid (∀ (T : Nat) (d : ED) (W : World), Hid (LS c w none [] T W a d (anyOf cmpSigns s1).2) → Calls Tryd.prog 112 #[.string (str (anyOf cmpSigns s1).1)] W fun e w' => e = .returned (.int .i64 (opOf (anyOf cmpSigns s1).1)) ∧ c.R < w'.heap.size ∧ Hid (LS c w none [] T w' a d (anyOf cmpSigns s1).2)) :=
    fun T d W hW => (opOf_any _ W hW.out.on.ops).mono fun e w' ⟨h1, h2⟩ => ⟨h1, (hW.out.on.here.later h2).lt, hW.out.go (hW.out.on.here.later h2)⟩
  have hs2 : (anyOf cmpSigns s1).2.len < k := Nat.lt_of_le_of_lt (anyOf_len _ _) hs1
  clear h hp
  unfold testOn
  by_cases ho : opOf (anyOf cmpSigns s1).1 = 0
  · rw [if_pos ho]
    rw [ho] at cO
    clear ho
    generalize anyOf cmpSigns s1 = q at cA cO hs2 ⊢
    obtain ⟨u, s2⟩ := q
    simp only at cA cO hs2 ⊢
    have cI : Hid (∀ (T : Nat) (d : ED) (W : World), Hid (LS c w none [] T W a d s2) → Calls Tryd.prog 76 #[.pointer (some ⟨c.R, 0, none⟩), .string ⟨#[105, 115]⟩, .slice none 0 0] W fun e w' => e = .returned (.bool (mayBe [105, 115] [] s2).1) ∧ c.R < w'.heap.size ∧ Hid (LS c w none [] T w' a d (mayBe [105, 115] [] s2).2)) :=
      fun T d W hW => (may0 c [105, 115] ⟨#[105, 115]⟩ rfl (hide hW.out.on.here)).mono fun e w' ⟨h1, h2, h3⟩ => ⟨h1, h2, hW.out.go h3.out⟩
    unfold isP
    generalize mayBe [105, 115] [] s2 = q at cI ⊢
    obtain ⟨b, s3⟩ := q
    simp only at cI ⊢
    cases b with
    | false =>
      simp only [Bool.false_eq_true, if_false]
      go_enter Tryd.func122, Tryd.ntmps122
      go_wp2_with (first
        | (go_at_call 125; refine cP.mono ?_; rintro e w1 ⟨d, rfl, hR1, HB⟩)
        | (go_at_call 66; refine (cA.out _ _ HB).mono ?_; rintro e w2 ⟨rfl, hR2, HB2⟩)
        | (go_at_call 112; refine (cO.out _ _ _ HB2).mono ?_; rintro e w3 ⟨rfl, hR3, HB3⟩)
        | (go_at_call 76; refine (cI.out _ _ _ HB3).mono ?_; rintro e w4 ⟨rfl, hR4, HB4⟩; obtain ⟨v0, v1, v2, v3, v4, v5, v6, v7⟩ := HB4.out.var.cells; obtain ⟨⟨k0, k1, k2, k3, k4, k5, k6, k7⟩, f⟩ := res_cells HB4.out.on hR))
      obtain ⟨W3, e3, ⟨c0, c1, c2, c3, c4, c5, c6, c7⟩, hO3, hI3⟩ := res8 HB4.out.on hR HH.out d (HB4.out.ex.weak fun b hb _ => hb.1)
      rw [e3]
      exact bodyPost_ret (v := exval d) (by simp [results, Tryd.results122, go_sem, asAddr, c0, c1, c2, c3, c4, c5, c6, c7]) rfl ⟨d, rfl, hO3, hI3⟩
    | true =>
      simp only [if_true]
      have cM : Hid (∀ (T : Nat) (d : ED) (W : World), Hid (LS c w none [] T W a d s3) → Calls Tryd.prog 76 #[.pointer (some ⟨c.R, 0, none⟩), .string ⟨#[110, 111, 116]⟩, .slice (some ⟨W.heap.size, 0, none⟩) 1 1] (W.alloc (.cells #[.string ⟨#[110, 117, 108, 108]⟩] 9)) fun e w' => e = .returned (.bool (mayBe [110, 111, 116] [[110, 117, 108, 108]] s3).1) ∧ c.R < w'.heap.size ∧ Hid (LS c w none [] T w' a d (mayBe [110, 111, 116] [[110, 117, 108, 108]] s3).2)) :=
        fun T d W hW => (may1 c [110, 111, 116] [110, 117, 108, 108] ⟨#[110, 111, 116]⟩ ⟨#[110, 117, 108, 108]⟩ rfl rfl (hide hW.out.on.here)).mono fun e w' ⟨h1, h2, h3⟩ => ⟨h1, h2, hW.out.go h3.out⟩
      generalize mayBe [110, 111, 116] [[110, 117, 108, 108]] s3 = q at cM ⊢
      obtain ⟨b, s4⟩ := q
      simp only at cM ⊢
      cases b with
      | true =>
        simp only [if_true]
        go_enter Tryd.func122, Tryd.ntmps122
        go_wp2_with (first
          | (go_at_call 125; refine cP.mono ?_; rintro e w1 ⟨d, rfl, hR1, HB⟩)
          | (go_at_call 66; refine (cA.out _ _ HB).mono ?_; rintro e w2 ⟨rfl, hR2, HB2⟩)
          | (go_at_call 112; refine (cO.out _ _ _ HB2).mono ?_; rintro e w3 ⟨rfl, hR3, HB3⟩)
          | (go_at_call 76; (with_reducible refine (cI.out _ _ _ HB3).mono ?_); rintro e w4 ⟨rfl, hR4, HB4⟩)
          | (go_at_call 76; (with_reducible refine (cM.out _ _ _ HB4).mono ?_); rintro e w5 ⟨rfl, hR5, HB5⟩; obtain ⟨v0, v1, v2, v3, v4, v5, v6, v7⟩ := HB5.out.var.cells)
          | (go_at_call 113; refine (LS.made1 7 HB5).mono ?_; rintro e w6 ⟨d3, rfl, hR6, HB6⟩; obtain ⟨⟨k0, k1, k2, k3, k4, k5, k6, k7⟩, f⟩ := res_cells HB6.out.1.on hR))
        obtain ⟨W3, e3, ⟨c0, c1, c2, c3, c4, c5, c6, c7⟩, hO3, hI3⟩ := res8 HB6.out.1.on hR HH.out d3 (HB6.out.2.weak fun b hb _ => hb.1)
        rw [e3]
        exact bodyPost_ret (v := exval d3) (by simp [results, Tryd.results122, go_sem, asAddr, c0, c1, c2, c3, c4, c5, c6, c7]) rfl ⟨d3, rfl, hO3, hI3⟩
      | false =>
        simp only [Bool.false_eq_true, if_false]
        have cN : Hid (∀ (T : Nat) (d : ED) (W : World), Hid (LS c w none [] T W a d s4) → Calls Tryd.prog 69 #[.pointer (some ⟨c.R, 0, none⟩), .slice (some ⟨W.heap.size, 0, none⟩) 1 1] (W.alloc (.cells #[.string ⟨#[110, 117, 108, 108]⟩] 9)) fun e w' => e = .returned (.tuple #[]) ∧ c.R < w'.heap.size ∧ Hid (LS c w none [] T w' a d (needs [[110, 117, 108, 108]] s4))) :=
          fun T d W hW => (need1 c [110, 117, 108, 108] ⟨#[110, 117, 108, 108]⟩ rfl (hide hW.out.on.here)).mono fun e w' ⟨h1, h2, h3⟩ => ⟨h1, h2, hW.out.go h3.out⟩
        generalize needs [[110, 117, 108, 108]] s4 = s5 at cN ⊢
        go_enter Tryd.func122, Tryd.ntmps122
        go_wp2_with (first
          | (go_at_call 125; refine cP.mono ?_; rintro e w1 ⟨d, rfl, hR1, HB⟩)
          | (go_at_call 66; refine (cA.out _ _ HB).mono ?_; rintro e w2 ⟨rfl, hR2, HB2⟩)
          | (go_at_call 112; refine (cO.out _ _ _ HB2).mono ?_; rintro e w3 ⟨rfl, hR3, HB3⟩)
          | (go_at_call 76; (with_reducible refine (cI.out _ _ _ HB3).mono ?_); rintro e w4 ⟨rfl, hR4, HB4⟩)
          | (go_at_call 76; (with_reducible refine (cM.out _ _ _ HB4).mono ?_); rintro e w5 ⟨rfl, hR5, HB5⟩)
          | (go_at_call 69; refine (cN.out _ _ _ HB5).mono ?_; rintro e w6 ⟨rfl, hR6, HB6⟩; obtain ⟨v0, v1, v2, v3, v4, v5, v6, v7⟩ := HB6.out.var.cells)
          | (go_at_call 113; refine (LS.made1 6 HB6).mono ?_; rintro e w7 ⟨d3, rfl, hR7, HB7⟩; obtain ⟨⟨k0, k1, k2, k3, k4, k5, k6, k7⟩, f⟩ := res_cells HB7.out.1.on hR))
        obtain ⟨W3, e3, ⟨c0, c1, c2, c3, c4, c5, c6, c7⟩, hO3, hI3⟩ := res8 HB7.out.1.on hR HH.out d3 (HB7.out.2.weak fun b hb _ => hb.1)
        rw [e3]
        exact bodyPost_ret (v := exval d3) (by simp [results, Tryd.results122, go_sem, asAddr, c0, c1, c2, c3, c4, c5, c6, c7]) rfl ⟨d3, rfl, hO3, hI3⟩
  · rw [if_neg ho]
    have cQ := hide (fun T W d h => LS.part (w := w) (so := none) (signs := []) (T := T) HP.out (W := W) (a := a) (d := d) (s := (anyOf cmpSigns s1).2) hs2 h)
    generalize sumP ex (anyOf cmpSigns s1).2 = r at cQ ⊢
    obtain ⟨a2, s3⟩ := r
    generalize opOf (anyOf cmpSigns s1).1 = o at ho cO ⊢
    generalize anyOf cmpSigns s1 = q at cA cO cQ
    obtain ⟨u, s2⟩ := q
    simp only at cA cO cQ ⊢
    have ho2 : (o == 0) = false := beq_eq_false_iff_ne.2 ho
    go_enter Tryd.func122, Tryd.ntmps122
    go_wp2_with (first
      | (go_at_call 125; (with_reducible refine cP.mono ?_); rintro e w1 ⟨d, rfl, hR1, HB⟩)
      | (go_at_call 66; refine (cA.out _ _ HB).mono ?_; rintro e w2 ⟨rfl, hR2, HB2⟩)
      | (go_at_call 112; refine (cO.out _ _ _ HB2).mono ?_; rintro e w3 ⟨rfl, hR3, HB3⟩; obtain ⟨v0, v1, v2, v3, v4, v5, v6, v7⟩ := HB3.out.var.cells; have HD := hide HB3.out.drew))
    go_region_with (first
      | (go_at_call 125; (with_reducible refine (cQ.out w1.heap.size _ d ?_).mono ?_); assumption; rintro e w4 ⟨d2, rfl, hR4, HB4⟩; obtain ⟨u0, u1, u2, u3, u4, u5, u6, u7⟩ := HB4.out.1.var.cells)
      | (go_at_call 113; (with_reducible refine (LS.made _ HB4).mono ?_); rintro e w5 ⟨d3, rfl, hR5, HB5⟩; obtain ⟨⟨k0, k1, k2, k3, k4, k5, k6, k7⟩, f⟩ := res_cells HB5.out.1.on hR))
    all_goals
      go_wp2
      obtain ⟨W3, e3, ⟨c0, c1, c2, c3, c4, c5, c6, c7⟩, hO3, hI3⟩ := res8 HB5.out.1.on hR HH.out d3 (HB5.out.2.weak fun b hb _ => hb.1)
      rw [e3]
      exact bodyPost_ret (v := exval d3) (by simp [results, Tryd.results122, go_sem, asAddr, c0, c1, c2, c3, c4, c5, c6, c7]) rfl ⟨d3, rfl, hO3, hI3⟩

end Go.Proofs.YtedinkoapieakaaDoor
