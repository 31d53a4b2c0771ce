/- Package parse: expressions that are made: of parts, of a value, of names: contracts, at every state. -/
import Derived.Test.YtedinkoapieakaaDoorParseName
namespace Go.Proofs.YtedinkoapieakaaDoor
open Go.ChangeShapes Go.WideShapes Go.ChangeAt Go.RowKit

theorem made_any (op : Int) (ao : Option Addr) (n cap : Nat) (w : World) :
    Calls Tryd.prog 113 #[.int .i64 op, .slice ao n cap] w fun e w' => e = .returned (.agg #[.int .i64 op, .int .i64 0, .int .i64 0, .string ⟨#[]⟩, .string ⟨#[]⟩, .string ⟨#[]⟩, .int .i64 0, .slice ao n cap]) ∧ Below w.heap.size w w' := by
  go_enter Tryd.func113, Tryd.ntmps113
  go_wp2
  exact bodyPost_ret (v := .agg #[.int .i64 op, .int .i64 0, .int .i64 0, .string ⟨#[]⟩, .string ⟨#[]⟩, .string ⟨#[]⟩, .int .i64 0, .slice ao n cap]) (by simp [results, Tryd.results113, go_sem, asAddr]) rfl ⟨rfl, (Below.refl _ w).alloc (Nat.le_refl _) _⟩

theorem constant_any (k n : Int) (z : ByteArray) (w : World) :
    Calls Tryd.prog 144 #[.agg #[.int .i64 k, .int .i64 n, .string z]] w fun e w' => e = .returned (.agg #[.int .i64 1, .int .i64 k, .int .i64 n, .string z, .string ⟨#[]⟩, .string ⟨#[]⟩, .int .i64 0, .slice none 0 0]) ∧ Below w.heap.size w w' := by
  go_enter Tryd.func144, Tryd.ntmps144
  go_wp2
  exact bodyPost_ret (v := .agg #[.int .i64 1, .int .i64 k, .int .i64 n, .string z, .string ⟨#[]⟩, .string ⟨#[]⟩, .int .i64 0, .slice none 0 0]) (by simp [results, Tryd.results144, go_sem, asAddr]) rfl ⟨rfl, ((Below.refl _ w).alloc (Nat.le_refl _) _).alloc (by simp) _⟩

/-- a constant, as its call comes; the value by its plain words -/
theorem constant1 (k n : Int) (v : List UInt8) (z : ByteArray) (hz : z = str v) (ok : Nat → Prop) {c : RC} {w0 W : World} {s : St} (h : Hid (On c w0 W s)) :
    Calls Tryd.prog 144 #[.agg #[.int .i64 k, .int .i64 n, .string z]] W fun e w' => ∃ d : ED, e = .returned (exval d) ∧ Hid (On c w0 w' s ∧ IsEx ok w' (.leaf 1 ⟨k, n, v⟩ [] []) d) := by
  subst hz
  exact (constant_any k n (str v) W).mono fun e w' ⟨h1, h2⟩ => ⟨⟨1, k, n, str v, ⟨#[]⟩, ⟨#[]⟩, none, 0, 0⟩, h1, h.out.later h2, rfl, rfl, rfl, rfl, rfl, rfl, rfl⟩

/-- no part, one part, two parts, as the call comes -/
theorem made0 (op : Int) (ok : Nat → Prop) {c : RC} {w0 W : World} {s : St} (h : Hid (On c w0 W s)) :
    Calls Tryd.prog 113 #[.int .i64 op, .slice none 0 0] W fun e w' => ∃ d : ED, e = .returned (exval d) ∧ Hid (On c w0 w' s ∧ IsEx ok w' (.leaf op zeroTok [] []) d) :=
  (made_any op none 0 0 W).mono fun _ _ ⟨h1, h2⟩ => ⟨⟨op, 0, 0, ⟨#[]⟩, ⟨#[]⟩, ⟨#[]⟩, none, 0, 0⟩, h1, h.out.later h2, rfl, rfl, rfl, rfl, rfl, rfl, rfl⟩

theorem made1 (op : Int) {ok : Nat → Prop} {c : RC} {w0 W : World} {s : St} {a : Ex} {d : ED} (hok : ok W.heap.size) (h : Hid (On c w0 W s ∧ IsEx ok W a d)) :
    Calls Tryd.prog 113 #[.int .i64 op, .slice (some ⟨W.heap.size, 0, none⟩) 1 1] (W.alloc (.cells #[.int .i64 d.op, .int .i64 d.vk, .int .i64 d.vi, .string d.vt, .string d.tb, .string d.nm, .int .i64 0, .slice d.ao d.n d.cap] 35)) fun e w' => ∃ d : ED, e = .returned (exval d) ∧ Hid (On c w0 w' s ∧ IsEx ok w' (.un op a) d) := by
  refine (made_any op (some ⟨W.heap.size, 0, none⟩) 1 1 _).mono fun e w' ⟨h1, h2⟩ => ⟨⟨op, 0, 0, ⟨#[]⟩, ⟨#[]⟩, ⟨#[]⟩, some ⟨W.heap.size, 0, none⟩, 1, 1⟩, h1, (h.out.1.alloc _).later h2, ⟨rfl, rfl, rfl, rfl, rfl, rfl, rfl⟩, W.heap.size, d, rfl, hok, ?_, ?_, ?_⟩
  · have := h2.size
    simp at this
    omega
  · exact fun j u hu => (h2.cell (p := ⟨W.heap.size, 0 + j, none⟩) (by simp)).trans (cell8_new W d _ j u hu)
  · exact (h.out.2.alloc _).later h2

theorem made2 (op : Int) {ok : Nat → Prop} {c : RC} {w0 W : World} {s : St} {a a' : Ex} {d1 d2 : ED} (hok : ok W.heap.size) (h : Hid (On c w0 W s ∧ IsEx ok W a d1 ∧ IsEx ok W a' d2)) :
    Calls Tryd.prog 113 #[.int .i64 op, .slice (some ⟨W.heap.size, 0, none⟩) 2 2] (W.alloc (.cells #[.int .i64 d1.op, .int .i64 d1.vk, .int .i64 d1.vi, .string d1.vt, .string d1.tb, .string d1.nm, .int .i64 0, .slice d1.ao d1.n d1.cap, .int .i64 d2.op, .int .i64 d2.vk, .int .i64 d2.vi, .string d2.vt, .string d2.tb, .string d2.nm, .int .i64 0, .slice d2.ao d2.n d2.cap] 35)) fun e w' => ∃ d : ED, e = .returned (exval d) ∧ Hid (On c w0 w' s ∧ IsEx ok w' (.bi op a a') d) := by
  have hc : ∀ j u, (exCells d1 ++ exCells d2)[j]? = some u → (W.alloc (.cells #[.int .i64 d1.op, .int .i64 d1.vk, .int .i64 d1.vi, .string d1.vt, .string d1.tb, .string d1.nm, .int .i64 0, .slice d1.ao d1.n d1.cap, .int .i64 d2.op, .int .i64 d2.vk, .int .i64 d2.vi, .string d2.vt, .string d2.tb, .string d2.nm, .int .i64 0, .slice d2.ao d2.n d2.cap] 35)).cell? ⟨W.heap.size, j, none⟩ = some u := by
    intro j u hu
    match j, hu with
    | 0, hu => cases hu; simp
    | 1, hu => cases hu; simp
    | 2, hu => cases hu; simp
    | 3, hu => cases hu; simp
    | 4, hu => cases hu; simp
    | 5, hu => cases hu; simp
    | 6, hu => cases hu; simp
    | 7, hu => cases hu; simp
    | 8, hu => cases hu; simp
    | 9, hu => cases hu; simp
    | 10, hu => cases hu; simp
    | 11, hu => cases hu; simp
    | 12, hu => cases hu; simp
    | 13, hu => cases hu; simp
    | 14, hu => cases hu; simp
    | 15, hu => cases hu; simp
  refine (made_any op (some ⟨W.heap.size, 0, none⟩) 2 2 _).mono fun e w' ⟨h1, h2⟩ => ⟨⟨op, 0, 0, ⟨#[]⟩, ⟨#[]⟩, ⟨#[]⟩, some ⟨W.heap.size, 0, none⟩, 2, 2⟩, h1, (h.out.1.alloc _).later h2, ⟨rfl, rfl, rfl, rfl, rfl, rfl, rfl⟩, W.heap.size, d1, d2, rfl, hok, ?_, ?_, ?_, ?_, ?_⟩
  · have := h2.size
    simp at this
    omega
  · intro j u hu
    refine (h2.cell (p := ⟨W.heap.size, 0 + j, none⟩) (by simp)).trans ?_
    rw [Nat.zero_add]
    refine hc j u ?_
    rw [List.getElem?_append_left (List.getElem?_eq_some_iff.1 hu).1]
    exact hu
  · intro j u hu
    refine (h2.cell (p := ⟨W.heap.size, 8 + j, none⟩) (by simp)).trans ?_
    refine hc (8 + j) u ?_
    rw [List.getElem?_append_right (by show 8 ≤ 8 + j; omega)]
    show (exCells d2)[8 + j - 8]? = some u
    rw [Nat.add_sub_cancel_left]
    exact hu
  · exact (h.out.2.1.alloc _).later h2
  · exact (h.out.2.2.alloc _).later h2

/-- what a reader of expressions answers -/
def Part (f : Nat) (c : RC) (P : St → Ex × St) (k : Nat) : Prop := ∀ (w : World) (s : St), s.len < k → On c w w s →
  Calls Tryd.prog f #[.pointer (some ⟨c.R, 0, none⟩)] w fun e w' => ∃ d : ED, e = .returned (exval d) ∧ On c w w' (P s).2 ∧ IsEx (fun b => w.heap.size ≤ b) w' (P s).1 d

/-- .. as its call comes, from a body that has a base of its own -/
theorem Part.call {f : Nat} {c : RC} {P : St → Ex × St} {k : Nat} (h : Part f c P k) {w0 W : World} {s : St} (hs : s.len < k) {lo : Nat} (hlo : lo ≤ w0.heap.size) (hO : Hid (On c w0 W s)) :
    Calls Tryd.prog f #[.pointer (some ⟨c.R, 0, none⟩)] W fun e w' => ∃ d : ED, e = .returned (exval d) ∧ Hid (On c w0 w' (P s).2 ∧ IsEx (fun b => lo ≤ b) w' (P s).1 d) :=
  (h W s hs hO.out.here).mono fun e w' ⟨d, h1, h2, h3⟩ => ⟨d, h1, hO.out.back h2, h3.weak fun b hb _ => by have := hO.out.size; omega⟩

set_option maxRecDepth 100000 in
set_option maxHeartbeats 4000000 in
theorem columnOf_part (c : RC) (k : Nat) : Part 79 c columnOfP k := by
  intro w s _ h
  have hR := h.lt
  have HH := hide h
  have HZ := hide (h.alloc zeroEx).here
  have cN := name_on c HZ
  have cM : Hid (∀ W s1, Hid (On c (w.alloc zeroEx) W s1) → Calls Tryd.prog 76 #[.pointer (some ⟨c.R, 0, none⟩), .string ⟨#[46]⟩, .slice none 0 0] W fun e w' => e = .returned (.bool (mayBe [46] [] s1).1) ∧ c.R < w'.heap.size ∧ Hid (On c (w.alloc zeroEx) w' (mayBe [46] [] s1).2)) := fun W s1 h1 => may0 c [46] ⟨#[46]⟩ rfl h1
  clear h HZ
  unfold columnOfP
  generalize nameP s = p at cN ⊢
  obtain ⟨n1, s1⟩ := p
  simp only at cN ⊢
  have cM1 := hide (fun W h => cM.out W s1 h)
  clear cM
  generalize mayBe [46] [] s1 = q at cM1 ⊢
  obtain ⟨b, s2⟩ := q
  simp only at cM1 ⊢
  cases b with
  | false =>
    simp only [Bool.false_eq_true, if_false]
    go_enter Tryd.func79, Tryd.ntmps79
    go_wp2_with (first
      | (go_at_call 70; refine cN.mono ?_; rintro e w1 ⟨rfl, hR1, HB⟩)
      | (go_at_call 76; refine (cM1.out _ HB).mono ?_; rintro e w2 ⟨rfl, hR2, HB2⟩; obtain ⟨⟨k0, k1, k2, k3, k4, k5, k6, k7⟩, f⟩ := res_cells HB2.out hR))
    obtain ⟨d, hd⟩ : ∃ d : ED, d = ⟨2, 0, 0, ⟨#[]⟩, ⟨#[]⟩, str n1, none, 0, 0⟩ := ⟨_, rfl⟩
    obtain ⟨W3, e3, ⟨c0, c1, c2, c3, c4, c5, c6, c7⟩, hO3, hI3⟩ := res8 (e := .leaf 2 zeroTok [] n1) HB2.out hR HH.out d (by subst hd; exact ⟨rfl, rfl, rfl, rfl, rfl, rfl, rfl⟩)
    subst hd
    rw [e3]
    exact bodyPost_ret (v := exval _) (by simp [results, Tryd.results79, go_sem, asAddr, c0, c1, c2, c3, c4, c5, c6, c7]) rfl ⟨_, rfl, hO3, hI3⟩
  | true =>
    simp only [if_true]
    have cN2 : Hid (∀ W, Hid (On c (w.alloc zeroEx) W s2) → Calls Tryd.prog 70 #[.pointer (some ⟨c.R, 0, none⟩)] W fun e w' => e = .returned (.string (str (nameP s2).1)) ∧ c.R < w'.heap.size ∧ Hid (On c (w.alloc zeroEx) w' (nameP s2).2)) := fun W h1 => name_on c h1
    generalize nameP s2 = p at cN2 ⊢
    obtain ⟨n3, s3⟩ := p
    simp only at cN2 ⊢
    go_enter Tryd.func79, Tryd.ntmps79
    go_wp2_with (first
      | (go_at_call 70; with_reducible refine cN.mono ?_; rintro e w1 ⟨rfl, hR1, HB⟩)
      | (go_at_call 76; refine (cM1.out _ HB).mono ?_; rintro e w2 ⟨rfl, hR2, HB2⟩)
      | (go_at_call 70; with_reducible refine (cN2.out _ HB2).mono ?_; rintro e w3 ⟨rfl, hR3, HB3⟩; obtain ⟨⟨k0, k1, k2, k3, k4, k5, k6, k7⟩, f⟩ := res_cells HB3.out hR))
    obtain ⟨d, hd⟩ : ∃ d : ED, d = ⟨2, 0, 0, ⟨#[]⟩, str n1, str n3, none, 0, 0⟩ := ⟨_, rfl⟩
    obtain ⟨W3, e3, ⟨c0, c1, c2, c3, c4, c5, c6, c7⟩, hO3, hI3⟩ := res8 (e := .leaf 2 zeroTok n1 n3) HB3.out hR HH.out d (by subst hd; exact ⟨rfl, rfl, rfl, rfl, rfl, rfl, rfl⟩)
    subst hd
    rw [e3]
    exact bodyPost_ret (v := exval _) (by simp [results, Tryd.results79, go_sem, asAddr, c0, c1, c2, c3, c4, c5, c6, c7]) rfl ⟨_, rfl, hO3, hI3⟩

end Go.Proofs.YtedinkoapieakaaDoor
