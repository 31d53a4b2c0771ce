/- Package parse: what stands in ( ), what all rows of a group are asked, one: contracts, at every state. -/
import Derived.Test.YtedinkoapieakaaDoorParseKeep
namespace Go.Proofs.YtedinkoapieakaaDoor
open Go.ChangeShapes Go.WideShapes Go.ChangeAt Go.RowKit

set_option maxRecDepth 100000 in
set_option maxHeartbeats 4000000 in
theorem of_part {c : RC} {k : Nat} {ex : St → Ex × St} (hex : Part 77 c ex k) (op : Int) (w : World) (s : St) (hs : s.len < k) (h : On c w w s) :
    Calls Tryd.prog 147 #[.pointer (some ⟨c.R, 0, none⟩), .int .i64 op] w fun e w' => ∃ d : ED, e = .returned (exval d) ∧ On c w w' (ofP ex op s).2 ∧ IsEx (fun b => w.heap.size ≤ b) w' (ofP ex op s).1 d := by
  have hR := h.lt
  have HH := hide h
  have cN := need1k [40] ⟨#[40]⟩ rfl (KeptBy.triv c) (A := w.heap.size + 1) (W := w.alloc zeroEx) (by simp) (hide ⟨(h.alloc zeroEx).here, trivial⟩)
  have hs1 : (needs [[40]] s).len < k := Nat.lt_of_le_of_lt (needs_len _ _) hs
  unfold ofP
  clear h
  generalize needs [[40]] s = s1 at cN hs1 ⊢
  have cC := hide (fun W h => (closed_part hex).callk (KeptBy.triv c) (w0 := w.alloc zeroEx) (W := W) hs1 (lo := w.heap.size + 1) (by simp) h)
  generalize closedP ex s1 = p at cC ⊢
  obtain ⟨a, s2⟩ := p
  simp only at cC ⊢
  have cM := hide (fun W d h => made1k op (c := c) (lo := w.heap.size + 1) (w0 := w.alloc zeroEx) (W := W) (s := s2) (a := a) (d := d) rfl (by simp) h)
  go_enter Tryd.func147, Tryd.ntmps147
  go_wp2_with (first
    | (go_at_call 69; refine cN.mono ?_; rintro e w1 ⟨rfl, hR1, HB⟩)
    | (go_at_call 145; refine (cC.out _ HB).mono ?_; rintro e w2 ⟨d1, rfl, hR2, HB2⟩; have HB3 := hide (And.intro HB2.out.1 HB2.out.2.1))
    | (go_at_call 113; refine (cM.out _ _ HB3).mono ?_; rintro e w3 ⟨d, rfl, hR3, HB4⟩; obtain ⟨⟨k0, k1, k2, k3, k4, k5, k6, k7⟩, f⟩ := res_cells HB4.out.1 hR))
  obtain ⟨W3, e3, ⟨c0, c1, c2, c3, c4, c5, c6, c7⟩, hO3, hI3⟩ := res8 HB4.out.1 hR HH.out d HB4.out.2
  rw [e3]
  exact bodyPost_ret (v := exval d) (by simp [results, Tryd.results147, go_sem, asAddr, c0, c1, c2, c3, c4, c5, c6, c7]) rfl ⟨d, rfl, hO3, hI3⟩

set_option maxRecDepth 100000 in
set_option maxHeartbeats 4000000 in
theorem count_part {c : RC} {k : Nat} {ex : St → Ex × St} (hex : Part 77 c ex k) : Part 146 c (countP ex) k := by
  intro w s hs h
  have hR := h.lt
  have HH := hide h
  have cN := need1k [40] ⟨#[40]⟩ rfl (KeptBy.triv c) (A := w.heap.size + 1) (W := w.alloc zeroEx) (by simp) (hide ⟨(h.alloc zeroEx).here, trivial⟩)
  have hs1 : (needs [[40]] s).len < k := Nat.lt_of_le_of_lt (needs_len _ _) hs
  unfold countP
  clear h
  generalize needs [[40]] s = s1 at cN hs1 ⊢
  have cM := hide (fun W h => may1k (c := c) [42] [41] ⟨#[42]⟩ ⟨#[41]⟩ rfl rfl (KeptBy.triv c) (w0 := w.alloc zeroEx) (W := W) (s := s1) rfl h)
  have hs2 : (mayBe [42] [[41]] s1).2.len < k := Nat.lt_of_le_of_lt (mayBe_len _ _ _) hs1
  generalize mayBe [42] [[41]] s1 = p at cM hs2 ⊢
  obtain ⟨b, s2⟩ := p
  simp only at cM hs2 ⊢
  cases b with
  | true =>
    simp only [if_true]
    have cD := hide (fun W h => made0 21 (fun b => w.heap.size + 1 ≤ b) (c := c) (w0 := w.alloc zeroEx) (W := W) (s := s2) h)
    go_enter Tryd.func146, Tryd.ntmps146
    go_wp2_with (first
      | (go_at_call 69; refine cN.mono ?_; rintro e w1 ⟨rfl, hR1, HB⟩)
      | (go_at_call 76; refine (cM.out _ HB).mono ?_; rintro e w2 ⟨rfl, hR2, HB2⟩; have HB3 := hide HB2.out.1)
      | (go_at_call 113; refine (cD.out _ HB3).mono ?_; rintro e w3 ⟨d, rfl, HB4⟩; obtain ⟨⟨k0, k1, k2, k3, k4, k5, k6, k7⟩, f⟩ := res_cells HB4.out.1 hR))
    obtain ⟨W3, e3, ⟨c0, c1, c2, c3, c4, c5, c6, c7⟩, hO3, hI3⟩ := res8 HB4.out.1 hR HH.out d HB4.out.2
    rw [e3]
    exact bodyPost_ret (v := exval d) (by simp [results, Tryd.results146, go_sem, asAddr, c0, c1, c2, c3, c4, c5, c6, c7]) rfl ⟨d, rfl, hO3, hI3⟩
  | false =>
    simp only [Bool.false_eq_true, if_false]
    have cC := hide (fun W h => (closed_part hex).callk (KeptBy.triv c) (w0 := w.alloc zeroEx) (W := W) hs2 (lo := w.heap.size + 1) (by simp) h)
    generalize closedP ex s2 = p at cC ⊢
    obtain ⟨a, s3⟩ := p
    simp only at cC ⊢
    have cD := hide (fun W d h => made1k 22 (c := c) (lo := w.heap.size + 1) (w0 := w.alloc zeroEx) (W := W) (s := s3) (a := a) (d := d) rfl (by simp) h)
    go_enter Tryd.func146, Tryd.ntmps146
    go_wp2_with (first
      | (go_at_call 69; refine cN.mono ?_; rintro e w1 ⟨rfl, hR1, HB⟩)
      | (go_at_call 76; refine (cM.out _ HB).mono ?_; rintro e w2 ⟨rfl, hR2, HB2⟩)
      | (go_at_call 145; refine (cC.out _ HB2).mono ?_; rintro e w3 ⟨d1, rfl, hR3, HB3⟩; have HB4 := hide (And.intro HB3.out.1 HB3.out.2.1))
      | (go_at_call 113; refine (cD.out _ _ HB4).mono ?_; rintro e w4 ⟨d, rfl, hR4, HB5⟩; obtain ⟨⟨k0, k1, k2, k3, k4, k5, k6, k7⟩, f⟩ := res_cells HB5.out.1 hR))
    obtain ⟨W3, e3, ⟨c0, c1, c2, c3, c4, c5, c6, c7⟩, hO3, hI3⟩ := res8 HB5.out.1 hR HH.out d HB5.out.2
    rw [e3]
    exact bodyPost_ret (v := exval d) (by simp [results, Tryd.results146, go_sem, asAddr, c0, c1, c2, c3, c4, c5, c6, c7]) rfl ⟨d, rfl, hO3, hI3⟩

set_option maxRecDepth 100000 in
set_option maxHeartbeats 4000000 in
theorem one_part {c : RC} {k : Nat} {ex : St → Ex × St} (hex : Part 77 c ex k) : Part 141 c (oneP ex) (k + 1) := by
  intro w s hs h
  have hR := h.lt
  have HH := hide h
  have cN := next_on (h.alloc zeroEx).here
  have HC : Hid (∀ W1, Hid (On c (w.alloc zeroEx) W1 s) → s.next.kind ≠ 0 → ∃ k : Nat, k ≤ 300 ∧ W1.cell? ⟨c.R, 1, none⟩ = some (.int .i64 (k : Int)) ∧ W1.frozen? ⟨c.R, 1, none⟩ = false ∧ c.R < W1.heap.size ∧ Hid (On c (w.alloc zeroEx) (W1.setCell ⟨c.R, 1, none⟩ (.int .i64 ((k : Int) + 1))) s.adv)) :=
    fun W1 h1 hn => h1.out.count hn
  unfold oneP
  by_cases h2 : s.next.kind = 2
  · rw [if_pos h2]
    have HC2 := hide (fun W1 h1 => HC.out W1 h1 (by rw [h2]; decide))
    rw [h2] at cN
    clear HC h h2
    generalize s.next = t at cN ⊢
    generalize s.adv = s1 at HC2 ⊢
    have cK := hide (fun W h => constant1 2 t.int [] ⟨#[]⟩ rfl (fun b => w.heap.size + 1 ≤ b) (c := c) (w0 := w.alloc zeroEx) (W := W) (s := s1) h)
    go_enter Tryd.func141, Tryd.ntmps141
    go_wp2_with (first
      | (go_at_call 93; refine cN.mono ?_; rintro e w1 ⟨rfl, HB⟩; obtain ⟨⟨k0, k1, k2, k3, k4, k5, k6, k7⟩, f⟩ := res_cells HB.out hR; obtain ⟨k, hk, a1, b1, hR1, HA⟩ := HC2.out _ HB)
      | (go_at_call 144; refine (cK.out _ (hide (HA.out.alloc _))).mono ?_; rintro e w3 ⟨d, rfl, HB4⟩; clear k0 k1 k2 k3 k4 k5 k6 k7 f; obtain ⟨⟨k0, k1, k2, k3, k4, k5, k6, k7⟩, f⟩ := res_cells HB4.out.1 hR))
    obtain ⟨W3, e3, ⟨c0, c1, c2, c3, c4, c5, c6, c7⟩, hO3, hI3⟩ := res8 HB4.out.1 hR HH.out d HB4.out.2
    rw [e3]
    exact bodyPost_ret (v := exval d) (by simp [results, Tryd.results141, go_sem, asAddr, c0, c1, c2, c3, c4, c5, c6, c7]) rfl ⟨d, rfl, hO3, hI3⟩
  rw [if_neg h2]
  by_cases h3 : s.next.kind = 3
  · rw [if_pos h3]
    have HC2 := hide (fun W1 h1 => HC.out W1 h1 (by rw [h3]; decide))
    rw [h3] at cN
    clear HC h h3 h2
    generalize s.next = t at cN ⊢
    generalize s.adv = s1 at HC2 ⊢
    have cK := hide (fun W h => constant1 3 0 t.text (str t.text) rfl (fun b => w.heap.size + 1 ≤ b) (c := c) (w0 := w.alloc zeroEx) (W := W) (s := s1) h)
    go_enter Tryd.func141, Tryd.ntmps141
    go_wp2_with (first
      | (go_at_call 93; refine cN.mono ?_; rintro e w1 ⟨rfl, HB⟩; obtain ⟨⟨k0, k1, k2, k3, k4, k5, k6, k7⟩, f⟩ := res_cells HB.out hR; obtain ⟨k, hk, a1, b1, hR1, HA⟩ := HC2.out _ HB)
      | (go_at_call 144; refine (cK.out _ (hide (HA.out.alloc _))).mono ?_; rintro e w3 ⟨d, rfl, HB4⟩; clear k0 k1 k2 k3 k4 k5 k6 k7 f; obtain ⟨⟨k0, k1, k2, k3, k4, k5, k6, k7⟩, f⟩ := res_cells HB4.out.1 hR))
    obtain ⟨W3, e3, ⟨c0, c1, c2, c3, c4, c5, c6, c7⟩, hO3, hI3⟩ := res8 HB4.out.1 hR HH.out d HB4.out.2
    rw [e3]
    exact bodyPost_ret (v := exval d) (by simp [results, Tryd.results141, go_sem, asAddr, c0, c1, c2, c3, c4, c5, c6, c7]) rfl ⟨d, rfl, hO3, hI3⟩
  rw [if_neg h3]
  clear HC h
  have cA := hide (fun (W : World) h => anyOfk (c := c) oneWords #[.string ⟨#[110, 117, 108, 108]⟩, .string ⟨#[116, 114, 117, 101]⟩, .string ⟨#[102, 97, 108, 115, 101]⟩, .string ⟨#[40]⟩, .string ⟨#[99, 111, 117, 110, 116]⟩, .string ⟨#[115, 117, 109]⟩, .string ⟨#[109, 105, 110]⟩, .string ⟨#[109, 97, 120]⟩] rfl 8 rfl (by decide) (A := W.heap.size + 1) (KeptBy.triv c) (w0 := w.alloc zeroEx) (W := W.alloc (.cells #[.int .i64 s.next.kind, .int .i64 s.next.int, .string (str s.next.text)] 44)) (s := s) (by simp) h)
  have hl : (anyOf oneWords s).1 ≠ [] → (anyOf oneWords s).2.len < k := fun h => by have := anyOf_less h; omega
  have hl2 : (anyOf oneWords s).2.len < k + 1 := Nat.lt_of_le_of_lt (anyOf_len _ _) hs
  generalize anyOf oneWords s = p at cA hl hl2 ⊢
  obtain ⟨u, s1⟩ := p
  have h2' : (s.next.kind == 2) = false := beq_eq_false_iff_ne.2 h2
  have h3' : (s.next.kind == 3) = false := beq_eq_false_iff_ne.2 h3
  generalize s.next = t at cN cA h2 h3 h2' h3'
  simp only at cA hl hl2 ⊢
  unfold wordP
  by_cases unull : u = [110, 117, 108, 108]
  · rw [if_pos unull]
    subst unull
    have cA := hide (fun W h => show Calls _ _ _ _ (fun e w' => e = .returned (.string ⟨#[110, 117, 108, 108]⟩) ∧ c.R < w'.heap.size ∧ Hid (On c (w.alloc zeroEx) w' s1 ∧ True)) from cA.out W h)
    have cK := hide (fun W h => constant1 0 0 [] ⟨#[]⟩ rfl (fun b => w.heap.size + 1 ≤ b) (c := c) (w0 := w.alloc zeroEx) (W := W) (s := s1) h)
    go_enter Tryd.func141, Tryd.ntmps141
    go_wp2_with (first
      | (go_at_call 93; refine cN.mono ?_; rintro e w1 ⟨rfl, HB⟩; have HB1 := hide (And.intro (HB.out.alloc (.cells #[.int .i64 t.kind, .int .i64 t.int, .string (str t.text)] 44)) trivial))
      | (go_at_call 66; refine (cA.out _ HB1).mono ?_; rintro e w2 ⟨rfl, hR2, HB2⟩; have HB3 := hide HB2.out.1)
      | (go_at_call 144; refine (cK.out _ HB3).mono ?_; rintro e w3 ⟨d, rfl, HB4⟩; obtain ⟨⟨k0, k1, k2, k3, k4, k5, k6, k7⟩, f⟩ := res_cells HB4.out.1 hR))
    obtain ⟨W3, e3, ⟨c0, c1, c2, c3, c4, c5, c6, c7⟩, hO3, hI3⟩ := res8 HB4.out.1 hR HH.out d HB4.out.2
    rw [e3]
    exact bodyPost_ret (v := exval d) (by simp [results, Tryd.results141, go_sem, asAddr, c0, c1, c2, c3, c4, c5, c6, c7]) rfl ⟨d, rfl, hO3, hI3⟩
  rw [if_neg unull]
  by_cases utrue : u = [116, 114, 117, 101]
  · rw [if_pos utrue]
    subst utrue
    have cA := hide (fun W h => show Calls _ _ _ _ (fun e w' => e = .returned (.string ⟨#[116, 114, 117, 101]⟩) ∧ c.R < w'.heap.size ∧ Hid (On c (w.alloc zeroEx) w' s1 ∧ True)) from cA.out W h)
    have cK := hide (fun W h => constant1 1 1 [] ⟨#[]⟩ rfl (fun b => w.heap.size + 1 ≤ b) (c := c) (w0 := w.alloc zeroEx) (W := W) (s := s1) h)
    go_enter Tryd.func141, Tryd.ntmps141
    go_wp2_with (first
      | (go_at_call 93; refine cN.mono ?_; rintro e w1 ⟨rfl, HB⟩; have HB1 := hide (And.intro (HB.out.alloc (.cells #[.int .i64 t.kind, .int .i64 t.int, .string (str t.text)] 44)) trivial))
      | (go_at_call 66; refine (cA.out _ HB1).mono ?_; rintro e w2 ⟨rfl, hR2, HB2⟩; have HB3 := hide HB2.out.1)
      | (go_at_call 144; refine (cK.out _ HB3).mono ?_; rintro e w3 ⟨d, rfl, HB4⟩; obtain ⟨⟨k0, k1, k2, k3, k4, k5, k6, k7⟩, f⟩ := res_cells HB4.out.1 hR))
    obtain ⟨W3, e3, ⟨c0, c1, c2, c3, c4, c5, c6, c7⟩, hO3, hI3⟩ := res8 HB4.out.1 hR HH.out d HB4.out.2
    rw [e3]
    exact bodyPost_ret (v := exval d) (by simp [results, Tryd.results141, go_sem, asAddr, c0, c1, c2, c3, c4, c5, c6, c7]) rfl ⟨d, rfl, hO3, hI3⟩
  rw [if_neg utrue]
  by_cases ufalse : u = [102, 97, 108, 115, 101]
  · rw [if_pos ufalse]
    subst ufalse
    have cA := hide (fun W h => show Calls _ _ _ _ (fun e w' => e = .returned (.string ⟨#[102, 97, 108, 115, 101]⟩) ∧ c.R < w'.heap.size ∧ Hid (On c (w.alloc zeroEx) w' s1 ∧ True)) from cA.out W h)
    have cK := hide (fun W h => constant1 1 0 [] ⟨#[]⟩ rfl (fun b => w.heap.size + 1 ≤ b) (c := c) (w0 := w.alloc zeroEx) (W := W) (s := s1) h)
    go_enter Tryd.func141, Tryd.ntmps141
    go_wp2_with (first
      | (go_at_call 93; refine cN.mono ?_; rintro e w1 ⟨rfl, HB⟩; have HB1 := hide (And.intro (HB.out.alloc (.cells #[.int .i64 t.kind, .int .i64 t.int, .string (str t.text)] 44)) trivial))
      | (go_at_call 66; refine (cA.out _ HB1).mono ?_; rintro e w2 ⟨rfl, hR2, HB2⟩; have HB3 := hide HB2.out.1)
      | (go_at_call 144; refine (cK.out _ HB3).mono ?_; rintro e w3 ⟨d, rfl, HB4⟩; obtain ⟨⟨k0, k1, k2, k3, k4, k5, k6, k7⟩, f⟩ := res_cells HB4.out.1 hR))
    obtain ⟨W3, e3, ⟨c0, c1, c2, c3, c4, c5, c6, c7⟩, hO3, hI3⟩ := res8 HB4.out.1 hR HH.out d HB4.out.2
    rw [e3]
    exact bodyPost_ret (v := exval d) (by simp [results, Tryd.results141, go_sem, asAddr, c0, c1, c2, c3, c4, c5, c6, c7]) rfl ⟨d, rfl, hO3, hI3⟩
  rw [if_neg ufalse]
  by_cases uopen : u = [40]
  · rw [if_pos uopen]
    subst uopen
    have cA := hide (fun W h => show Calls _ _ _ _ (fun e w' => e = .returned (.string ⟨#[40]⟩) ∧ c.R < w'.heap.size ∧ Hid (On c (w.alloc zeroEx) w' s1 ∧ True)) from cA.out W h)
    have cC := hide (fun W h => (closed_part hex).callk (KeptBy.triv c) (w0 := w.alloc zeroEx) (W := W) (hl (by simp)) (lo := w.heap.size + 1) (by simp) h)
    generalize closedP ex s1 = p at cC ⊢
    obtain ⟨a, s2⟩ := p
    simp only at cC ⊢
    go_enter Tryd.func141, Tryd.ntmps141
    go_wp2_with (first
      | (go_at_call 93; refine cN.mono ?_; rintro e w1 ⟨rfl, HB⟩; have HB1 := hide (And.intro (HB.out.alloc (.cells #[.int .i64 t.kind, .int .i64 t.int, .string (str t.text)] 44)) trivial))
      | (go_at_call 66; refine (cA.out _ HB1).mono ?_; rintro e w2 ⟨rfl, hR2, HB2⟩)
      | (go_at_call 145; refine (cC.out _ HB2).mono ?_; rintro e w3 ⟨d, rfl, hR3, HB4⟩; obtain ⟨⟨k0, k1, k2, k3, k4, k5, k6, k7⟩, f⟩ := res_cells HB4.out.1 hR))
    obtain ⟨W3, e3, ⟨c0, c1, c2, c3, c4, c5, c6, c7⟩, hO3, hI3⟩ := res8 HB4.out.1 hR HH.out d HB4.out.2.1
    rw [e3]
    exact bodyPost_ret (v := exval d) (by simp [results, Tryd.results141, go_sem, asAddr, c0, c1, c2, c3, c4, c5, c6, c7]) rfl ⟨d, rfl, hO3, hI3⟩
  rw [if_neg uopen]
  by_cases ucount : u = [99, 111, 117, 110, 116]
  · rw [if_pos ucount]
    subst ucount
    have cA := hide (fun W h => show Calls _ _ _ _ (fun e w' => e = .returned (.string ⟨#[99, 111, 117, 110, 116]⟩) ∧ c.R < w'.heap.size ∧ Hid (On c (w.alloc zeroEx) w' s1 ∧ True)) from cA.out W h)
    have cC := hide (fun W h => (count_part hex).callk (KeptBy.triv c) (w0 := w.alloc zeroEx) (W := W) (hl (by simp)) (lo := w.heap.size + 1) (by simp) h)
    generalize countP ex s1 = p at cC ⊢
    obtain ⟨a, s2⟩ := p
    simp only at cC ⊢
    go_enter Tryd.func141, Tryd.ntmps141
    go_wp2_with (first
      | (go_at_call 93; refine cN.mono ?_; rintro e w1 ⟨rfl, HB⟩; have HB1 := hide (And.intro (HB.out.alloc (.cells #[.int .i64 t.kind, .int .i64 t.int, .string (str t.text)] 44)) trivial))
      | (go_at_call 66; refine (cA.out _ HB1).mono ?_; rintro e w2 ⟨rfl, hR2, HB2⟩)
      | (go_at_call 146; refine (cC.out _ HB2).mono ?_; rintro e w3 ⟨d, rfl, hR3, HB4⟩; obtain ⟨⟨k0, k1, k2, k3, k4, k5, k6, k7⟩, f⟩ := res_cells HB4.out.1 hR))
    obtain ⟨W3, e3, ⟨c0, c1, c2, c3, c4, c5, c6, c7⟩, hO3, hI3⟩ := res8 HB4.out.1 hR HH.out d HB4.out.2.1
    rw [e3]
    exact bodyPost_ret (v := exval d) (by simp [results, Tryd.results141, go_sem, asAddr, c0, c1, c2, c3, c4, c5, c6, c7]) rfl ⟨d, rfl, hO3, hI3⟩
  rw [if_neg ucount]
  by_cases usum : u = [115, 117, 109]
  · rw [if_pos usum]
    subst usum
    have cA := hide (fun W h => show Calls _ _ _ _ (fun e w' => e = .returned (.string ⟨#[115, 117, 109]⟩) ∧ c.R < w'.heap.size ∧ Hid (On c (w.alloc zeroEx) w' s1 ∧ True)) from cA.out W h)
    have cC := hide (fun W (h : Hid (On c (w.alloc zeroEx) W s1 ∧ True)) => (of_part hex 23 W s1 (hl (by simp)) h.out.1.here).mono (R' := fun e w' => ∃ d : ED, e = .returned (exval d) ∧ Hid (On c (w.alloc zeroEx) w' (ofP ex 23 s1).2 ∧ IsEx (fun b => w.heap.size + 1 ≤ b) w' (ofP ex 23 s1).1 d)) fun e w' ⟨d, h1, h2, h3⟩ => ⟨d, h1, h.out.1.back h2, h3.weak fun b hb _ => by have := h.out.1.size; simp at this; omega⟩)
    generalize ofP ex 23 s1 = p at cC ⊢
    obtain ⟨a, s2⟩ := p
    simp only at cC ⊢
    go_enter Tryd.func141, Tryd.ntmps141
    go_wp2_with (first
      | (go_at_call 93; refine cN.mono ?_; rintro e w1 ⟨rfl, HB⟩; have HB1 := hide (And.intro (HB.out.alloc (.cells #[.int .i64 t.kind, .int .i64 t.int, .string (str t.text)] 44)) trivial))
      | (go_at_call 66; refine (cA.out _ HB1).mono ?_; rintro e w2 ⟨rfl, hR2, HB2⟩)
      | (go_at_call 147; refine (cC.out _ HB2).mono ?_; rintro e w3 ⟨d, rfl, HB4⟩; obtain ⟨⟨k0, k1, k2, k3, k4, k5, k6, k7⟩, f⟩ := res_cells HB4.out.1 hR))
    obtain ⟨W3, e3, ⟨c0, c1, c2, c3, c4, c5, c6, c7⟩, hO3, hI3⟩ := res8 HB4.out.1 hR HH.out d HB4.out.2
    rw [e3]
    exact bodyPost_ret (v := exval d) (by simp [results, Tryd.results141, go_sem, asAddr, c0, c1, c2, c3, c4, c5, c6, c7]) rfl ⟨d, rfl, hO3, hI3⟩
  rw [if_neg usum]
  by_cases umin : u = [109, 105, 110]
  · rw [if_pos umin]
    subst umin
    have cA := hide (fun W h => show Calls _ _ _ _ (fun e w' => e = .returned (.string ⟨#[109, 105, 110]⟩) ∧ c.R < w'.heap.size ∧ Hid (On c (w.alloc zeroEx) w' s1 ∧ True)) from cA.out W h)
    have cC := hide (fun W (h : Hid (On c (w.alloc zeroEx) W s1 ∧ True)) => (of_part hex 24 W s1 (hl (by simp)) h.out.1.here).mono (R' := fun e w' => ∃ d : ED, e = .returned (exval d) ∧ Hid (On c (w.alloc zeroEx) w' (ofP ex 24 s1).2 ∧ IsEx (fun b => w.heap.size + 1 ≤ b) w' (ofP ex 24 s1).1 d)) fun e w' ⟨d, h1, h2, h3⟩ => ⟨d, h1, h.out.1.back h2, h3.weak fun b hb _ => by have := h.out.1.size; simp at this; omega⟩)
    generalize ofP ex 24 s1 = p at cC ⊢
    obtain ⟨a, s2⟩ := p
    simp only at cC ⊢
    go_enter Tryd.func141, Tryd.ntmps141
    go_wp2_with (first
      | (go_at_call 93; refine cN.mono ?_; rintro e w1 ⟨rfl, HB⟩; have HB1 := hide (And.intro (HB.out.alloc (.cells #[.int .i64 t.kind, .int .i64 t.int, .string (str t.text)] 44)) trivial))
      | (go_at_call 66; refine (cA.out _ HB1).mono ?_; rintro e w2 ⟨rfl, hR2, HB2⟩)
      | (go_at_call 147; refine (cC.out _ HB2).mono ?_; rintro e w3 ⟨d, rfl, HB4⟩; obtain ⟨⟨k0, k1, k2, k3, k4, k5, k6, k7⟩, f⟩ := res_cells HB4.out.1 hR))
    obtain ⟨W3, e3, ⟨c0, c1, c2, c3, c4, c5, c6, c7⟩, hO3, hI3⟩ := res8 HB4.out.1 hR HH.out d HB4.out.2
    rw [e3]
    exact bodyPost_ret (v := exval d) (by simp [results, Tryd.results141, go_sem, asAddr, c0, c1, c2, c3, c4, c5, c6, c7]) rfl ⟨d, rfl, hO3, hI3⟩
  rw [if_neg umin]
  by_cases umax : u = [109, 97, 120]
  · rw [if_pos umax]
    subst umax
    have cA := hide (fun W h => show Calls _ _ _ _ (fun e w' => e = .returned (.string ⟨#[109, 97, 120]⟩) ∧ c.R < w'.heap.size ∧ Hid (On c (w.alloc zeroEx) w' s1 ∧ True)) from cA.out W h)
    have cC := hide (fun W (h : Hid (On c (w.alloc zeroEx) W s1 ∧ True)) => (of_part hex 25 W s1 (hl (by simp)) h.out.1.here).mono (R' := fun e w' => ∃ d : ED, e = .returned (exval d) ∧ Hid (On c (w.alloc zeroEx) w' (ofP ex 25 s1).2 ∧ IsEx (fun b => w.heap.size + 1 ≤ b) w' (ofP ex 25 s1).1 d)) fun e w' ⟨d, h1, h2, h3⟩ => ⟨d, h1, h.out.1.back h2, h3.weak fun b hb _ => by have := h.out.1.size; simp at this; omega⟩)
    generalize ofP ex 25 s1 = p at cC ⊢
    obtain ⟨a, s2⟩ := p
    simp only at cC ⊢
    go_enter Tryd.func141, Tryd.ntmps141
    go_wp2_with (first
      | (go_at_call 93; refine cN.mono ?_; rintro e w1 ⟨rfl, HB⟩; have HB1 := hide (And.intro (HB.out.alloc (.cells #[.int .i64 t.kind, .int .i64 t.int, .string (str t.text)] 44)) trivial))
      | (go_at_call 66; refine (cA.out _ HB1).mono ?_; rintro e w2 ⟨rfl, hR2, HB2⟩)
      | (go_at_call 147; refine (cC.out _ HB2).mono ?_; rintro e w3 ⟨d, rfl, HB4⟩; obtain ⟨⟨k0, k1, k2, k3, k4, k5, k6, k7⟩, f⟩ := res_cells HB4.out.1 hR))
    obtain ⟨W3, e3, ⟨c0, c1, c2, c3, c4, c5, c6, c7⟩, hO3, hI3⟩ := res8 HB4.out.1 hR HH.out d HB4.out.2
    rw [e3]
    exact bodyPost_ret (v := exval d) (by simp [results, Tryd.results141, go_sem, asAddr, c0, c1, c2, c3, c4, c5, c6, c7]) rfl ⟨d, rfl, hO3, hI3⟩
  rw [if_neg umax]
  have nnull := list_lit unull
  have ntrue := list_lit utrue
  have nfalse := list_lit ufalse
  have nopen := list_lit uopen
  have ncount := list_lit ucount
  have nsum := list_lit usum
  have nmin := list_lit umin
  have nmax := list_lit umax
  clear unull utrue ufalse uopen ucount usum umin umax
  have cC := hide (fun W h => (columnOf_part c (k + 1)).callk (KeptBy.triv c) (w0 := w.alloc zeroEx) (W := W) hl2 (lo := w.heap.size + 1) (by simp) h)
  generalize columnOfP s1 = p at cC ⊢
  obtain ⟨a, s2⟩ := p
  simp only at cC ⊢
  go_enter Tryd.func141, Tryd.ntmps141
  go_wp2_with (first
    | (go_at_call 93; refine cN.mono ?_; rintro e w1 ⟨rfl, HB⟩; have HB1 := hide (And.intro (HB.out.alloc (.cells #[.int .i64 t.kind, .int .i64 t.int, .string (str t.text)] 44)) trivial))
    | (go_at_call 66; refine (cA.out _ HB1).mono ?_; rintro e w2 ⟨rfl, hR2, HB2⟩)
    | (go_at_call 79; refine (cC.out _ HB2).mono ?_; rintro e w3 ⟨d, rfl, hR3, HB4⟩; obtain ⟨⟨k0, k1, k2, k3, k4, k5, k6, k7⟩, f⟩ := res_cells HB4.out.1 hR))
  obtain ⟨W3, e3, ⟨c0, c1, c2, c3, c4, c5, c6, c7⟩, hO3, hI3⟩ := res8 HB4.out.1 hR HH.out d HB4.out.2.1
  rw [e3]
  exact bodyPost_ret (v := exval d) (by simp [results, Tryd.results141, go_sem, asAddr, c0, c1, c2, c3, c4, c5, c6, c7]) rfl ⟨d, rfl, hO3, hI3⟩

end Go.Proofs.YtedinkoapieakaaDoor
