/- Package parse: expressions, the upper levels, and the whole: contracts, at every state. -/
import Derived.Test.YtedinkoapieakaaDoorParseLevels
import Derived.Test.YtedinkoapieakaaDoorParseTest
namespace Go.Proofs.YtedinkoapieakaaDoor
open Go.ChangeShapes Go.WideShapes Go.ChangeAt Go.RowKit

set_option maxRecDepth 100000 in
set_option maxHeartbeats 4000000 in
theorem no_part {c : RC} {k : Nat} {ex : St → Ex × St} (hi : Part 122 c (testP ex) k) : Part 114 c (noP ex) k := by
  intro w s
  obtain ⟨m, hm⟩ : ∃ m, s.len = m := ⟨_, rfl⟩
  induction m using Nat.strongRecOn generalizing w s with
  | _ m ih =>
    intro hs h
    have hR := h.lt
    have HH := hide h
    have cM := may0k (c := c) [110, 111, 116] ⟨#[110, 111, 116]⟩ rfl (KeptBy.triv c) (hide ⟨(h.alloc zeroEx).here, trivial⟩)
    cases hb : (mayBe [110, 111, 116] [] s).1 with
    | true =>
      have hl := mayBe_one hb
      rw [noP_on hb]
      rw [hb] at cM
      have IH : Part 114 c (noP ex) s.len := fun w' s' hs' h' => ih s'.len (by omega) w' s' rfl (by omega) h'
      have cS := hide (fun W h => IH.callk (KeptBy.triv c) (w0 := w.alloc zeroEx) (W := W) (s := (mayBe [110, 111, 116] [] s).2) (by omega) (lo := w.heap.size + 1) (by simp) h)
      clear ih IH h hb hl
      generalize (mayBe [110, 111, 116] [] s).2 = s1 at cM cS ⊢
      generalize noP ex s1 = p at cS ⊢
      obtain ⟨a, s2⟩ := p
      simp only at cM cS ⊢
      have cD := hide (fun W d h => made1k 5 (c := c) (lo := w.heap.size + 1) (w0 := w.alloc zeroEx) (W := W) (s := s2) (a := a) (d := d) rfl (by simp) h)
      go_enter Tryd.func114, Tryd.ntmps114
      go_wp2_with (first
        | (go_at_call 76; refine cM.mono ?_; rintro e w1 ⟨rfl, hR1, HB⟩)
        | (go_at_call 114; refine (cS.out _ HB).mono ?_; rintro e w2 ⟨d1, rfl, hR2, HB2⟩; have HB3 := hide (And.intro HB2.out.1 HB2.out.2.1))
        | (go_at_call 113; refine (cD.out _ _ HB3).mono ?_; rintro e w3 ⟨d, rfl, hR3, HB4⟩; obtain ⟨⟨k0, k1, k2, k3, k4, k5, k6, k7⟩, f⟩ := res_cells HB4.out.1 hR))
      obtain ⟨W3, e3, ⟨c0, c1, c2, c3, c4, c5, c6, c7⟩, hO3, hI3⟩ := res8 HB4.out.1 hR HH.out d HB4.out.2
      rw [e3]
      exact bodyPost_ret (v := exval d) (by simp [results, Tryd.results114, go_sem, asAddr, c0, c1, c2, c3, c4, c5, c6, c7]) rfl ⟨d, rfl, hO3, hI3⟩
    | false =>
      have hl := mayBe_len [110, 111, 116] [] s
      rw [noP_end hb]
      rw [hb] at cM
      have cS := hide (fun W h => hi.callk (KeptBy.triv c) (w0 := w.alloc zeroEx) (W := W) (s := (mayBe [110, 111, 116] [] s).2) (by omega) (lo := w.heap.size + 1) (by simp) h)
      clear ih h hb hl
      generalize (mayBe [110, 111, 116] [] s).2 = s1 at cM cS ⊢
      generalize testP ex s1 = p at cS ⊢
      obtain ⟨a, s2⟩ := p
      simp only at cM cS ⊢
      go_enter Tryd.func114, Tryd.ntmps114
      go_wp2_with (first
        | (go_at_call 76; refine cM.mono ?_; rintro e w1 ⟨rfl, hR1, HB⟩)
        | (go_at_call 122; refine (cS.out _ HB).mono ?_; rintro e w2 ⟨d, rfl, hR2, HB2⟩; obtain ⟨⟨k0, k1, k2, k3, k4, k5, k6, k7⟩, f⟩ := res_cells HB2.out.1 hR))
      obtain ⟨W3, e3, ⟨c0, c1, c2, c3, c4, c5, c6, c7⟩, hO3, hI3⟩ := res8 HB2.out.1 hR HH.out d HB2.out.2.1
      rw [e3]
      exact bodyPost_ret (v := exval d) (by simp [results, Tryd.results114, go_sem, asAddr, c0, c1, c2, c3, c4, c5, c6, c7]) rfl ⟨d, rfl, hO3, hI3⟩

set_option maxRecDepth 100000 in
set_option maxHeartbeats 4000000 in
theorem both_part {c : RC} {k : Nat} {ex : St → Ex × St} (hx : Shrinks ex) (hp : Part 114 c (noP ex) k) : Part 101 c (bothP ex) k := by
  intro w s hs h
  have hR := h.lt
  have HH := hide h
  have hmf : ∀ (fn : Fn) (first cap : Array Value) (w : World), (Instr.makeFunc fn first cap).run Tryd.prog w = .ok (.func fn first cap) w := fun _ _ _ _ => rfl
  have cL := left_call (fun _ _ => rfl) hp (noP_shrinks hx) [[97, 110, 100]] #[.string ⟨#[97, 110, 100]⟩] rfl 1 rfl (by decide) hs h
  unfold bothP
  clear h
  generalize leftward (noP ex) [[97, 110, 100]] s = p at cL ⊢
  obtain ⟨a, s1⟩ := p
  simp only at cL ⊢
  go_enter Tryd.func101, Tryd.ntmps101
  go_wp2_with (go_at_call 100; refine cL.mono ?_; rintro e w1 ⟨d, rfl, HB⟩; obtain ⟨⟨k0, k1, k2, k3, k4, k5, k6, k7⟩, f⟩ := res_cells HB.out.1 hR)
  obtain ⟨W3, e3, ⟨c0, c1, c2, c3, c4, c5, c6, c7⟩, hO3, hI3⟩ := res8 HB.out.1 hR HH.out d HB.out.2
  rw [e3]
  exact bodyPost_ret (v := exval d) (by simp [results, Tryd.results101, go_sem, asAddr, c0, c1, c2, c3, c4, c5, c6, c7]) rfl ⟨d, rfl, hO3, hI3⟩

set_option maxRecDepth 100000 in
set_option maxHeartbeats 4000000 in
theorem expr_part {c : RC} {k : Nat} {ex : St → Ex × St} (hx : Shrinks ex) (hp : Part 101 c (bothP ex) k) : Part 77 c (orP ex) k := by
  intro w s hs h
  have hR := h.lt
  have HH := hide h
  have hmf : ∀ (fn : Fn) (first cap : Array Value) (w : World), (Instr.makeFunc fn first cap).run Tryd.prog w = .ok (.func fn first cap) w := fun _ _ _ _ => rfl
  have cL := left_call (fun _ _ => rfl) hp (bothP_shrinks hx) [[111, 114]] #[.string ⟨#[111, 114]⟩] rfl 1 rfl (by decide) hs h
  unfold orP
  clear h
  generalize leftward (bothP ex) [[111, 114]] s = p at cL ⊢
  obtain ⟨a, s1⟩ := p
  simp only at cL ⊢
  go_enter Tryd.func77, Tryd.ntmps77
  go_wp2_with (go_at_call 100; refine cL.mono ?_; rintro e w1 ⟨d, rfl, HB⟩; obtain ⟨⟨k0, k1, k2, k3, k4, k5, k6, k7⟩, f⟩ := res_cells HB.out.1 hR)
  obtain ⟨W3, e3, ⟨c0, c1, c2, c3, c4, c5, c6, c7⟩, hO3, hI3⟩ := res8 HB.out.1 hR HH.out d HB.out.2
  rw [e3]
  exact bodyPost_ret (v := exval d) (by simp [results, Tryd.results77, go_sem, asAddr, c0, c1, c2, c3, c4, c5, c6, c7]) rfl ⟨d, rfl, hO3, hI3⟩

/-- an expression, whatever tokens are left -/
theorem expr_all (c : RC) (k : Nat) : Part 77 c (exprN k) k := by
  induction k with
  | zero => exact fun w s hs _ => absurd hs (Nat.not_lt_zero _)
  | succ k ih =>
    have hx := exprN_shrinks k
    have h1 := one_part ih
    have h2 := minus_part h1
    have h3 := times_part hx h2
    have h4 := sum_part hx h3
    have h5 := test_part hx h4
    have h6 := no_part h5
    have h7 := both_part hx h6
    exact expr_part hx h7

theorem expr_is (c : RC) (k : Nat) : Part 77 c exprP k := fun w s _ h => expr_all c (s.len + 1) w s (Nat.lt_succ_self _) h

end Go.Proofs.YtedinkoapieakaaDoor
