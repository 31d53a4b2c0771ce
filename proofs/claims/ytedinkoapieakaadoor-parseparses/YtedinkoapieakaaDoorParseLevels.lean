/- Package parse: expressions, level by level: contracts, at every state. -/
import Derived.Test.YtedinkoapieakaaDoorParseOne
import Derived.Test.YtedinkoapieakaaDoorParseLeft
namespace Go.Proofs.YtedinkoapieakaaDoor
open Go.ChangeShapes Go.WideShapes Go.ChangeAt Go.RowKit

/-- 'leftward', as its call comes -/
theorem left_call {c : RC} {k g : Nat} {P : St → Ex × St} (eg : ∀ args w, (callFunc g args).run Tryd.prog w = .ok (.enter g args) w) (hp : Part g c P k) (hsh : Shrinks P) (ws : List (List UInt8)) (zs : Array Value) (hz : zs = (ws.map fun v => Value.string (str v)).toArray) (n : Nat) (hn : n = ws.length) (hl : ws.length ≤ 1000)
    {w : World} {s : St} (hs : s.len < k) (h : On c w w s) :
    Calls Tryd.prog 100 #[.pointer (some ⟨c.R, 0, none⟩), .func (.func g) #[.pointer (some ⟨c.R, 0, none⟩)] #[], .slice (some ⟨w.heap.size + 1, 0, none⟩) n n] ((w.alloc zeroEx).alloc (.cells zs 9)) fun e w' => ∃ d : ED, e = .returned (exval d) ∧ Hid (On c (w.alloc zeroEx) w' (leftward P ws s).2 ∧ IsEx (fun b => w.heap.size + 1 ≤ b) w' (leftward P ws s).1 d) := by
  subst hn
  have h1 := h.alloc zeroEx
  have h2 := h1.here.alloc (.cells zs 9)
  have hw := Wds.lits (w.alloc zeroEx) ws hl zs hz 9
  have e1 : (w.alloc zeroEx).heap.size = w.heap.size + 1 := by simp
  rw [e1] at hw
  refine (leftward_any g eg hp hsh (sc := ws.length) _ s hs h2.here hw ?_).mono fun e w' ⟨d, h3, h4, h5⟩ => ⟨d, h3, h2.back h4, h5.weak fun b hb _ => by simp at hb; omega⟩
  intro a ha
  cases ha
  have := h.lt
  simp
  omega

set_option maxRecDepth 100000 in
set_option maxHeartbeats 4000000 in
theorem minus_part {c : RC} {k : Nat} {ex : St → Ex × St} (hi : Part 141 c (oneP ex) k) : Part 134 c (minusP ex) k := by
  intro w s
  obtain ⟨m, hm⟩ : ∃ m, s.len = m := ⟨_, rfl⟩
  induction m using Nat.strongRecOn generalizing w s with
  | _ m ih =>
    intro hs h
    have hR := h.lt
    have HH := hide h
    have cM := may0k (c := c) [45] ⟨#[45]⟩ rfl (KeptBy.triv c) (hide ⟨(h.alloc zeroEx).here, trivial⟩)
    cases hb : (mayBe [45] [] s).1 with
    | true =>
      have hl := mayBe_one hb
      rw [minusP_on hb]
      rw [hb] at cM
      have IH : Part 134 c (minusP ex) s.len := fun w' s' hs' h' => ih s'.len (by omega) w' s' rfl (by omega) h'
      have cS := hide (fun W h => IH.callk (KeptBy.triv c) (w0 := w.alloc zeroEx) (W := W) (s := (mayBe [45] [] s).2) (by omega) (lo := w.heap.size + 1) (by simp) h)
      clear ih IH h hb hl
      generalize (mayBe [45] [] s).2 = s1 at cM cS ⊢
      generalize minusP ex s1 = p at cS ⊢
      obtain ⟨a, s2⟩ := p
      simp only at cM cS ⊢
      have cD := hide (fun W d h => made1k 4 (c := c) (lo := w.heap.size + 1) (w0 := w.alloc zeroEx) (W := W) (s := s2) (a := a) (d := d) rfl (by simp) h)
      go_enter Tryd.func134, Tryd.ntmps134
      go_wp2_with (first
        | (go_at_call 76; refine cM.mono ?_; rintro e w1 ⟨rfl, hR1, HB⟩)
        | (go_at_call 134; refine (cS.out _ HB).mono ?_; rintro e w2 ⟨d1, rfl, hR2, HB2⟩; have HB3 := hide (And.intro HB2.out.1 HB2.out.2.1))
        | (go_at_call 113; refine (cD.out _ _ HB3).mono ?_; rintro e w3 ⟨d, rfl, hR3, HB4⟩; obtain ⟨⟨k0, k1, k2, k3, k4, k5, k6, k7⟩, f⟩ := res_cells HB4.out.1 hR))
      obtain ⟨W3, e3, ⟨c0, c1, c2, c3, c4, c5, c6, c7⟩, hO3, hI3⟩ := res8 HB4.out.1 hR HH.out d HB4.out.2
      rw [e3]
      exact bodyPost_ret (v := exval d) (by simp [results, Tryd.results134, go_sem, asAddr, c0, c1, c2, c3, c4, c5, c6, c7]) rfl ⟨d, rfl, hO3, hI3⟩
    | false =>
      have hl := mayBe_len [45] [] s
      rw [minusP_end hb]
      rw [hb] at cM
      have cS := hide (fun W h => hi.callk (KeptBy.triv c) (w0 := w.alloc zeroEx) (W := W) (s := (mayBe [45] [] s).2) (by omega) (lo := w.heap.size + 1) (by simp) h)
      clear ih h hb hl
      generalize (mayBe [45] [] s).2 = s1 at cM cS ⊢
      generalize oneP ex s1 = p at cS ⊢
      obtain ⟨a, s2⟩ := p
      simp only at cM cS ⊢
      go_enter Tryd.func134, Tryd.ntmps134
      go_wp2_with (first
        | (go_at_call 76; refine cM.mono ?_; rintro e w1 ⟨rfl, hR1, HB⟩)
        | (go_at_call 141; refine (cS.out _ HB).mono ?_; rintro e w2 ⟨d, rfl, hR2, HB2⟩; obtain ⟨⟨k0, k1, k2, k3, k4, k5, k6, k7⟩, f⟩ := res_cells HB2.out.1 hR))
      obtain ⟨W3, e3, ⟨c0, c1, c2, c3, c4, c5, c6, c7⟩, hO3, hI3⟩ := res8 HB2.out.1 hR HH.out d HB2.out.2.1
      rw [e3]
      exact bodyPost_ret (v := exval d) (by simp [results, Tryd.results134, go_sem, asAddr, c0, c1, c2, c3, c4, c5, c6, c7]) rfl ⟨d, rfl, hO3, hI3⟩

set_option maxRecDepth 100000 in
set_option maxHeartbeats 4000000 in
theorem times_part {c : RC} {k : Nat} {ex : St → Ex × St} (hx : Shrinks ex) (hp : Part 134 c (minusP ex) k) : Part 128 c (timesP ex) k := by
  intro w s hs h
  have hR := h.lt
  have HH := hide h
  have hmf : ∀ (fn : Fn) (first cap : Array Value) (w : World), (Instr.makeFunc fn first cap).run Tryd.prog w = .ok (.func fn first cap) w := fun _ _ _ _ => rfl
  have cL := left_call (fun _ _ => rfl) hp (minusP_shrinks hx) [[42], [47], [37]] #[.string ⟨#[42]⟩, .string ⟨#[47]⟩, .string ⟨#[37]⟩] rfl 3 rfl (by decide) hs h
  unfold timesP
  clear h
  generalize leftward (minusP ex) [[42], [47], [37]] s = p at cL ⊢
  obtain ⟨a, s1⟩ := p
  simp only at cL ⊢
  go_enter Tryd.func128, Tryd.ntmps128
  go_wp2_with (go_at_call 100; refine cL.mono ?_; rintro e w1 ⟨d, rfl, HB⟩; obtain ⟨⟨k0, k1, k2, k3, k4, k5, k6, k7⟩, f⟩ := res_cells HB.out.1 hR)
  obtain ⟨W3, e3, ⟨c0, c1, c2, c3, c4, c5, c6, c7⟩, hO3, hI3⟩ := res8 HB.out.1 hR HH.out d HB.out.2
  rw [e3]
  exact bodyPost_ret (v := exval d) (by simp [results, Tryd.results128, go_sem, asAddr, c0, c1, c2, c3, c4, c5, c6, c7]) rfl ⟨d, rfl, hO3, hI3⟩

set_option maxRecDepth 100000 in
set_option maxHeartbeats 4000000 in
theorem sum_part {c : RC} {k : Nat} {ex : St → Ex × St} (hx : Shrinks ex) (hp : Part 128 c (timesP ex) k) : Part 125 c (sumP ex) k := by
  intro w s hs h
  have hR := h.lt
  have HH := hide h
  have hmf : ∀ (fn : Fn) (first cap : Array Value) (w : World), (Instr.makeFunc fn first cap).run Tryd.prog w = .ok (.func fn first cap) w := fun _ _ _ _ => rfl
  have cL := left_call (fun _ _ => rfl) hp (timesP_shrinks hx) [[43], [45]] #[.string ⟨#[43]⟩, .string ⟨#[45]⟩] rfl 2 rfl (by decide) hs h
  unfold sumP
  clear h
  generalize leftward (timesP ex) [[43], [45]] s = p at cL ⊢
  obtain ⟨a, s1⟩ := p
  simp only at cL ⊢
  go_enter Tryd.func125, Tryd.ntmps125
  go_wp2_with (go_at_call 100; refine cL.mono ?_; rintro e w1 ⟨d, rfl, HB⟩; obtain ⟨⟨k0, k1, k2, k3, k4, k5, k6, k7⟩, f⟩ := res_cells HB.out.1 hR)
  obtain ⟨W3, e3, ⟨c0, c1, c2, c3, c4, c5, c6, c7⟩, hO3, hI3⟩ := res8 HB.out.1 hR HH.out d HB.out.2
  rw [e3]
  exact bodyPost_ret (v := exval d) (by simp [results, Tryd.results125, go_sem, asAddr, c0, c1, c2, c3, c4, c5, c6, c7]) rfl ⟨d, rfl, hO3, hI3⟩

end Go.Proofs.YtedinkoapieakaaDoor
