/- In which kid of a node a key lies, or would lie. -/
import Derived.Test.YtcegkgobkpakiaaTrLeast
namespace Go.Proofs.Ytcegkgobkpakiaa
open Go.ChangeShapes Go.WideShapes Go.ChangeAt Go.RowKit

/-- the kids, cut at the one in which a key lies or would lie -/
structure KidCut (h : Nat) (ks : List (Tr h)) (key : List Int) (l : List (Tr h)) (x : Tr h) (r : List (Tr h)) : Prop where
  eq : ks = l ++ x :: r
  left : ∀ y ∈ l.flatMap (flat h), ahead y.1 key = true
  right : ∀ y ∈ r.flatMap (flat h), ahead key y.1 = true

def KidPost (h : Nat) (ks : List (Tr h)) (key : List Int) (w : World) (e : Ending) (w' : World) : Prop := ∃ l x r, KidCut h ks key l x r ∧ e = .returned (.int .i64 l.length) ∧ Below w.heap.size w w'

theorem kid_cut {h : Nat} {ks : List (Tr h)} {key : List Int} {p : Nat} (hp : p < ks.length) (hw : ∀ k ∈ ks, Wn h k) (ha : Asc (ks.flatMap (flat h))) (h1 : p = 0 ∨ ahead key (leastK h ks[p]) = false) (h2 : ∀ q : p + 1 < ks.length, ahead key (leastK h ks[p + 1]) = true) :
    ∃ l x r, ks = l ++ x :: r ∧ l.length = p ∧ (∀ y ∈ l.flatMap (flat h), ahead y.1 key = true) ∧ (∀ y ∈ r.flatMap (flat h), ahead key y.1 = true) := by
  have e : ks = ks.take p ++ ks[p] :: ks.drop (p + 1) := by
    conv => lhs; rw [← List.take_append_drop p ks]
    rw [List.drop_eq_getElem_cons hp]
  refine ⟨ks.take p, ks[p], ks.drop (p + 1), e, by rw [List.length_take]; omega, ?_, ?_⟩
  · intro y hy
    rcases h1 with h1 | h1
    · subst h1
      simp at hy
    · rw [e, List.flatMap_append, List.flatMap_cons] at ha
      have hx := hw ks[p] (List.getElem_mem hp)
      obtain ⟨z, hz1, hz2⟩ := least_mem (flat_pos h ks[p] (by have := hx.1; omega) hx.2.2)
      have := (List.pairwise_append.1 ha).2.2 y hy z (List.mem_append_left _ hz1)
      rw [hz2] at this
      exact ahead_ge this h1
  · intro y hy
    by_cases q : p + 1 < ks.length
    · have h3 := h2 q
      have e2 : ks.drop (p + 1) = ks[p + 1] :: ks.drop (p + 1 + 1) := List.drop_eq_getElem_cons q
      rw [e, e2, List.flatMap_append, List.flatMap_cons, List.flatMap_cons] at ha
      have ha2 := (List.pairwise_append.1 (List.pairwise_append.1 ha).2.1).2.1
      rw [e2, List.flatMap_cons] at hy
      have hx := hw ks[p + 1] (List.getElem_mem q)
      have hn : ahead y.1 (leastK h ks[p + 1]) = false := by
        rcases List.mem_append.1 hy with hy | hy
        · exact least_le (List.pairwise_append.1 ha2).1 y hy
        · obtain ⟨z, hz1, hz2⟩ := least_mem (flat_pos h ks[p + 1] (by have := hx.1; omega) hx.2.2)
          have := (List.pairwise_append.1 ha2).2.2 z hz1 y hy
          rw [hz2] at this
          exact ahead_asymm this
      exact ahead_le h3 hn
    · rw [List.drop_of_length_le (by omega)] at hy
      simp at hy

/-- a kid's cells, in whatever world behind -/
theorem kid_cells {ok : Nat → Prop} {h : Nat} {w : World} {b : Option Addr} {d : Nat} {ks : List (Tr h)} (hL : Lies (kNd h) ok w b d ks) {k : Nat} (hk : k < ks.length) :
    ∃ bb off a1 n1 c1 b1 m1 d1, b = some ⟨bb, off, none⟩ ∧ bb < w.heap.size ∧ ok bb ∧ (kNd h).rel ok w ks[k] [.slice a1 n1 c1, .slice b1 m1 d1] ∧ ∀ W : World, Below w.heap.size w W → W.cell? ⟨bb, off + k * 2, none⟩ = some (.slice a1 n1 c1) ∧ W.cell? ⟨bb, off + k * 2 + 1, none⟩ = some (.slice b1 m1 d1) := by
  obtain ⟨bb, off, e, hb, hob, cs, hr, hc⟩ := hL.at hk
  obtain ⟨a1, n1, c1, b1, m1, d1, rfl⟩ := nd_form hr
  exact ⟨bb, off, a1, n1, c1, b1, m1, d1, e, hb, hob, hr, fun W hW => ⟨(hW.cell (p := ⟨bb, off + k * 2, none⟩) hb).trans (by simpa using hc 0 _ rfl), (hW.cell (p := ⟨bb, off + k * 2 + 1, none⟩) hb).trans (hc 1 _ rfl)⟩⟩

theorem kidOf_none (a b : Option Addr) (n c d : Nat) (ko : Option Addr) (km kc : Nat) (w : World) :
    Calls Try.prog 37 #[.agg #[.slice a n c, .slice b 0 d], .slice ko km kc] w fun e w' => e = .returned (.int .i64 0) ∧ Below w.heap.size w w' := by
  go_enter Try.func37, Try.ntmps37
  go_wp2
  go_loopw [5] (fun x wr => x = .int .i64 0 ∧ w.alloc (.cells #[.slice a n c, .slice b 0 d] 53) = wr) (fun _ _ => 0)
  case atStart => exact ⟨rfl, rfl⟩
  case round =>
    obtain ⟨rfl, rfl⟩ := hrel
    go_wp2
    go_ret
    exact ⟨rfl, (Below.refl _ w).alloc (Nat.le_refl _) _⟩

set_option maxHeartbeats 4000000 in
theorem kidOf_any (ok : Nat → Prop) (h : Nat) (ks : List (Tr h)) (hpos : 0 < ks.length) (hl : ks.length ≤ 5) (hw : ∀ k ∈ ks, Wn h k) (ha : Asc (ks.flatMap (flat h))) (a b : Option Addr) (n c d : Nat) (ko : Option Addr) (kc : Nat) (key : List Int) (w : World) (he : Lies (kNd h) ok w b d ks) (hf : Octs w ko kc key) :
    Calls Try.prog 37 #[.agg #[.slice a n c, .slice b ks.length d], .slice ko key.length kc] w fun e w' =>
      KidPost h ks key w e w' := by
  have HA : Hid (Lies (kNd h) ok w b d ks ∧ (∀ k ∈ ks, Wn h k) ∧ Asc (ks.flatMap (flat h))) := ⟨he, hw, ha⟩
  have cL : Hid (∀ k (hk : k < ks.length), ∃ bb off a1 n1 c1 b1 m1 d1, b = some ⟨bb, off, none⟩ ∧ ∀ W : World, Below w.heap.size w W → (W.cell? ⟨bb, off + k * 2, none⟩ = some (.slice a1 n1 c1) ∧ W.cell? ⟨bb, off + k * 2 + 1, none⟩ = some (.slice b1 m1 d1)) ∧
      Calls Try.prog 25 #[.agg #[.slice a1 n1 c1, .slice b1 m1 d1]] W fun e w' => ∃ a2 c2, e = .returned (.slice a2 (leastK h ks[k]).length c2) ∧ Hid (Octs w' a2 c2 (leastK h ks[k])) ∧ Hid (Below w.heap.size w w') ∧ Hid (Below W.heap.size W w')) := fun k hk => by
    obtain ⟨bb, off, a1, n1, c1, b1, m1, d1, rfl, hb, hob, hr, hc⟩ := kid_cells he hk
    refine ⟨bb, off, a1, n1, c1, b1, m1, d1, rfl, fun W hW => ⟨hc W hW, ?_⟩⟩
    have hx := hw ks[k] (List.getElem_mem hk)
    refine (least_any ok h ks[k] (by have := hx.1; omega) hx.2.2 _ _ W ((kNd h).move (Kept.of_below hW) (fun _ _ q => q) hr)).mono ?_
    rintro e w' ⟨a2, c2, rfl, h1, h2⟩
    exact ⟨a2, c2, rfl, h1, hW.trans (h2.mono hW.size), h2⟩
  have cC : Hid (∀ (W : World) a2 c2 xs, Octs W a2 c2 xs → Below w.heap.size w W → Calls Try.prog 32 #[.slice a2 xs.length c2, .slice ko key.length kc] W fun e w' => e = .returned (.int .i64 (cmpK xs key)) ∧ w' = W) := fun W a2 c2 xs ho hW => Compare_any _ _ _ _ _ _ _ ho (hf.later hW)
  obtain ⟨m, hm⟩ : ∃ m, m = ks.length := ⟨_, rfl⟩
  rw [← hm] at hl hpos ⊢
  have HM : Hid (m = ks.length) := hm
  generalize key.length = q at cC ⊢
  clear he hw ha hf hm
  go_enter Try.func37, Try.ntmps37
  go_wp2
  go_loopw [5] (fun x wr => ∃ p : Nat, p < m ∧ x = .int .i64 p ∧ wr.cell? ⟨w.heap.size, 1, none⟩ = some (.slice b m d) ∧ Hid ((∀ hp : p < ks.length, p = 0 ∨ ahead key (leastK h ks[p]) = false) ∧ Below w.heap.size w wr)) (fun x _ => m - (intOf x).toNat)
  case atStart => exact ⟨0, hpos, rfl, by simp, fun _ => .inl rfl, (Below.refl _ w).alloc (Nat.le_refl _) _⟩
  case round =>
    obtain ⟨p, hp, rfl, k1, HR⟩ := hrel
    have hB : w.heap.size < wr.heap.size := World.block_lt_of_cell? _ _ k1
    by_cases hq : p + 1 < m
    · have hx : p + 1 < ks.length := by rw [← HM.out]; exact hq
      obtain ⟨bb, off, a1, n1, c1, b1, m1, d1, rfl, hall⟩ := cL.out (p + 1) hx
      obtain ⟨⟨q0, q1⟩, cc⟩ := hall wr HR.out.2
      have hle := cmpK_le (leastK h ks[p + 1]) key
      cases hah : ahead key (leastK h ks[p + 1]) with
      | false =>
        have hr0 : cmpK (leastK h ks[p + 1]) key ≤ 0 := of_decide_eq_true (by rw [hle, hah]; rfl)
        have HN : Hid (∀ hp : p + 1 < ks.length, p + 1 = 0 ∨ ahead key (leastK h ks[p + 1]) = false) := fun _ => .inr hah
        generalize leastK h ks[p + 1] = L at cc hr0
        clear hle hah hall
        go_wp2_with (first
          | (go_at_call 25; (with_reducible refine cc.mono ?_); rintro e w1 ⟨a2, c2, rfl, o2, b2, b3⟩; have k1' : w1.cell? ⟨w.heap.size, 1, none⟩ = some (.slice (some ⟨bb, off, none⟩) m d) := (b3.out.cell (p := ⟨w.heap.size, 1, none⟩) hB).trans k1)
          | (go_at_call 32; (with_reducible refine (cC.out _ _ _ _ o2.out b2.out).mono ?_); rintro e w2 ⟨rfl, rfl⟩))
        go_roundw
        case rel => exact ⟨p + 1, hq, by go_num, k1', HN.out, b2.out⟩
        case measure => simp [intOf]; omega
      | true =>
        have hr0 : ¬ cmpK (leastK h ks[p + 1]) key ≤ 0 := of_decide_eq_false (by rw [hle, hah]; rfl)
        obtain ⟨l, x, r, e1, e2, e3, e4⟩ := kid_cut (p := p) (by omega) HA.out.2.1 HA.out.2.2 (HR.out.1 (by omega)) (fun _ => hah)
        have H9 : Hid (KidCut h ks key l x r ∧ l.length = p) := ⟨⟨e1, e3, e4⟩, e2⟩
        generalize leastK h ks[p + 1] = L at cc hr0
        clear hle hah hall e1 e2 e3 e4
        go_wp2_with (first
          | (go_at_call 25; (with_reducible refine cc.mono ?_); rintro e w1 ⟨a2, c2, rfl, o2, b2, b3⟩)
          | (go_at_call 32; (with_reducible refine (cC.out _ _ _ _ o2.out b2.out).mono ?_); rintro e w2 ⟨rfl, rfl⟩))
        go_ret
        exact ⟨l, x, r, H9.out.1, by rw [H9.out.2]; rfl, b2.out⟩
    · obtain ⟨l, x, r, e1, e2, e3, e4⟩ := kid_cut (p := p) (by rw [← HM.out]; exact hp) HA.out.2.1 HA.out.2.2 (HR.out.1 (by rw [← HM.out]; exact hp)) (fun q => absurd q (by rw [← HM.out]; exact hq))
      have H9 : Hid (KidCut h ks key l x r ∧ l.length = p) := ⟨⟨e1, e3, e4⟩, e2⟩
      clear e1 e2 e3 e4
      have hpm : p + 1 = m := by omega
      have hnl : ¬ ((p : Int) + 1 < m) := by omega
      clear hpm hq
      go_wp2
      go_ret
      exact ⟨l, x, r, H9.out.1, by rw [H9.out.2]; rfl, HR.out.2⟩

end Go.Proofs.Ytcegkgobkpakiaa
