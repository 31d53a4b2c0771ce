/- Where among entries a key stands, or would stand. -/
import Derived.Test.YtifagjhblngmmaaApBase
namespace Go.Proofs.Ytifagjhblngmmaa
open Go.ChangeShapes Go.WideShapes Go.ChangeAt Go.RowKit

set_option maxHeartbeats 1000000 in
theorem findCmp_any (a : Option Addr) (c : Nat) (xs : List Int) (v2 : Option Addr) (n2 c2 : Nat) (ko : Option Addr) (kc : Nat) (ks : List Int) (w : World) (he : Octs w a c xs) (hf : Octs w ko kc ks) :
    Calls Try.prog 24 #[.agg #[.slice a xs.length c, .slice v2 n2 c2], .slice ko ks.length kc] w fun e w' => e = .returned (.int .i64 (cmpK xs ks)) ∧ Below w.heap.size w w' := by
  have cC : Hid (∀ o, Calls Try.prog 15 #[.slice a xs.length c, .slice ko ks.length kc] (w.alloc o) fun e w' => e = .returned (.int .i64 (cmpK xs ks)) ∧ w' = w.alloc o) := fun o =>
    Compare_any _ _ _ _ _ _ _ (he.later ((Below.refl _ w).alloc (Nat.le_refl _) _)) (hf.later ((Below.refl _ w).alloc (Nat.le_refl _) _))
  generalize xs.length = n at cC ⊢
  generalize ks.length = m at cC ⊢
  generalize cmpK xs ks = r at cC ⊢
  clear he hf
  go_enter Try.func24, Try.ntmps24
  go_wp2_with (go_at_call 15; (with_reducible refine (cC.out _).mono ?_); rintro e w1 ⟨rfl, rfl⟩)
  go_ret
  exact ⟨rfl, (Below.refl _ w).alloc (Nat.le_refl _) _⟩

/-- is the first one of a list of that key -/
def headIs (r : List Ent) (k : List Int) : Bool := match r with
  | [] => false
  | e :: _ => decide (e.1 = k)

theorem asc_at {es : List Ent} (h : Asc es) {i j : Nat} (hij : i < j) (hj : j < es.length) : ahead (es[i]'(by omega)).1 es[j].1 = true := by
  have := List.pairwise_iff_getElem.1 h i j (by omega) hj hij
  exact this

/-- a list in order, cut where a key stands or would stand -/
theorem cut_at {es : List Ent} {k : List Int} {i : Nat} (hi : i ≤ es.length) (h1 : ∀ m (hm : m < es.length), m < i → ahead es[m].1 k = true) (h2 : ∀ m (hm : m < es.length), i ≤ m → ahead es[m].1 k = false) :
    ∃ l r, es = l ++ r ∧ l.length = i ∧ (∀ y ∈ l, ahead y.1 k = true) ∧ (∀ y ∈ r, ahead y.1 k = false) := by
  refine ⟨es.take i, es.drop i, (List.take_append_drop i es).symm, by rw [List.length_take]; omega, fun y hy => ?_, fun y hy => ?_⟩
  · obtain ⟨m, hm, rfl⟩ := List.getElem_of_mem hy
    rw [List.getElem_take]
    rw [List.length_take] at hm
    exact h1 m (by omega) (by omega)
  · obtain ⟨m, hm, rfl⟩ := List.getElem_of_mem hy
    rw [List.getElem_drop]
    rw [List.length_drop] at hm
    exact h2 (i + m) (by omega) (by omega)

theorem headIs_at {es l r : List Ent} {k : List Int} {i : Nat} (h : es = l ++ r) (hl : l.length = i) (hi : i < es.length) : headIs r k = decide (es[i].1 = k) := by
  subst h
  cases r with
  | nil => simp at hi; omega
  | cons e r =>
    have : (l ++ e :: r)[i] = e := by
      rw [List.getElem_append_right (by omega)]
      simp [hl]
    rw [this]
    rfl

set_option maxHeartbeats 4000000 in
theorem search_any (ok : Nat → Prop) (es : List Ent) (hl : es.length ≤ 100000) (ha : Asc es) (ao : Option Addr) (cap : Nat) (ko : Option Addr) (kc : Nat) (ks : List Int) (w : World) (he : Lies kEnt ok w ao cap es) (hf : Octs w ko kc ks) :
    Calls Try.prog 23 #[.slice ao es.length cap, .slice ko ks.length kc, .func (.func 24) #[] #[]] w fun e w' =>
      ∃ l r, es = l ++ r ∧ (∀ y ∈ l, ahead y.1 ks = true) ∧ (∀ y ∈ r, ahead y.1 ks = false) ∧ e = .returned (.tuple #[.int .i64 l.length, .bool (headIs r ks)]) ∧ Below w.heap.size w w' := by
  have HE : Hid (Lies kEnt ok w ao cap es) := he
  have HA : Hid (Asc es) := ha
  have cF : Hid (∀ k (hk : k < es.length) (W : World), Below w.heap.size w W → ∃ b off a1 c1 a2 n2 c2, ao = some ⟨b, off, none⟩ ∧ W.cell? ⟨b, off + k * 2, none⟩ = some (.slice a1 (es[k].1).length c1) ∧ W.cell? ⟨b, off + k * 2 + 1, none⟩ = some (.slice a2 n2 c2) ∧
      Calls Try.prog 24 #[.agg #[.slice a1 (es[k].1).length c1, .slice a2 n2 c2], .slice ko ks.length kc] W fun e w' => e = .returned (.int .i64 (cmpK es[k].1 ks)) ∧ Hid (Below w.heap.size w w')) := fun k hk W hW => by
    obtain ⟨b, off, rfl, hb, _, cs, ⟨u, v, rfl, ⟨a1, c1, rfl, o1, _⟩, ⟨a2, c2, rfl, o2, _⟩⟩, hc⟩ := he.at hk
    refine ⟨b, off, a1, c1, a2, _, c2, rfl, (hW.cell (p := ⟨b, off + k * 2, none⟩) hb).trans (by simpa using hc 0 _ rfl), (hW.cell (p := ⟨b, off + k * 2 + 1, none⟩) hb).trans (hc 1 _ rfl), ?_⟩
    exact (findCmp_any a1 c1 _ a2 _ c2 ko kc ks W (o1.later hW) (hf.later hW)).mono fun e w' h => ⟨h.1, hW.trans (h.2.mono hW.size)⟩
  obtain ⟨n, hn⟩ : ∃ n, n = es.length := ⟨_, rfl⟩
  rw [← hn] at hl ⊢
  have HN : Hid (n = es.length) := hn
  clear he ha hn
  generalize ks.length = km at cF ⊢
  go_enter Try.func23, Try.ntmps23
  go_wp2
  go_loopw [9, 10] (fun x y wr => ∃ (i j : Nat), i ≤ j ∧ j ≤ n ∧ x = .int .i64 i ∧ y = .int .i64 j ∧ Hid ((∀ m (hm : m < es.length), m < i → ahead es[m].1 ks = true) ∧ (∀ m (hm : m < es.length), j ≤ m → ahead es[m].1 ks = false) ∧ Below w.heap.size w wr)) (fun x y _ => (intOf y).toNat - (intOf x).toNat)
  case atStart => exact ⟨0, n, Nat.zero_le _, Nat.le_refl _, rfl, rfl, fun _ _ h => absurd h (Nat.not_lt_zero _), fun m hm h => absurd hm (by rw [← HN.out]; omega), Below.refl _ _⟩
  case round =>
    obtain ⟨i, j, hij, hjn, rfl, rfl, HI⟩ := hrel
    by_cases hlt : i < j
    · have hx : (i + j) / 2 < es.length := by rw [← HN.out]; omega
      obtain ⟨b, off, a1, c1, a2, n2, c2, rfl, k0, k1, cc⟩ := cF.out _ hx wr HI.out.2.2
      obtain ⟨h, hh⟩ : ∃ h, h = (i + j) / 2 := ⟨_, rfl⟩
      have h1 : i ≤ h := by omega
      have h2 : h < j := by omega
      have HC : Hid (∀ x, ahead (es[(i + j) / 2]).1 ks = x → (x = true → ∀ m (hm : m < es.length), m < h + 1 → ahead es[m].1 ks = true) ∧ (x = false → ∀ m (hm : m < es.length), h ≤ m → ahead es[m].1 ks = false)) := fun x hx' => by
        subst hh
        refine ⟨fun e m hm hmi => ?_, fun e m hm hmi => ?_⟩
        · rw [e] at hx'
          rcases Nat.lt_or_ge m ((i + j) / 2) with q | q
          · exact ahead_trans (asc_at HA.out q hx) hx'
          · have : m = (i + j) / 2 := by omega
            subst this
            exact hx'
        · rw [e] at hx'
          rcases Nat.lt_or_ge ((i + j) / 2) m with q | q
          · cases e2 : ahead es[m].1 ks with
            | false => rfl
            | true =>
              have := ahead_trans (asc_at HA.out q hm) e2
              rw [this] at hx'
              cases hx'
          · have : m = (i + j) / 2 := by omega
            subst this
            exact hx'
      obtain ⟨r, hr⟩ : ∃ r, r = cmpK (es[(i + j) / 2]).1 ks := ⟨_, rfl⟩
      have hlt0 := cmpK_lt (es[(i + j) / 2]).1 ks
      rw [← hr] at hlt0 cc
      generalize (es[(i + j) / 2]).1.length = q at k0 cc
      cases hah : ahead (es[(i + j) / 2]).1 ks with
      | true =>
        have hr0 : r < 0 := of_decide_eq_true (hlt0.trans hah)
        have HD : Hid (∀ m (hm : m < es.length), m < h + 1 → ahead es[m].1 ks = true) := (HC.out _ hah).1 rfl
        clear hlt0 hah hr HC hx
        go_wp2_with (go_at_call 24; (with_reducible refine cc.mono ?_); rintro e w1 ⟨rfl, b1⟩)
        go_roundw
        case rel => exact ⟨h + 1, j, by omega, hjn, by rw [hh]; go_num, rfl, HD.out, HI.out.2.1, b1.out⟩
        case measure =>
          have : (((i : Int) + j) / 2) = (h : Int) := by omega
          simp [intOf]
          omega
      | false =>
        have hr0 : ¬ r < 0 := of_decide_eq_false (hlt0.trans hah)
        have HD : Hid (∀ m (hm : m < es.length), h ≤ m → ahead es[m].1 ks = false) := (HC.out _ hah).2 rfl
        clear hlt0 hah hr HC hx
        go_wp2_with (go_at_call 24; (with_reducible refine cc.mono ?_); rintro e w1 ⟨rfl, b1⟩)
        go_roundw
        case rel => exact ⟨i, h, h1, by omega, rfl, by rw [hh]; go_num, HI.out.1, HD.out, b1.out⟩
        case measure =>
          simp [intOf]
          omega
    · have hije : i = j := by omega
      subst hije
      obtain ⟨l, r, e1, e2, e3, e4⟩ := cut_at (i := i) (by rw [← HN.out]; exact hjn) HI.out.1 HI.out.2.1
      by_cases hin : i < n
      · have hx : i < es.length := by rw [← HN.out]; exact hin
        obtain ⟨b, off, a1, c1, a2, n2, c2, rfl, k0, k1, cc⟩ := cF.out _ hx wr HI.out.2.2
        have H9 : Hid (es = l ++ r ∧ l.length = i ∧ (∀ y ∈ l, ahead y.1 ks = true) ∧ (∀ y ∈ r, ahead y.1 ks = false) ∧ (cmpK es[i].1 ks == 0) = headIs r ks) := ⟨e1, e2, e3, e4, by rw [cmpK_eq, headIs_at e1 e2 hx]⟩
        obtain ⟨q, hq⟩ : ∃ q, q = cmpK es[i].1 ks := ⟨_, rfl⟩
        rw [← hq] at cc H9
        generalize (es[i]).1.length = qq at k0 cc
        clear e1 e2 e3 e4 hq hx hlt
        go_wp2_with (go_at_call 24; (with_reducible refine cc.mono ?_); rintro e w1 ⟨rfl, b1⟩)
        go_ret2
        refine ⟨l, r, H9.out.1, H9.out.2.2.1, H9.out.2.2.2.1, ?_, b1.out⟩
        rw [← H9.out.2.2.2.2, H9.out.2.1]
        rfl
      · have hr : r = [] := by
          have := congrArg List.length e1
          rw [List.length_append, e2, ← HN.out] at this
          exact List.length_eq_zero_iff.1 (by omega)
        subst hr
        have H9 : Hid (es = l ++ [] ∧ l.length = i ∧ (∀ y ∈ l, ahead y.1 ks = true)) := ⟨e1, e2, e3⟩
        clear e1 e2 e3 e4 hlt
        go_wp2
        go_ret2
        refine ⟨l, [], H9.out.1, H9.out.2.2, by simp, ?_, HI.out.2.2⟩
        rw [H9.out.2.1]
        rfl

theorem found_any (ok : Nat → Prop) (es : List Ent) (hl : es.length ≤ 100000) (ha : Asc es) (ao : Option Addr) (cap : Nat) (ko : Option Addr) (kc : Nat) (ks : List Int) (w : World) (he : Lies kEnt ok w ao cap es) (hf : Octs w ko kc ks) :
    Calls Try.prog 16 #[.slice ao es.length cap, .slice ko ks.length kc] w fun e w' =>
      ∃ l r, es = l ++ r ∧ (∀ y ∈ l, ahead y.1 ks = true) ∧ (∀ y ∈ r, ahead y.1 ks = false) ∧ e = .returned (.tuple #[.int .i64 l.length, .bool (headIs r ks)]) ∧ Below w.heap.size w w' := by
  have c : Hid (Calls Try.prog 23 #[.slice ao es.length cap, .slice ko ks.length kc, .func (.func 24) #[] #[]] w fun e w' => ∃ (p : Nat) (q : Bool), e = .returned (.tuple #[.int .i64 p, .bool q]) ∧ Hid (∃ l r, es = l ++ r ∧ (∀ y ∈ l, ahead y.1 ks = true) ∧ (∀ y ∈ r, ahead y.1 ks = false) ∧ p = l.length ∧ q = headIs r ks ∧ Below w.heap.size w w')) := by
    refine (search_any ok es hl ha ao cap ko kc ks w he hf).mono ?_
    rintro e w' ⟨l, r, h1, h2, h3, rfl, h4⟩
    exact ⟨_, _, rfl, l, r, h1, h2, h3, rfl, rfl, h4⟩
  clear he hf
  generalize es.length = n at c
  generalize ks.length = m at c
  go_enter Try.func16, Try.ntmps16
  go_wp2_with (go_at_call 23; (with_reducible refine c.out.mono ?_); rintro e w1 ⟨p, q, rfl, H⟩)
  go_ret2
  obtain ⟨l, r, h1, h2, h3, h4, h5, h6⟩ := H.out
  refine ⟨l, r, h1, h2, h3, ?_, h6⟩
  rw [← h4, ← h5]
  rfl

end Go.Proofs.Ytifagjhblngmmaa
