/- One value is decided, and it is one that was asked for. -/
import Derived.Test.YtppcikfhhmiipaaBlInv
namespace Go.Proofs.Ytppcikfhhmiipaa

/-- that value is decided -/
def Bl.Dec (b : Bl) (d : Int) : Prop := ∃ r x, b.rs r = some x ∧ x.told = true ∧ b.most x.ch = true ∧ x.va = d

theorem Bl.Inv.same {b : Bl} (h : b.Inv) (hn : b.vs.length ≤ 5) {d e : Int} (hd : b.Dec d) (he : b.Dec e) : d = e := by
  obtain ⟨r, x, h1, h2, h3, rfl⟩ := hd
  obtain ⟨q, y, g1, g2, g3, rfl⟩ := he
  by_cases e1 : r < q
  · exact (h.one hn h1 h3 _ q y rfl e1 g1 g2).symm
  · by_cases e2 : q < r
    · exact h.one hn g1 g3 _ r x rfl e2 h1 h2
    · obtain rfl : r = q := by omega
      rw [h1] at g1
      cases g1
      rfl

theorem cnt_mono {c d : Nat → Bool} (h : ∀ i, c i = true → d i = true) : cnt c ≤ cnt d := by
  have hi : ∀ i, (c i).toNat ≤ (d i).toNat := fun i => by
    cases e : c i
    · exact Nat.zero_le _
    · rw [h i e]
      exact Nat.le_refl _
  have h0 := hi 0
  have h1 := hi 1
  have h2 := hi 2
  have h3 := hi 3
  have h4 := hi 4
  unfold cnt
  omega

theorem Bl.Dec.setR {b : Bl} {d : Int} (h : b.Dec d) {r : Int} {y : Rn} (ha : ∀ x, b.rs r = some x → x.told = true → y.told = true ∧ y.va = x.va ∧ ∀ i, x.ch i = true → y.ch i = true) : (b.setR r y).Dec d := by
  obtain ⟨q, x, h1, h2, h3, h4⟩ := h
  by_cases e : q = r
  · subst e
    obtain ⟨g1, g2, g3⟩ := ha x h1 h2
    refine ⟨q, y, by simp [Bl.setR], g1, ?_, g2.trans h4⟩
    have hm := cnt_mono g3
    have h5 : b.vs.length < 2 * cnt x.ch := of_decide_eq_true h3
    exact decide_eq_true (show b.vs.length < 2 * cnt y.ch by omega)
  · exact ⟨q, x, by simp [Bl.setR, e, h1], h2, h3, h4⟩

theorem Bl.Dec.other {b c : Bl} {d : Int} (h : b.Dec d) (e1 : c.rs = b.rs) (e2 : c.vs.length = b.vs.length) : c.Dec d := by
  obtain ⟨q, x, h1, h2, h3, h4⟩ := h
  exact ⟨q, x, by rw [e1]; exact h1, h2, by unfold Bl.most at h3 ⊢; rw [e2]; exact h3, h4⟩

theorem send_rs (b : Bl) (l : Lt) : (b.send l).rs = b.rs ∧ (b.send l).vs = b.vs := by
  unfold Bl.send
  split <;> exact ⟨rfl, rfl⟩
theorem sendTo_rs (b : Bl) (l : Lt) (k : Nat) : (b.sendTo l k).rs = b.rs ∧ (b.sendTo l k).vs = b.vs := by
  induction k with
  | zero => exact ⟨rfl, rfl⟩
  | succ k ih => exact ⟨(send_rs _ _).1.trans ih.1, (send_rs _ _).2.trans ih.2⟩

theorem Bl.Dec.hand1 {b : Bl} {d : Int} (h : b.Dec d) (l : Lt) : (b.hand1 l).2.Dec d := by
  unfold Bl.hand1
  split
  · unfold Bl.handAsked
    split
    · exact h
    · split
      · exact h
      · exact h.other (send_rs _ _).1 (by rw [(send_rs _ _).2]; simp [Bl.setV])
  · split
    · unfold Bl.handPromised
      split
      · exact h
      · rename_i x hx
        split
        · exact h
        · rename_i hst
          have ha : ∀ (y : Rn), ∀ z, b.rs l.ro = some z → z.told = true → y.told = true ∧ y.va = z.va ∧ ∀ i, z.ch i = true → y.ch i = true := fun y z e ez => by
            rw [hx] at e
            cases e
            exact absurd (.inr ez) hst
          split
          · exact (h.setR (ha { x.promise l with told := true })).other (sendTo_rs _ _ _).1 (by unfold Bl.sendAll; rw [(sendTo_rs _ _ _).2])
          · exact h.setR (ha _)
    · split
      · unfold Bl.handChoose
        split
        · exact h
        · split
          · exact h
          · exact h.other (send_rs _ _).1 (by rw [(send_rs _ _).2]; simp [Bl.setV])
      · split
        · unfold Bl.handChosen
          split
          · exact h
          · rename_i x hx
            refine h.setR (fun z e ez => ?_)
            rw [hx] at e
            cases e
            exact ⟨ez, rfl, fun i hi => put1_iff.2 (.inr hi)⟩
        · exact h

/-- what was decided once is decided ever after -/
theorem Bl.Dec.play {b : Bl} {d : Int} (h : b.Dec d) (t : Tn) : (b.play t).2.Dec d := by
  unfold Bl.play
  split
  · unfold Bl.ask
    split
    · exact h
    · split
      · exact h
      · rename_i hr
        refine Bl.Dec.other (b := b.setR t.round (newRn t.value)) (h.setR (fun x e => by rw [hr] at e; cases e)) (sendTo_rs _ _ _).1 (by unfold Bl.sendAll; rw [(sendTo_rs _ _ _).2])
  · split
    · unfold Bl.hand
      split
      · exact h
      · split
        · exact h
        · exact h.hand1 _
    · split
      · unfold Bl.lose
        split
        · exact h
        · split
          · exact h
          · exact h.other rfl rfl
      · split
        · unfold Bl.halt
          split
          · exact h
          · rename_i x hx
            refine h.setR (fun z e ez => ?_)
            rw [hx] at e
            cases e
            exact ⟨ez, rfl, fun i hi => hi⟩
        · exact h

/-- what a turn tells as decided is decided -/
theorem play_dec {b : Bl} (h : b.Inv) (t : Tn) (hd : (b.play t).1.1 ≠ 0) : (b.play t).2.Dec (b.play t).1.1 := by
  unfold Bl.play at hd ⊢
  split
  · rename_i e
    simp [e] at hd
  · rename_i e1
    rw [if_neg e1] at hd
    split
    · rename_i e2
      rw [if_pos e2] at hd
      unfold Bl.hand at hd ⊢
      split
      · rename_i e3
        rw [e3] at hd
        simp at hd
      · rename_i l hl
        rw [hl] at hd
        simp only at hd
        split
        · rename_i e4
          rw [if_pos e4] at hd
          simp at hd
        · rename_i e4
          rw [if_neg e4] at hd
          simp only at hd ⊢
          have hm := (Bl.get_mem hl).2.2.2
          unfold Bl.hand1 at hd ⊢
          split
          · rename_i k
            simp [k] at hd
          · rename_i k0
            rw [if_neg k0] at hd
            split
            · rename_i k
              simp [k] at hd
            · rename_i k1
              rw [if_neg k1] at hd
              split
              · rename_i k
                simp [k] at hd
              · rename_i k2
                rw [if_neg k2] at hd
                split
                · rename_i k3
                  rw [if_pos k3] at hd
                  obtain ⟨-, x, x1, x2, x3⟩ := h.tell l hm (.inr k3)
                  unfold Bl.handChosen at hd ⊢
                  rw [x1] at hd ⊢
                  simp only at hd ⊢
                  split
                  · rename_i hmo
                    exact ⟨l.ro, x.choice l, by simp [Bl.setR], x2, hmo, rfl⟩
                  · rename_i hmo
                    rw [if_neg hmo] at hd
                    exact absurd rfl hd
                · rename_i k3
                  rw [if_neg k3] at hd
                  exact absurd rfl hd
    · rename_i e2
      rw [if_neg e2] at hd
      split
      · rename_i e
        simp [e] at hd
      · rename_i e3
        rw [if_neg e3] at hd
        split
        · rename_i e
          simp [e] at hd
        · rename_i e4
          rw [if_neg e4] at hd
          exact absurd rfl hd

theorem playB_dec {n : Nat} (ts : List Tn) : ∀ (b : Bl), b.Inv → b.Ok n → (∀ d, b.Dec d → (playB b ts).2.Dec d) ∧ ∀ o ∈ (playB b ts).1, o.dec ≠ 0 → (playB b ts).2.Dec o.dec := by
  induction ts with
  | nil => intro b _ _; exact ⟨fun d hd => hd, fun o ho => by simp [playB] at ho⟩
  | cons t ts ih =>
    intro b h ho
    obtain ⟨h1, h2⟩ := ih _ (h.play ho t) (ho.play t)
    refine ⟨fun d hd => h1 d (hd.play t), fun o hm hd => ?_⟩
    rcases List.mem_cons.1 hm with rfl | hm
    · exact h1 _ (play_dec h t hd)
    · exact h2 o hm hd

/-- no two values are decided -/
theorem one_value (n : Nat) (hn : 1 ≤ n ∧ n ≤ 5) (ts : List Tn) (o q : Oc) (ho : o ∈ (playB (bl0 n) ts).1) (hq : q ∈ (playB (bl0 n) ts).1) (h1 : o.dec ≠ 0) (h2 : q.dec ≠ 0) : o.dec = q.dec := by
  have hi := Bl.Inv.start n
  have hk := Bl.Ok.start hn
  have hd := (playB_dec ts (bl0 n) hi hk).2
  have hf := hk.playB ts
  exact (hi.playB hk ts).same (by have := hf.len; omega) (hd o ho h1) (hd q hq h2)

/-- every round is for a value that was asked for, or tells one -/
def Bl.From (b : Bl) (A : Int → Prop) : Prop := ∀ r x, b.rs r = some x → A x.va

theorem Bl.From.setR {b : Bl} {A : Int → Prop} (h : b.From A) {r : Int} {y : Rn} (hy : A y.va) : (b.setR r y).From A := fun q x hq => by
  simp only [Bl.setR] at hq
  split at hq
  · cases hq
    exact hy
  · exact h q x hq

theorem Bl.From.other {b c : Bl} {A : Int → Prop} (h : b.From A) (e : c.rs = b.rs) : c.From A := fun q x hq => h q x (by rw [← e]; exact hq)

theorem Bl.From.hand1 {b : Bl} {A : Int → Prop} (hi : b.Inv) (h : b.From A) {l : Lt} (hl : l ∈ b.ls) : (b.hand1 l).2.From A := by
  unfold Bl.hand1
  split
  · unfold Bl.handAsked
    split
    · exact h
    · split
      · exact h
      · exact h.other (send_rs _ _).1
  · split
    · rename_i hk
      unfold Bl.handPromised
      split
      · exact h
      · rename_i x hx
        have hy : A (x.promise l).va := by
          simp only [Rn.promise]
          split
          · rename_i hgt
            have h0 := (hi.vote _ x hx).1
            rcases (hi.prom l hl hk).1 with e | ⟨z, z1, z2, z3⟩
            · omega
            · rw [← z3]
              exact h _ z z1
          · exact h _ x hx
        split
        · exact h
        · split
          · exact (h.setR (y := { x.promise l with told := true }) hy).other (sendTo_rs _ _ _).1
          · exact h.setR hy
    · split
      · unfold Bl.handChoose
        split
        · exact h
        · split
          · exact h
          · exact h.other (send_rs _ _).1
      · split
        · unfold Bl.handChosen
          split
          · exact h
          · rename_i x hx
            exact h.setR (h _ x hx)
        · exact h

theorem Bl.From.play {b : Bl} {A : Int → Prop} (hi : b.Inv) (h : b.From A) (t : Tn) : (b.play t).2.From (fun d => A d ∨ (t.kind = 1 ∧ (b.oc t).code = 0 ∧ d = t.value)) := by
  have hm : ∀ {c : Bl}, c.From A → c.From (fun d => A d ∨ (t.kind = 1 ∧ (b.oc t).code = 0 ∧ d = t.value)) := fun hc q x e => .inl (hc q x e)
  by_cases k1 : t.kind = 1
  · have hp : b.play t = ((0, (b.ask t.round t.value).1), (b.ask t.round t.value).2) := if_pos k1
    have hco : (b.oc t).code = (b.ask t.round t.value).1 := by unfold Bl.oc; rw [hp]
    rw [hp]
    show (b.ask t.round t.value).2.From _
    rw [hco]
    unfold Bl.ask
    split
    · exact fun q x e => .inl (h q x e)
    · split
      · exact fun q x e => .inl (h q x e)
      · refine Bl.From.other (b := b.setR t.round (newRn t.value)) ?_ (sendTo_rs _ _ _).1
        refine Bl.From.setR (fun q x e => .inl (h q x e)) (.inr ⟨k1, rfl, rfl⟩)
  · unfold Bl.play
    rw [if_neg k1]
    split
    · unfold Bl.hand
      split
      · exact hm h
      · rename_i l hl
        split
        · exact hm h
        · exact hm (h.hand1 hi (Bl.get_mem hl).2.2.2)
    · split
      · unfold Bl.lose
        split
        · exact hm h
        · split
          · exact hm h
          · exact hm (h.other rfl)
      · split
        · unfold Bl.halt
          split
          · exact hm h
          · rename_i x hx
            exact hm (h.setR (h _ x hx))
        · exact hm h

theorem dec_from {b : Bl} {A : Int → Prop} (hi : b.Inv) (h : b.From A) (t : Tn) (hd : (b.oc t).dec ≠ 0) : A (b.oc t).dec := by
  obtain ⟨r, x, h1, h2, h3, h4⟩ := play_dec hi t hd
  have hk : t.kind ≠ 1 := fun k => by
    have hp : b.play t = ((0, (b.ask t.round t.value).1), (b.ask t.round t.value).2) := if_pos k
    apply hd
    show (b.play t).1.1 = 0
    rw [hp]
  have := h.play hi t r x h1
  rw [h4] at this
  rcases this with h5 | ⟨h5, _⟩
  · exact h5
  · exact absurd h5 hk

/-- what is decided was asked for ahead of that -/
theorem dec_asked {n : Nat} (ts : List Tn) : ∀ (b : Bl) (A : Int → Prop), b.Inv → b.Ok n → b.From A → ∀ (i : Nat) (o : Oc), (playB b ts).1[i]? = some o → o.dec ≠ 0 → A o.dec ∨ ∃ (k : Nat) (t : Tn) (q : Oc), k < i ∧ ts[k]? = some t ∧ (playB b ts).1[k]? = some q ∧ t.kind = 1 ∧ q.code = 0 ∧ t.value = o.dec := by
  induction ts with
  | nil => intro b A _ _ _ i o ho; simp [playB] at ho
  | cons t ts ih =>
    intro b A hi hk hf i o ho hd
    cases i with
    | zero =>
      simp only [playB, List.getElem?_cons_zero, Option.some.injEq] at ho
      subst ho
      exact .inl (dec_from hi hf t hd)
    | succ i =>
      simp only [playB, List.getElem?_cons_succ] at ho
      rcases ih _ _ (hi.play hk t) (hk.play t) (hf.play hi t) i o ho hd with (h1 | ⟨h1, h2, h3⟩) | ⟨k, u, q, h1, h2, h3, h4⟩
      · exact .inl h1
      · exact .inr ⟨0, t, _, Nat.succ_pos _, rfl, rfl, h1, h2, h3.symm⟩
      · exact .inr ⟨k + 1, u, q, Nat.succ_lt_succ h1, by simpa using h2, by simpa [playB] using h3, h4⟩

theorem one_asked (n : Nat) (hn : 1 ≤ n ∧ n ≤ 5) (ts : List Tn) (i : Nat) (o : Oc) (ho : (playB (bl0 n) ts).1[i]? = some o) (hd : o.dec ≠ 0) : ∃ (k : Nat) (t : Tn) (q : Oc), k < i ∧ ts[k]? = some t ∧ (playB (bl0 n) ts).1[k]? = some q ∧ t.kind = 1 ∧ q.code = 0 ∧ t.value = o.dec := by
  rcases dec_asked ts (bl0 n) (fun _ => False) (Bl.Inv.start n) (Bl.Ok.start hn) (fun r x hr => by simp [bl0] at hr) i o ho hd with h | h
  · exact h.elim
  · exact h

end Go.Proofs.Ytppcikfhhmiipaa
