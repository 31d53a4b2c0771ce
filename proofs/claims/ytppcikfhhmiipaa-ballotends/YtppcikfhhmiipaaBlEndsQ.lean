/- Behind a few turns of small rounds: words, letters, values. -/
import Derived.Test.YtppcikfhhmiipaaBlEndsP
namespace Go.Proofs.Ytppcikfhhmiipaa

/-- all rounds and words are at most 9 -/
structure Bl.Small (b : Bl) : Prop where
  rs : ∀ r x, b.rs r = some x → r ≤ 9
  vs : ∀ (i : Nat) (v : Vr), b.vs[i]? = some v → v.word ≤ 9

theorem Bl.Small.setR {b : Bl} (h : b.Small) {r : Int} {y : Rn} (hr : r ≤ 9) : (b.setR r y).Small := ⟨fun q x hq => by
  simp only [Bl.setR] at hq
  split at hq
  · rename_i e
    rw [e]
    exact hr
  · exact h.rs q x hq, h.vs⟩

theorem Bl.Small.setV {b : Bl} (h : b.Small) {k : Nat} {u : Vr} (hu : u.word ≤ 9) : (b.setV k u).Small := ⟨h.rs, fun i v hi => by
  simp only [Bl.setV] at hi
  rcases List.mem_or_eq_of_mem_set (List.mem_iff_getElem?.2 ⟨i, hi⟩) with e | e
  · obtain ⟨j, hj⟩ := List.mem_iff_getElem?.1 e
    exact h.vs j v hj
  · rw [e]
    exact hu⟩

theorem Bl.Small.other {b c : Bl} (h : b.Small) (e1 : c.rs = b.rs) (e2 : c.vs = b.vs) : c.Small := ⟨fun q x hq => h.rs q x (by rw [← e1]; exact hq), fun i v hi => h.vs i v (by rw [← e2]; exact hi)⟩

theorem Bl.Small.play {b : Bl} {n : Nat} (h : b.Small) (ho : b.Ok n) (t : Tn) (ht : t.round ≤ 9) : (b.play t).2.Small := by
  have hro : ∀ l ∈ b.ls, l.ro ≤ 9 := fun l hl => by
    obtain ⟨-, -, -, h4⟩ := ho.lts l hl
    cases e : b.rs l.ro with
    | none => exact absurd e h4
    | some x => exact h.rs _ x e
  unfold Bl.play
  split
  · unfold Bl.ask
    split
    · exact h
    · split
      · exact h
      · exact Bl.Small.other (b := b.setR t.round (newRn t.value)) (h.setR ht) (sendTo_rs _ _ _).1 (sendTo_rs _ _ _).2
  · split
    · unfold Bl.hand
      split
      · exact h
      · rename_i l hl
        have hl9 := hro l (Bl.get_mem hl).2.2.2
        split
        · exact h
        · unfold Bl.hand1
          split
          · unfold Bl.handAsked
            split
            · exact h
            · split
              · exact h
              · exact Bl.Small.other (b := b.setV l.vo.toNat ⟨_, _, l.ro⟩) (h.setV hl9) (send_rs _ _).1 (send_rs _ _).2
          · split
            · unfold Bl.handPromised
              split
              · exact h
              · split
                · exact h
                · split
                  · exact Bl.Small.other (b := b.setR l.ro _) (h.setR hl9) (sendTo_rs _ _ _).1 (sendTo_rs _ _ _).2
                  · exact h.setR hl9
            · split
              · unfold Bl.handChoose
                split
                · exact h
                · split
                  · exact h
                  · exact Bl.Small.other (b := b.setV l.vo.toNat ⟨_, _, l.ro⟩) (h.setV hl9) (send_rs _ _).1 (send_rs _ _).2
              · split
                · unfold Bl.handChosen
                  split
                  · exact h
                  · exact h.setR hl9
                · exact h
    · split
      · unfold Bl.lose
        split
        · exact h
        · split
          · exact h
          · exact h.other rfl rfl
      · split
        · unfold Bl.halt
          split
          · exact h
          · exact h.setR ht
        · exact h

theorem send_len (b : Bl) (l : Lt) : (b.send l).ls.length ≤ b.ls.length + 1 := by
  unfold Bl.send
  split
  · simp
  · omega
theorem sendTo_len (b : Bl) (l : Lt) (k : Nat) : (b.sendTo l k).ls.length ≤ b.ls.length + k := by
  induction k with
  | zero => exact Nat.le_refl _
  | succ k ih =>
    have := send_len (b.sendTo l k) { l with vo := (k : Int) }
    simp only [Bl.sendTo]
    omega

theorem play_len {b : Bl} {n : Nat} (ho : b.Ok n) (t : Tn) : (b.play t).2.ls.length ≤ b.ls.length + 5 := by
  have hl : b.vs.length ≤ 5 := by have := ho.len; have := ho.few; omega
  unfold Bl.play
  split
  · unfold Bl.ask
    split
    · simp
    · split
      · simp
      · have := sendTo_len ({ b.setR t.round (newRn t.value) with n := b.n + 1 }) ⟨0, 0, 0, 0, t.round, false⟩ b.vs.length
        exact Nat.le_trans this (Nat.add_le_add_left hl _)
  · split
    · unfold Bl.hand
      split
      · simp
      · rename_i l hl2
        split
        · simp
        · unfold Bl.hand1
          split
          · unfold Bl.handAsked
            split
            · simp
            · split
              · simp
              · rename_i v _ _
                have := send_len (b.setV l.vo.toNat ⟨v.rd, v.va, l.ro⟩) ⟨v.rd, v.va, 1, l.vo, l.ro, l.lost⟩
                have e : (b.setV l.vo.toNat ⟨v.rd, v.va, l.ro⟩).ls.length = b.ls.length := rfl
                simp only
                omega
          · split
            · unfold Bl.handPromised
              split
              · simp
              · split
                · simp
                · rename_i x _ _
                  split
                  · have := sendTo_len (b.setR l.ro { x.promise l with told := true }) ⟨l.ro, (x.promise l).va, 2, 0, l.ro, false⟩ b.vs.length
                    exact Nat.le_trans this (Nat.add_le_add_left hl _)
                  · simp [Bl.setR]
            · split
              · unfold Bl.handChoose
                split
                · simp
                · split
                  · simp
                  · have := send_len (b.setV l.vo.toNat ⟨l.rd, l.va, l.ro⟩) ⟨l.rd, l.va, 3, l.vo, l.ro, l.lost⟩
                    have e : (b.setV l.vo.toNat ⟨l.rd, l.va, l.ro⟩).ls.length = b.ls.length := rfl
                    simp only
                    omega
              · split
                · unfold Bl.handChosen
                  split
                  · simp
                  · simp [Bl.setR]
                · simp
    · split
      · unfold Bl.lose
        split
        · simp
        · split
          · simp
          · simp
      · split
        · unfold Bl.halt
          split
          · simp
          · simp [Bl.setR]
        · simp

/-- every round tells a value of 1 at least -/
theorem From_pos {b : Bl} (hi : b.Inv) (h : b.From (fun d => 1 ≤ d)) (t : Tn) : (b.play t).2.From (fun d => 1 ≤ d) := fun r x hr => by
  rcases h.play hi t r x hr with e | ⟨e1, e2, e3⟩
  · exact e
  · have hp : b.play t = ((0, (b.ask t.round t.value).1), (b.ask t.round t.value).2) := if_pos e1
    have hco : (b.oc t).code = (b.ask t.round t.value).1 := by unfold Bl.oc; rw [hp]
    rw [hco] at e2
    rw [e3]
    unfold Bl.ask at e2
    split at e2
    · simp at e2
    · rename_i hc
      cases ev : counts t.value
      · exact absurd (.inr ev) hc
      · exact (counts_iff.1 ev).1

theorem behind {n : Nat} (ts : List Tn) (ht : ∀ t ∈ ts, t.round ≤ 9) : ∀ b : Bl, b.Inv → b.Ok n → b.Small → b.From (fun d => 1 ≤ d) → (playB b ts).2.Small ∧ (playB b ts).2.ls.length ≤ b.ls.length + 5 * ts.length ∧ (playB b ts).2.From (fun d => 1 ≤ d) := by
  induction ts with
  | nil => intro b _ _ h1 h2; exact ⟨h1, Nat.le_refl _, h2⟩
  | cons t ts ih =>
    intro b hi ho h1 h2
    obtain ⟨g1, g2, g3⟩ := ih (fun u hu => ht u (List.mem_cons_of_mem _ hu)) _ (hi.play ho t) (ho.play t) (h1.play ho t (ht t List.mem_cons_self)) (From_pos hi h2 t)
    have := play_len ho t
    refine ⟨g1, ?_, g3⟩
    simp only [playB, List.length_cons]
    omega

end Go.Proofs.Ytppcikfhhmiipaa
