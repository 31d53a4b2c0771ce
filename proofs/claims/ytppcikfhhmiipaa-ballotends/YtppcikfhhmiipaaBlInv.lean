/- What holds of a ballot: voters, letters, rounds; one value is decided. -/
import Derived.Test.YtppcikfhhmiipaaBlPlain
namespace Go.Proofs.Ytppcikfhhmiipaa

/-- that voter chose in that round -/
def Bl.acc (b : Bl) (v : Int) (r : Int) : Prop := ∃ l ∈ b.ls, l.kd = 3 ∧ l.vo = v ∧ l.ro = r

/-- a vote: none, or what a round has told -/
def Bl.vote (b : Bl) (rd va : Int) : Prop := rd = 0 ∨ ∃ x, b.rs rd = some x ∧ x.told = true ∧ x.va = va

structure Bl.Inv (b : Bl) : Prop where
  /-- a voter's vote, and its word -/
  voter : ∀ (i : Nat) (v : Vr), b.vs[i]? = some v → b.vote v.rd v.va ∧ 0 ≤ v.rd ∧ v.rd ≤ v.word ∧ 0 ≤ v.word
  /-- a promise: what is in it, and the word of who gave it -/
  prom : ∀ l ∈ b.ls, l.kd = 1 → b.vote l.rd l.va ∧ 0 ≤ l.rd ∧ l.rd < l.ro ∧ ∃ v, b.vs[l.vo.toNat]? = some v ∧ l.ro ≤ v.word
  /-- choose and chosen: what the round has told -/
  tell : ∀ l ∈ b.ls, l.kd = 2 ∨ l.kd = 3 → l.rd = l.ro ∧ ∃ x, b.rs l.ro = some x ∧ x.told = true ∧ x.va = l.va
  /-- who chose: its word and its vote -/
  chose : ∀ l ∈ b.ls, l.kd = 3 → ∃ v, b.vs[l.vo.toNat]? = some v ∧ l.ro ≤ v.word ∧ l.ro ≤ v.rd
  /-- who chose in a round, as the round has it -/
  seen : ∀ r x, b.rs r = some x → ∀ i, x.ch i = true → i < b.vs.length ∧ b.acc i r
  /-- a promise that counts: a letter of that kind -/
  prom2 : ∀ r x, b.rs r = some x → ∀ i, x.pr i = true → i < b.vs.length ∧ ∃ v, b.vs[i]? = some v ∧ r ≤ v.word
  /-- what the round has is no less than what each who promised had chosen below it -/
  low : ∀ l ∈ b.ls, l.kd = 1 → ∀ q, q < l.ro → b.acc l.vo q → q ≤ l.rd
  best : ∀ r x, b.rs r = some x → ∀ i : Nat, x.pr i = true → ∀ q, q < r → b.acc i q → q ≤ x.rd
  /-- a round's vote -/
  vote : ∀ r x, b.rs r = some x → 0 ≤ x.rd ∧ x.rd < r ∧ (x.rd = 0 ∨ ∃ y, b.rs x.rd = some y ∧ y.told = true ∧ y.va = x.va)
  /-- a round that has told has the promises of more than half -/
  told : ∀ r x, b.rs r = some x → x.told = true → b.most x.pr = true
  rnd : ∀ r x, b.rs r = some x → 1 ≤ r

/-- of two more than halves one is in both -/
theorem two_most (n : Nat) (hn : n ≤ 5) (c d : Nat → Bool) (hc : ∀ i, c i = true → i < n) (hd : ∀ i, d i = true → i < n) (h1 : n < 2 * cnt c) (h2 : n < 2 * cnt d) : ∃ i, c i = true ∧ d i = true := by
  by_cases h : ∃ i, c i = true ∧ d i = true
  · exact h
  · exfalso
    have ha : ∀ i, (c i).toNat + (d i).toNat ≤ 1 ∧ (n ≤ i → (c i).toNat + (d i).toNat = 0) := fun i => by
      cases e1 : c i
      · cases e2 : d i
        · exact ⟨by decide, fun _ => by decide⟩
        · have := hd i e2
          exact ⟨by decide, fun _ => by omega⟩
      · cases e2 : d i
        · have := hc i e1
          exact ⟨by decide, fun _ => by omega⟩
        · exact absurd ⟨i, e1, e2⟩ h
    have h0 := ha 0
    have h1' := ha 1
    have h2' := ha 2
    have h3' := ha 3
    have h4' := ha 4
    unfold cnt at h1 h2
    omega

/-- ONE VALUE: what more than half chose in a round is what each later round tells -/
theorem Bl.Inv.one {b : Bl} (h : b.Inv) (hn : b.vs.length ≤ 5) {r : Int} {x : Rn} (hr : b.rs r = some x) (hm : b.most x.ch = true) : ∀ (k : Nat) (q : Int) (y : Rn), q.toNat = k → r < q → b.rs q = some y → y.told = true → y.va = x.va := by
  intro k
  induction k using Nat.strongRecOn with
  | ind k ih =>
    intro q y hk hq hy ht
    have hm2 := h.told q y hy ht
    have hr1 := h.rnd r x hr
    obtain ⟨i, h1, h2⟩ := two_most b.vs.length hn x.ch y.pr (fun i e => (h.seen r x hr i e).1) (fun i e => (h.prom2 q y hy i e).1) (by simpa [Bl.most] using hm) (by simpa [Bl.most] using hm2)
    have h3 := h.best q y hy i h2 r hq (h.seen r x hr i h1).2
    obtain ⟨v1, v2, v3⟩ := h.vote q y hy
    rcases v3 with v3 | ⟨z, z1, z2, z3⟩
    · omega
    · by_cases e : y.rd = r
      · rw [e, hr] at z1
        cases z1
        exact z3.symm
      · rw [← z3]
        exact ih y.rd.toNat (by omega) y.rd z rfl (by omega) z1 z2

theorem told_setR {b : Bl} {r : Int} {y : Rn} (ha : ∀ x, b.rs r = some x → x.told = true → y.told = true ∧ y.va = x.va) {q : Int} {va : Int} (h : ∃ x, b.rs q = some x ∧ x.told = true ∧ x.va = va) : ∃ x, (b.setR r y).rs q = some x ∧ x.told = true ∧ x.va = va := by
  obtain ⟨x, h1, h2, h3⟩ := h
  by_cases e : q = r
  · subst e
    obtain ⟨h4, h5⟩ := ha x h1 h2
    exact ⟨y, by simp [Bl.setR], h4, h5.trans h3⟩
  · exact ⟨x, by simp [Bl.setR, e, h1], h2, h3⟩

/-- a round is written -/
theorem Bl.Inv.setR {b : Bl} (h : b.Inv) {r : Int} {y : Rn} (hr : 1 ≤ r) (ha : ∀ x, b.rs r = some x → x.told = true → y.told = true ∧ y.va = x.va) (hc : ∀ i, y.ch i = true → i < b.vs.length ∧ b.acc i r) (hp : ∀ i, y.pr i = true → i < b.vs.length ∧ ∃ v, b.vs[i]? = some v ∧ r ≤ v.word)
    (hb : ∀ i : Nat, y.pr i = true → ∀ q, q < r → b.acc i q → q ≤ y.rd) (hv : 0 ≤ y.rd ∧ y.rd < r ∧ (y.rd = 0 ∨ ∃ z, b.rs y.rd = some z ∧ z.told = true ∧ z.va = y.va)) (ht : y.told = true → b.most y.pr = true) : (b.setR r y).Inv := by
  have hvote : ∀ rd va, b.vote rd va → (b.setR r y).vote rd va := fun rd va q => q.imp id (fun z => told_setR ha z)
  have hat : ∀ {q x}, (b.setR r y).rs q = some x → (q = r ∧ x = y) ∨ (q ≠ r ∧ b.rs q = some x) := fun {q x} e => by
    simp only [Bl.setR] at e
    split at e
    · rename_i e2
      cases e
      exact .inl ⟨e2, rfl⟩
    · rename_i e2
      exact .inr ⟨e2, e⟩
  refine ⟨fun i v hi => ?_, fun l hl hk => ?_, fun l hl hk => ?_, h.chose, fun q x hq i hi => ?_, fun q x hq i hi => ?_, h.low, fun q x hq i hi => ?_, fun q x hq => ?_, fun q x hq hx => ?_, fun q x hq => ?_⟩
  · obtain ⟨h1, h2⟩ := h.voter i v hi
    exact ⟨hvote _ _ h1, h2⟩
  · obtain ⟨h1, h2⟩ := h.prom l hl hk
    exact ⟨hvote _ _ h1, h2⟩
  · obtain ⟨h1, h2⟩ := h.tell l hl hk
    exact ⟨h1, told_setR ha h2⟩
  · rcases hat hq with ⟨rfl, rfl⟩ | ⟨_, e⟩
    · exact hc i hi
    · exact h.seen q x e i hi
  · rcases hat hq with ⟨rfl, rfl⟩ | ⟨_, e⟩
    · exact hp i hi
    · exact h.prom2 q x e i hi
  · rcases hat hq with ⟨rfl, rfl⟩ | ⟨_, e⟩
    · exact hb i hi
    · exact h.best q x e i hi
  · rcases hat hq with ⟨rfl, rfl⟩ | ⟨_, e⟩
    · exact ⟨hv.1, hv.2.1, hv.2.2.imp id (fun z => told_setR ha z)⟩
    · obtain ⟨h1, h2, h3⟩ := h.vote q x e
      exact ⟨h1, h2, h3.imp id (fun z => told_setR ha z)⟩
  · rcases hat hq with ⟨rfl, rfl⟩ | ⟨_, e⟩
    · exact ht hx
    · exact h.told q x e hx
  · rcases hat hq with ⟨rfl, rfl⟩ | ⟨_, e⟩
    · exact hr
    · exact h.rnd q x e

/-- a voter's word is raised, its vote is another one, or the same -/
theorem Bl.Inv.setV {b : Bl} (h : b.Inv) {k : Nat} {v u : Vr} (hk : b.vs[k]? = some v) (hu : b.vote u.rd u.va ∧ 0 ≤ u.rd ∧ u.rd ≤ u.word ∧ 0 ≤ u.word) (hw : v.word ≤ u.word) (hr : v.rd ≤ u.rd) : (b.setV k u).Inv := by
  have hkl := (List.getElem?_eq_some_iff.1 hk).1
  have hat : ∀ (i : Nat) (x : Vr), b.vs[i]? = some x → ∃ x' : Vr, (b.setV k u).vs[i]? = some x' ∧ x.word ≤ x'.word ∧ x.rd ≤ x'.rd := fun i x hi => by
    by_cases e : i = k
    · subst e
      rw [hk] at hi
      cases hi
      exact ⟨u, by simp [Bl.setV, hkl], hw, hr⟩
    · exact ⟨x, by simp only [Bl.setV]; rw [List.getElem?_set_ne (fun e2 => e e2.symm)]; exact hi, Int.le_refl _, Int.le_refl _⟩
  have hln : (b.setV k u).vs.length = b.vs.length := by simp [Bl.setV]
  refine ⟨fun i x hi => ?_, fun l hl hk => ?_, h.tell, fun l hl hk => ?_, fun q x hq i hi => ?_, fun q x hq i hi => ?_, h.low, h.best, h.vote, fun q x hq hx => ?_, h.rnd⟩
  · simp only [Bl.setV] at hi
    by_cases e : i = k
    · subst e
      rw [List.getElem?_set_self hkl] at hi
      cases hi
      exact hu
    · rw [List.getElem?_set_ne (fun e2 => e e2.symm)] at hi
      exact h.voter i x hi
  · obtain ⟨h1, h2, h3, x, h4, h5⟩ := h.prom l hl hk
    obtain ⟨x', h6, h7, _⟩ := hat _ x h4
    exact ⟨h1, h2, h3, x', h6, Int.le_trans h5 h7⟩
  · obtain ⟨x, h1, h2, h3⟩ := h.chose l hl hk
    obtain ⟨x', h6, h7, h8⟩ := hat _ x h1
    exact ⟨x', h6, Int.le_trans h2 h7, Int.le_trans h3 h8⟩
  · rw [hln]
    exact h.seen q x hq i hi
  · obtain ⟨h1, x1, h2, h3⟩ := h.prom2 q x hq i hi
    obtain ⟨x', h6, h7, _⟩ := hat _ x1 h2
    rw [hln]
    exact ⟨h1, x', h6, Int.le_trans h3 h7⟩
  · have := h.told q x hq hx
    unfold Bl.most at this ⊢
    rw [hln]
    exact this

/-- a letter is sent -/
theorem Bl.Inv.send {b : Bl} (h : b.Inv) (l : Lt) (h1 : l.kd = 1 → (b.vote l.rd l.va ∧ 0 ≤ l.rd ∧ l.rd < l.ro ∧ ∃ v, b.vs[l.vo.toNat]? = some v ∧ l.ro ≤ v.word) ∧ ∀ q, q < l.ro → b.acc l.vo q → q ≤ l.rd)
    (h2 : l.kd = 2 ∨ l.kd = 3 → l.rd = l.ro ∧ ∃ x, b.rs l.ro = some x ∧ x.told = true ∧ x.va = l.va)
    (h3 : l.kd = 3 → 0 ≤ l.vo ∧ (∃ v, b.vs[l.vo.toNat]? = some v ∧ l.ro ≤ v.word ∧ l.ro ≤ v.rd) ∧ (∀ m ∈ b.ls, m.kd = 1 → m.vo = l.vo → m.ro ≤ l.ro) ∧ ∀ r x, b.rs r = some x → x.pr l.vo.toNat = true → r ≤ l.ro) : (b.send l).Inv := by
  unfold Bl.send
  split
  · have hacc : ∀ {v q}, ({ b with ls := b.ls ++ [l] } : Bl).acc v q → b.acc v q ∨ (l.kd = 3 ∧ l.vo = v ∧ l.ro = q) := fun {v q} ⟨m, hm, e⟩ => by
      rcases List.mem_append.1 hm with hm | hm
      · exact .inl ⟨m, hm, e⟩
      · rw [List.mem_singleton.1 hm] at e
        exact .inr e
    have hmem : ∀ {m}, m ∈ b.ls ++ [l] → m ∈ b.ls ∨ m = l := fun {m} hm => by
      rcases List.mem_append.1 hm with hm | hm
      · exact .inl hm
      · exact .inr (List.mem_singleton.1 hm)
    refine ⟨h.voter, fun m hm hk => ?_, fun m hm hk => ?_, fun m hm hk => ?_, fun r x hr i hi => ?_, h.prom2, fun m hm hk q hq ha => ?_, fun r x hr i hi q hq ha => ?_, h.vote, h.told, h.rnd⟩
    · rcases hmem hm with hm | rfl
      · exact h.prom m hm hk
      · exact (h1 hk).1
    · rcases hmem hm with hm | rfl
      · exact h.tell m hm hk
      · exact h2 hk
    · rcases hmem hm with hm | rfl
      · exact h.chose m hm hk
      · exact (h3 hk).2.1
    · obtain ⟨g1, m, g2, g3⟩ := h.seen r x hr i hi
      exact ⟨g1, m, List.mem_append_left _ g2, g3⟩
    · rcases hmem hm with hm | rfl
      · rcases hacc ha with ha | ⟨k1, k2, k3⟩
        · exact h.low m hm hk q hq ha
        · have := (h3 k1).2.2.1 m hm hk k2.symm
          omega
      · rcases hacc ha with ha | ⟨k1, k2, k3⟩
        · exact (h1 hk).2 q hq ha
        · omega
    · rcases hacc ha with ha | ⟨k1, k2, k3⟩
      · exact h.best r x hr i hi q hq ha
      · have := (h3 k1).2.2.2 r x hr (by rw [k2]; simpa using hi)
        omega
  · exact h

theorem Bl.Inv.sendTo {b : Bl} (l : Lt) (hl : l.kd = 0 ∨ (l.kd = 2 ∧ l.rd = l.ro)) : ∀ (k : Nat), b.Inv → (l.kd = 2 → ∃ x, b.rs l.ro = some x ∧ x.told = true ∧ x.va = l.va) → (b.sendTo l k).Inv ∧ (b.sendTo l k).rs = b.rs
  | 0, h, _ => ⟨h, rfl⟩
  | k + 1, h, h2 => by
    obtain ⟨h3, h4⟩ := Bl.Inv.sendTo l hl k h h2
    refine ⟨h3.send { l with vo := k } (fun e => ?_) (fun e => ?_) (fun e => ?_), ?_⟩
    · have e' : l.kd = 1 := e
      rcases hl with q | ⟨q, _⟩ <;> rw [q] at e' <;> cases e'
    · have e' : l.kd = 2 ∨ l.kd = 3 := e
      rcases hl with q | ⟨q, q2⟩
      · rw [q] at e'
        rcases e' with e' | e' <;> cases e'
      · refine ⟨q2, ?_⟩
        show ∃ x, (b.sendTo l k).rs l.ro = some x ∧ x.told = true ∧ x.va = l.va
        rw [h4]
        exact h2 q
    · have e' : l.kd = 3 := e
      rcases hl with q | ⟨q, _⟩ <;> rw [q] at e' <;> cases e'
    · simp only [Bl.sendTo]
      unfold Bl.send
      split <;> exact h4

theorem Bl.Inv.ask {b : Bl} (h : b.Inv) (r v : Int) : (b.ask r v).2.Inv := by
  unfold Bl.ask
  split
  · exact h
  · rename_i hc
    split
    · exact h
    · rename_i hr
      have hr1 : 1 ≤ r ∧ r ≤ 1048576 := counts_iff.1 (by
        cases e : counts r
        · exact absurd (.inl e) hc
        · rfl)
      have h1 : (b.setR r (newRn v)).Inv := h.setR hr1.1 (fun x e => by rw [hr] at e; cases e) (fun i e => by simp [newRn] at e) (fun i e => by simp [newRn] at e) (fun i e => by simp [newRn] at e) ⟨by simp [newRn], by simp [newRn]; omega, .inl rfl⟩ (fun e => by simp [newRn] at e)
      have h2 : ({ b.setR r (newRn v) with n := b.n + 1 } : Bl).Inv := ⟨h1.voter, h1.prom, h1.tell, h1.chose, h1.seen, h1.prom2, h1.low, h1.best, h1.vote, h1.told, h1.rnd⟩
      exact (h2.sendTo ⟨0, 0, 0, 0, r, false⟩ (.inl rfl) _ (fun e => by simp at e)).1

theorem Bl.Inv.handAsked {b : Bl} {n : Nat} (h : b.Inv) (ho : b.Ok n) {l : Lt} (hl : l ∈ b.ls) : (b.handAsked l).Inv := by
  obtain ⟨o1, o2, -, o4⟩ := ho.lts l hl
  unfold Bl.handAsked
  split
  · exact h
  · rename_i v hv
    have hvl := (List.getElem?_eq_some_iff.1 hv).1
    obtain ⟨v1, v2, v3, v4⟩ := h.voter _ v hv
    split
    · exact h
    · have hro : v.word < l.ro := by omega
      have h1 := h.setV (u := ⟨v.rd, v.va, l.ro⟩) hv ⟨v1, v2, by simp only; omega, by simp only; omega⟩ (by simp only; omega) (Int.le_refl _)
      refine h1.send _ (fun _ => ⟨⟨v1, v2, by simp only; omega, ⟨v.rd, v.va, l.ro⟩, by simp [Bl.setV, hvl], Int.le_refl _⟩, fun q hq ⟨m, hm, k1, k2, k3⟩ => ?_⟩) (fun e => by simp at e) (fun e => by simp at e)
      obtain ⟨x, g1, g2, g3⟩ := h.chose m hm k1
      have k2' : m.vo = l.vo := k2
      rw [k2', hv] at g1
      cases g1
      simp only
      omega

theorem Bl.Inv.handChoose {b : Bl} {n : Nat} (h : b.Inv) (ho : b.Ok n) {l : Lt} (hl : l ∈ b.ls) (hk : l.kd = 2) : (b.handChoose l).Inv := by
  obtain ⟨o1, o2, -, o4⟩ := ho.lts l hl
  obtain ⟨t1, t2⟩ := h.tell l hl (.inl hk)
  unfold Bl.handChoose
  split
  · exact h
  · rename_i v hv
    have hvl := (List.getElem?_eq_some_iff.1 hv).1
    obtain ⟨v1, v2, v3, v4⟩ := h.voter _ v hv
    split
    · exact h
    · have hro : v.word ≤ l.ro := by omega
      have h1 := h.setV (u := ⟨l.rd, l.va, l.ro⟩) hv ⟨.inr (by rw [t1]; exact t2), by simp only; omega, by simp only; omega, by simp only; omega⟩ (by simp only; omega) (by simp only; omega)
      refine h1.send _ (fun e => by simp at e) (fun _ => ⟨t1, t2⟩) (fun _ => ⟨o1, ⟨⟨l.rd, l.va, l.ro⟩, by simp [Bl.setV, hvl], Int.le_refl _, by simp only; omega⟩, fun m hm k1 k2 => ?_, fun r x hr hp => ?_⟩)
      · obtain ⟨-, -, -, x, g1, g2⟩ := h.prom m hm k1
        have k2' : m.vo = l.vo := k2
        rw [k2', hv] at g1
        cases g1
        simp only
        omega
      · obtain ⟨-, x1, g1, g2⟩ := h.prom2 r x hr _ hp
        have g1' : b.vs[l.vo.toNat]? = some x1 := g1
        rw [hv] at g1'
        cases g1'
        simp only
        omega

theorem put1_iff {c : Nat → Bool} {v i : Nat} : put1 c v i = true ↔ i = v ∨ c i = true := by
  simp only [put1]
  split
  · rename_i e
    simp [e]
  · rename_i e
    simp [e]

theorem Bl.Inv.handPromised {b : Bl} {n : Nat} (h : b.Inv) (ho : b.Ok n) {l : Lt} (hl : l ∈ b.ls) (hk : l.kd = 1) : (b.handPromised l).Inv := by
  obtain ⟨o1, o2, -, o4⟩ := ho.lts l hl
  obtain ⟨p1, p2, p3, v, p4, p5⟩ := h.prom l hl hk
  have hvl := (List.getElem?_eq_some_iff.1 p4).1
  unfold Bl.handPromised
  split
  · exact h
  · rename_i x hx
    split
    · exact h
    · rename_i hst
      have hto : x.told = false := by
        cases e : x.told
        · rfl
        · exact absurd (.inr e) hst
      obtain ⟨w1, w2, w3⟩ := h.vote _ x hx
      have ha : ∀ (y : Rn), ∀ z, b.rs l.ro = some z → z.told = true → y.told = true ∧ y.va = z.va := fun y z e ez => by
        rw [hx] at e
        cases e
        rw [hto] at ez
        cases ez
      have hc : ∀ i, (x.promise l).ch i = true → i < b.vs.length ∧ b.acc i l.ro := fun i e => h.seen _ x hx i e
      have hp : ∀ i, (x.promise l).pr i = true → i < b.vs.length ∧ ∃ v, b.vs[i]? = some v ∧ l.ro ≤ v.word := fun i e => by
        rcases put1_iff.1 e with e | e
        · rw [e]
          exact ⟨hvl, v, p4, p5⟩
        · exact h.prom2 _ x hx i e
      have hrd : l.rd ≤ (x.promise l).rd ∧ x.rd ≤ (x.promise l).rd := by
        simp only [Rn.promise]
        split <;> omega
      have hb : ∀ i : Nat, (x.promise l).pr i = true → ∀ q, q < l.ro → b.acc i q → q ≤ (x.promise l).rd := fun i e q hq hacc => by
        rcases put1_iff.1 e with e | e
        · subst e
          rw [Int.toNat_of_nonneg o1] at hacc
          have := h.low l hl hk q hq hacc
          omega
        · have := h.best _ x hx i e q hq hacc
          omega
      have hv : 0 ≤ (x.promise l).rd ∧ (x.promise l).rd < l.ro ∧ ((x.promise l).rd = 0 ∨ ∃ z, b.rs (x.promise l).rd = some z ∧ z.told = true ∧ z.va = (x.promise l).va) := by
        simp only [Rn.promise]
        split
        · exact ⟨p2, p3, p1⟩
        · exact ⟨w1, w2, w3⟩
      have hr1 := h.rnd _ x hx
      split
      · rename_i hm
        have h1 := h.setR (y := { x.promise l with told := true }) hr1 (ha _) hc hp hb hv (fun _ => hm)
        exact (h1.sendTo ⟨l.ro, (x.promise l).va, 2, 0, l.ro, false⟩ (.inr ⟨rfl, rfl⟩) _ (fun _ => ⟨{ x.promise l with told := true }, by simp [Bl.setR], rfl, rfl⟩)).1
      · exact h.setR hr1 (ha _) hc hp hb hv (fun e => by simp [Rn.promise, hto] at e)

theorem Bl.Inv.handChosen {b : Bl} {n : Nat} (h : b.Inv) (ho : b.Ok n) {l : Lt} (hl : l ∈ b.ls) (hk : l.kd = 3) : (b.handChosen l).2.Inv := by
  obtain ⟨o1, o2, -, o4⟩ := ho.lts l hl
  unfold Bl.handChosen
  split
  · exact h
  · rename_i x hx
    refine h.setR (h.rnd _ x hx) (fun z e ez => ?_) (fun i e => ?_) (fun i e => h.prom2 _ x hx i e) (fun i e => h.best _ x hx i e) (h.vote _ x hx) (fun e => h.told _ x hx e)
    · rw [hx] at e
      cases e
      exact ⟨ez, rfl⟩
    · rcases put1_iff.1 e with e | e
      · subst e
        refine ⟨by have := ho.len; omega, l, hl, hk, by omega, rfl⟩
      · exact h.seen _ x hx i e

theorem Bl.Inv.hand1 {b : Bl} {n : Nat} (h : b.Inv) (ho : b.Ok n) {l : Lt} (hl : l ∈ b.ls) : (b.hand1 l).2.Inv := by
  unfold Bl.hand1
  split
  · exact h.handAsked ho hl
  · split
    · rename_i e
      exact h.handPromised ho hl e
    · split
      · rename_i e
        exact h.handChoose ho hl e
      · split
        · rename_i e
          exact h.handChosen ho hl e
        · exact h

/-- a letter is lost -/
theorem Bl.Inv.lost {b : Bl} (h : b.Inv) {k : Nat} {l : Lt} (hk : b.ls[k]? = some l) : ({ b with ls := b.ls.set k { l with lost := true } } : Bl).Inv := by
  have hkl := (List.getElem?_eq_some_iff.1 hk).1
  have hmem : l ∈ b.ls := List.mem_iff_getElem?.2 ⟨k, hk⟩
  have hm : ∀ m ∈ b.ls.set k { l with lost := true }, ∃ m' ∈ b.ls, m'.rd = m.rd ∧ m'.va = m.va ∧ m'.kd = m.kd ∧ m'.vo = m.vo ∧ m'.ro = m.ro := fun m e => by
    rcases List.mem_or_eq_of_mem_set e with e | rfl
    · exact ⟨m, e, rfl, rfl, rfl, rfl, rfl⟩
    · exact ⟨l, hmem, rfl, rfl, rfl, rfl, rfl⟩
  have hm2 : ∀ m ∈ b.ls, ∃ m' ∈ b.ls.set k { l with lost := true }, m'.kd = m.kd ∧ m'.vo = m.vo ∧ m'.ro = m.ro := fun m e => by
    obtain ⟨i, hi⟩ := List.mem_iff_getElem?.1 e
    by_cases ei : i = k
    · subst ei
      rw [hk] at hi
      cases hi
      exact ⟨_, List.mem_iff_getElem?.2 ⟨i, List.getElem?_set_self hkl⟩, rfl, rfl, rfl⟩
    · exact ⟨m, List.mem_iff_getElem?.2 ⟨i, by rw [List.getElem?_set_ne (fun e2 => ei e2.symm)]; exact hi⟩, rfl, rfl, rfl⟩
  have hacc : ∀ {v q}, ({ b with ls := b.ls.set k { l with lost := true } } : Bl).acc v q → b.acc v q := fun {v q} ⟨m, e, k1, k2, k3⟩ => by
    obtain ⟨m', e', -, -, g3, g4, g5⟩ := hm m e
    exact ⟨m', e', g3.trans k1, g4.trans k2, g5.trans k3⟩
  refine ⟨h.voter, fun m e k1 => ?_, fun m e k1 => ?_, fun m e k1 => ?_, fun r x hr i hi => ?_, h.prom2, fun m e k1 q hq ha => ?_, fun r x hr i hi q hq ha => h.best r x hr i hi q hq (hacc ha), h.vote, h.told, h.rnd⟩
  · obtain ⟨m', e', g1, g2, g3, g4, g5⟩ := hm m e
    have := h.prom m' e' (g3.trans k1)
    rwa [g1, g2, g4, g5] at this
  · obtain ⟨m', e', g1, g2, g3, g4, g5⟩ := hm m e
    have := h.tell m' e' (by rw [g3]; exact k1)
    rwa [g1, g2, g5] at this
  · obtain ⟨m', e', g1, g2, g3, g4, g5⟩ := hm m e
    have := h.chose m' e' (g3.trans k1)
    rwa [g4, g5] at this
  · obtain ⟨g1, m, e, k1, k2, k3⟩ := h.seen r x hr i hi
    obtain ⟨m', e', f1, f2, f3⟩ := hm2 m e
    exact ⟨g1, m', e', f1.trans k1, f2.trans k2, f3.trans k3⟩
  · obtain ⟨m', e', g1, g2, g3, g4, g5⟩ := hm m e
    have := h.low m' e' (g3.trans k1) q (by rw [g5]; exact hq) (by rw [g4]; exact hacc ha)
    rwa [g1] at this

theorem Bl.Inv.play {b : Bl} {n : Nat} (h : b.Inv) (ho : b.Ok n) (t : Tn) : (b.play t).2.Inv := by
  unfold Bl.play
  split
  · exact h.ask _ _
  · split
    · unfold Bl.hand
      split
      · exact h
      · rename_i l hl
        split
        · exact h
        · exact h.hand1 ho (Bl.get_mem hl).2.2.2
    · split
      · unfold Bl.lose
        split
        · exact h
        · rename_i l hl
          split
          · exact h
          · exact h.lost (Bl.get_mem hl).2.2.1
      · split
        · unfold Bl.halt
          split
          · exact h
          · rename_i x hx
            refine h.setR (h.rnd _ x hx) (fun z e ez => ?_) (fun i e => h.seen _ x hx i e) (fun i e => h.prom2 _ x hx i e) (fun i e => h.best _ x hx i e) (h.vote _ x hx) (fun e => h.told _ x hx e)
            rw [hx] at e
            cases e
            exact ⟨ez, rfl⟩
        · exact h

theorem Bl.Inv.start (n : Nat) : (bl0 n).Inv := by
  refine ⟨fun i v hi => ?_, fun l hl => by simp [bl0] at hl, fun l hl => by simp [bl0] at hl, fun l hl => by simp [bl0] at hl, fun r x hr => by simp [bl0] at hr, fun r x hr => by simp [bl0] at hr, fun l hl => by simp [bl0] at hl, fun r x hr => by simp [bl0] at hr, fun r x hr => by simp [bl0] at hr, fun r x hr => by simp [bl0] at hr, fun r x hr => by simp [bl0] at hr⟩
  have : v = ⟨0, 0, 0⟩ := by
    simp only [bl0, List.getElem?_replicate] at hi
    split at hi
    · exact (Option.some.inj hi).symm
    · cases hi
  subst this
  exact ⟨.inl rfl, by decide, by decide, by decide⟩

theorem Bl.Inv.playB {b : Bl} {n : Nat} (h : b.Inv) (ho : b.Ok n) (ts : List Tn) : (Go.Proofs.Ytppcikfhhmiipaa.playB b ts).2.Inv := by
  induction ts generalizing b with
  | nil => exact h
  | cons t ts ih => exact ih (h.play ho t) (ho.play t)

end Go.Proofs.Ytppcikfhhmiipaa
