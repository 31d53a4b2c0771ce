/- A round above all words, in whose way nothing gets, in plain words. -/
import Derived.Test.YtppcikfhhmiipaaBlOneP
import Derived.Test.YtppcikfhhmiipaaBlCalmP
namespace Go.Proofs.Ytppcikfhhmiipaa

theorem play_hand {c : Bl} {i : Nat} {l : Lt} (h : c.ls[i]? = some l) (hl : l.lost = false) : c.play ⟨2, (i : Int), 0, 0⟩ = (((c.hand1 l).1, 0), (c.hand1 l).2) := by
  have hg : c.get (i : Int) = some l := by simp [Bl.get, h, show ¬ (i : Int) < 0 by omega]
  simp [Bl.play, Bl.hand, hg, hl]

/-- the first j voters -/
def upto (j : Nat) : Nat → Bool := fun i => decide (i < j)

theorem cnt_upto (j : Nat) (hj : j ≤ 5) : cnt (upto j) = j := by
  have : j = 0 ∨ j = 1 ∨ j = 2 ∨ j = 3 ∨ j = 4 ∨ j = 5 := by omega
  rcases this with rfl | rfl | rfl | rfl | rfl | rfl <;> rfl

theorem put_upto (j : Nat) : put1 (upto j) j = upto (j + 1) := by
  funext i
  simp only [put1, upto]
  by_cases e : i = j
  · simp [e]
  · by_cases h : i < j
    · simp [e, h, show i < j + 1 by omega]
    · simp [e, h, show ¬ i < j + 1 by omega]

/-- letters of one kind to (or of) the first j voters -/
structure Lets (c : Bl) (R : Int) (from_ : Nat) (kd : Int) (j : Nat) : Prop where
  at1 : ∀ i, i < j → ∃ l, c.ls[from_ + i]? = some l ∧ l.kd = kd ∧ l.vo = (i : Int) ∧ l.ro = R ∧ l.lost = false ∧ (kd = 2 ∨ kd = 3 → ∃ x, c.rs R = some x ∧ l.va = x.va ∧ l.rd = R)

/-- the state in its four phases: a, p, q, z: how many of each kind were handed -/
structure Ph (c : Bl) (n L0 : Nat) (R : Int) (a p q z : Nat) : Prop where
  len : c.vs.length = n
  asked : Lets c R L0 0 n
  proms : Lets c R (L0 + n) 1 a
  chos : n < 2 * p → Lets c R (L0 + 2 * n) 2 n
  chsn : Lets c R (L0 + 3 * n) 3 q
  size : c.ls.length = L0 + n + a + (if n < 2 * p then n else 0) + q
  words : ∀ (i : Nat) (v : Vr), c.vs[i]? = some v → (i < a → v.word = R) ∧ (a ≤ i → v.word < R)
  round : ∃ x, c.rs R = some x ∧ x.pr = upto (min p (n / 2 + 1)) ∧ x.ch = upto z ∧ x.stopped = false ∧ x.told = decide (n < 2 * p)

theorem lets_more {c d : Bl} {R : Int} {f : Nat} {kd : Int} {j : Nat} (h : Lets c R f kd j) (hp : ∀ i, i < c.ls.length → d.ls[i]? = c.ls[i]?) (hr : kd = 2 ∨ kd = 3 → ∀ x, c.rs R = some x → ∃ y, d.rs R = some y ∧ y.va = x.va) : Lets d R f kd j := ⟨fun i hi => by
  obtain ⟨l, h1, h2, h3, h4, h5, h6⟩ := h.at1 i hi
  have hl := (List.getElem?_eq_some_iff.1 h1).1
  refine ⟨l, (hp _ hl).trans h1, h2, h3, h4, h5, fun hk => ?_⟩
  obtain ⟨x, g1, g2, g3⟩ := h6 hk
  obtain ⟨y, g4, g5⟩ := hr hk x g1
  exact ⟨y, g4, g2.trans g5.symm, g3⟩⟩

theorem send_at {c : Bl} (l : Lt) (h : c.ls.length < 200) : (∀ i, i < c.ls.length → (c.send l).ls[i]? = c.ls[i]?) ∧ (c.send l).ls[c.ls.length]? = some l ∧ (c.send l).ls.length = c.ls.length + 1 := by
  have e : c.send l = { c with ls := c.ls ++ [l] } := if_pos h
  rw [e]
  exact ⟨fun i hi => List.getElem?_append_left hi, by simp, by simp⟩

/-- an asked letter is handed -/
theorem Ph.ask {c : Bl} {n L0 : Nat} {R : Int} {a : Nat} (h : Ph c n L0 R a 0 0 0) (ha : a < n) (hL : L0 + 4 * n ≤ 200) : Ph (c.play ⟨2, ((L0 + a : Nat) : Int), 0, 0⟩).2 n L0 R (a + 1) 0 0 0 := by
  obtain ⟨l, l1, l2, l3, l4, l5, -⟩ := h.asked.at1 a ha
  rw [play_hand l1 l5]
  have hs := h.size
  rw [if_neg (by omega)] at hs
  have hk : (c.hand1 l).2 = c.handAsked l := by simp [Bl.hand1, l2]
  have hv : ∃ v, c.vs[a]? = some v := ⟨_, List.getElem?_eq_getElem (by rw [h.len]; exact ha)⟩
  obtain ⟨v, hv⟩ := hv
  have hw := (h.words a v hv).2 (Nat.le_refl _)
  have hvl := (List.getElem?_eq_some_iff.1 hv).1
  have hd : c.handAsked l = (c.setV a ⟨v.rd, v.va, R⟩).send ⟨v.rd, v.va, 1, (a : Int), R, false⟩ := by
    simp [Bl.handAsked, l3, l4, l5, hv, show ¬ R ≤ v.word by omega]
  show Ph (c.hand1 l).2 n L0 R (a + 1) 0 0 0
  rw [hk, hd]
  obtain ⟨s1, s2, s3⟩ := send_at (c := c.setV a ⟨v.rd, v.va, R⟩) ⟨v.rd, v.va, 1, (a : Int), R, false⟩ (show c.ls.length < 200 by omega)
  have hrs : ((c.setV a ⟨v.rd, v.va, R⟩).send ⟨v.rd, v.va, 1, (a : Int), R, false⟩).rs = c.rs := (send_rs _ _).1
  have hvs : ((c.setV a ⟨v.rd, v.va, R⟩).send ⟨v.rd, v.va, 1, (a : Int), R, false⟩).vs = c.vs.set a ⟨v.rd, v.va, R⟩ := (send_rs _ _).2
  generalize (c.setV a ⟨v.rd, v.va, R⟩).send ⟨v.rd, v.va, 1, (a : Int), R, false⟩ = e at *
  have sl : ∀ i, i < c.ls.length → e.ls[i]? = c.ls[i]? := s1
  have sn : e.ls[c.ls.length]? = some ⟨v.rd, v.va, 1, (a : Int), R, false⟩ := s2
  have sz : e.ls.length = c.ls.length + 1 := s3
  refine ⟨by rw [hvs, List.length_set]; exact h.len, lets_more h.asked sl (fun k => by omega), ⟨fun i hi => ?_⟩, fun hc => by omega, ⟨fun i hi => by omega⟩, ?_, fun i u hu => ?_, by rw [hrs]; exact h.round⟩
  · by_cases hia : i < a
    · exact (lets_more h.proms sl (fun k => by omega)).at1 i hia
    · obtain rfl : i = a := by omega
      exact ⟨_, by rw [show L0 + n + i = c.ls.length by omega]; exact sn, rfl, rfl, rfl, rfl, fun k => by simp at k⟩
  · rw [sz, if_neg (by omega)]
    omega
  · rw [hvs] at hu
    by_cases hia : i = a
    · subst hia
      rw [List.getElem?_set_self hvl] at hu
      cases hu
      exact ⟨fun _ => rfl, fun q => by omega⟩
    · rw [List.getElem?_set_ne (fun e2 => hia e2.symm)] at hu
      obtain ⟨w1, w2⟩ := h.words i u hu
      exact ⟨fun q => w1 (by omega), fun q => w2 (by omega)⟩

theorem sendTo_at {c : Bl} (l : Lt) : ∀ k, c.ls.length + k ≤ 200 → (∀ i, i < c.ls.length → (c.sendTo l k).ls[i]? = c.ls[i]?) ∧ (∀ i, i < k → (c.sendTo l k).ls[c.ls.length + i]? = some { l with vo := (i : Int) }) ∧ (c.sendTo l k).ls.length = c.ls.length + k
  | 0, _ => ⟨fun _ _ => rfl, fun i hi => by omega, rfl⟩
  | k + 1, h => by
    obtain ⟨h1, h2, h3⟩ := sendTo_at (c := c) l k (by omega)
    obtain ⟨s1, s2, s3⟩ := send_at (c := c.sendTo l k) { l with vo := (k : Int) } (by omega)
    refine ⟨fun i hi => (s1 i (by omega)).trans (h1 i hi), fun i hi => ?_, by rw [show c.sendTo l (k + 1) = (c.sendTo l k).send { l with vo := (k : Int) } from rfl, s3, h3]; omega⟩
    by_cases e : i < k
    · exact (s1 _ (by omega)).trans (h2 i e)
    · obtain rfl : i = k := by omega
      rw [h3] at s2
      exact s2

theorem lets_none (c : Bl) (R : Int) (f : Nat) (kd : Int) : Lets c R f kd 0 := ⟨fun i hi => by omega⟩

/-- a promise is handed -/
theorem Ph.prom {c : Bl} {n L0 : Nat} {R : Int} {p : Nat} (h : Ph c n L0 R n p 0 0) (hp : p < n) (hn : n ≤ 5) (hL : L0 + 4 * n ≤ 200) : Ph (c.play ⟨2, ((L0 + n + p : Nat) : Int), 0, 0⟩).2 n L0 R n (p + 1) 0 0 := by
  obtain ⟨l, l1, l2, l3, l4, l5, -⟩ := h.proms.at1 p hp
  rw [play_hand l1 l5]
  have hk : (c.hand1 l).2 = c.handPromised l := by simp [Bl.hand1, l2]
  show Ph (c.hand1 l).2 n L0 R n (p + 1) 0 0
  rw [hk]
  obtain ⟨x, x1, x2, x3, x4, x5⟩ := h.round
  have hs := h.size
  by_cases ht : n < 2 * p
  · have hd : c.handPromised l = c := by simp [Bl.handPromised, l4, x1, x4, x5, ht]
    rw [hd]
    rw [if_pos ht] at hs
    refine ⟨h.len, h.asked, h.proms, fun _ => h.chos ht, lets_none _ _ _ _, by rw [if_pos (by omega)]; exact hs, h.words, x, x1, ?_, x3, x4, ?_⟩
    · rw [x2]
      congr 1
      omega
    · rw [x5]
      simp
      omega
  · rw [if_neg ht] at hs
    have hto : x.told = false := by rw [x5]; simp; omega
    have hpr : (x.promise l).pr = upto (p + 1) := by
      simp only [Rn.promise, l3, Int.toNat_natCast, x2]
      rw [show min p (n / 2 + 1) = p by omega, put_upto]
    have hmo : c.most (x.promise l).pr = decide (n < 2 * (p + 1)) := by
      rw [hpr]
      unfold Bl.most
      rw [h.len, cnt_upto _ (by omega)]
    have hd : c.handPromised l = if n < 2 * (p + 1) then (c.setR R { x.promise l with told := true }).sendAll ⟨R, (x.promise l).va, 2, 0, R, false⟩ else c.setR R (x.promise l) := by
      simp only [Bl.handPromised, l4, x1, x4, hto, Bool.false_eq_true, or_self, if_false, hmo, decide_eq_true_eq]
    rw [hd]
    have hch : (x.promise l).ch = upto 0 := x3
    have hst : (x.promise l).stopped = false := x4
    by_cases hm : n < 2 * (p + 1)
    · rw [if_pos hm]
      obtain ⟨s1, s2, s3⟩ := sendTo_at (c := c.setR R { x.promise l with told := true }) ⟨R, (x.promise l).va, 2, 0, R, false⟩ n (show c.ls.length + n ≤ 200 by omega)
      have hrs := (sendTo_rs (c.setR R { x.promise l with told := true }) ⟨R, (x.promise l).va, 2, 0, R, false⟩ n)
      have he : (c.setR R { x.promise l with told := true }).sendAll ⟨R, (x.promise l).va, 2, 0, R, false⟩ = (c.setR R { x.promise l with told := true }).sendTo ⟨R, (x.promise l).va, 2, 0, R, false⟩ n := by unfold Bl.sendAll; rw [show (c.setR R { x.promise l with told := true }).vs.length = n from h.len]
      rw [he]
      generalize (c.setR R { x.promise l with told := true }).sendTo ⟨R, (x.promise l).va, 2, 0, R, false⟩ n = e at *
      have sl : ∀ i, i < c.ls.length → e.ls[i]? = c.ls[i]? := s1
      have sn : ∀ i, i < n → e.ls[c.ls.length + i]? = some ⟨R, (x.promise l).va, 2, (i : Int), R, false⟩ := s2
      have sz : e.ls.length = c.ls.length + n := s3
      have er : e.rs R = some { x.promise l with told := true } := by rw [hrs.1]; simp [Bl.setR]
      have ev : e.vs = c.vs := hrs.2
      refine ⟨by rw [ev]; exact h.len, lets_more h.asked sl (fun k => by omega), lets_more h.proms sl (fun k => by omega), fun _ => ⟨fun i hi => ?_⟩, lets_none _ _ _ _, ?_, by rw [ev]; exact h.words, _, er, ?_, hch, hst, ?_⟩
      · exact ⟨_, by rw [show L0 + 2 * n + i = c.ls.length + i by omega]; exact sn i hi, rfl, rfl, rfl, rfl, fun _ => ⟨_, er, rfl, rfl⟩⟩
      · rw [sz, if_pos hm]
        omega
      · show (x.promise l).pr = _
        rw [hpr]
        congr 1
        omega
      · simp [hm]
    · rw [if_neg hm]
      have er : (c.setR R (x.promise l)).rs R = some (x.promise l) := by simp [Bl.setR]
      refine ⟨h.len, lets_more h.asked (fun _ _ => rfl) (fun k => by omega), lets_more h.proms (fun _ _ => rfl) (fun k => by omega), fun q => absurd q hm, lets_none _ _ _ _, ?_, h.words, _, er, ?_, hch, hst, ?_⟩
      · show c.ls.length = _
        rw [if_neg hm]
        omega
      · rw [hpr]
        congr 1
        omega
      · show x.told = _
        rw [hto]
        simp
        omega

/-- a choose letter is handed -/
theorem Ph.chooses {c : Bl} {n L0 : Nat} {R : Int} {q : Nat} (h : Ph c n L0 R n n q 0) (hq : q < n) (hL : L0 + 4 * n ≤ 200) : Ph (c.play ⟨2, ((L0 + 2 * n + q : Nat) : Int), 0, 0⟩).2 n L0 R n n (q + 1) 0 := by
  have ht : n < 2 * n := by omega
  obtain ⟨l, l1, l2, l3, l4, l5, l6⟩ := (h.chos ht).at1 q hq
  obtain ⟨x, g1, g2, g3⟩ := l6 (.inl rfl)
  rw [play_hand l1 l5]
  have hs := h.size
  rw [if_pos ht] at hs
  have hk : (c.hand1 l).2 = c.handChoose l := by simp [Bl.hand1, l2]
  obtain ⟨v, hv⟩ : ∃ v, c.vs[q]? = some v := ⟨_, List.getElem?_eq_getElem (by rw [h.len]; exact hq)⟩
  have hw := (h.words q v hv).1 hq
  have hvl := (List.getElem?_eq_some_iff.1 hv).1
  have hd : c.handChoose l = (c.setV q ⟨R, l.va, R⟩).send ⟨R, l.va, 3, (q : Int), R, false⟩ := by
    simp [Bl.handChoose, l3, l4, l5, g3, hv, hw]
  show Ph (c.hand1 l).2 n L0 R n n (q + 1) 0
  rw [hk, hd]
  obtain ⟨s1, s2, s3⟩ := send_at (c := c.setV q ⟨R, l.va, R⟩) ⟨R, l.va, 3, (q : Int), R, false⟩ (show c.ls.length < 200 by omega)
  have hrs : ((c.setV q ⟨R, l.va, R⟩).send ⟨R, l.va, 3, (q : Int), R, false⟩).rs = c.rs := (send_rs _ _).1
  have hvs : ((c.setV q ⟨R, l.va, R⟩).send ⟨R, l.va, 3, (q : Int), R, false⟩).vs = c.vs.set q ⟨R, l.va, R⟩ := (send_rs _ _).2
  generalize (c.setV q ⟨R, l.va, R⟩).send ⟨R, l.va, 3, (q : Int), R, false⟩ = e at *
  have sl : ∀ i, i < c.ls.length → e.ls[i]? = c.ls[i]? := s1
  have sn : e.ls[c.ls.length]? = some ⟨R, l.va, 3, (q : Int), R, false⟩ := s2
  have sz : e.ls.length = c.ls.length + 1 := s3
  have hr2 : ∀ x, c.rs R = some x → ∃ y, e.rs R = some y ∧ y.va = x.va := fun x hx => ⟨x, by rw [hrs]; exact hx, rfl⟩
  refine ⟨by rw [hvs, List.length_set]; exact h.len, lets_more h.asked sl (fun _ => hr2), lets_more h.proms sl (fun _ => hr2), fun _ => lets_more (h.chos ht) sl (fun _ => hr2), ⟨fun i hi => ?_⟩, ?_, fun i u hu => ?_, by rw [hrs]; exact h.round⟩
  · by_cases hia : i < q
    · exact (lets_more h.chsn sl (fun _ => hr2)).at1 i hia
    · obtain rfl : i = q := by omega
      exact ⟨⟨R, l.va, 3, (i : Int), R, false⟩, by rw [show L0 + 3 * n + i = c.ls.length by omega]; exact sn, rfl, rfl, rfl, rfl, fun _ => ⟨x, by rw [hrs]; exact g1, g2, rfl⟩⟩
  · rw [sz, if_pos ht]
    omega
  · rw [hvs] at hu
    by_cases hia : i = q
    · subst hia
      rw [List.getElem?_set_self hvl] at hu
      cases hu
      exact ⟨fun _ => rfl, fun _ => by omega⟩
    · rw [List.getElem?_set_ne (fun e2 => hia e2.symm)] at hu
      exact h.words i u hu

/-- a chosen letter is handed -/
theorem Ph.chosen {c : Bl} {n L0 : Nat} {R : Int} {z : Nat} (h : Ph c n L0 R n n n z) (hz : z < n) (hn : n ≤ 5) : Ph (c.play ⟨2, ((L0 + 3 * n + z : Nat) : Int), 0, 0⟩).2 n L0 R n n n (z + 1) ∧ ∀ x, c.rs R = some x → (c.play ⟨2, ((L0 + 3 * n + z : Nat) : Int), 0, 0⟩).1.1 = if n < 2 * (z + 1) then x.va else 0 := by
  have ht : n < 2 * n := by omega
  obtain ⟨l, l1, l2, l3, l4, l5, l6⟩ := h.chsn.at1 z hz
  rw [play_hand l1 l5]
  have hk : c.hand1 l = c.handChosen l := by simp [Bl.hand1, l2]
  obtain ⟨x, x1, x2, x3, x4, x5⟩ := h.round
  have hch : (x.choice l).ch = upto (z + 1) := by
    simp only [Rn.choice, l3, Int.toNat_natCast, x3]
    rw [put_upto]
  have hmo : c.most (x.choice l).ch = decide (n < 2 * (z + 1)) := by
    rw [hch]
    unfold Bl.most
    rw [h.len, cnt_upto _ (by omega)]
  have hd : c.handChosen l = (if n < 2 * (z + 1) then x.va else 0, c.setR R (x.choice l)) := by
    simp only [Bl.handChosen, l4, x1, hmo, decide_eq_true_eq]
  rw [hk, hd]
  refine ⟨?_, fun y hy => by rw [x1] at hy; cases hy; rfl⟩
  have er : (c.setR R (x.choice l)).rs R = some (x.choice l) := by simp [Bl.setR]
  have hr2 : ∀ w, c.rs R = some w → ∃ y, (c.setR R (x.choice l)).rs R = some y ∧ y.va = w.va := fun w hw => by
    rw [x1] at hw
    cases hw
    exact ⟨_, er, rfl⟩
  exact ⟨h.len, lets_more h.asked (fun _ _ => rfl) (fun _ => hr2), lets_more h.proms (fun _ _ => rfl) (fun _ => hr2), fun _ => lets_more (h.chos ht) (fun _ _ => rfl) (fun _ => hr2), lets_more h.chsn (fun _ _ => rfl) (fun _ => hr2), h.size, h.words, _, er, x2, hch, x4, x5⟩

end Go.Proofs.Ytppcikfhhmiipaa
