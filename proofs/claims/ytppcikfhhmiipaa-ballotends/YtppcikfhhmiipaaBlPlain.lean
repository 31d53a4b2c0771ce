/- A ballot in plain words: voters, rounds and letters; what a turn comes to. -/
import Derived.LoopTactic
namespace Go.Proofs.Ytppcikfhhmiipaa

/-- a letter: the vote in it, its kind (0 asked, 1 promised, 2 choose, 3 chosen), its voter (from 0 on), its round, whether it was lost -/
structure Lt where
  rd : Int
  va : Int
  kd : Int
  vo : Int
  ro : Int
  lost : Bool
deriving DecidableEq

/-- a voter: what it chose last, its word -/
structure Vr where
  rd : Int
  va : Int
  word : Int
deriving DecidableEq

/-- a round -/
structure Rn where
  rd : Int
  va : Int
  pr : Nat → Bool
  ch : Nat → Bool
  stopped : Bool
  told : Bool

/-- a ballot; how many rounds there were -/
structure Bl where
  vs : List Vr
  rs : Int → Option Rn
  ls : List Lt
  n : Nat

structure Tn where
  kind : Int
  who : Int
  round : Int
  value : Int
deriving DecidableEq

structure Oc where
  code : Int
  dec : Int
  len : Int
deriving DecidableEq

def cnt (c : Nat → Bool) : Nat := (c 0).toNat + (c 1).toNat + (c 2).toNat + (c 3).toNat + (c 4).toNat

def put1 (c : Nat → Bool) (v : Nat) : Nat → Bool := fun i => if i = v then true else c i

theorem cnt_le (c : Nat → Bool) : cnt c ≤ 5 := by
  have := Bool.toNat_le (c 0)
  have := Bool.toNat_le (c 1)
  have := Bool.toNat_le (c 2)
  have := Bool.toNat_le (c 3)
  have := Bool.toNat_le (c 4)
  unfold cnt
  omega

theorem cnt_put {c : Nat → Bool} {v : Nat} (hv : v < 5) (h : c v = false) : cnt (put1 c v) = cnt c + 1 := by
  have : v = 0 ∨ v = 1 ∨ v = 2 ∨ v = 3 ∨ v = 4 := by omega
  rcases this with rfl | rfl | rfl | rfl | rfl <;> simp [cnt, put1, h] <;> omega

theorem put_same {c : Nat → Bool} {v : Nat} (h : c v = true) : put1 c v = c := by
  funext i
  simp only [put1]
  split
  · rename_i e
    rw [e, h]
  · rfl

def Bl.send (b : Bl) (l : Lt) : Bl := if b.ls.length < 200 then { b with ls := b.ls ++ [l] } else b

/-- a letter to each of the first k voters -/
def Bl.sendTo (b : Bl) (l : Lt) : Nat → Bl
  | 0 => b
  | k + 1 => (b.sendTo l k).send { l with vo := k }

def Bl.sendAll (b : Bl) (l : Lt) : Bl := b.sendTo l b.vs.length

def Bl.setV (b : Bl) (i : Nat) (v : Vr) : Bl := { b with vs := b.vs.set i v }
def Bl.setR (b : Bl) (r : Int) (x : Rn) : Bl := { b with rs := fun k => if k = r then some x else b.rs k }
def Bl.most (b : Bl) (c : Nat → Bool) : Bool := decide (b.vs.length < 2 * cnt c)

def counts (n : Int) : Bool := decide (1 ≤ n ∧ n ≤ 1048576)

def newRn (v : Int) : Rn := ⟨0, v, fun _ => false, fun _ => false, false, false⟩

def Bl.ask (b : Bl) (r v : Int) : Int × Bl :=
  if counts r = false ∨ counts v = false then (2, b)
  else match b.rs r with
    | some _ => (7, b)
    | none => (0, ({ b.setR r (newRn v) with n := b.n + 1 }).sendAll ⟨0, 0, 0, 0, r, false⟩)

def Bl.get (b : Bl) (who : Int) : Option Lt := if who < 0 then none else b.ls[who.toNat]?

/-- whether there is that letter, and it was not lost -/
def Bl.has (b : Bl) (who : Int) : Bool := match b.get who with
  | some l => !l.lost
  | none => false

def Bl.handAsked (b : Bl) (l : Lt) : Bl := match b.vs[l.vo.toNat]? with
  | none => b
  | some v => if l.ro ≤ v.word then b else (b.setV l.vo.toNat ⟨v.rd, v.va, l.ro⟩).send ⟨v.rd, v.va, 1, l.vo, l.ro, l.lost⟩

/-- a promise that counts -/
def Rn.promise (r : Rn) (l : Lt) : Rn := ⟨if r.rd < l.rd then l.rd else r.rd, if r.rd < l.rd then l.va else r.va, put1 r.pr l.vo.toNat, r.ch, r.stopped, r.told⟩

def Bl.handPromised (b : Bl) (l : Lt) : Bl := match b.rs l.ro with
  | none => b
  | some r =>
    if r.stopped = true ∨ r.told = true then b
    else if b.most (r.promise l).pr then (b.setR l.ro { r.promise l with told := true }).sendAll ⟨l.ro, (r.promise l).va, 2, 0, l.ro, false⟩
    else b.setR l.ro (r.promise l)

def Bl.handChoose (b : Bl) (l : Lt) : Bl := match b.vs[l.vo.toNat]? with
  | none => b
  | some v => if l.ro < v.word then b else (b.setV l.vo.toNat ⟨l.rd, l.va, l.ro⟩).send ⟨l.rd, l.va, 3, l.vo, l.ro, l.lost⟩

def Rn.choice (r : Rn) (l : Lt) : Rn := { r with ch := put1 r.ch l.vo.toNat }

def Bl.handChosen (b : Bl) (l : Lt) : Int × Bl := match b.rs l.ro with
  | none => (0, b)
  | some r => (if b.most (r.choice l).ch then r.va else 0, b.setR l.ro (r.choice l))

def Bl.hand1 (b : Bl) (l : Lt) : Int × Bl :=
  if l.kd = 0 then (0, b.handAsked l)
  else if l.kd = 1 then (0, b.handPromised l)
  else if l.kd = 2 then (0, b.handChoose l)
  else if l.kd = 3 then b.handChosen l
  else (0, b)

/-- what is decided, the code, and what the ballot is then -/
def Bl.hand (b : Bl) (who : Int) : (Int × Int) × Bl := match b.get who with
  | none => ((0, 6), b)
  | some l => if l.lost then ((0, 6), b) else (((b.hand1 l).1, 0), (b.hand1 l).2)

def Bl.lose (b : Bl) (who : Int) : Int × Bl := match b.get who with
  | none => (6, b)
  | some l => if l.lost then (6, b) else (0, { b with ls := b.ls.set who.toNat { l with lost := true } })

def Bl.halt (b : Bl) (r : Int) : Int × Bl := match b.rs r with
  | none => (6, b)
  | some x => (0, b.setR r { x with stopped := true })

def Bl.play (b : Bl) (t : Tn) : (Int × Int) × Bl :=
  if t.kind = 1 then ((0, (b.ask t.round t.value).1), (b.ask t.round t.value).2)
  else if t.kind = 2 then b.hand t.who
  else if t.kind = 3 then ((0, (b.lose t.who).1), (b.lose t.who).2)
  else if t.kind = 4 then ((0, (b.halt t.round).1), (b.halt t.round).2)
  else ((0, 3), b)

def Bl.oc (b : Bl) (t : Tn) : Oc := ⟨(b.play t).1.2, (b.play t).1.1, (b.play t).2.ls.length⟩

/-- all turns: what they come to, and what the ballot is then -/
def playB (b : Bl) : List Tn → List Oc × Bl
  | [] => ([], b)
  | t :: ts => (b.oc t :: (playB (b.play t).2 ts).1, (playB (b.play t).2 ts).2)

def bl0 (n : Nat) : Bl := ⟨List.replicate n ⟨0, 0, 0⟩, fun _ => none, [], 0⟩

theorem playB_append (b : Bl) (l m : List Tn) : playB b (l ++ m) = ((playB b l).1 ++ (playB (playB b l).2 m).1, (playB (playB b l).2 m).2) := by
  induction l generalizing b with
  | nil => rfl
  | cons t ts ih => simp only [List.cons_append, playB, ih]

theorem playB_snoc (b : Bl) (l : List Tn) (t : Tn) : playB b (l ++ [t]) = ((playB b l).1 ++ [(playB b l).2.oc t], ((playB b l).2.play t).2) := by
  rw [playB_append]
  rfl

theorem playB_length (b : Bl) (l : List Tn) : (playB b l).1.length = l.length := by
  induction l generalizing b with
  | nil => rfl
  | cons t ts ih => simp [playB, ih]

/-- what holds of every ballot that is played -/
structure Bl.Ok (b : Bl) (n : Nat) : Prop where
  len : b.vs.length = n
  few : 1 ≤ n ∧ n ≤ 5
  lts : ∀ l ∈ b.ls, 0 ≤ l.vo ∧ l.vo < n ∧ (l.kd = 0 ∨ l.kd = 1 ∨ l.kd = 2 ∨ l.kd = 3) ∧ b.rs l.ro ≠ none
  rnd : ∀ r x, b.rs r = some x → 1 ≤ r ∧ r ≤ 1048576
  mail : b.ls.length ≤ 200

theorem Bl.Ok.send {b : Bl} {n : Nat} (h : b.Ok n) (l : Lt) (hl : 0 ≤ l.vo ∧ l.vo < n ∧ (l.kd = 0 ∨ l.kd = 1 ∨ l.kd = 2 ∨ l.kd = 3) ∧ b.rs l.ro ≠ none) : (b.send l).Ok n ∧ (b.send l).rs = b.rs ∧ (b.send l).vs = b.vs ∧ (b.send l).n = b.n := by
  unfold Bl.send
  split
  · refine ⟨⟨h.len, h.few, fun x hx => ?_, h.rnd, ?_⟩, rfl, rfl, rfl⟩
    · rcases List.mem_append.1 hx with hx | hx
      · exact h.lts x hx
      · rw [List.mem_singleton.1 hx]
        exact hl
    · simp
      omega
  · exact ⟨h, rfl, rfl, rfl⟩

theorem Bl.Ok.sendTo {b : Bl} {n : Nat} (h : b.Ok n) (l : Lt) (hl : (l.kd = 0 ∨ l.kd = 1 ∨ l.kd = 2 ∨ l.kd = 3) ∧ b.rs l.ro ≠ none) : ∀ k, k ≤ n → (b.sendTo l k).Ok n ∧ (b.sendTo l k).rs = b.rs ∧ (b.sendTo l k).vs = b.vs ∧ (b.sendTo l k).n = b.n
  | 0, _ => ⟨h, rfl, rfl, rfl⟩
  | k + 1, hk => by
    obtain ⟨h1, h2, h3, h5⟩ := Bl.Ok.sendTo h l hl k (by omega)
    have h4 := h1.send { l with vo := k } ⟨by simp, by simp; omega, hl.1, by rw [h2]; exact hl.2⟩
    exact ⟨h4.1, h4.2.1.trans h2, h4.2.2.1.trans h3, h4.2.2.2.trans h5⟩

theorem Bl.Ok.setR {b : Bl} {n : Nat} (h : b.Ok n) {r : Int} (x : Rn) (hr : 1 ≤ r ∧ r ≤ 1048576) : (b.setR r x).Ok n := by
  refine ⟨h.len, h.few, fun l hl => ?_, fun k y hk => ?_, h.mail⟩
  · obtain ⟨h1, h2, h3, h4⟩ := h.lts l hl
    refine ⟨h1, h2, h3, ?_⟩
    simp only [Bl.setR]
    split
    · simp
    · exact h4
  · simp only [Bl.setR] at hk
    split at hk
    · rename_i e
      rw [e]
      exact hr
    · exact h.rnd k y hk

theorem Bl.Ok.setV {b : Bl} {n : Nat} (h : b.Ok n) (i : Nat) (v : Vr) : (b.setV i v).Ok n :=
  ⟨by simp [Bl.setV, h.len], h.few, h.lts, h.rnd, h.mail⟩

theorem counts_iff {n : Int} : counts n = true ↔ 1 ≤ n ∧ n ≤ 1048576 := by simp [counts]
theorem counts_not {n : Int} : counts n = false ↔ ¬ (1 ≤ n ∧ n ≤ 1048576) := by simp [counts]

theorem Bl.Ok.ask {b : Bl} {n : Nat} (h : b.Ok n) (r v : Int) : (b.ask r v).2.Ok n := by
  unfold Bl.ask
  split
  · exact h
  · rename_i hc
    split
    · exact h
    · have hr : 1 ≤ r ∧ r ≤ 1048576 := counts_iff.1 (by
        cases e : counts r
        · exact absurd (.inl e) hc
        · rfl)
      have h1 := h.setR (r := r) (newRn v) hr
      have h2 : ({ b.setR r (newRn v) with n := b.n + 1 } : Bl).Ok n := ⟨h1.len, h1.few, h1.lts, h1.rnd, h1.mail⟩
      exact (h2.sendTo _ ⟨.inl rfl, by simp [Bl.setR]⟩ _ (by rw [h2.len]; exact Nat.le_refl _)).1

theorem Bl.get_mem {b : Bl} {who : Int} {l : Lt} (h : b.get who = some l) : 0 ≤ who ∧ who.toNat < b.ls.length ∧ b.ls[who.toNat]? = some l ∧ l ∈ b.ls := by
  unfold Bl.get at h
  split at h
  · cases h
  · obtain ⟨h1, h2⟩ := List.getElem?_eq_some_iff.1 h
    exact ⟨by omega, h1, h, by rw [← h2]; exact List.getElem_mem _⟩

theorem Bl.Ok.hand1 {b : Bl} {n : Nat} (h : b.Ok n) {l : Lt} (hl : l ∈ b.ls) : (b.hand1 l).2.Ok n := by
  obtain ⟨h1, h2, h3, h4⟩ := h.lts l hl
  unfold Bl.hand1
  split
  · unfold Bl.handAsked
    split
    · exact h
    · split
      · exact h
      · refine ((h.setV _ _).send _ ?_).1
        exact ⟨h1, h2, .inr (.inl rfl), h4⟩
  · split
    · unfold Bl.handPromised
      split
      · exact h
      · rename_i r hr
        split
        · exact h
        · split
          · have h5 := h.setR (r := l.ro) { r.promise l with told := true } (h.rnd _ _ hr)
            exact (h5.sendTo _ ⟨.inr (.inr (.inl rfl)), by simp [Bl.setR]⟩ _ (by rw [h5.len]; exact Nat.le_refl _)).1
          · exact h.setR _ (h.rnd _ _ hr)
    · split
      · unfold Bl.handChoose
        split
        · exact h
        · split
          · exact h
          · refine ((h.setV _ _).send _ ?_).1
            exact ⟨h1, h2, .inr (.inr (.inr rfl)), h4⟩
      · split
        · unfold Bl.handChosen
          split
          · exact h
          · rename_i r hr
            exact h.setR _ (h.rnd _ _ hr)
        · exact h

theorem Bl.Ok.play {b : Bl} {n : Nat} (h : b.Ok n) (t : Tn) : (b.play t).2.Ok n := by
  unfold Bl.play
  split
  · exact h.ask _ _
  · split
    · unfold Bl.hand
      split
      · exact h
      · rename_i l hl
        split
        · exact h
        · exact h.hand1 (Bl.get_mem hl).2.2.2
    · split
      · unfold Bl.lose
        split
        · exact h
        · rename_i l hl
          split
          · exact h
          · refine ⟨h.len, h.few, fun x hx => ?_, h.rnd, by simpa using h.mail⟩
            rcases List.mem_or_eq_of_mem_set hx with hx | rfl
            · exact h.lts x hx
            · exact h.lts l (Bl.get_mem hl).2.2.2
      · split
        · unfold Bl.halt
          split
          · exact h
          · rename_i x hx
            exact h.setR _ (h.rnd _ _ hx)
        · exact h

theorem Bl.Ok.start {n : Nat} (hn : 1 ≤ n ∧ n ≤ 5) : (bl0 n).Ok n :=
  ⟨by simp [bl0], hn, fun l hl => by simp [bl0] at hl, fun r x hr => by simp [bl0] at hr, by simp [bl0]⟩

theorem Bl.Ok.playB {b : Bl} {n : Nat} (h : b.Ok n) (l : List Tn) : (playB b l).2.Ok n := by
  induction l generalizing b with
  | nil => exact h
  | cons t ts ih => exact ih (h.play t)

end Go.Proofs.Ytppcikfhhmiipaa
