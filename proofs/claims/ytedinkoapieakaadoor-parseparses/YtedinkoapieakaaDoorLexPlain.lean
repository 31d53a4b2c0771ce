/- A source as tokens, over plain lists of bytes: what a byte is, how far bytes of a kind go, what stands between tokens, one token, all tokens ('Cuts': token by token, as the chapter says it). No model here. -/
import Derived.Lib.ParseIntB
namespace Go.Proofs.YtedinkoapieakaaDoor

/-- a string's bytes -/
def bts (s : ByteArray) : List UInt8 := s.data.toList
/-- does a text begin with another? -/
def begins (l p : List UInt8) : Bool := p.isPrefixOf l

/-- a small letter, or _ -/
def letter (c : UInt8) : Bool := (decide (97 ≤ c.toNat) && decide (c.toNat ≤ 122)) || decide (c.toNat = 95)
def digit (c : UInt8) : Bool := decide (48 ≤ c.toNat) && decide (c.toNat ≤ 57)
def blank (c : UInt8) : Bool := decide (c.toNat = 9) || decide (c.toNat = 10) || decide (c.toNat = 13) || decide (c.toNat = 32)
def low (c : UInt8) : UInt8 := if 65 ≤ c.toNat ∧ c.toNat ≤ 90 then c + 32 else c
/-- what a word goes on with, as a source has it -/
def wordy (c : UInt8) : Bool := letter (low c) || digit c
/-- what a word goes on with, as a token has it -/
def wordly (c : UInt8) : Bool := letter c || digit c
def noLine (c : UInt8) : Bool := !decide (c.toNat = 10)
def noQuote (c : UInt8) : Bool := !decide (c.toNat = 39)

/-- how far, from a place on, bytes go of which p says so -/
def on (p : UInt8 → Bool) (l : List UInt8) (i : Nat) : Nat := i + ((l.drop i).takeWhile p).length

theorem on_le (p : UInt8 → Bool) (l : List UInt8) (i : Nat) (h : i ≤ l.length) : on p l i ≤ l.length := by
  have := (List.takeWhile_sublist (p := p) (l := l.drop i)).length_le
  rw [List.length_drop] at this
  unfold on
  omega

theorem on_ge (p : UInt8 → Bool) (l : List UInt8) (i : Nat) : i ≤ on p l i := Nat.le_add_right _ _

theorem on_stop (p : UInt8 → Bool) (l : List UInt8) (i : Nat) (h : ∀ hi : i < l.length, p l[i] = false) : on p l i = i := by
  unfold on
  by_cases hi : i < l.length
  · rw [List.drop_eq_getElem_cons hi, List.takeWhile_cons, h hi]
    rfl
  · rw [List.drop_eq_nil_of_le (by omega)]
    rfl

theorem on_step (p : UInt8 → Bool) (l : List UInt8) (i : Nat) (hi : i < l.length) (h : p l[i] = true) : on p l i = on p l (i + 1) := by
  unfold on
  rw [List.drop_eq_getElem_cons hi, List.takeWhile_cons, h]
  simp
  omega

/-- the bytes that are skipped between tokens; 'true': within a remark -/
def gap : Bool → List UInt8 → Nat
  | _, [] => 0
  | true, c :: r => 1 + gap (noLine c) r
  | false, c :: r => if blank c then 1 + gap false r else if c.toNat = 45 ∧ (r.head?.map (·.toNat)) = some 45 then 1 + gap true r else 0

theorem gap_le (b : Bool) (l : List UInt8) : gap b l ≤ l.length := by
  induction l generalizing b with
  | nil => cases b <;> simp [gap]
  | cons c r ih =>
    cases b
    · have h1 := ih false
      have h2 := ih true
      simp only [gap, List.length_cons]
      split
      · omega
      · split <;> omega
    · have h1 := ih (noLine c)
      simp only [gap, List.length_cons]
      omega

structure Tok where
  kind : Int
  int : Int
  text : List UInt8
deriving DecidableEq

def zeroTok : Tok := ⟨0, 0, []⟩

/-- what the digits come to -/
def num (l : List UInt8) : Nat := l.foldl (fun n c => n * 10 + (c.toNat - 48)) 0

/-- the text of a quote, behind its first ', and the bytes that it takes, the last ' with them -/
def quoted : List UInt8 → Option (List UInt8 × Nat)
  | [] => none
  | c :: r =>
    if c.toNat = 39 then
      match r with
      | [] => some ([], 1)
      | d :: r' => if d.toNat = 39 then (quoted r').map fun p => (d :: p.1, p.2 + 2) else some ([], 1)
    else (quoted r).map fun p => (c :: p.1, p.2 + 1)

/-- the marks of one byte and of two -/
def mark1 (a : UInt8) : Bool := [40, 41, 44, 46, 42, 43, 45, 47, 37, 61, 60, 62].contains a.toNat
def mark2 (a b : UInt8) : Bool := [(60, 61), (62, 61), (60, 62)].contains (a.toNat, b.toNat)
/-- how many bytes the mark has that a text begins with; 0: none -/
def markLen : List UInt8 → Nat
  | [] => 0
  | [a] => if mark1 a then 1 else 0
  | a :: b :: _ => if mark2 a b then 2 else if mark1 a then 1 else 0

/-- a byte that goes on with a sign of UTF-8 -/
def goes (l : List UInt8) (k : Nat) : Bool := decide (128 ≤ (l.getD k 0).toNat) && decide ((l.getD k 0).toNat ≤ 191)
def code3 (l : List UInt8) : Nat := ((l.getD 0 0).toNat % 16) * 4096 + ((l.getD 1 0).toNat % 64) * 64 + (l.getD 2 0).toNat % 64
def code4 (l : List UInt8) : Nat := ((l.getD 0 0).toNat % 8) * 262144 + ((l.getD 1 0).toNat % 64) * 4096 + ((l.getD 2 0).toNat % 64) * 64 + (l.getD 3 0).toNat % 64
/-- how many bytes the sign of UTF-8 has that a text begins with; 0: there is none -/
def sz (l : List UInt8) : Nat :=
  if l = [] then 0
  else if (l.getD 0 0).toNat < 128 then 1
  else if 194 ≤ (l.getD 0 0).toNat ∧ (l.getD 0 0).toNat < 224 then (if 2 ≤ l.length ∧ goes l 1 then 2 else 0)
  else if 224 ≤ (l.getD 0 0).toNat ∧ (l.getD 0 0).toNat < 240 then (if 3 ≤ l.length ∧ goes l 1 ∧ goes l 2 ∧ 2048 ≤ code3 l ∧ ¬ (55296 ≤ code3 l ∧ code3 l ≤ 57343) then 3 else 0)
  else if 240 ≤ (l.getD 0 0).toNat ∧ (l.getD 0 0).toNat < 245 then (if 4 ≤ l.length ∧ goes l 1 ∧ goes l 2 ∧ goes l 3 ∧ 65536 ≤ code4 l ∧ code4 l ≤ 1114111 then 4 else 0)
  else 0

def signsN : Nat → List UInt8 → Bool
  | 0, _ => true
  | n + 1, l => if l = [] then true else if sz l = 0 then false else signsN n (l.drop (sz l))
/-- a text of signs of UTF-8 alone -/
def signs (l : List UInt8) : Bool := signsN l.length l

/-- an error, or the token that a source begins with and how many bytes it takes -/
inductive One where
  | bad (e : Int)
  | tok (t : Tok) (n : Nat)

def one : List UInt8 → One
  | [] => .bad 0
  | c :: r =>
    if letter (low c) then
      let n := ((c :: r).takeWhile wordy).length
      if 12 < n then .bad 1 else .tok ⟨1, 0, ((c :: r).take n).map low⟩ n
    else if digit c then
      let n := ((c :: r).takeWhile digit).length
      if 9223372036854775807 < num ((c :: r).take n) then .bad 10 else .tok ⟨2, num ((c :: r).take n), []⟩ n
    else if c.toNat = 39 then
      match quoted r with
      | none => .bad 5
      | some (t, n) => if 40 < t.length then .bad 1 else if signs t then .tok ⟨3, 0, t⟩ (n + 1) else .bad 4
    else if markLen (c :: r) = 0 then .bad 4 else .tok ⟨4, 0, (c :: r).take (markLen (c :: r))⟩ (markLen (c :: r))

/-- token by token, from a place on that is in no gap, with the tokens so far: the answer -/
inductive Cuts (l : List UInt8) : Nat → List Tok → List Tok → Nat → Int → Prop
  | done (i : Nat) (ts : List Tok) (h : l.length ≤ i) : Cuts l i ts ts 0 0
  | full (i : Nat) (ts : List Tok) (h : i < l.length) (hf : 300 ≤ ts.length) : Cuts l i ts [] i 8
  | bad (i : Nat) (ts : List Tok) (e : Int) (h : i < l.length) (hf : ts.length < 300) (ho : one (l.drop i) = .bad e) : Cuts l i ts [] i e
  | step (i : Nat) (ts : List Tok) (t : Tok) (n : Nat) (rs : List Tok) (p : Nat) (e : Int) (h : i < l.length) (hf : ts.length < 300) (ho : one (l.drop i) = .tok t n)
      (hr : Cuts l (i + n + gap false (l.drop (i + n))) (ts ++ [t]) rs p e) : Cuts l i ts rs p e

theorem Cuts.one_answer {l : List UInt8} {i : Nat} {ts rs rs' : List Tok} {p p' : Nat} {e e' : Int} (h : Cuts l i ts rs p e) (h' : Cuts l i ts rs' p' e') : rs = rs' ∧ p = p' ∧ e = e' := by
  induction h with
  | done i ts h => cases h' <;> first | exact ⟨rfl, rfl, rfl⟩ | omega
  | full i ts h hf => cases h' <;> first | exact ⟨rfl, rfl, rfl⟩ | omega
  | bad i ts e h hf ho =>
    cases h' with
    | done _ => omega
    | full _ => omega
    | bad _ _ _ _ _ ho' =>
      rw [ho] at ho'
      cases ho'
      exact ⟨rfl, rfl, rfl⟩
    | step _ _ _ _ _ _ _ _ _ ho' _ => rw [ho] at ho'; cases ho'
  | step i ts t n rs p e h hf ho hr ih =>
    cases h' with
    | done _ => omega
    | full _ => omega
    | bad _ _ _ _ _ ho' => rw [ho] at ho'; cases ho'
    | step _ _ _ _ _ _ _ _ _ ho' hr' =>
      rw [ho] at ho'
      cases ho'
      exact ih hr'

/-- what Cut answers -/
def CutIs (l : List UInt8) (rs : List Tok) (p : Nat) (e : Int) : Prop :=
  (2000 < l.length ∧ rs = [] ∧ p = 0 ∧ e = 1) ∨ (l.length ≤ 2000 ∧ Cuts l (gap false l) [] rs p e)

theorem CutIs.one_answer {l : List UInt8} {rs rs' : List Tok} {p p' : Nat} {e e' : Int} (h : CutIs l rs p e) (h' : CutIs l rs' p' e') : rs = rs' ∧ p = p' ∧ e = e' := by
  rcases h with ⟨h1, rfl, rfl, rfl⟩ | ⟨h1, h2⟩ <;> rcases h' with ⟨h3, rfl, rfl, rfl⟩ | ⟨h3, h4⟩
  · exact ⟨rfl, rfl, rfl⟩
  · omega
  · omega
  · exact h2.one_answer h4

end Go.Proofs.YtedinkoapieakaaDoor
