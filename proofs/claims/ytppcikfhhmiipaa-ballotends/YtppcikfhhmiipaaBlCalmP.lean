/- A round in whose way nothing gets, in plain words. -/
import Derived.Test.YtppcikfhhmiipaaBlFewP
namespace Go.Proofs.Ytppcikfhhmiipaa

/-- the turns: what was ahead, the round begins, so many letters are handed -/
def calmS (before : List Tn) (R v nx : Int) : Nat → List Tn
  | 0 => before ++ [⟨1, 0, R, v⟩]
  | k + 1 => calmS before R v nx k ++ [⟨2, nx + k, 0, 0⟩]

def lastO (os : List Oc) : Oc := os.getLast?.getD ⟨0, 0, 0⟩
/-- what the last of them comes to -/
def calmO (n : Nat) (before : List Tn) (R v nx : Int) (k : Nat) : Oc := lastO (playB (bl0 n) (calmS before R v nx k)).1
/-- what was decided -/
def calmD (n : Nat) (before : List Tn) (R v nx : Int) : Nat → Int
  | 0 => if (calmO n before R v nx 0).dec ≠ 0 then (calmO n before R v nx 0).dec else 0
  | k + 1 => if (calmO n before R v nx (k + 1)).dec ≠ 0 then (calmO n before R v nx (k + 1)).dec else calmD n before R v nx k
/-- ahead of the round's k-th test -/
def calmE (n : Nat) (before : List Tn) (R v nx : Int) : Nat → Int
  | 0 => 0
  | k + 1 => calmD n before R v nx k
def calmN (nx : Int) : Nat → Int
  | 0 => -1
  | k + 1 => nx + (k + 1 : Nat)

structure CalmOk (n : Nat) (before : List Tn) (R v nx : Int) (K : Nat) : Prop where
  o0 : (calmO n before R v nx 0).code = 0 ∧ (calmO n before R v nx 0).len = nx + n ∧ 0 ≤ nx
  more : ∀ k, k < K → nx + k < (calmO n before R v nx k).len
  stop : (calmO n before R v nx K).len ≤ nx + K
  few : before.length + 1 + K < 400

theorem calmS_length (before : List Tn) (R v nx : Int) (k : Nat) : (calmS before R v nx k).length = before.length + 1 + k := by
  induction k with
  | zero => simp [calmS]
  | succ k ih =>
    simp only [calmS, List.length_append, ih, List.length_singleton]
    omega

theorem calmD_eq (n : Nat) (before : List Tn) (R v nx : Int) (k : Nat) : calmD n before R v nx k = if (calmO n before R v nx k).dec ≠ 0 then (calmO n before R v nx k).dec else calmE n before R v nx k := by
  cases k <;> rfl

theorem lastO_at (os : List Oc) (h : 0 < os.length) : lastO os = os[os.length - 1] := by
  unfold lastO
  rw [List.getLast?_eq_getElem?, List.getElem?_eq_getElem (by omega)]
  rfl

theorem playB_last (n : Nat) (hn : 1 ≤ n ∧ n ≤ 5) (before : List Tn) (R v nx : Int) (k : Nat) : 0 ≤ (calmO n before R v nx k).len ∧ (calmO n before R v nx k).len ≤ 200 := by
  unfold calmO lastO
  cases e : (playB (bl0 n) (calmS before R v nx k)).1.getLast? with
  | none => exact ⟨Int.le_refl _, by decide⟩
  | some o => exact playB_len n hn _ o (List.mem_of_getLast? e)

/-- who is alone decides -/
def calmOne (n : Nat) : Bool := decide ((calmO n [] 1 3 0 0).code = 0 ∧ (calmO n [] 1 3 0 0).len = n) && (List.range (4 * n)).all (fun k => decide ((k : Int) < (calmO n [] 1 3 0 k).len)) && decide ((calmO n [] 1 3 0 (4 * n)).len ≤ ((4 * n : Nat) : Int)) && decide (calmD n [] 1 3 0 (4 * n) = 3)

set_option maxRecDepth 100000 in
theorem calm_all : ∀ n : Fin 5, calmOne (n + 1) = true := by decide +kernel

theorem calm_one (n : Nat) (hn : 1 ≤ n ∧ n ≤ 5) : CalmOk n [] 1 3 0 (4 * n) ∧ calmD n [] 1 3 0 (4 * n) = 3 := by
  have h := calm_all ⟨n - 1, by omega⟩
  simp only at h
  rw [show n - 1 + 1 = n by omega] at h
  simp only [calmOne, Bool.and_eq_true, List.all_eq_true, decide_eq_true_eq, List.mem_range] at h
  obtain ⟨⟨⟨h1, h2⟩, h3⟩, h4⟩ := h
  exact ⟨⟨⟨h1.1, by rw [h1.2]; omega, Int.le_refl _⟩, fun k hk => by have := h2 k hk; omega, by omega, by simp; omega⟩, h4⟩

end Go.Proofs.Ytppcikfhhmiipaa
