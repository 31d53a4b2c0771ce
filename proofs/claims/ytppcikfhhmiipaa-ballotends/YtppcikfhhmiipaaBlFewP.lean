/- Rounds in which the letters to more than half are lost, in plain words. -/
import Derived.Test.YtppcikfhhmiipaaBlPlain
namespace Go.Proofs.Ytppcikfhhmiipaa

def fewAsk (r v : Int) : Tn := ⟨1, 0, r, v⟩
def fewK (n : Nat) (fr : Int) (k : Nat) : Tn := if 2 * k < n then ⟨3, fr + k, 0, 0⟩ else ⟨2, fr + k, 0, 0⟩
def fewA (n : Nat) (fr : Int) : Nat → List Tn
  | 0 => []
  | j + 1 => fewA n fr j ++ [fewK n fr j]
def fewB (n : Nat) (fr : Int) : Nat → List Tn
  | 0 => []
  | j + 1 => fewB n fr j ++ [⟨2, fr + n + j, 0, 0⟩]
def lastLen (os : List Oc) : Int := match os.getLast? with
  | some o => o.len
  | none => 0
def few (n : Nat) (v : Int) : Nat → List Tn
  | 0 => []
  | r + 1 => few n v r ++ [fewAsk ((r : Int) + 1) v] ++ fewA n (lastLen (playB (bl0 n) (few n v r)).1) n ++ fewB n (lastLen (playB (bl0 n) (few n v r)).1) (3 * n)

theorem fewA_length (n : Nat) (fr : Int) (j : Nat) : (fewA n fr j).length = j := by
  induction j with
  | zero => rfl
  | succ j ih => simp [fewA, ih]
theorem fewB_length (n : Nat) (fr : Int) (j : Nat) : (fewB n fr j).length = j := by
  induction j with
  | zero => rfl
  | succ j ih => simp [fewB, ih]
theorem few_length (n : Nat) (v : Int) (r : Nat) : (few n v r).length = r * (1 + 4 * n) := by
  induction r with
  | zero => simp [few]
  | succ r ih =>
    simp only [few, List.length_append, ih, fewA_length, fewB_length, List.length_singleton, Nat.succ_mul]
    omega

/-- nothing is decided, and the first turn sent a letter to each -/
def fewOk (n : Nat) (v : Int) (R : Nat) : Bool := (playB (bl0 n) (few n v R)).1.all (fun o => decide (o.dec = 0)) && decide (((playB (bl0 n) (few n v R)).1.head?.map (·.len)) = some (n : Int))

set_option maxRecDepth 100000 in
theorem few_all : ∀ n : Fin 5, ∀ v : Fin 9, ∀ R : Fin 3, fewOk (n + 1) ((v : Nat) + 1 : Int) (R + 1) = true := by decide +kernel

theorem playB_len (n : Nat) (hn : 1 ≤ n ∧ n ≤ 5) (ts : List Tn) : ∀ o ∈ (playB (bl0 n) ts).1, 0 ≤ o.len ∧ o.len ≤ 200 := by
  have : ∀ (ts : List Tn) (b : Bl), b.Ok n → ∀ o ∈ (playB b ts).1, 0 ≤ o.len ∧ o.len ≤ 200 := by
    intro ts
    induction ts with
    | nil => intro b _ o ho; cases ho
    | cons t ts ih =>
      intro b hb o ho
      rcases List.mem_cons.1 ho with rfl | ho
      · have := (hb.play t).mail
        simp only [Bl.oc]
        omega
      · exact ih _ (hb.play t) o ho
  exact this ts _ (Bl.Ok.start hn)

end Go.Proofs.Ytppcikfhhmiipaa
