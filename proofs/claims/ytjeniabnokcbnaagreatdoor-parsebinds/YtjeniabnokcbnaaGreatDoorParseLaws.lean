/- The sources that the statements of stage 7 name: their tokens; that they are cut so; that their beginnings are never wrong. No model here. -/
import Derived.Test.YtjeniabnokcbnaaGreatDoorParseMore
import Derived.Test.YtjeniabnokcbnaaGreatDoorLexJoinPlain
import Derived.Test.YtjeniabnokcbnaaGreatDoorLexCut
import Derived.Test.YtjeniabnokcbnaaGreatDoorLexToks
import Derived.Test.YtjeniabnokcbnaaGreatDoorChecked
import Derived.WalkKit
import Derived.ProofKit
import Derived.OpenShut
import Derived.Deep.RegionWith
import Derived.Test.YtjeniabnokcbnaaGreatDoorParseParse
import Derived.Test.YtjeniabnokcbnaaGreatDoorParseTabs
namespace Go.Proofs.YtjeniabnokcbnaaGreatDoor

def sampleTs : List (List Tok) := [
  [⟨1, 0, [99, 114, 101, 97, 116, 101]⟩, ⟨1, 0, [116, 97, 98, 108, 101]⟩, ⟨1, 0, [116]⟩, ⟨4, 0, [40]⟩, ⟨1, 0, [97]⟩, ⟨1, 0, [105, 110, 116]⟩, ⟨1, 0, [110, 111, 116]⟩, ⟨1, 0, [110, 117, 108, 108]⟩, ⟨4, 0, [44]⟩, ⟨1, 0, [98]⟩, ⟨1, 0, [116, 101, 120, 116]⟩, ⟨4, 0, [44]⟩, ⟨1, 0, [99]⟩, ⟨1, 0, [116, 114, 117, 116, 104]⟩, ⟨4, 0, [44]⟩, ⟨1, 0, [112, 114, 105, 109, 97, 114, 121]⟩, ⟨1, 0, [107, 101, 121]⟩, ⟨4, 0, [40]⟩, ⟨1, 0, [97]⟩, ⟨4, 0, [44]⟩, ⟨1, 0, [98]⟩, ⟨4, 0, [41]⟩, ⟨4, 0, [41]⟩],
  [⟨1, 0, [99, 114, 101, 97, 116, 101]⟩, ⟨1, 0, [105, 110, 100, 101, 120]⟩, ⟨1, 0, [105]⟩, ⟨1, 0, [111, 110]⟩, ⟨1, 0, [116]⟩, ⟨4, 0, [40]⟩, ⟨1, 0, [98]⟩, ⟨4, 0, [44]⟩, ⟨1, 0, [97]⟩, ⟨4, 0, [44]⟩, ⟨1, 0, [99]⟩, ⟨4, 0, [41]⟩],
  [⟨1, 0, [105, 110, 115, 101, 114, 116]⟩, ⟨1, 0, [105, 110, 116, 111]⟩, ⟨1, 0, [116]⟩, ⟨1, 0, [118, 97, 108, 117, 101, 115]⟩, ⟨4, 0, [40]⟩, ⟨2, 1, []⟩, ⟨4, 0, [43]⟩, ⟨2, 2, []⟩, ⟨4, 0, [44]⟩, ⟨3, 0, [120]⟩, ⟨4, 0, [44]⟩, ⟨1, 0, [110, 117, 108, 108]⟩, ⟨4, 0, [44]⟩, ⟨4, 0, [45]⟩, ⟨2, 3, []⟩, ⟨4, 0, [41]⟩],
  [⟨1, 0, [117, 112, 100, 97, 116, 101]⟩, ⟨1, 0, [116]⟩, ⟨1, 0, [115, 101, 116]⟩, ⟨1, 0, [97]⟩, ⟨4, 0, [61]⟩, ⟨1, 0, [97]⟩, ⟨4, 0, [43]⟩, ⟨2, 1, []⟩, ⟨4, 0, [44]⟩, ⟨1, 0, [98]⟩, ⟨4, 0, [61]⟩, ⟨3, 0, [121]⟩, ⟨1, 0, [119, 104, 101, 114, 101]⟩, ⟨1, 0, [110, 111, 116]⟩, ⟨1, 0, [97]⟩, ⟨1, 0, [105, 115]⟩, ⟨1, 0, [110, 117, 108, 108]⟩, ⟨1, 0, [111, 114]⟩, ⟨1, 0, [98]⟩, ⟨4, 0, [60, 62]⟩, ⟨3, 0, [122]⟩],
  [⟨1, 0, [100, 101, 108, 101, 116, 101]⟩, ⟨1, 0, [102, 114, 111, 109]⟩, ⟨1, 0, [116]⟩, ⟨1, 0, [119, 104, 101, 114, 101]⟩, ⟨1, 0, [97]⟩, ⟨4, 0, [62, 61]⟩, ⟨2, 3, []⟩, ⟨1, 0, [97, 110, 100]⟩, ⟨4, 0, [40]⟩, ⟨1, 0, [98]⟩, ⟨4, 0, [61]⟩, ⟨3, 0, [113]⟩, ⟨1, 0, [111, 114]⟩, ⟨1, 0, [99]⟩, ⟨4, 0, [41]⟩],
  [⟨1, 0, [115, 101, 108, 101, 99, 116]⟩, ⟨4, 0, [42]⟩, ⟨1, 0, [102, 114, 111, 109]⟩, ⟨1, 0, [116]⟩],
  [⟨1, 0, [115, 101, 108, 101, 99, 116]⟩, ⟨1, 0, [97]⟩, ⟨4, 0, [44]⟩, ⟨1, 0, [99, 111, 117, 110, 116]⟩, ⟨4, 0, [40]⟩, ⟨4, 0, [42]⟩, ⟨4, 0, [41]⟩, ⟨4, 0, [44]⟩, ⟨1, 0, [115, 117, 109]⟩, ⟨4, 0, [40]⟩, ⟨1, 0, [116]⟩, ⟨4, 0, [46]⟩, ⟨1, 0, [98]⟩, ⟨4, 0, [42]⟩, ⟨2, 2, []⟩, ⟨4, 0, [41]⟩, ⟨1, 0, [102, 114, 111, 109]⟩, ⟨1, 0, [116]⟩, ⟨1, 0, [106, 111, 105, 110]⟩, ⟨1, 0, [117]⟩, ⟨1, 0, [111, 110]⟩, ⟨1, 0, [116]⟩, ⟨4, 0, [46]⟩, ⟨1, 0, [97]⟩, ⟨4, 0, [61]⟩, ⟨1, 0, [117]⟩, ⟨4, 0, [46]⟩, ⟨1, 0, [120]⟩, ⟨1, 0, [119, 104, 101, 114, 101]⟩, ⟨1, 0, [97]⟩, ⟨4, 0, [60]⟩, ⟨2, 5, []⟩, ⟨1, 0, [103, 114, 111, 117, 112]⟩, ⟨1, 0, [98, 121]⟩, ⟨1, 0, [97]⟩, ⟨4, 0, [44]⟩, ⟨1, 0, [117]⟩, ⟨4, 0, [46]⟩, ⟨1, 0, [120]⟩, ⟨1, 0, [111, 114, 100, 101, 114]⟩, ⟨1, 0, [98, 121]⟩, ⟨2, 1, []⟩, ⟨1, 0, [100, 101, 115, 99]⟩, ⟨4, 0, [44]⟩, ⟨2, 2, []⟩, ⟨1, 0, [108, 105, 109, 105, 116]⟩, ⟨2, 9, []⟩],
  [⟨1, 0, [115, 101, 108, 101, 99, 116]⟩, ⟨1, 0, [109, 105, 110]⟩, ⟨4, 0, [40]⟩, ⟨1, 0, [97]⟩, ⟨4, 0, [41]⟩, ⟨4, 0, [44]⟩, ⟨1, 0, [109, 97, 120]⟩, ⟨4, 0, [40]⟩, ⟨1, 0, [98]⟩, ⟨4, 0, [41]⟩, ⟨4, 0, [44]⟩, ⟨1, 0, [99, 111, 117, 110, 116]⟩, ⟨4, 0, [40]⟩, ⟨1, 0, [99]⟩, ⟨4, 0, [41]⟩, ⟨1, 0, [102, 114, 111, 109]⟩, ⟨1, 0, [116]⟩, ⟨1, 0, [119, 104, 101, 114, 101]⟩, ⟨1, 0, [116, 114, 117, 101]⟩, ⟨1, 0, [97, 110, 100]⟩, ⟨1, 0, [97]⟩, ⟨1, 0, [105, 115]⟩, ⟨1, 0, [110, 111, 116]⟩, ⟨1, 0, [110, 117, 108, 108]⟩, ⟨1, 0, [108, 105, 109, 105, 116]⟩, ⟨2, 0, []⟩]]
def sampleT (m : Nat) : List Tok := sampleTs.getD m []
def sampleBs : List (List UInt8) := [
  [99, 114, 101, 97, 116, 101, 32, 116, 97, 98, 108, 101, 32, 116, 32, 40, 32, 97, 32, 105, 110, 116, 32, 110, 111, 116, 32, 110, 117, 108, 108, 32, 44, 32, 98, 32, 116, 101, 120, 116, 32, 44, 32, 99, 32, 116, 114, 117, 116, 104, 32, 44, 32, 112, 114, 105, 109, 97, 114, 121, 32, 107, 101, 121, 32, 40, 32, 97, 32, 44, 32, 98, 32, 41, 32, 41],
  [99, 114, 101, 97, 116, 101, 32, 105, 110, 100, 101, 120, 32, 105, 32, 111, 110, 32, 116, 32, 40, 32, 98, 32, 44, 32, 97, 32, 44, 32, 99, 32, 41],
  [105, 110, 115, 101, 114, 116, 32, 105, 110, 116, 111, 32, 116, 32, 118, 97, 108, 117, 101, 115, 32, 40, 32, 49, 32, 43, 32, 50, 32, 44, 32, 39, 120, 39, 32, 44, 32, 110, 117, 108, 108, 32, 44, 32, 45, 32, 51, 32, 41],
  [117, 112, 100, 97, 116, 101, 32, 116, 32, 115, 101, 116, 32, 97, 32, 61, 32, 97, 32, 43, 32, 49, 32, 44, 32, 98, 32, 61, 32, 39, 121, 39, 32, 119, 104, 101, 114, 101, 32, 110, 111, 116, 32, 97, 32, 105, 115, 32, 110, 117, 108, 108, 32, 111, 114, 32, 98, 32, 60, 62, 32, 39, 122, 39],
  [100, 101, 108, 101, 116, 101, 32, 102, 114, 111, 109, 32, 116, 32, 119, 104, 101, 114, 101, 32, 97, 32, 62, 61, 32, 51, 32, 97, 110, 100, 32, 40, 32, 98, 32, 61, 32, 39, 113, 39, 32, 111, 114, 32, 99, 32, 41],
  [115, 101, 108, 101, 99, 116, 32, 42, 32, 102, 114, 111, 109, 32, 116],
  [115, 101, 108, 101, 99, 116, 32, 97, 32, 44, 32, 99, 111, 117, 110, 116, 32, 40, 32, 42, 32, 41, 32, 44, 32, 115, 117, 109, 32, 40, 32, 116, 32, 46, 32, 98, 32, 42, 32, 50, 32, 41, 32, 102, 114, 111, 109, 32, 116, 32, 106, 111, 105, 110, 32, 117, 32, 111, 110, 32, 116, 32, 46, 32, 97, 32, 61, 32, 117, 32, 46, 32, 120, 32, 119, 104, 101, 114, 101, 32, 97, 32, 60, 32, 53, 32, 103, 114, 111, 117, 112, 32, 98, 121, 32, 97, 32, 44, 32, 117, 32, 46, 32, 120, 32, 111, 114, 100, 101, 114, 32, 98, 121, 32, 49, 32, 100, 101, 115, 99, 32, 44, 32, 50, 32, 108, 105, 109, 105, 116, 32, 57],
  [115, 101, 108, 101, 99, 116, 32, 109, 105, 110, 32, 40, 32, 97, 32, 41, 32, 44, 32, 109, 97, 120, 32, 40, 32, 98, 32, 41, 32, 44, 32, 99, 111, 117, 110, 116, 32, 40, 32, 99, 32, 41, 32, 102, 114, 111, 109, 32, 116, 32, 119, 104, 101, 114, 101, 32, 116, 114, 117, 101, 32, 97, 110, 100, 32, 97, 32, 105, 115, 32, 110, 111, 116, 32, 110, 117, 108, 108, 32, 108, 105, 109, 105, 116, 32, 48]]
def sampleB (m : Nat) : List UInt8 := sampleBs.getD m []

def AllMay' (ts : List Tok) : Bool := ts.all fun t => may t && decide (t.int ≤ 9223372036854775807)

theorem joined_cut {ts : List Tok} (hm : AllMay' ts = true) (hn : ts.length ≤ 300) (hl : (joined ts).length ≤ 2000) : CutIs (joined ts) ts 0 0 := by
  have hm' : ∀ t ∈ ts, may t = true ∧ t.int ≤ 9223372036854775807 := fun t ht => by
    have := List.all_eq_true.1 hm t ht
    simpa using this
  refine .inr ⟨hl, ?_⟩
  have := cuts_joined (l := joined ts ++ []) ts [] 0 [] ts 0 0 (by simp) hm' sep_nil (by simpa using hn) (.done _ _ (by simp [gap]))
  simpa using this

set_option maxRecDepth 100000 in
theorem samples_good : ∀ m, m < 8 → AllMay' (sampleT m) = true ∧ (sampleT m).length ≤ 60 ∧ 4 ≤ (sampleT m).length ∧ (sampleB m).length ≤ 2000 := by decide +kernel

set_option maxRecDepth 100000 in
theorem samples_joined : ∀ m, m < 8 → joined (sampleT m) = sampleB m := by decide +kernel

theorem sample_cut (m : Nat) (hm : m < 8) : CutIs (sampleB m) (sampleT m) 0 0 := by
  obtain ⟨h1, h2, h3, h4⟩ := samples_good m hm
  have hj := samples_joined m hm
  rw [← hj] at h4 ⊢
  exact joined_cut h1 (by omega) h4

/-- a beginning is a statement, or would have to go on -/
def shortOk (ts : List Tok) (n : Nat) : Bool :=
  let p := readP (ts.take n)
  (decide (p.2.2 = 0) && decide (p.2.1 = 0) && decide (p.1.kind ≠ 0)) || (decide (p.2.2 = 5) && decide (p.2.1 = n) && decide (p.1.kind = 0))

set_option maxRecDepth 100000 in
theorem samples_short : ∀ m, m < 8 → ((List.range (sampleT m).length).all (shortOk (sampleT m)) && decide ((readP (sampleT m)).2 = (0, 0))) = true := by decide +kernel

def badToks : List Tok := [⟨1, 0, [99, 114, 101, 97, 116, 101]⟩, ⟨1, 0, [105, 110, 116, 111]⟩, ⟨1, 0, [100, 101, 108, 101, 116, 101]⟩]
def wrongOk (ts : List Tok) (n w : Nat) : Bool :=
  (decide (w = 1) && decide ((ts.getD 0 zeroTok).text = [105, 110, 115, 101, 114, 116]) && decide (n = 1)) ||
    (let p := readP (ts.take n ++ [badToks.getD w zeroTok] ++ ts.drop n); decide (p.2 = (n, 4)) && decide (p.1.kind = 0))

set_option maxRecDepth 100000 in
theorem wrong0 : ((List.range (sampleT 0).length).all fun n => wrongOk (sampleT 0) (n + 1) 0 && wrongOk (sampleT 0) (n + 1) 1 && wrongOk (sampleT 0) (n + 1) 2) = true := by decide +kernel
set_option maxRecDepth 100000 in
theorem wrong1 : ((List.range (sampleT 1).length).all fun n => wrongOk (sampleT 1) (n + 1) 0 && wrongOk (sampleT 1) (n + 1) 1 && wrongOk (sampleT 1) (n + 1) 2) = true := by decide +kernel
set_option maxRecDepth 100000 in
theorem wrong2 : ((List.range (sampleT 2).length).all fun n => wrongOk (sampleT 2) (n + 1) 0 && wrongOk (sampleT 2) (n + 1) 1 && wrongOk (sampleT 2) (n + 1) 2) = true := by decide +kernel
set_option maxRecDepth 100000 in
theorem wrong3 : ((List.range (sampleT 3).length).all fun n => wrongOk (sampleT 3) (n + 1) 0 && wrongOk (sampleT 3) (n + 1) 1 && wrongOk (sampleT 3) (n + 1) 2) = true := by decide +kernel
set_option maxRecDepth 100000 in
theorem wrong4 : ((List.range (sampleT 4).length).all fun n => wrongOk (sampleT 4) (n + 1) 0 && wrongOk (sampleT 4) (n + 1) 1 && wrongOk (sampleT 4) (n + 1) 2) = true := by decide +kernel
set_option maxRecDepth 100000 in
theorem wrong5 : ((List.range (sampleT 5).length).all fun n => wrongOk (sampleT 5) (n + 1) 0 && wrongOk (sampleT 5) (n + 1) 1 && wrongOk (sampleT 5) (n + 1) 2) = true := by decide +kernel
set_option maxRecDepth 100000 in
theorem wrong6 : ((List.range (sampleT 6).length).all fun n => wrongOk (sampleT 6) (n + 1) 0 && wrongOk (sampleT 6) (n + 1) 1 && wrongOk (sampleT 6) (n + 1) 2) = true := by decide +kernel
set_option maxRecDepth 100000 in
theorem wrong7 : ((List.range (sampleT 7).length).all fun n => wrongOk (sampleT 7) (n + 1) 0 && wrongOk (sampleT 7) (n + 1) 1 && wrongOk (sampleT 7) (n + 1) 2) = true := by decide +kernel

theorem samples_wrong (m n w : Nat) (hm : m < 8) (hn : n < (sampleT m).length) (hw : w < 3) : wrongOk (sampleT m) (n + 1) w = true := by
  have key : ∀ ts, ((List.range ts.length).all fun n => wrongOk ts (n + 1) 0 && wrongOk ts (n + 1) 1 && wrongOk ts (n + 1) 2) = true → n < ts.length → wrongOk ts (n + 1) w = true := by
    intro ts h hn
    have := List.all_eq_true.1 h n (List.mem_range.2 hn)
    simp only [Bool.and_eq_true] at this
    rcases (show w = 0 ∨ w = 1 ∨ w = 2 by omega) with rfl | rfl | rfl
    · exact this.1.1
    · exact this.1.2
    · exact this.2
  rcases (show m = 0 ∨ m = 1 ∨ m = 2 ∨ m = 3 ∨ m = 4 ∨ m = 5 ∨ m = 6 ∨ m = 7 by omega) with rfl | rfl | rfl | rfl | rfl | rfl | rfl | rfl
  · exact key _ wrong0 hn
  · exact key _ wrong1 hn
  · exact key _ wrong2 hn
  · exact key _ wrong3 hn
  · exact key _ wrong4 hn
  · exact key _ wrong5 hn
  · exact key _ wrong6 hn
  · exact key _ wrong7 hn

end Go.Proofs.YtjeniabnokcbnaaGreatDoor

/- Rows of tokens that a call has laid: what they hold, a beginning of one, appended. -/
namespace Go.Proofs.YtjeniabnokcbnaaGreatDoor
open Go.ChangeShapes Go.WideShapes Go.ChangeAt Go.RowKit

theorem tokCells_at (ts : List Tok) : ∀ (i : Nat) (hi : i < ts.length), (tokCells ts)[i * 3]? = some (.int .i64 ts[i].kind) ∧ (tokCells ts)[i * 3 + 1]? = some (.int .i64 ts[i].int) ∧ (tokCells ts)[i * 3 + 2]? = some (.string (str ts[i].text)) := by
  induction ts with
  | nil => exact fun i hi => absurd hi (Nat.not_lt_zero _)
  | cons t ts ih =>
    have e : tokCells (t :: ts) = .int .i64 t.kind :: .int .i64 t.int :: .string (str t.text) :: tokCells ts := by simp [tokCells]
    rw [e]
    intro i hi
    cases i with
    | zero => exact ⟨rfl, rfl, rfl⟩
    | succ i =>
      have h := ih i (by simpa using hi)
      rw [show (i + 1) * 3 = i * 3 + 3 by omega]
      exact h

theorem own_toks {w : World} {base cap n : Nat} {ao : Option Addr} {ts : List Tok} (hn : n = ts.length) (hi : ∀ t ∈ ts, t.int ≤ 9223372036854775807) (h : w.ownsRow base 49 3 (.slice ao n cap) n (tokCells ts)) : Toks w ao cap ts ∧ ∀ a, ao = some a → a.block < w.heap.size := by
  subst hn
  have h0 := h
  rcases h.2 with ⟨h1, h2⟩ | ⟨g, cap', cur, h1, h2, h3, h4, _⟩
  · have : ts = [] := List.length_eq_zero_iff.1 h2
    subst this
    simp only [Value.slice.injEq] at h1
    exact ⟨⟨Nat.zero_le _, hi, .inl rfl⟩, fun a ha => by rw [h1.1] at ha; cases ha⟩
  · simp only [Value.slice.injEq] at h1
    obtain ⟨rfl, -, rfl⟩ := h1
    have hc := h0.cells (g := g) rfl
    have hg := (Array.getElem?_eq_some_iff.1 h3).1
    refine ⟨⟨h4, hi, .inr ⟨g, 0, rfl, hg, fun i hl => ?_⟩⟩, fun a ha => by cases ha; exact hg⟩
    obtain ⟨c0, c1, c2⟩ := tokCells_at ts i hl
    have d0 := hc _ _ c0
    have d1 := hc _ _ c1
    have d2 := hc _ _ c2
    rw [add_off] at d0 d1 d2
    rw [Nat.zero_add]
    exact ⟨d0, d1, d2⟩

theorem tokCells_take (ts : List Tok) (n : Nat) : tokCells (ts.take n) = (tokCells ts).take (n * 3) := by
  induction ts generalizing n with
  | nil => simp [tokCells]
  | cons t ts ih =>
    cases n with
    | zero => simp [tokCells]
    | succ n =>
      have e : ∀ l : List Tok, tokCells (t :: l) = .int .i64 t.kind :: .int .i64 t.int :: .string (str t.text) :: tokCells l := fun l => by simp [tokCells]
      rw [List.take_succ_cons, e, e, ih, show (n + 1) * 3 = n * 3 + 3 by omega]
      rfl

theorem tok_cells_one (ts : List Tok) : ∀ u ∈ tokCells ts, u.oneCell' = true := by
  intro u hu
  simp only [tokCells, List.mem_flatMap] at hu
  obtain ⟨t, _, hu⟩ := hu
  simp only [List.mem_cons, List.not_mem_nil, or_false] at hu
  rcases hu with rfl | rfl | rfl <;> rfl

end Go.Proofs.YtjeniabnokcbnaaGreatDoor

/- What Picked comes to: the rest from 0 on, at every whole number of 64 bits and every number above 0. -/
namespace Go.Proofs.YtjeniabnokcbnaaGreatDoor
open Go.ChangeShapes Go.WideShapes Go.ChangeAt Go.RowKit

theorem tmod_parts (a n : Int) (hn : 0 < n) : (a.tmod n < 0 → a.tmod n + n = a % n) ∧ (¬ a.tmod n < 0 → a.tmod n = a % n) ∧ - n < a.tmod n ∧ a.tmod n < n := by
  have h1 := Int.emod_nonneg a (Int.ne_of_gt hn)
  have h2 := Int.emod_lt_of_pos a hn
  rw [Int.tmod_eq_emod]
  split
  · omega
  · rename_i h
    have h3 : a % n ≠ 0 := fun e => h (.inr (Int.dvd_of_emod_eq_zero e))
    omega

theorem Picked_any (a n : Int) (n0 : 0 < n) (n1 : n ≤ 9223372036854775807) (w : World) :
    Calls Tryz.prog 4 #[.int .i64 a, .int .i64 n] w fun e w' => e = .returned (.int .i64 (a % n)) ∧ w = w' := by
  have h := tmod_parts a n n0
  have hn2 : ¬ n = 0 := by omega
  obtain ⟨r, hr⟩ : ∃ r, r = a % n := ⟨_, rfl⟩
  rw [← hr] at h
  rw [← hr]
  clear hr
  obtain ⟨h1, h2, b1, b2⟩ := h
  by_cases hneg : a.tmod n < 0
  · obtain rfl := h1 hneg
    clear h1 h2
    go_enter Tryz.func4, Tryz.ntmps4
    go_wp2
    go_ret
    exact ⟨rfl, rfl⟩
  · obtain rfl := h2 hneg
    clear h1 h2
    go_enter Tryz.func4, Tryz.ntmps4
    go_wp2
    go_ret
    exact ⟨rfl, rfl⟩

end Go.Proofs.YtjeniabnokcbnaaGreatDoor

/- What the walks of stage 7's statements share: Parse over tokens that may be, a statement's variable, the samples. -/
namespace Go.Proofs.YtjeniabnokcbnaaGreatDoor
open Go.ChangeShapes Go.WideShapes Go.ChangeAt Go.RowKit

theorem parseP_read {ts : List Tok} (hm : AllMay' ts = true) (hl : ts.length ≤ 300) : parseP ts = readP ts := by
  have : firstBad ts = none := firstBad_none fun j hj => by
    have := List.all_eq_true.1 hm ts[j] (List.getElem_mem _)
    simp only [Bool.and_eq_true] at this
    exact this.1
  unfold parseP
  rw [if_neg (by omega), this]

theorem AllMay'.int {ts : List Tok} (hm : AllMay' ts = true) : ∀ t ∈ ts, t.int ≤ 9223372036854775807 := fun t ht => by
  have := List.all_eq_true.1 hm t ht
  simp only [Bool.and_eq_true, decide_eq_true_eq] at this
  exact this.2

theorem Parse_read (ts : List Tok) (hm : AllMay' ts = true) (hl : ts.length ≤ 300) (n : Nat) (hn : n = ts.length) {ao : Option Addr} {cap : Nat} {w W : World} (tabs : ParseTabs w) (h : Hid (Below w.heap.size w W ∧ Toks W ao cap ts ∧ ∀ a, ao = some a → a.block < W.heap.size)) :
    Calls Tryz.prog 10 #[.slice ao n cap] W fun e W' => ∃ x : SD, e = .returned (.tuple #[stmval x, .int .i64 ((readP ts).2.1 : Int), .int .i64 (readP ts).2.2]) ∧ Hid (Below w.heap.size w W' ∧ Below W.heap.size W W' ∧ IsStm W.heap.size W' (readP ts).1 x) := by
  subst hn
  have tb := tabs.later h.out.1
  have := Parse_any ao cap ts W h.out.2.1 h.out.2.2 tb.lex.marks tb.lex.u8 tb.op
  rw [parseP_read hm hl] at this
  exact this.mono fun _ _ ⟨x, h1, h2⟩ => ⟨x, h1, h.out.1.trans (h2.out.1.mono h.out.1.size), h2.out⟩

/-- a variable of a statement, laid by a law -/
theorem law_var {w W : World} (hb : Below w.heap.size w W) (x : SD) : ∃ W', (W.alloc zeroStm).setCells W.heap.size 0 (stmCells x).toArray.toList = W' ∧ Hid (Below w.heap.size w W' ∧ Below W.heap.size W W' ∧ VarB W' W.heap.size (stmCells x)) := by
  have h1 : Below W.heap.size W (W.alloc zeroStm) := (Below.refl _ W).alloc (Nat.le_refl _) _
  have h2 := h1.trans ((setFrom_keeps W.heap.size (stmCells x) (W.alloc zeroStm) 0).below (Nat.le_refl _) h1.size)
  exact ⟨_, rfl, hb.trans (h2.mono hb.size), h2, (VarB.new W _ 34).all (stmCells x) rfl⟩

end Go.Proofs.YtjeniabnokcbnaaGreatDoor
