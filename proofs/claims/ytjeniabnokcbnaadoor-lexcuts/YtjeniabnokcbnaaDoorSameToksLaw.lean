/- The same tokens are told as the same (sameTokens). -/
import Derived.Test.YtjeniabnokcbnaaDoorLexCut
import Derived.Test.YtjeniabnokcbnaaDoorLexToks
import Derived.Deep.QuietTactic
import Derived.BigQuiet
namespace Go.Proofs.YtjeniabnokcbnaaDoor
open Go.ChangeShapes Go.WideShapes Go.ChangeAt Go.RowKit

set_option maxRecDepth 100000 in
set_option maxHeartbeats 4000000 in
theorem sameTokens_law (ao ao2 : Option Addr) (cap cap2 : Nat) (ts : List Tok) (hlen : ts.length ≤ 300) (w : World) (h1 : Toks w ao cap ts) (h2 : Toks w ao2 cap2 ts) :
    Calls Tryd.prog 7 #[.slice ao ts.length cap, .slice ao2 ts.length cap2] w fun e w' => e = .returned (.bool true) ∧ Below w.heap.size w w' := by
  have H1 := hidden h1
  have H2 := hidden h2
  obtain ⟨n, hn⟩ : ∃ n, ts.length = n := ⟨_, rfl⟩
  have HN := hidden hn
  rw [hn] at hlen ⊢
  clear h1 h2 hn
  go_enter Tryd.func7, Tryd.ntmps7
  go_wp2
  go_loopw [5] (fun x wr => ∃ k : Nat, k ≤ n ∧ x = .int .i64 (k : Int) ∧ Hid (Below w.heap.size w wr)) (fun x _ => n - (intOf x).toNat)
  case atStart => exact ⟨0, Nat.zero_le _, rfl, Below.refl _ _⟩
  case round =>
    obtain ⟨k, hk, rfl, HB⟩ := hrel
    by_cases hlt : k < n
    · have hlt1 : (k : Int) < (n : Int) := by omega
      have hlt2 : k < ts.length := by rw [HN.out]; exact hlt
      obtain ⟨b, off, rfl, hbw, hcell⟩ : ∃ b off, ao = some ⟨b, off, none⟩ ∧ b < w.heap.size ∧ ∀ i (hi : i < ts.length), w.cell? ⟨b, off + i * 3, none⟩ = some (.int .i64 ts[i].kind) ∧ w.cell? ⟨b, off + i * 3 + 1, none⟩ = some (.int .i64 ts[i].int) ∧ w.cell? ⟨b, off + i * 3 + 2, none⟩ = some (.string (str ts[i].text)) := by
        rcases H1.out.2.2 with h | h
        · rw [h] at hlt2
          cases hlt2
        · exact h
      obtain ⟨b', off', rfl, hbw', hcell'⟩ : ∃ b off, ao2 = some ⟨b, off, none⟩ ∧ b < w.heap.size ∧ ∀ i (hi : i < ts.length), w.cell? ⟨b, off + i * 3, none⟩ = some (.int .i64 ts[i].kind) ∧ w.cell? ⟨b, off + i * 3 + 1, none⟩ = some (.int .i64 ts[i].int) ∧ w.cell? ⟨b, off + i * 3 + 2, none⟩ = some (.string (str ts[i].text)) := by
        rcases H2.out.2.2 with h | h
        · rw [h] at hlt2
          cases hlt2
        · exact h
      obtain ⟨e0, e1, e2⟩ := hcell k hlt2
      obtain ⟨d0, d1, d2⟩ := hcell' k hlt2
      have c0 := (HB.out.cell (p := ⟨b, off + k * 3, none⟩) hbw).trans e0
      have c1 := (HB.out.cell (p := ⟨b, off + k * 3 + 1, none⟩) hbw).trans e1
      have c2 := (HB.out.cell (p := ⟨b, off + k * 3 + 2, none⟩) hbw).trans e2
      have c3 := (HB.out.cell (p := ⟨b', off' + k * 3, none⟩) hbw').trans d0
      have c4 := (HB.out.cell (p := ⟨b', off' + k * 3 + 1, none⟩) hbw').trans d1
      have c5 := (HB.out.cell (p := ⟨b', off' + k * 3 + 2, none⟩) hbw').trans d2
      clear hcell hcell' e0 e1 e2 d0 d1 d2
      generalize ts[k] = t at c0 c1 c2 c3 c4 c5
      go_wp2_with (go_region)
      all_goals
        go_roundw
        case rel => exact ⟨k + 1, by omega, by go_num, HB.out.drew⟩
        case measure => simp [intOf]; omega
    · have hlt1 : ¬ (k : Int) < (n : Int) := by omega
      go_wp2
      go_ret
      exact ⟨rfl, HB.out⟩

end Go.Proofs.YtjeniabnokcbnaaDoor
