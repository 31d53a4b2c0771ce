/- The library's 'valid UTF-8' (no step of the decoder errs) is the document's, as the reference reckons it ('signs'). No run of the model here. -/
import Derived.Test.YtedinkoapieakaaDoorLexPlain
import Derived.Lib.ValidU
namespace Go.Proofs.YtedinkoapieakaaDoor

theorem get_bytes (l : List UInt8) (k : Nat) : (ByteArray.mk l.toArray).get! k = l.getD k 0 := by
  show l.toArray[k]! = _
  simp [List.getD]
  rfl

theorem decode_sz (l : List UInt8) (hl : l ≠ []) :
    (sz l = 0 ∧ Lib.decodeL l = (65533, 1)) ∨ (0 < sz l ∧ (Lib.decodeL l).2 = sz l ∧ ¬ ((Lib.decodeL l).1 = 65533 ∧ (Lib.decodeL l).2 = 1)) := by
  have hlen : 0 < l.length := List.length_pos_iff.2 hl
  have b0 := (l.getD 0 0).toNat_lt
  have b1 := (l.getD 1 0).toNat_lt
  have b2 := (l.getD 2 0).toNat_lt
  have b3 := (l.getD 3 0).toNat_lt
  have hs : (ByteArray.mk l.toArray).size = l.length := by show l.toArray.size = _; simp
  unfold Lib.decodeL Utf8.decode sz goes code3 code4
  simp only [get_bytes, hs, if_neg hl, Nat.zero_add, Utf8.runeError, Utf8.valid]
  generalize (l.getD 0 0).toNat = x0 at *
  generalize (l.getD 1 0).toNat = x1 at *
  generalize (l.getD 2 0).toNat = x2 at *
  generalize (l.getD 3 0).toNat = x3 at *
  generalize l.length = n at *
  simp only [Bool.and_eq_true, decide_eq_true_eq, beq_iff_eq, ge_iff_le]
  by_cases h0 : x0 < 128
  · simp only [if_pos h0]
    right
    simp
    omega
  simp only [if_neg h0]
  by_cases h2 : 194 ≤ x0 ∧ x0 < 224
  · simp only [if_pos h2]
    by_cases c1 : 2 ≤ n ∧ 128 ≤ x1 ∧ x1 ≤ 191
    · have e1 : x0 / 32 = 6 ∧ 1 < n ∧ x1 / 64 = 2 := by omega
      have e2 : 128 ≤ x0 % 32 * 64 + x1 % 64 := by omega
      simp only [if_pos c1, if_pos e1, if_pos e2]
      right
      simp
    · have e1 : ¬ (x0 / 32 = 6 ∧ 1 < n ∧ x1 / 64 = 2) := by omega
      have e2 : ¬ (((x0 / 16 = 14 ∧ 1 < n ∧ x1 / 64 = 2)) ∧ 2 < n ∧ x2 / 64 = 2) := by omega
      have e3 : ¬ ((((x0 / 8 = 30 ∧ 1 < n ∧ x1 / 64 = 2)) ∧ 2 < n ∧ x2 / 64 = 2) ∧ 3 < n ∧ x3 / 64 = 2) := by omega
      simp only [if_neg c1, if_neg e1, if_neg e2, if_neg e3]
      left
      exact ⟨trivial, trivial⟩
  simp only [if_neg h2]
  by_cases h3 : 224 ≤ x0 ∧ x0 < 240
  · simp only [if_pos h3]
    have e1 : ¬ (x0 / 32 = 6 ∧ 1 < n ∧ x1 / 64 = 2) := by omega
    have e3 : ¬ ((((x0 / 8 = 30 ∧ 1 < n ∧ x1 / 64 = 2)) ∧ 2 < n ∧ x2 / 64 = 2) ∧ 3 < n ∧ x3 / 64 = 2) := by omega
    simp only [if_neg e1, if_neg e3]
    generalize hc : x0 % 16 * 4096 + x1 % 64 * 64 + x2 % 64 = c
    by_cases c1 : 3 ≤ n ∧ (128 ≤ x1 ∧ x1 ≤ 191) ∧ (128 ≤ x2 ∧ x2 ≤ 191) ∧ 2048 ≤ c ∧ ¬ (55296 ≤ c ∧ c ≤ 57343)
    · have e2 : (((x0 / 16 = 14 ∧ 1 < n ∧ x1 / 64 = 2)) ∧ 2 < n ∧ x2 / 64 = 2) := by omega
      simp only [if_pos c1, if_pos e2]
      right
      split <;> simp_all <;> omega
    · simp only [if_neg c1]
      left
      refine ⟨trivial, ?_⟩
      split
      · split
        · rename_i g1 g2
          exfalso
          simp at g2
          omega
        · rfl
      · rfl
  simp only [if_neg h3]
  have e1 : ¬ (x0 / 32 = 6 ∧ 1 < n ∧ x1 / 64 = 2) ∨ (x0 = 192 ∨ x0 = 193) ∧ 1 < n ∧ x1 / 64 = 2 := by omega
  have e2 : ¬ (((x0 / 16 = 14 ∧ 1 < n ∧ x1 / 64 = 2)) ∧ 2 < n ∧ x2 / 64 = 2) := by omega
  rcases e1 with e1 | e1
  · simp only [if_neg e1, if_neg e2]
    generalize hc : x0 % 8 * 262144 + x1 % 64 * 4096 + x2 % 64 * 64 + x3 % 64 = c
    by_cases h4 : 240 ≤ x0 ∧ x0 < 245
    · simp only [if_pos h4]
      by_cases c1 : 4 ≤ n ∧ (128 ≤ x1 ∧ x1 ≤ 191) ∧ (128 ≤ x2 ∧ x2 ≤ 191) ∧ (128 ≤ x3 ∧ x3 ≤ 191) ∧ 65536 ≤ c ∧ c ≤ 1114111
      · have e3 : ((((x0 / 8 = 30 ∧ 1 < n ∧ x1 / 64 = 2)) ∧ 2 < n ∧ x2 / 64 = 2) ∧ 3 < n ∧ x3 / 64 = 2) := by omega
        simp only [if_pos c1, if_pos e3]
        right
        split <;> simp_all <;> omega
      · simp only [if_neg c1]
        left
        refine ⟨trivial, ?_⟩
        split
        · split
          · rename_i g1 g2
            exfalso
            simp at g2
            omega
          · rfl
        · rfl
    · simp only [if_neg h4]
      left
      refine ⟨trivial, ?_⟩
      split
      · split
        · rename_i g1 g2
          exfalso
          simp at g2
          omega
        · rfl
      · rfl
  · have e4 : x0 / 32 = 6 ∧ 1 < n ∧ x1 / 64 = 2 := by omega
    have e5 : ¬ 128 ≤ x0 % 32 * 64 + x1 % 64 := by omega
    have h4 : ¬ (240 ≤ x0 ∧ x0 < 245) := by omega
    simp only [if_pos e4, if_neg e5, if_neg h4]
    left
    exact ⟨trivial, trivial⟩

theorem validGoD_signsN (n : Nat) (l : List UInt8) : Lib.validGoD n l = signsN n l := by
  induction n generalizing l with
  | zero => rfl
  | succ n ih =>
    by_cases hl : l = []
    · simp [Lib.validGoD, signsN, hl]
    · simp only [Lib.validGoD, signsN, if_neg hl]
      rcases decode_sz l hl with ⟨h1, h2⟩ | ⟨h1, h2, h3⟩
      · rw [h1, h2]
        simp
      · have h4 : ¬ sz l = 0 := by omega
        rw [if_neg h3, if_neg h4, h2, ih]

theorem validD_signs (l : List UInt8) : Lib.validD l = signs l := validGoD_signsN _ _

end Go.Proofs.YtedinkoapieakaaDoor
