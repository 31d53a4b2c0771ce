/- The document's words on UTF-8 and on marks, as the reference reckons them: contracts, at every argument. -/
import Derived.Test.YtojfcafdegbkjaaDoorLexWord
namespace Go.Proofs.YtojfcafdegbkjaaDoor
open Go.ChangeShapes Go.WideShapes Go.ChangeAt Go.RowKit

theorem and_low (m : Nat) (hm : m = 7 ∨ m = 15 ∨ m = 31) (x : Nat) (hx : x < 256) : bits .and .i64 (x : Int) (m : Int) = ((x % (m + 1) : Nat) : Int) := by
  have h7 : ∀ x : Fin 256, bits .and .i64 ((x.val : Nat) : Int) 7 = ((x.val % 8 : Nat) : Int) := by decide +kernel
  have h15 : ∀ x : Fin 256, bits .and .i64 ((x.val : Nat) : Int) 15 = ((x.val % 16 : Nat) : Int) := by decide +kernel
  have h31 : ∀ x : Fin 256, bits .and .i64 ((x.val : Nat) : Int) 31 = ((x.val % 32 : Nat) : Int) := by decide +kernel
  rcases hm with rfl | rfl | rfl
  · exact h7 ⟨x, hx⟩
  · exact h15 ⟨x, hx⟩
  · exact h31 ⟨x, hx⟩

theorem and_63 (x : Nat) (hx : x < 256) : bits .and .u8 (x : Int) 63 = ((x % 64 : Nat) : Int) := by
  have h : ∀ x : Fin 256, bits .and .u8 ((x.val : Nat) : Int) 63 = ((x.val % 64 : Nat) : Int) := by decide +kernel
  exact h ⟨x, hx⟩

theorem signsN_fuel : ∀ (n m : Nat) (l : List UInt8), l.length ≤ n → l.length ≤ m → signsN n l = signsN m l
  | 0, m, l, hn, _ => by
    have : l = [] := List.eq_nil_of_length_eq_zero (by omega)
    subst this
    cases m <;> simp [signsN]
  | n + 1, 0, l, _, hm => by
    have : l = [] := List.eq_nil_of_length_eq_zero (by omega)
    subst this
    simp [signsN]
  | n + 1, m + 1, l, hn, hm => by
    simp only [signsN]
    by_cases hl : l = []
    · rw [if_pos hl, if_pos hl]
    · rw [if_neg hl, if_neg hl]
      by_cases hs : sz l = 0
      · rw [if_pos hs, if_pos hs]
      · rw [if_neg hs, if_neg hs]
        have := List.length_pos_iff.2 hl
        exact signsN_fuel n m _ (by rw [List.length_drop]; omega) (by rw [List.length_drop]; omega)

theorem signs_step (l : List UInt8) (hl : l ≠ []) : signs l = if sz l = 0 then false else signs (l.drop (sz l)) := by
  have h := List.length_pos_iff.2 hl
  unfold signs
  rw [signsN_fuel l.length (l.length - 1 + 1) l (Nat.le_refl _) (by omega)]
  simp only [signsN]
  rw [if_neg hl]
  by_cases hs : sz l = 0
  · rw [if_pos hs, if_pos hs]
  · rw [if_neg hs, if_neg hs]
    exact signsN_fuel _ _ _ (by rw [List.length_drop]; omega) (by rw [List.length_drop]; omega)

theorem sz_le (l : List UInt8) : sz l ≤ l.length := by
  unfold sz
  repeat' split
  all_goals first | omega | (have := List.length_pos_iff.2 ‹¬l = []›; omega)

theorem getD_at (s : ByteArray) (k : Nat) (hk : k < s.size) : (bts s).getD k 0 = s[k] := by
  have h : k < (bts s).length := by rw [← size_bytes]; exact hk
  have e : (bts s).getD k 0 = (bts s)[k] := by
    rw [List.getD_eq_getElem?_getD, List.getElem?_eq_getElem h]
    rfl
  exact e.trans (byte_at s k hk h).symm

/-- the number that the first bytes of a sign make -/
def codeTo (b : Nat) (l : List UInt8) : Nat → Nat
  | 0 => b
  | k + 1 => codeTo b l k * 64 + (l.getD (k + 1) 0).toNat % 64

theorem codeTo_lt {b : Nat} (hb : b < 32) (l : List UInt8) {k : Nat} (hk : k ≤ 3) : codeTo b l k < 8388608 ∧ (k ≤ 2 → codeTo b l k < 131072) := by
  match k, hk with
  | 0, _ => simp only [codeTo]; omega
  | 1, _ => simp only [codeTo]; omega
  | 2, _ => simp only [codeTo]; omega
  | 3, _ => simp only [codeTo]; omega

theorem sz_cases (l : List UInt8) (hl : l ≠ []) (n lo hi m : Nat) (hn : n = 2 ∧ lo = 194 ∧ hi = 224 ∧ m = 32 ∨ n = 3 ∧ lo = 224 ∧ hi = 240 ∧ m = 16 ∨ n = 4 ∧ lo = 240 ∧ hi = 245 ∧ m = 8)
    (h1 : lo ≤ (l.getD 0 0).toNat) (h2 : (l.getD 0 0).toNat < hi) :
    (l.length < n → sz l = 0) ∧ (∀ k, 1 ≤ k → k < n → goes l k = false → sz l = 0) ∧
    (n ≤ l.length → (∀ k, 1 ≤ k → k < n → goes l k = true) → sz l = if n = 3 ∧ (codeTo ((l.getD 0 0).toNat % m) l (n - 1) < 2048 ∨ 55296 ≤ codeTo ((l.getD 0 0).toNat % m) l (n - 1) ∧ codeTo ((l.getD 0 0).toNat % m) l (n - 1) ≤ 57343) ∨
      n = 4 ∧ (codeTo ((l.getD 0 0).toNat % m) l (n - 1) < 65536 ∨ 1114111 < codeTo ((l.getD 0 0).toNat % m) l (n - 1)) then 0 else n) := by
  unfold sz
  rw [if_neg hl]
  rcases hn with ⟨rfl, rfl, rfl, rfl⟩ | ⟨rfl, rfl, rfl, rfl⟩ | ⟨rfl, rfl, rfl, rfl⟩
  · rw [if_neg (by omega), if_pos (by omega)]
    refine ⟨fun h => if_neg (by omega), fun k h3 h4 h5 => ?_, fun h3 h4 => ?_⟩
    · obtain rfl : k = 1 := by omega
      rw [if_neg (by simp [h5])]
    · rw [if_pos ⟨h3, h4 1 (by omega) (by omega)⟩, if_neg (by omega)]
  · rw [if_neg (by omega), if_neg (by omega), if_pos (by omega)]
    refine ⟨fun h => if_neg (by omega), fun k h3 h4 h5 => ?_, fun h3 h4 => ?_⟩
    · rcases (show k = 1 ∨ k = 2 by omega) with rfl | rfl <;> rw [if_neg (by simp [h5])]
    · have g1 := h4 1 (by omega) (by omega)
      have g2 := h4 2 (by omega) (by omega)
      have hc : codeTo ((l.getD 0 0).toNat % 16) l (3 - 1) = code3 l := by simp only [codeTo, code3, Nat.zero_add, Nat.reduceAdd]; omega
      rw [hc]
      generalize code3 l = c
      by_cases h5 : 2048 ≤ c ∧ ¬ (55296 ≤ c ∧ c ≤ 57343)
      · rw [if_pos ⟨h3, g1, g2, h5.1, h5.2⟩, if_neg (by omega)]
      · rw [if_neg (fun h => h5 h.2.2.2), if_pos (by omega)]
  · rw [if_neg (by omega), if_neg (by omega), if_neg (by omega), if_pos (by omega)]
    refine ⟨fun h => if_neg (by omega), fun k h3 h4 h5 => ?_, fun h3 h4 => ?_⟩
    · rcases (show k = 1 ∨ k = 2 ∨ k = 3 by omega) with rfl | rfl | rfl <;> rw [if_neg (by simp [h5])]
    · have g1 := h4 1 (by omega) (by omega)
      have g2 := h4 2 (by omega) (by omega)
      have g3 := h4 3 (by omega) (by omega)
      have hc : codeTo ((l.getD 0 0).toNat % 8) l (4 - 1) = code4 l := by simp only [codeTo, code4, Nat.zero_add, Nat.reduceAdd]; omega
      rw [hc]
      generalize code4 l = c
      by_cases h5 : 65536 ≤ c ∧ c ≤ 1114111
      · rw [if_pos ⟨h3, g1, g2, g3, h5.1, h5.2⟩, if_neg (by omega)]
      · rw [if_neg (fun h => h5 h.2.2.2.2), if_pos (by omega)]

set_option maxRecDepth 100000 in
set_option maxHeartbeats 4000000 in
theorem runeSize_few (s : ByteArray) (hs : s.size ≤ 9223372036854775806) (w : World) (h : s.size = 0 ∨ ∃ hl0 : 0 < s.size, s[0].toNat < 194 ∨ 245 ≤ s[0].toNat) :
    Calls Tryd.prog 45 #[.string s] w fun e w' => e = .returned (.int .i64 (sz (bts s) : Int)) ∧ w = w' := by
  obtain ⟨N, hN⟩ : ∃ N, sz (bts s) = N := ⟨_, rfl⟩
  rw [hN]
  unfold sz at hN
  rcases h with h0 | ⟨hl0, h⟩
  · rw [if_pos ((empty_iff s).1 h0)] at hN
    subst hN
    have h01 : (s.size : Int) = 0 := by omega
    go_enter Tryd.func45, Tryd.ntmps45
    go_wp2
    go_ret
    exact ⟨rfl, rfl⟩
  rw [if_neg (fun h => by have := (empty_iff s).2 h; omega)] at hN
  have h01 : ¬ (s.size : Int) = 0 := by omega
  have hl1 : (0 : Int) < (s.size : Int) := by omega
  rw [getD_at s 0 hl0] at hN
  obtain ⟨x0, hx0⟩ : ∃ x, s[0].toNat = x := ⟨_, rfl⟩
  have b0 : x0 < 256 := by rw [← hx0]; exact s[0].toNat_lt
  rw [hx0] at hN h
  by_cases h1 : x0 < 128
  · rw [if_pos h1] at hN
    subst hN
    have h11 : (x0 : Int) < 128 := by omega
    go_enter Tryd.func45, Tryd.ntmps45
    go_wp2
    go_ret
    exact ⟨rfl, rfl⟩
  rw [if_neg h1, if_neg (by omega), if_neg (by omega), if_neg (by omega)] at hN
  subst hN
  have h11 : ¬ (x0 : Int) < 128 := by omega
  rcases h with h | h
  · have g1 : ¬ (194 : Int) ≤ (x0 : Int) := by omega
    have g2 : ¬ (224 : Int) ≤ (x0 : Int) := by omega
    have g3 : ¬ (240 : Int) ≤ (x0 : Int) := by omega
    clear h
    go_enter Tryd.func45, Tryd.ntmps45
    go_wp2
    go_ret
    exact ⟨rfl, rfl⟩
  · have g1 : ¬ (x0 : Int) < 224 := by omega
    have g2 : ¬ (x0 : Int) < 240 := by omega
    have g3 : ¬ (x0 : Int) < 245 := by omega
    clear h
    go_enter Tryd.func45, Tryd.ntmps45
    go_wp2
    go_ret
    exact ⟨rfl, rfl⟩

end Go.Proofs.YtojfcafdegbkjaaDoor
