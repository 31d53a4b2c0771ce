/- The document's words on UTF-8 and on marks, as the reference reckons them: contracts, at every argument. -/
import Derived.Test.YtedinkoapieakaaDoorLexWord
namespace Go.Proofs.YtedinkoapieakaaDoor
open Go.ChangeShapes Go.WideShapes Go.ChangeAt Go.RowKit

theorem and_low (m : Nat) (hm : m = 7 ∨ m = 15 ∨ m = 31) (x : Nat) (hx : x < 256) : bits .and .i64 (x : Int) (m : Int) = ((x % (m + 1) : Nat) : Int) := by
  have h7 : ∀ x : Fin 256, bits .and .i64 ((x.val : Nat) : Int) 7 = ((x.val % 8 : Nat) : Int) := by decide +kernel
  have h15 : ∀ x : Fin 256, bits .and .i64 ((x.val : Nat) : Int) 15 = ((x.val % 16 : Nat) : Int) := by decide +kernel
  have h31 : ∀ x : Fin 256, bits .and .i64 ((x.val : Nat) : Int) 31 = ((x.val % 32 : Nat) : Int) := by decide +kernel
  rcases hm with rfl | rfl | rfl
  · exact h7 ⟨x, hx⟩
  · exact h15 ⟨x, hx⟩
  · exact h31 ⟨x, hx⟩

theorem and_63 (x : Nat) (hx : x < 256) : bits .and .u8 (x : Int) 63 = ((x % 64 : Nat) : Int) := by
  have h : ∀ x : Fin 256, bits .and .u8 ((x.val : Nat) : Int) 63 = ((x.val % 64 : Nat) : Int) := by decide +kernel
  exact h ⟨x, hx⟩

theorem signsN_fuel : ∀ (n m : Nat) (l : List UInt8), l.length ≤ n → l.length ≤ m → signsN n l = signsN m l
  | 0, m, l, hn, _ => by
    have : l = [] := List.eq_nil_of_length_eq_zero (by omega)
    subst this
    cases m <;> simp [signsN]
  | n + 1, 0, l, _, hm => by
    have : l = [] := List.eq_nil_of_length_eq_zero (by omega)
    subst this
    simp [signsN]
  | n + 1, m + 1, l, hn, hm => by
    simp only [signsN]
    by_cases hl : l = []
    · rw [if_pos hl, if_pos hl]
    · rw [if_neg hl, if_neg hl]
      by_cases hs : sz l = 0
      · rw [if_pos hs, if_pos hs]
      · rw [if_neg hs, if_neg hs]
        have := List.length_pos_iff.2 hl
        exact signsN_fuel n m _ (by rw [List.length_drop]; omega) (by rw [List.length_drop]; omega)

theorem signs_step (l : List UInt8) (hl : l ≠ []) : signs l = if sz l = 0 then false else signs (l.drop (sz l)) := by
  have h := List.length_pos_iff.2 hl
  unfold signs
  rw [signsN_fuel l.length (l.length - 1 + 1) l (Nat.le_refl _) (by omega)]
  simp only [signsN]
  rw [if_neg hl]
  by_cases hs : sz l = 0
  · rw [if_pos hs, if_pos hs]
  · rw [if_neg hs, if_neg hs]
    exact signsN_fuel _ _ _ (by rw [List.length_drop]; omega) (by rw [List.length_drop]; omega)

theorem sz_le (l : List UInt8) : sz l ≤ l.length := by
  unfold sz
  repeat' split
  all_goals first | omega | (have := List.length_pos_iff.2 ‹¬l = []›; omega)

theorem getD_at (s : ByteArray) (k : Nat) (hk : k < s.size) : (bts s).getD k 0 = s[k] := by
  have h : k < (bts s).length := by rw [← size_bytes]; exact hk
  have e : (bts s).getD k 0 = (bts s)[k] := by
    rw [List.getD_eq_getElem?_getD, List.getElem?_eq_getElem h]
    rfl
  exact e.trans (byte_at s k hk h).symm

/-- the number that the first bytes of a sign make -/
def codeTo (b : Nat) (l : List UInt8) : Nat → Nat
  | 0 => b
  | k + 1 => codeTo b l k * 64 + (l.getD (k + 1) 0).toNat % 64

theorem codeTo_lt {b : Nat} (hb : b < 32) (l : List UInt8) {k : Nat} (hk : k ≤ 3) : codeTo b l k < 8388608 ∧ (k ≤ 2 → codeTo b l k < 131072) := by
  match k, hk with
  | 0, _ => simp only [codeTo]; omega
  | 1, _ => simp only [codeTo]; omega
  | 2, _ => simp only [codeTo]; omega
  | 3, _ => simp only [codeTo]; omega

theorem sz_cases (l : List UInt8) (hl : l ≠ []) (n lo hi m : Nat) (hn : n = 2 ∧ lo = 194 ∧ hi = 224 ∧ m = 32 ∨ n = 3 ∧ lo = 224 ∧ hi = 240 ∧ m = 16 ∨ n = 4 ∧ lo = 240 ∧ hi = 245 ∧ m = 8)
    (h1 : lo ≤ (l.getD 0 0).toNat) (h2 : (l.getD 0 0).toNat < hi) :
    (l.length < n → sz l = 0) ∧ (∀ k, 1 ≤ k → k < n → goes l k = false → sz l = 0) ∧
    (n ≤ l.length → (∀ k, 1 ≤ k → k < n → goes l k = true) → sz l = if n = 3 ∧ (codeTo ((l.getD 0 0).toNat % m) l (n - 1) < 2048 ∨ 55296 ≤ codeTo ((l.getD 0 0).toNat % m) l (n - 1) ∧ codeTo ((l.getD 0 0).toNat % m) l (n - 1) ≤ 57343) ∨
      n = 4 ∧ (codeTo ((l.getD 0 0).toNat % m) l (n - 1) < 65536 ∨ 1114111 < codeTo ((l.getD 0 0).toNat % m) l (n - 1)) then 0 else n) := by
  unfold sz
  rw [if_neg hl]
  rcases hn with ⟨rfl, rfl, rfl, rfl⟩ | ⟨rfl, rfl, rfl, rfl⟩ | ⟨rfl, rfl, rfl, rfl⟩
  · rw [if_neg (by omega), if_pos (by omega)]
    refine ⟨fun h => if_neg (by omega), fun k h3 h4 h5 => ?_, fun h3 h4 => ?_⟩
    · obtain rfl : k = 1 := by omega
      rw [if_neg (by simp [h5])]
    · rw [if_pos ⟨h3, h4 1 (by omega) (by omega)⟩, if_neg (by omega)]
  · rw [if_neg (by omega), if_neg (by omega), if_pos (by omega)]
    refine ⟨fun h => if_neg (by omega), fun k h3 h4 h5 => ?_, fun h3 h4 => ?_⟩
    · rcases (show k = 1 ∨ k = 2 by omega) with rfl | rfl <;> rw [if_neg (by simp [h5])]
    · have g1 := h4 1 (by omega) (by omega)
      have g2 := h4 2 (by omega) (by omega)
      have hc : codeTo ((l.getD 0 0).toNat % 16) l (3 - 1) = code3 l := by simp only [codeTo, code3, Nat.zero_add, Nat.reduceAdd]; omega
      rw [hc]
      generalize code3 l = c
      by_cases h5 : 2048 ≤ c ∧ ¬ (55296 ≤ c ∧ c ≤ 57343)
      · rw [if_pos ⟨h3, g1, g2, h5.1, h5.2⟩, if_neg (by omega)]
      · rw [if_neg (fun h => h5 h.2.2.2), if_pos (by omega)]
  · rw [if_neg (by omega), if_neg (by omega), if_neg (by omega), if_pos (by omega)]
    refine ⟨fun h => if_neg (by omega), fun k h3 h4 h5 => ?_, fun h3 h4 => ?_⟩
    · rcases (show k = 1 ∨ k = 2 ∨ k = 3 by omega) with rfl | rfl | rfl <;> rw [if_neg (by simp [h5])]
    · have g1 := h4 1 (by omega) (by omega)
      have g2 := h4 2 (by omega) (by omega)
      have g3 := h4 3 (by omega) (by omega)
      have hc : codeTo ((l.getD 0 0).toNat % 8) l (4 - 1) = code4 l := by simp only [codeTo, code4, Nat.zero_add, Nat.reduceAdd]; omega
      rw [hc]
      generalize code4 l = c
      by_cases h5 : 65536 ≤ c ∧ c ≤ 1114111
      · rw [if_pos ⟨h3, g1, g2, g3, h5.1, h5.2⟩, if_neg (by omega)]
      · rw [if_neg (fun h => h5 h.2.2.2.2), if_pos (by omega)]

set_option maxRecDepth 100000 in
set_option maxHeartbeats 4000000 in
theorem runeSize_few (s : ByteArray) (hs : s.size ≤ 9223372036854775806) (w : World) (h : s.size = 0 ∨ ∃ hl0 : 0 < s.size, s[0].toNat < 194 ∨ 245 ≤ s[0].toNat) :
    Calls Tryd.prog 63 #[.string s] w fun e w' => e = .returned (.int .i64 (sz (bts s) : Int)) ∧ w = w' := by
  obtain ⟨N, hN⟩ : ∃ N, sz (bts s) = N := ⟨_, rfl⟩
  rw [hN]
  unfold sz at hN
  rcases h with h0 | ⟨hl0, h⟩
  · rw [if_pos ((empty_iff s).1 h0)] at hN
    subst hN
    have h01 : (s.size : Int) = 0 := by omega
    go_enter Tryd.func63, Tryd.ntmps63
    go_wp2
    go_ret
    exact ⟨rfl, rfl⟩
  rw [if_neg (fun h => by have := (empty_iff s).2 h; omega)] at hN
  have h01 : ¬ (s.size : Int) = 0 := by omega
  have hl1 : (0 : Int) < (s.size : Int) := by omega
  rw [getD_at s 0 hl0] at hN
  obtain ⟨x0, hx0⟩ : ∃ x, s[0].toNat = x := ⟨_, rfl⟩
  have b0 : x0 < 256 := by rw [← hx0]; exact s[0].toNat_lt
  rw [hx0] at hN h
  by_cases h1 : x0 < 128
  · rw [if_pos h1] at hN
    subst hN
    have h11 : (x0 : Int) < 128 := by omega
    go_enter Tryd.func63, Tryd.ntmps63
    go_wp2
    go_ret
    exact ⟨rfl, rfl⟩
  rw [if_neg h1, if_neg (by omega), if_neg (by omega), if_neg (by omega)] at hN
  subst hN
  have h11 : ¬ (x0 : Int) < 128 := by omega
  rcases h with h | h
  · have g1 : ¬ (194 : Int) ≤ (x0 : Int) := by omega
    have g2 : ¬ (224 : Int) ≤ (x0 : Int) := by omega
    have g3 : ¬ (240 : Int) ≤ (x0 : Int) := by omega
    clear h
    go_enter Tryd.func63, Tryd.ntmps63
    go_wp2
    go_ret
    exact ⟨rfl, rfl⟩
  · have g1 : ¬ (x0 : Int) < 224 := by omega
    have g2 : ¬ (x0 : Int) < 240 := by omega
    have g3 : ¬ (x0 : Int) < 245 := by omega
    clear h
    go_enter Tryd.func63, Tryd.ntmps63
    go_wp2
    go_ret
    exact ⟨rfl, rfl⟩

end Go.Proofs.YtedinkoapieakaaDoor

/- The document's words on UTF-8, as the reference reckons them: a sign of two bytes. -/
namespace Go.Proofs.YtedinkoapieakaaDoor
open Go.ChangeShapes Go.WideShapes Go.ChangeAt Go.RowKit

set_option maxRecDepth 100000 in
set_option maxHeartbeats 4000000 in
theorem runeSize_two (s : ByteArray) (hs : s.size ≤ 9223372036854775806) (w : World) (hl0 : 0 < s.size) (h1 : 194 ≤ s[0].toNat) (h2 : s[0].toNat < 224) :
    Calls Tryd.prog 63 #[.string s] w fun e w' => e = .returned (.int .i64 (sz (bts s) : Int)) ∧ w = w' := by
  have hz := size_bytes s
  have hcs := sz_cases (bts s) (fun h => by have := (empty_iff s).2 h; omega) 2 194 224 32 (by omega) (by rw [getD_at s 0 hl0]; exact h1) (by rw [getD_at s 0 hl0]; exact h2)
  rw [getD_at s 0 hl0, ← hz] at hcs
  obtain ⟨N, hN⟩ : ∃ N, sz (bts s) = N := ⟨_, rfl⟩
  rw [hN] at hcs ⊢
  clear hN hz
  obtain ⟨k1, k2, k3⟩ := hcs
  have h01 : ¬ (s.size : Int) = 0 := by omega
  have hl1 : (0 : Int) < (s.size : Int) := by omega
  obtain ⟨x0, hx0⟩ : ∃ x, s[0].toNat = x := ⟨_, rfl⟩
  have b0 : x0 < 256 := by rw [← hx0]; exact s[0].toNat_lt
  rw [hx0] at h1 h2 k3
  have h11 : ¬ (x0 : Int) < 128 := by omega
  have g1 : (194 : Int) ≤ (x0 : Int) := by omega
  have g2 : (x0 : Int) < 224 := by omega
  have hA : bits .and .i64 (x0 : Int) 31 = ((x0 % 32 : Nat) : Int) := and_low 31 (by omega) x0 b0
  obtain ⟨y0, hy0⟩ : ∃ y, x0 % 32 = y := ⟨_, rfl⟩
  have c0 : y0 < 32 := by omega
  rw [hy0] at hA k3
  clear hy0
  by_cases n2 : s.size < 2
  · have R := k1 n2
    subst R
    have n21 : (s.size : Int) < 2 := by omega
    clear k1 k2 k3 h1 h2
    go_enter Tryd.func63, Tryd.ntmps63
    go_wp2
    go_ret
    exact ⟨rfl, rfl⟩
  have n21 : ¬ (s.size : Int) < 2 := by omega
  have K2 : Hid (∀ k, 1 ≤ k → k < 2 → goes (bts s) k = false → N = 0) := k2
  have K3 := k3 (by omega)
  have K3 : Hid ((∀ k, 1 ≤ k → k < 2 → goes (bts s) k = true) → N = if 2 = 3 ∧ (codeTo y0 (bts s) (2 - 1) < 2048 ∨ 55296 ≤ codeTo y0 (bts s) (2 - 1) ∧ codeTo y0 (bts s) (2 - 1) ≤ 57343) ∨
      2 = 4 ∧ (codeTo y0 (bts s) (2 - 1) < 65536 ∨ 1114111 < codeTo y0 (bts s) (2 - 1)) then 0 else 2) := K3
  clear k1 k2 k3 h1 h2
  go_enter Tryd.func63, Tryd.ntmps63
  go_wp2
  go_loopw [5, 6] (fun c x wr => ∃ k q : Nat, k < 2 ∧ c = .int .i64 (q : Int) ∧ x = .int .i64 (k + 1 : Nat) ∧ wr = w ∧ Hid (q = codeTo y0 (bts s) k ∧ ∀ j, 1 ≤ j → j ≤ k → goes (bts s) j = true)) (fun _ x _ => 2 - (intOf x).toNat)
  case atStart => exact ⟨0, y0, by omega, rfl, rfl, rfl, rfl, fun j h1 h2 => by omega⟩
  case round =>
    obtain ⟨k, q, hk, rfl, rfl, rfl, H⟩ := hrel
    have hq := codeTo_lt (show y0 < 32 by omega) (bts s) (show k ≤ 3 by omega)
    rw [← H.out.1] at hq
    by_cases hlt : k + 1 < 2
    · have hq2 := hq.2 (by omega)
      have hlt1 : ((k + 1 : Nat) : Int) < 2 := by omega
      have hl2 : ((k + 1 : Nat) : Int) < (s.size : Int) := by omega
      have hl3 : k + 1 < s.size := by omega
      obtain ⟨x1, hx1⟩ : ∃ x, s[k + 1].toNat = x := ⟨_, rfl⟩
      have b1 : x1 < 256 := by rw [← hx1]; exact s[k + 1].toNat_lt
      have hB := and_63 x1 b1
      have hG : goes (bts s) (k + 1) = (decide (128 ≤ x1) && decide (x1 ≤ 191)) := by unfold goes; rw [getD_at s (k + 1) hl3, hx1]
      have hC : codeTo y0 (bts s) (k + 1) = q * 64 + x1 % 64 := by
        show codeTo y0 (bts s) k * 64 + ((bts s).getD (k + 1) 0).toNat % 64 = _
        rw [← H.out.1, getD_at s (k + 1) hl3, hx1]
      obtain ⟨y1, hy1⟩ : ∃ y, x1 % 64 = y := ⟨_, rfl⟩
      have c1 : y1 < 64 := by omega
      rw [hy1] at hB hC
      clear hy1 hq
      by_cases p1 : x1 < 128
      · have R : N = 0 := K2.out (k + 1) (by omega) hlt (by rw [hG, decide_eq_false (by omega)]; rfl)
        subst R
        have p11 : (x1 : Int) < 128 := by omega
        clear hG hC
        go_wp2
        go_ret
        exact ⟨rfl, rfl⟩
      have p11 : ¬ (x1 : Int) < 128 := by omega
      by_cases p2 : 191 < x1
      · have R : N = 0 := K2.out (k + 1) (by omega) hlt (by rw [hG, decide_eq_false (show ¬ x1 ≤ 191 by omega)]; simp)
        subst R
        have p21 : (191 : Int) < (x1 : Int) := by omega
        clear hG hC
        go_wp2
        go_ret
        exact ⟨rfl, rfl⟩
      · have p21 : ¬ (191 : Int) < (x1 : Int) := by omega
        have R : Hid (q * 64 + y1 = codeTo y0 (bts s) (k + 1) ∧ ∀ j, 1 ≤ j → j ≤ k + 1 → goes (bts s) j = true) := by
          refine ⟨hC.symm, fun j h1 h2 => ?_⟩
          by_cases hj : j = k + 1
          · subst hj
            rw [hG, decide_eq_true (show 128 ≤ x1 by omega), decide_eq_true (show x1 ≤ 191 by omega)]
            rfl
          · exact H.out.2 j h1 (by omega)
        clear hG hC
        go_wp2
        go_roundw
        case rel => exact ⟨k + 1, q * 64 + y1, by omega, by go_num, by go_num, by trivial, R⟩
        case measure => simp [intOf]; omega
    · have hk1 : k + 1 = 2 := by omega
      have hk2 : k = 1 := by omega
      subst hk2
      have R := K3.out (fun j h1 h2 => H.out.2 j h1 (by omega))
      have e : codeTo y0 (bts s) (2 - 1) = q := H.out.1.symm
      rw [e] at R
      have hlt1 : ¬ ((2 : Nat) : Int) < 2 := by omega
      clear K2 K3 e hk1 hlt hk
      rw [if_neg (by omega)] at R
      subst R
      go_wp2
      go_ret
      exact ⟨rfl, rfl⟩

end Go.Proofs.YtedinkoapieakaaDoor

/- The document's words on UTF-8, as the reference reckons them: a sign of three bytes. -/
namespace Go.Proofs.YtedinkoapieakaaDoor
open Go.ChangeShapes Go.WideShapes Go.ChangeAt Go.RowKit

set_option maxRecDepth 100000 in
set_option maxHeartbeats 4000000 in
theorem runeSize_three (s : ByteArray) (hs : s.size ≤ 9223372036854775806) (w : World) (hl0 : 0 < s.size) (h1 : 224 ≤ s[0].toNat) (h2 : s[0].toNat < 240) :
    Calls Tryd.prog 63 #[.string s] w fun e w' => e = .returned (.int .i64 (sz (bts s) : Int)) ∧ w = w' := by
  have hz := size_bytes s
  have hcs := sz_cases (bts s) (fun h => by have := (empty_iff s).2 h; omega) 3 224 240 16 (by omega) (by rw [getD_at s 0 hl0]; exact h1) (by rw [getD_at s 0 hl0]; exact h2)
  rw [getD_at s 0 hl0, ← hz] at hcs
  obtain ⟨N, hN⟩ : ∃ N, sz (bts s) = N := ⟨_, rfl⟩
  rw [hN] at hcs ⊢
  clear hN hz
  obtain ⟨k1, k2, k3⟩ := hcs
  have h01 : ¬ (s.size : Int) = 0 := by omega
  have hl1 : (0 : Int) < (s.size : Int) := by omega
  obtain ⟨x0, hx0⟩ : ∃ x, s[0].toNat = x := ⟨_, rfl⟩
  have b0 : x0 < 256 := by rw [← hx0]; exact s[0].toNat_lt
  rw [hx0] at h1 h2 k3
  have h11 : ¬ (x0 : Int) < 128 := by omega
  have g1 : (224 : Int) ≤ (x0 : Int) := by omega
  have g2 : (x0 : Int) < 240 := by omega
  have g3 : ¬ (x0 : Int) < 224 := by omega
  have hA : bits .and .i64 (x0 : Int) 15 = ((x0 % 16 : Nat) : Int) := and_low 15 (by omega) x0 b0
  obtain ⟨y0, hy0⟩ : ∃ y, x0 % 16 = y := ⟨_, rfl⟩
  have c0 : y0 < 16 := by omega
  rw [hy0] at hA k3
  clear hy0
  by_cases n2 : s.size < 3
  · have R := k1 n2
    subst R
    have n21 : (s.size : Int) < 3 := by omega
    clear k1 k2 k3 h1 h2
    go_enter Tryd.func63, Tryd.ntmps63
    go_wp2
    go_ret
    exact ⟨rfl, rfl⟩
  have n21 : ¬ (s.size : Int) < 3 := by omega
  have K2 : Hid (∀ k, 1 ≤ k → k < 3 → goes (bts s) k = false → N = 0) := k2
  have K3 := k3 (by omega)
  have K3 : Hid ((∀ k, 1 ≤ k → k < 3 → goes (bts s) k = true) → N = if 3 = 3 ∧ (codeTo y0 (bts s) (3 - 1) < 2048 ∨ 55296 ≤ codeTo y0 (bts s) (3 - 1) ∧ codeTo y0 (bts s) (3 - 1) ≤ 57343) ∨
      3 = 4 ∧ (codeTo y0 (bts s) (3 - 1) < 65536 ∨ 1114111 < codeTo y0 (bts s) (3 - 1)) then 0 else 3) := K3
  clear k1 k2 k3 h1 h2
  go_enter Tryd.func63, Tryd.ntmps63
  go_wp2
  go_loopw [5, 6] (fun c x wr => ∃ k q : Nat, k < 3 ∧ c = .int .i64 (q : Int) ∧ x = .int .i64 (k + 1 : Nat) ∧ wr = w ∧ Hid (q = codeTo y0 (bts s) k ∧ ∀ j, 1 ≤ j → j ≤ k → goes (bts s) j = true)) (fun _ x _ => 3 - (intOf x).toNat)
  case atStart => exact ⟨0, y0, by omega, rfl, rfl, rfl, rfl, fun j h1 h2 => by omega⟩
  case round =>
    obtain ⟨k, q, hk, rfl, rfl, rfl, H⟩ := hrel
    have hq := codeTo_lt (show y0 < 32 by omega) (bts s) (show k ≤ 3 by omega)
    rw [← H.out.1] at hq
    by_cases hlt : k + 1 < 3
    · have hq2 := hq.2 (by omega)
      have hlt1 : ((k + 1 : Nat) : Int) < 3 := by omega
      have hl2 : ((k + 1 : Nat) : Int) < (s.size : Int) := by omega
      have hl3 : k + 1 < s.size := by omega
      obtain ⟨x1, hx1⟩ : ∃ x, s[k + 1].toNat = x := ⟨_, rfl⟩
      have b1 : x1 < 256 := by rw [← hx1]; exact s[k + 1].toNat_lt
      have hB := and_63 x1 b1
      have hG : goes (bts s) (k + 1) = (decide (128 ≤ x1) && decide (x1 ≤ 191)) := by unfold goes; rw [getD_at s (k + 1) hl3, hx1]
      have hC : codeTo y0 (bts s) (k + 1) = q * 64 + x1 % 64 := by
        show codeTo y0 (bts s) k * 64 + ((bts s).getD (k + 1) 0).toNat % 64 = _
        rw [← H.out.1, getD_at s (k + 1) hl3, hx1]
      obtain ⟨y1, hy1⟩ : ∃ y, x1 % 64 = y := ⟨_, rfl⟩
      have c1 : y1 < 64 := by omega
      rw [hy1] at hB hC
      clear hy1 hq
      by_cases p1 : x1 < 128
      · have R : N = 0 := K2.out (k + 1) (by omega) hlt (by rw [hG, decide_eq_false (by omega)]; rfl)
        subst R
        have p11 : (x1 : Int) < 128 := by omega
        clear hG hC
        go_wp2
        go_ret
        exact ⟨rfl, rfl⟩
      have p11 : ¬ (x1 : Int) < 128 := by omega
      by_cases p2 : 191 < x1
      · have R : N = 0 := K2.out (k + 1) (by omega) hlt (by rw [hG, decide_eq_false (show ¬ x1 ≤ 191 by omega)]; simp)
        subst R
        have p21 : (191 : Int) < (x1 : Int) := by omega
        clear hG hC
        go_wp2
        go_ret
        exact ⟨rfl, rfl⟩
      · have p21 : ¬ (191 : Int) < (x1 : Int) := by omega
        have R : Hid (q * 64 + y1 = codeTo y0 (bts s) (k + 1) ∧ ∀ j, 1 ≤ j → j ≤ k + 1 → goes (bts s) j = true) := by
          refine ⟨hC.symm, fun j h1 h2 => ?_⟩
          by_cases hj : j = k + 1
          · subst hj
            rw [hG, decide_eq_true (show 128 ≤ x1 by omega), decide_eq_true (show x1 ≤ 191 by omega)]
            rfl
          · exact H.out.2 j h1 (by omega)
        clear hG hC
        go_wp2
        go_roundw
        case rel => exact ⟨k + 1, q * 64 + y1, by omega, by go_num, by go_num, by trivial, R⟩
        case measure => simp [intOf]; omega
    · have hk1 : k + 1 = 3 := by omega
      have hk2 : k = 2 := by omega
      subst hk2
      have R := K3.out (fun j h1 h2 => H.out.2 j h1 (by omega))
      have e : codeTo y0 (bts s) (3 - 1) = q := H.out.1.symm
      rw [e] at R
      have hlt1 : ¬ ((3 : Nat) : Int) < 3 := by omega
      clear K2 K3 e hk1 hlt hk
      by_cases r1 : q < 2048
      · have r1a : (q : Int) < 2048 := by omega
        rw [if_pos (by first | exact .inl ⟨rfl, by omega⟩ | exact .inl ⟨trivial, by omega⟩ | exact .inr ⟨rfl, by omega⟩ | exact .inr ⟨trivial, by omega⟩)] at R
        subst R
        go_wp2
        go_ret
        exact ⟨rfl, rfl⟩
      have r1a : ¬ (q : Int) < 2048 := by omega
      by_cases r2 : 55296 ≤ q
      · have r2a : (55296 : Int) ≤ (q : Int) := by omega
        by_cases r3 : q ≤ 57343
        · have r3a : (q : Int) ≤ 57343 := by omega
          rw [if_pos (by first | exact .inl ⟨rfl, by omega⟩ | exact .inl ⟨trivial, by omega⟩ | exact .inr ⟨rfl, by omega⟩ | exact .inr ⟨trivial, by omega⟩)] at R
          subst R
          go_wp2
          go_ret
          exact ⟨rfl, rfl⟩
        · have r3a : ¬ (q : Int) ≤ 57343 := by omega
          rw [if_neg (by omega)] at R
          subst R
          go_wp2
          go_ret
          exact ⟨rfl, rfl⟩
      · have r2a : ¬ (55296 : Int) ≤ (q : Int) := by omega
        rw [if_neg (by omega)] at R
        subst R
        go_wp2
        go_ret
        exact ⟨rfl, rfl⟩

end Go.Proofs.YtedinkoapieakaaDoor

/- The document's words on UTF-8, as the reference reckons them: a sign of four bytes. -/
namespace Go.Proofs.YtedinkoapieakaaDoor
open Go.ChangeShapes Go.WideShapes Go.ChangeAt Go.RowKit

set_option maxRecDepth 100000 in
set_option maxHeartbeats 4000000 in
theorem runeSize_four (s : ByteArray) (hs : s.size ≤ 9223372036854775806) (w : World) (hl0 : 0 < s.size) (h1 : 240 ≤ s[0].toNat) (h2 : s[0].toNat < 245) :
    Calls Tryd.prog 63 #[.string s] w fun e w' => e = .returned (.int .i64 (sz (bts s) : Int)) ∧ w = w' := by
  have hz := size_bytes s
  have hcs := sz_cases (bts s) (fun h => by have := (empty_iff s).2 h; omega) 4 240 245 8 (by omega) (by rw [getD_at s 0 hl0]; exact h1) (by rw [getD_at s 0 hl0]; exact h2)
  rw [getD_at s 0 hl0, ← hz] at hcs
  obtain ⟨N, hN⟩ : ∃ N, sz (bts s) = N := ⟨_, rfl⟩
  rw [hN] at hcs ⊢
  clear hN hz
  obtain ⟨k1, k2, k3⟩ := hcs
  have h01 : ¬ (s.size : Int) = 0 := by omega
  have hl1 : (0 : Int) < (s.size : Int) := by omega
  obtain ⟨x0, hx0⟩ : ∃ x, s[0].toNat = x := ⟨_, rfl⟩
  have b0 : x0 < 256 := by rw [← hx0]; exact s[0].toNat_lt
  rw [hx0] at h1 h2 k3
  have h11 : ¬ (x0 : Int) < 128 := by omega
  have g1 : (240 : Int) ≤ (x0 : Int) := by omega
  have g2 : (x0 : Int) < 245 := by omega
  have g3 : ¬ (x0 : Int) < 224 := by omega
  have g4 : ¬ (x0 : Int) < 240 := by omega
  have hA : bits .and .i64 (x0 : Int) 7 = ((x0 % 8 : Nat) : Int) := and_low 7 (by omega) x0 b0
  obtain ⟨y0, hy0⟩ : ∃ y, x0 % 8 = y := ⟨_, rfl⟩
  have c0 : y0 < 8 := by omega
  rw [hy0] at hA k3
  clear hy0
  by_cases n2 : s.size < 4
  · have R := k1 n2
    subst R
    have n21 : (s.size : Int) < 4 := by omega
    clear k1 k2 k3 h1 h2
    go_enter Tryd.func63, Tryd.ntmps63
    go_wp2
    go_ret
    exact ⟨rfl, rfl⟩
  have n21 : ¬ (s.size : Int) < 4 := by omega
  have K2 : Hid (∀ k, 1 ≤ k → k < 4 → goes (bts s) k = false → N = 0) := k2
  have K3 := k3 (by omega)
  have K3 : Hid ((∀ k, 1 ≤ k → k < 4 → goes (bts s) k = true) → N = if 4 = 3 ∧ (codeTo y0 (bts s) (4 - 1) < 2048 ∨ 55296 ≤ codeTo y0 (bts s) (4 - 1) ∧ codeTo y0 (bts s) (4 - 1) ≤ 57343) ∨
      4 = 4 ∧ (codeTo y0 (bts s) (4 - 1) < 65536 ∨ 1114111 < codeTo y0 (bts s) (4 - 1)) then 0 else 4) := K3
  clear k1 k2 k3 h1 h2
  go_enter Tryd.func63, Tryd.ntmps63
  go_wp2
  go_loopw [5, 6] (fun c x wr => ∃ k q : Nat, k < 4 ∧ c = .int .i64 (q : Int) ∧ x = .int .i64 (k + 1 : Nat) ∧ wr = w ∧ Hid (q = codeTo y0 (bts s) k ∧ ∀ j, 1 ≤ j → j ≤ k → goes (bts s) j = true)) (fun _ x _ => 4 - (intOf x).toNat)
  case atStart => exact ⟨0, y0, by omega, rfl, rfl, rfl, rfl, fun j h1 h2 => by omega⟩
  case round =>
    obtain ⟨k, q, hk, rfl, rfl, rfl, H⟩ := hrel
    have hq := codeTo_lt (show y0 < 32 by omega) (bts s) (show k ≤ 3 by omega)
    rw [← H.out.1] at hq
    by_cases hlt : k + 1 < 4
    · have hq2 := hq.2 (by omega)
      have hlt1 : ((k + 1 : Nat) : Int) < 4 := by omega
      have hl2 : ((k + 1 : Nat) : Int) < (s.size : Int) := by omega
      have hl3 : k + 1 < s.size := by omega
      obtain ⟨x1, hx1⟩ : ∃ x, s[k + 1].toNat = x := ⟨_, rfl⟩
      have b1 : x1 < 256 := by rw [← hx1]; exact s[k + 1].toNat_lt
      have hB := and_63 x1 b1
      have hG : goes (bts s) (k + 1) = (decide (128 ≤ x1) && decide (x1 ≤ 191)) := by unfold goes; rw [getD_at s (k + 1) hl3, hx1]
      have hC : codeTo y0 (bts s) (k + 1) = q * 64 + x1 % 64 := by
        show codeTo y0 (bts s) k * 64 + ((bts s).getD (k + 1) 0).toNat % 64 = _
        rw [← H.out.1, getD_at s (k + 1) hl3, hx1]
      obtain ⟨y1, hy1⟩ : ∃ y, x1 % 64 = y := ⟨_, rfl⟩
      have c1 : y1 < 64 := by omega
      rw [hy1] at hB hC
      clear hy1 hq
      by_cases p1 : x1 < 128
      · have R : N = 0 := K2.out (k + 1) (by omega) hlt (by rw [hG, decide_eq_false (by omega)]; rfl)
        subst R
        have p11 : (x1 : Int) < 128 := by omega
        clear hG hC
        go_wp2
        go_ret
        exact ⟨rfl, rfl⟩
      have p11 : ¬ (x1 : Int) < 128 := by omega
      by_cases p2 : 191 < x1
      · have R : N = 0 := K2.out (k + 1) (by omega) hlt (by rw [hG, decide_eq_false (show ¬ x1 ≤ 191 by omega)]; simp)
        subst R
        have p21 : (191 : Int) < (x1 : Int) := by omega
        clear hG hC
        go_wp2
        go_ret
        exact ⟨rfl, rfl⟩
      · have p21 : ¬ (191 : Int) < (x1 : Int) := by omega
        have R : Hid (q * 64 + y1 = codeTo y0 (bts s) (k + 1) ∧ ∀ j, 1 ≤ j → j ≤ k + 1 → goes (bts s) j = true) := by
          refine ⟨hC.symm, fun j h1 h2 => ?_⟩
          by_cases hj : j = k + 1
          · subst hj
            rw [hG, decide_eq_true (show 128 ≤ x1 by omega), decide_eq_true (show x1 ≤ 191 by omega)]
            rfl
          · exact H.out.2 j h1 (by omega)
        clear hG hC
        go_wp2
        go_roundw
        case rel => exact ⟨k + 1, q * 64 + y1, by omega, by go_num, by go_num, by trivial, R⟩
        case measure => simp [intOf]; omega
    · have hk1 : k + 1 = 4 := by omega
      have hk2 : k = 3 := by omega
      subst hk2
      have R := K3.out (fun j h1 h2 => H.out.2 j h1 (by omega))
      have e : codeTo y0 (bts s) (4 - 1) = q := H.out.1.symm
      rw [e] at R
      have hlt1 : ¬ ((4 : Nat) : Int) < 4 := by omega
      clear K2 K3 e hk1 hlt hk
      by_cases r1 : q < 65536
      · have r1a : (q : Int) < 65536 := by omega
        rw [if_pos (by first | exact .inl ⟨rfl, by omega⟩ | exact .inl ⟨trivial, by omega⟩ | exact .inr ⟨rfl, by omega⟩ | exact .inr ⟨trivial, by omega⟩)] at R
        subst R
        go_wp2
        go_ret
        exact ⟨rfl, rfl⟩
      have r1a : ¬ (q : Int) < 65536 := by omega
      by_cases r2 : 1114111 < q
      · have r2a : (1114111 : Int) < (q : Int) := by omega
        rw [if_pos (by first | exact .inl ⟨rfl, by omega⟩ | exact .inl ⟨trivial, by omega⟩ | exact .inr ⟨rfl, by omega⟩ | exact .inr ⟨trivial, by omega⟩)] at R
        subst R
        go_wp2
        go_ret
        exact ⟨rfl, rfl⟩
      · have r2a : ¬ (1114111 : Int) < (q : Int) := by omega
        rw [if_neg (by omega)] at R
        subst R
        go_wp2
        go_ret
        exact ⟨rfl, rfl⟩

end Go.Proofs.YtedinkoapieakaaDoor

/- The document's words on UTF-8, on marks and on which tokens may be, as the reference reckons them: contracts, at every argument. -/
namespace Go.Proofs.YtedinkoapieakaaDoor
open Go.ChangeShapes Go.WideShapes Go.ChangeAt Go.RowKit

theorem runeSize_any (s : ByteArray) (hs : s.size ≤ 9223372036854775806) (w : World) :
    Calls Tryd.prog 63 #[.string s] w fun e w' => e = .returned (.int .i64 (sz (bts s) : Int)) ∧ w = w' := by
  by_cases h0 : s.size = 0
  · exact runeSize_few s hs w (.inl h0)
  have hl : 0 < s.size := by omega
  by_cases h1 : s[0].toNat < 194
  · exact runeSize_few s hs w (.inr ⟨hl, .inl h1⟩)
  by_cases h2 : s[0].toNat < 224
  · exact runeSize_two s hs w hl (by omega) h2
  by_cases h3 : s[0].toNat < 240
  · exact runeSize_three s hs w hl (by omega) h3
  by_cases h4 : s[0].toNat < 245
  · exact runeSize_four s hs w hl (by omega) h4
  · exact runeSize_few s hs w (.inr ⟨hl, .inr (by omega)⟩)

theorem bytes_from (s : ByteArray) (k : Nat) : bts (s.extract k s.size) = (bts s).drop k := by
  rw [bytes_extract, List.take_of_length_le]
  rw [List.length_drop, ← size_bytes]
  exact Nat.le_refl _

theorem Signs_any (s : ByteArray) (hs : s.size ≤ 9223372036854775806) (w : World) :
    Calls Tryd.prog 39 #[.string s] w fun e w' => e = .returned (.bool (signs (bts s))) ∧ w = w' := by
  obtain ⟨V, hV⟩ : ∃ V, signs (bts s) = V := ⟨_, rfl⟩
  rw [hV]
  have HL : Hid (s.size = (bts s).length) := size_bytes s
  go_enter Tryd.func39, Tryd.ntmps39
  go_wp2
  go_loopw [3] (fun x wr => ∃ k : Nat, k ≤ s.size ∧ x = .int .i64 (k : Int) ∧ wr = w ∧ Hid (signs ((bts s).drop k) = V)) (fun x _ => s.size - (intOf x).toNat)
  case atStart => exact ⟨0, Nat.zero_le _, rfl, rfl, hV⟩
  case round =>
    clear hV
    obtain ⟨k, hk, rfl, rfl, H⟩ := hrel
    by_cases hlt : k < s.size
    · have hlt1 : (k : Int) < (s.size : Int) := by omega
      have hz : (s.extract k s.size).size ≤ 9223372036854775806 := by
        rw [size_bytes, bytes_from, List.length_drop, ← HL.out]
        omega
      have cR := runeSize_any (s.extract k s.size) hz
      rw [bytes_from] at cR
      have hst := signs_step ((bts s).drop k) (fun h => by have := congrArg List.length h; rw [List.length_drop, ← HL.out] at this; simp at this; omega)
      have hle := sz_le ((bts s).drop k)
      rw [List.length_drop, ← HL.out] at hle
      rw [H.out] at hst
      obtain ⟨n, hn⟩ : ∃ n, sz ((bts s).drop k) = n := ⟨_, rfl⟩
      rw [hn] at cR hst hle
      clear hn
      by_cases h0 : n = 0
      · rw [if_pos h0] at hst
        subst h0
        subst hst
        go_wp2_with (go_at_call 63; refine (cR _).mono ?_; rintro e w' ⟨rfl, rfl⟩)
        go_ret
        exact ⟨rfl, rfl⟩
      · rw [if_neg h0, List.drop_drop] at hst
        have R : Hid (signs ((bts s).drop (k + n)) = V) := hst.symm
        have h01 : ¬ (n : Int) = 0 := by omega
        clear hst
        go_wp2_with (go_at_call 63; refine (cR _).mono ?_; rintro e w' ⟨rfl, rfl⟩)
        go_roundw
        case rel => exact ⟨k + n, by omega, by go_num, by trivial, R⟩
        case measure => simp [intOf]; omega
    · have R : V = true := by
        rw [← H.out, List.drop_eq_nil_of_le (by rw [← HL.out]; omega)]
        rfl
      subst R
      have hlt1 : ¬ (k : Int) < (s.size : Int) := by omega
      go_wp2
      go_ret
      exact ⟨rfl, rfl⟩

theorem mark_list (l : List UInt8) (h : isMark l = true) : l = [40] ∨ l = [41] ∨ l = [44] ∨ l = [46] ∨ l = [42] ∨ l = [43] ∨ l = [45] ∨ l = [47] ∨ l = [37] ∨ l = [61] ∨ l = [60] ∨ l = [62] ∨ l = [60, 61] ∨ l = [62, 61] ∨ l = [60, 62] := by
  rcases isMark_cases h with ⟨a, rfl, ha⟩ | ⟨a, b, rfl, hab⟩
  · simp only [mark1, List.contains_eq_mem, List.mem_cons, List.not_mem_nil, or_false, decide_eq_true_eq] at ha
    have e : ∀ c : UInt8, a.toNat = c.toNat → [a] = [c] := fun c h => by rw [UInt8.toNat.inj h]
    rcases ha with h | h | h | h | h | h | h | h | h | h | h | h
    · exact .inl (e 40 h)
    · exact .inr (.inl (e 41 h))
    · exact .inr (.inr (.inl (e 44 h)))
    · exact .inr (.inr (.inr (.inl (e 46 h))))
    · exact .inr (.inr (.inr (.inr (.inl (e 42 h)))))
    · exact .inr (.inr (.inr (.inr (.inr (.inl (e 43 h))))))
    · exact .inr (.inr (.inr (.inr (.inr (.inr (.inl (e 45 h)))))))
    · exact .inr (.inr (.inr (.inr (.inr (.inr (.inr (.inl (e 47 h))))))))
    · exact .inr (.inr (.inr (.inr (.inr (.inr (.inr (.inr (.inl (e 37 h)))))))))
    · exact .inr (.inr (.inr (.inr (.inr (.inr (.inr (.inr (.inr (.inl (e 61 h))))))))))
    · exact .inr (.inr (.inr (.inr (.inr (.inr (.inr (.inr (.inr (.inr (.inl (e 60 h)))))))))))
    · exact .inr (.inr (.inr (.inr (.inr (.inr (.inr (.inr (.inr (.inr (.inr (.inl (e 62 h))))))))))))
  · simp only [mark2, List.contains_eq_mem, List.mem_cons, Prod.mk.injEq, List.not_mem_nil, or_false, decide_eq_true_eq] at hab
    have e : ∀ c d : UInt8, a.toNat = c.toNat → b.toNat = d.toNat → [a, b] = [c, d] := fun c d h h2 => by rw [UInt8.toNat.inj h, UInt8.toNat.inj h2]
    rcases hab with ⟨h, h2⟩ | ⟨h, h2⟩ | ⟨h, h2⟩
    · exact .inr (.inr (.inr (.inr (.inr (.inr (.inr (.inr (.inr (.inr (.inr (.inr (.inl (e 60 61 h h2)))))))))))))
    · exact .inr (.inr (.inr (.inr (.inr (.inr (.inr (.inr (.inr (.inr (.inr (.inr (.inr (.inl (e 62 61 h h2))))))))))))))
    · exact .inr (.inr (.inr (.inr (.inr (.inr (.inr (.inr (.inr (.inr (.inr (.inr (.inr (.inr (e 60 62 h h2))))))))))))))

set_option maxHeartbeats 2000000 in
theorem isMark_ref (s : ByteArray) (w : World) :
    Calls Tryd.prog 40 #[.string s] w fun e w' => e = .returned (.bool (isMark (bts s))) ∧ w = w' := by
  cases hm : isMark (bts s)
  · have n : ∀ l, isMark l = true → (s.toList == l) = false := fun l hl => by
      rw [beq_eq_false_iff_ne]
      intro h
      rw [bytes_to_list] at h
      have h : bts s = l := h
      rw [h, hl] at hm
      cases hm
    have n1 := n [40] rfl
    have n2 := n [41] rfl
    have n3 := n [44] rfl
    have n4 := n [46] rfl
    have n5 := n [42] rfl
    have n6 := n [43] rfl
    have n7 := n [45] rfl
    have n8 := n [47] rfl
    have n9 := n [37] rfl
    have n10 := n [61] rfl
    have n11 := n [60] rfl
    have n12 := n [62] rfl
    have n13 := n [60, 61] rfl
    have n14 := n [62, 61] rfl
    have n15 := n [60, 62] rfl
    clear n
    go_enter Tryd.func40, Tryd.ntmps40
    go_wp2
    go_ret
    exact ⟨rfl, rfl⟩
  · rcases mark_list _ hm with h | h | h | h | h | h | h | h | h | h | h | h | h | h | h
    all_goals
      have es : s.toList = _ := (bytes_to_list s).trans h
      clear hm h
      go_enter Tryd.func40, Tryd.ntmps40
      go_wp2
      go_ret
      exact ⟨rfl, rfl⟩

end Go.Proofs.YtedinkoapieakaaDoor

/- Which tokens may be, as the reference reckons it: the contract, at every argument. -/
namespace Go.Proofs.YtedinkoapieakaaDoor
open Go.ChangeShapes Go.WideShapes Go.ChangeAt Go.RowKit

/-- a byte that may stand at a place of a word -/
def fits (l : List UInt8) (k : Nat) : Bool := letter (l.getD k 0) || (digit (l.getD k 0) && decide (0 < k))

theorem isWord_fits (l : List UInt8) (h1 : 1 ≤ l.length) (h2 : l.length ≤ 12) (h : ∀ k, k < l.length → fits l k = true) : isWord l = true := by
  unfold isWord
  rw [decide_eq_true h1, decide_eq_true h2]
  have h0 := h 0 (by omega)
  unfold fits at h0
  simp only [Nat.lt_irrefl, decide_false, Bool.and_false, Bool.or_false] at h0
  have hd : digit (l.getD 0 0) = false := by
    simp only [letter, digit, Bool.or_eq_true, Bool.and_eq_true, decide_eq_true_eq, Bool.and_eq_false_imp, decide_eq_false_iff_not] at h0 ⊢
    omega
  rw [hd, List.all_eq_true.2]
  · rfl
  · intro c hc
    obtain ⟨k, hk, rfl⟩ := List.getElem_of_mem hc
    have := h k hk
    unfold fits at this
    rw [List.getD_eq_getElem?_getD, List.getElem?_eq_getElem hk] at this
    simp only [Option.getD_some, Bool.or_eq_true, Bool.and_eq_true] at this
    unfold wordly
    rw [Bool.or_eq_true]
    exact this.imp id (fun h => h.1)

theorem not_fits (l : List UInt8) (k : Nat) (hk : k < l.length) (h : fits l k = false) : isWord l = false := by
  cases hw : isWord l with
  | false => rfl
  | true =>
    exfalso
    unfold isWord at hw
    simp only [Bool.and_eq_true, decide_eq_true_eq, List.all_eq_true, Bool.not_eq_true'] at hw
    obtain ⟨⟨⟨_, _⟩, ha⟩, hd⟩ := hw
    have e : l.getD k 0 = l[k] := by
      rw [List.getD_eq_getElem?_getD, List.getElem?_eq_getElem hk]
      rfl
    have h3 := ha l[k] (List.getElem_mem _)
    unfold fits at h
    rw [e] at h
    unfold wordly at h3
    by_cases h0 : k = 0
    · subst h0
      rw [e] at hd
      rw [hd, Bool.or_false] at h3
      rw [h3] at h
      simp at h
    · rw [decide_eq_true (show 0 < k by omega), Bool.and_true, h3] at h
      cases h

theorem letter_int (c : UInt8) : letter c = ((decide ((97 : Int) ≤ (c.toNat : Int)) && decide ((c.toNat : Int) ≤ 122)) || decide ((c.toNat : Int) = 95)) := by
  have z1 : (97 : Int) ≤ (c.toNat : Int) ↔ 97 ≤ c.toNat := by omega
  have z2 : (c.toNat : Int) ≤ 122 ↔ c.toNat ≤ 122 := by omega
  have z3 : (c.toNat : Int) = 95 ↔ c.toNat = 95 := by omega
  simp only [letter, z1, z2, z3]
theorem digit_int (c : UInt8) : digit c = (decide ((48 : Int) ≤ (c.toNat : Int)) && decide ((c.toNat : Int) ≤ 57)) := by
  have z1 : (48 : Int) ≤ (c.toNat : Int) ↔ 48 ≤ c.toNat := by omega
  have z2 : (c.toNat : Int) ≤ 57 ↔ c.toNat ≤ 57 := by omega
  simp only [digit, z1, z2]

set_option maxRecDepth 100000 in
set_option maxHeartbeats 4000000 in
theorem TokenMay_any (k n : Int) (s : ByteArray) (w : World) :
    Calls Tryd.prog 17 #[.agg #[.int .i64 k, .int .i64 n, .string s]] w fun e w' => e = .returned (.bool (may ⟨k, n, bts s⟩)) ∧ Below w.heap.size w w' := by
  have hz := size_bytes s
  have hb : ∀ o, Below w.heap.size w (w.alloc o) := fun o => (Below.refl _ w).alloc (Nat.le_refl _) o
  by_cases h2 : k = 2
  · subst h2
    by_cases hn : 0 ≤ n
    · by_cases h0 : bts s = []
      · have e0 : s.toList = [] := by rw [bytes_to_list]; exact h0
        have R : Hid (may ⟨2, n, bts s⟩ = true) := by simp [Hid, may, hn, h0]
        clear hz h0
        go_enter Tryd.func17, Tryd.ntmps17
        go_wp2
        go_ret
        rw [R.out]
        exact ⟨rfl, hb _⟩
      · have e0 : ¬ s.toList = [] := by rw [bytes_to_list]; exact h0
        have e1 : s.toList.isEmpty = false := by cases hx : s.toList <;> simp_all
        have R : Hid (may ⟨2, n, bts s⟩ = false) := by simp [Hid, may, h0]
        clear hz h0
        go_enter Tryd.func17, Tryd.ntmps17
        go_wp2
        go_ret
        rw [R.out]
        exact ⟨rfl, hb _⟩
    · have R : Hid (may ⟨2, n, bts s⟩ = false) := by simp [Hid, may, hn]
      clear hz
      go_enter Tryd.func17, Tryd.ntmps17
      go_wp2
      go_ret
      rw [R.out]
      exact ⟨rfl, hb _⟩
  by_cases hn : ¬ n = 0
  · have R : Hid (may ⟨k, n, bts s⟩ = false) := by simp [Hid, may, hn, h2]
    clear hz
    go_enter Tryd.func17, Tryd.ntmps17
    go_wp2
    go_ret
    rw [R.out]
    exact ⟨rfl, hb _⟩
  have hn : n = 0 := Decidable.not_not.1 hn
  subst hn
  by_cases h3 : k = 3
  · subst h3
    clear h2
    by_cases h4 : s.size ≤ 40
    · have h5 : (s.size : Int) ≤ 40 := by omega
      have cV := Signs_any s (by omega)
      have R : Hid (may ⟨3, 0, bts s⟩ = signs (bts s)) := by
        have : (bts s).length ≤ 40 := by omega
        simp [Hid, may, this]
      generalize signs (bts s) = b at cV R
      clear hz
      go_enter Tryd.func17, Tryd.ntmps17
      go_wp2_with (go_at_call 39; refine (cV _).mono ?_; rintro e w' ⟨rfl, rfl⟩)
      go_ret
      rw [R.out]
      exact ⟨rfl, hb _⟩
    · have h5 : ¬ (s.size : Int) ≤ 40 := by omega
      have R : Hid (may ⟨3, 0, bts s⟩ = false) := by
        have : ¬ (bts s).length ≤ 40 := by omega
        simp [Hid, may, this]
      clear hz
      go_enter Tryd.func17, Tryd.ntmps17
      go_wp2
      go_ret
      rw [R.out]
      exact ⟨rfl, hb _⟩
  by_cases h4 : k = 4
  · subst h4
    clear h2 h3
    have cM := isMark_ref s
    have R : Hid (may ⟨4, 0, bts s⟩ = isMark (bts s)) := by simp [Hid, may]
    generalize isMark (bts s) = b at cM R
    clear hz
    go_enter Tryd.func17, Tryd.ntmps17
    go_wp2_with (go_at_call 40; refine (cM _).mono ?_; rintro e w' ⟨rfl, rfl⟩)
    go_ret
    rw [R.out]
    exact ⟨rfl, hb _⟩
  by_cases h1 : ¬ k = 1
  · have R : Hid (may ⟨k, 0, bts s⟩ = false) := by simp [Hid, may, h1, h2, h3, h4]
    clear hz
    go_enter Tryd.func17, Tryd.ntmps17
    go_wp2
    go_ret
    rw [R.out]
    exact ⟨rfl, hb _⟩
  have h1 : k = 1 := Decidable.not_not.1 h1
  subst h1
  clear h2 h3 h4
  have R : Hid (may ⟨1, 0, bts s⟩ = isWord (bts s)) := by simp [Hid, may]
  by_cases hl1 : s.size < 1
  · have R2 : Hid (isWord (bts s) = false) := by
      have : bts s = [] := (empty_iff s).1 (by omega)
      rw [this]
      rfl
    have hl2 : (s.size : Int) < 1 := by omega
    clear hz
    go_enter Tryd.func17, Tryd.ntmps17
    go_wp2
    go_ret
    rw [R.out, R2.out]
    exact ⟨rfl, hb _⟩
  have hl2 : ¬ (s.size : Int) < 1 := by omega
  by_cases hl3 : 12 < s.size
  · have R2 : Hid (isWord (bts s) = false) := by
      show isWord (bts s) = false
      unfold isWord
      rw [decide_eq_false (show ¬ (bts s).length ≤ 12 by omega)]
      simp
    have hl4 : (12 : Int) < (s.size : Int) := by omega
    clear hz
    go_enter Tryd.func17, Tryd.ntmps17
    go_wp2
    go_ret
    rw [R.out, R2.out]
    exact ⟨rfl, hb _⟩
  have hl4 : ¬ (12 : Int) < (s.size : Int) := by omega
  have HZ : Hid (s.size = (bts s).length) := hz
  clear hz
  go_enter Tryd.func17, Tryd.ntmps17
  go_wp2
  go_loopw [3] (fun x wr => ∃ j : Nat, j ≤ s.size ∧ x = .int .i64 (j : Int) ∧ wr = w.alloc (.cells #[.int .i64 1, .int .i64 0, .string s] 44) ∧ Hid (∀ i, i < j → fits (bts s) i = true)) (fun x _ => s.size - (intOf x).toNat)
  case atStart => exact ⟨0, Nat.zero_le _, rfl, rfl, fun i hi => by omega⟩
  case round =>
    obtain ⟨j, hj, rfl, rfl, H⟩ := hrel
    by_cases hlt : j < s.size
    · have hlt1 : (j : Int) < (s.size : Int) := by omega
      have z6 : (0 : Int) < (j : Int) ↔ 0 < j := by omega
      have hf : fits (bts s) j = (letter s[j] || (digit s[j] && decide ((0 : Int) < (j : Int)))) := by
        unfold fits
        rw [getD_at s j hlt]
        simp only [z6]
      rw [letter_int, digit_int] at hf
      clear z6
      obtain ⟨x, hx⟩ : ∃ x, s[j].toNat = x := ⟨_, rfl⟩
      rw [hx] at hf
      by_cases cc : 97 ≤ x ∧ x ≤ 122
      · have q1 : (48 : Int) ≤ (x : Int) := by omega
        have q2 : ¬ (x : Int) ≤ 57 := by omega
        have q3 : (97 : Int) ≤ (x : Int) := by omega
        have q4 : (x : Int) ≤ 122 := by omega
        have hf : fits (bts s) j = true := by
          rw [hf]
          clear hf
          simp [*]
        have R2 : Hid (∀ i, i < j + 1 → fits (bts s) i = true) := fun i hi => if he : i = j then he ▸ hf else H.out i (by omega)
        clear hf cc
        go_wp2
        go_roundw
        case rel => exact ⟨j + 1, by omega, by go_num, by trivial, R2⟩
        case measure => simp [intOf]; omega
      by_cases cc : x = 95
      · have q1 : (48 : Int) ≤ (x : Int) := by omega
        have q2 : ¬ (x : Int) ≤ 57 := by omega
        have q3 : ¬ (97 : Int) ≤ (x : Int) := by omega
        have q5 : (x : Int) = 95 := by omega
        have b5 : ((x : Int) == 95) = true := beq_iff_eq.2 q5
        have hf : fits (bts s) j = true := by
          rw [hf]
          clear hf
          simp [*]
        have R2 : Hid (∀ i, i < j + 1 → fits (bts s) i = true) := fun i hi => if he : i = j then he ▸ hf else H.out i (by omega)
        clear hf cc
        go_wp2
        go_roundw
        case rel => exact ⟨j + 1, by omega, by go_num, by trivial, R2⟩
        case measure => simp [intOf]; omega
      by_cases cc : (48 ≤ x ∧ x ≤ 57) ∧ 0 < j
      · have q1 : (48 : Int) ≤ (x : Int) := by omega
        have q2 : (x : Int) ≤ 57 := by omega
        have q3 : ¬ (97 : Int) ≤ (x : Int) := by omega
        have q5 : ¬ (x : Int) = 95 := by omega
        have b5 : ((x : Int) == 95) = false := beq_eq_false_iff_ne.2 q5
        have q6 : (0 : Int) < (j : Int) := by omega
        have n6 : 0 < j := by omega
        have hf : fits (bts s) j = true := by
          rw [hf]
          clear hf
          simp [*]
        have R2 : Hid (∀ i, i < j + 1 → fits (bts s) i = true) := fun i hi => if he : i = j then he ▸ hf else H.out i (by omega)
        clear hf cc
        go_wp2
        go_roundw
        case rel => exact ⟨j + 1, by omega, by go_num, by trivial, R2⟩
        case measure => simp [intOf]; omega
      by_cases cc : 48 ≤ x ∧ x ≤ 57
      · have q1 : (48 : Int) ≤ (x : Int) := by omega
        have q2 : (x : Int) ≤ 57 := by omega
        have q3 : ¬ (97 : Int) ≤ (x : Int) := by omega
        have q5 : ¬ (x : Int) = 95 := by omega
        have b5 : ((x : Int) == 95) = false := beq_eq_false_iff_ne.2 q5
        have q6 : ¬ (0 : Int) < (j : Int) := by omega
        have n6 : ¬ 0 < j := by omega
        have hf : fits (bts s) j = false := by
          rw [hf]
          clear hf
          simp [*]
        have R2 : Hid (isWord (bts s) = false) := not_fits _ j (by rw [← HZ.out]; exact hlt) hf
        clear hf cc
        go_wp2
        go_ret
        rw [R.out, R2.out]
        exact ⟨rfl, hb _⟩
      by_cases cc : x < 48
      · have q1 : ¬ (48 : Int) ≤ (x : Int) := by omega
        have q3 : ¬ (97 : Int) ≤ (x : Int) := by omega
        have q5 : ¬ (x : Int) = 95 := by omega
        have b5 : ((x : Int) == 95) = false := beq_eq_false_iff_ne.2 q5
        have hf : fits (bts s) j = false := by
          rw [hf]
          clear hf
          simp [*]
        have R2 : Hid (isWord (bts s) = false) := not_fits _ j (by rw [← HZ.out]; exact hlt) hf
        clear hf cc
        go_wp2
        go_ret
        rw [R.out, R2.out]
        exact ⟨rfl, hb _⟩
      by_cases cc : x < 97
      · have q1 : (48 : Int) ≤ (x : Int) := by omega
        have q2 : ¬ (x : Int) ≤ 57 := by omega
        have q3 : ¬ (97 : Int) ≤ (x : Int) := by omega
        have q5 : ¬ (x : Int) = 95 := by omega
        have b5 : ((x : Int) == 95) = false := beq_eq_false_iff_ne.2 q5
        have hf : fits (bts s) j = false := by
          rw [hf]
          clear hf
          simp [*]
        have R2 : Hid (isWord (bts s) = false) := not_fits _ j (by rw [← HZ.out]; exact hlt) hf
        clear hf cc
        go_wp2
        go_ret
        rw [R.out, R2.out]
        exact ⟨rfl, hb _⟩
      have q1 : (48 : Int) ≤ (x : Int) := by omega
      have q2 : ¬ (x : Int) ≤ 57 := by omega
      have q3 : (97 : Int) ≤ (x : Int) := by omega
      have q4 : ¬ (x : Int) ≤ 122 := by omega
      have q5 : ¬ (x : Int) = 95 := by omega
      have b5 : ((x : Int) == 95) = false := beq_eq_false_iff_ne.2 q5
      have hf : fits (bts s) j = false := by
        rw [hf]
        clear hf
        simp [*]
      have R2 : Hid (isWord (bts s) = false) := not_fits _ j (by rw [← HZ.out]; exact hlt) hf
      clear hf
      go_wp2
      go_ret
      rw [R.out, R2.out]
      exact ⟨rfl, hb _⟩
    · have R2 : Hid (isWord (bts s) = true) := isWord_fits _ (by rw [← HZ.out]; omega) (by rw [← HZ.out]; omega) (fun i hi => H.out i (by rw [← HZ.out] at hi; omega))
      have hlt1 : ¬ (j : Int) < (s.size : Int) := by omega
      go_wp2
      go_ret
      rw [R.out, R2.out]
      exact ⟨rfl, hb _⟩

end Go.Proofs.YtedinkoapieakaaDoor
