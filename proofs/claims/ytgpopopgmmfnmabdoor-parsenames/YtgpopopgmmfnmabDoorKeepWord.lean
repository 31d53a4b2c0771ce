/- The statements' own maker of words (WordOf): what it gives may be a word. -/
import Derived.Test.YtgpopopgmmfnmabDoorLexJoinPlain
import Derived.Test.YtgpopopgmmfnmabDoorLexWord
import Derived.Test.YtgpopopgmmfnmabDoorPicked
import Derived.Deep.QuietTactic
import Derived.BigQuiet
namespace Go.Proofs.YtgpopopgmmfnmabDoor
open Go.ChangeShapes Go.WideShapes Go.ChangeAt Go.RowKit

def firsts : ByteArray := ⟨#[97, 98, 99, 100, 101, 102, 103, 104, 105, 106, 107, 108, 109, 110, 111, 112, 113, 114, 115, 116, 117, 118, 119, 120, 121, 122, 95]⟩
def seconds : ByteArray := ⟨#[97, 98, 99, 100, 101, 102, 103, 104, 105, 106, 107, 108, 109, 110, 111, 112, 113, 114, 115, 116, 117, 118, 119, 120, 121, 122, 95, 48, 49, 50, 51, 52, 53, 54, 55, 56, 57]⟩

theorem firsts_letter : ∀ k, k < 27 → letter ((bts firsts).getD k 0) = true := by decide +kernel
theorem seconds_wordly : ∀ k, k < 37 → wordly ((bts seconds).getD k 0) = true := by decide +kernel

theorem one_of (s : ByteArray) (k : Nat) (hk : k < s.size) : bts (s.extract k (k + 1)) = [(bts s).getD k 0] := by
  have h : k < (bts s).length := by rw [← size_bytes]; exact hk
  rw [bytes_extract, drop_cons h, List.getD_eq_getElem?_getD, List.getElem?_eq_getElem h, show k + 1 - k = 1 by omega]
  rfl

/-- a beginning of a word -/
def Wordish (u : List UInt8) : Prop := 1 ≤ u.length ∧ letter (u.getD 0 0) = true ∧ ∀ c ∈ u, wordly c = true

theorem Wordish.isWord {u : List UInt8} (h : Wordish u) (hl : u.length ≤ 12) : isWord u = true := by
  obtain ⟨h1, h2, h3⟩ := h
  have hd : digit (u.getD 0 0) = false := by
    simp only [letter, digit, Bool.or_eq_true, Bool.and_eq_true, decide_eq_true_eq, Bool.and_eq_false_imp, decide_eq_false_iff_not] at h2 ⊢
    omega
  unfold Go.Proofs.YtgpopopgmmfnmabDoor.isWord
  rw [decide_eq_true h1, decide_eq_true hl, hd, List.all_eq_true.2 h3]
  rfl

theorem Wordish.push {u : List UInt8} {c : UInt8} (h : Wordish u) (hc : wordly c = true) : Wordish (u ++ [c]) := by
  obtain ⟨h1, h2, h3⟩ := h
  refine ⟨by simp, ?_, fun d hd => ?_⟩
  · rw [List.getD_eq_getElem?_getD, List.getElem?_append_left (by omega), ← List.getD_eq_getElem?_getD]
    exact h2
  · rcases List.mem_append.1 hd with h | h
    · exact h3 d h
    · rw [List.mem_singleton.1 h]
      exact hc

set_option maxRecDepth 100000 in
set_option maxHeartbeats 4000000 in
theorem WordOf_any (s : ByteArray) (hs : s.size ≤ 9223372036854775807) (w : World) :
    Calls Tryd.prog 4 #[.string s] w fun e w' => ∃ u : List UInt8, e = .returned (.string (str u)) ∧ Wordish u ∧ u.length ≤ 12 ∧ Below w.heap.size w w' := by
  obtain ⟨n, hn⟩ : ∃ n : Nat, (s.size : Int) % 27 = (n : Int) := ⟨((s.size : Int) % 27).toNat, by omega⟩
  have hn27 : n < 27 := by omega
  have cP := Picked_any (s.size : Int) 27 (by decide) (by decide)
  rw [hn] at cP
  obtain ⟨d1, hd1⟩ : ∃ d : ByteArray, d = firsts := ⟨_, rfl⟩
  obtain ⟨d2, hd2⟩ : ∃ d : ByteArray, d = seconds := ⟨_, rfl⟩
  have s1 : d1.size = 27 := by rw [hd1]; rfl
  have s2 : d2.size = 37 := by rw [hd2]; rfl
  have H1 : Hid (∀ k, k < 27 → letter ((bts d1).getD k 0) = true) := by rw [hd1]; exact firsts_letter
  have H2 : Hid (∀ k, k < 37 → wordly ((bts d2).getD k 0) = true) := by rw [hd2]; exact seconds_wordly
  obtain ⟨x1, e1⟩ : ∃ x, d1.extract n 27 = x := ⟨_, rfl⟩
  have hx1 : x1.size = 27 - n := by
    rw [← e1, size_bytes, bytes_extract, List.length_take, List.length_drop, ← size_bytes, s1]
    omega
  have hx2 : (1 : Int) ≤ (x1.size : Int) := by omega
  obtain ⟨z0, e2⟩ : ∃ z, x1.extract 0 1 = z := ⟨_, rfl⟩
  have hz0 : bts z0 = [(bts d1).getD n 0] := by
    rw [← e2, bytes_extract, ← e1, bytes_extract, List.drop_zero]
    have hl : n < (bts d1).length := by rw [← size_bytes, s1]; exact hn27
    rw [drop_cons hl, List.getD_eq_getElem?_getD, List.getElem?_eq_getElem hl, show 27 - n = (26 - n) + 1 by omega]
    rfl
  have HZ0 : Hid (Wordish (bts z0)) := by
    rw [hz0]
    have hl := H1.out n hn27
    exact ⟨by simp, hl, fun c hc => by rw [List.mem_singleton.1 hc]; unfold wordly; rw [hl]; rfl⟩
  have hzs : z0.size = 1 := by rw [size_bytes, hz0]; rfl
  clear hz0 H1
  go_enter Tryd.func4, Tryd.ntmps4
  rw [show (⟨#[97, 98, 99, 100, 101, 102, 103, 104, 105, 106, 107, 108, 109, 110, 111, 112, 113, 114, 115, 116, 117, 118, 119, 120, 121, 122, 95]⟩ : ByteArray) = d1 from hd1.symm,
    show (⟨#[97, 98, 99, 100, 101, 102, 103, 104, 105, 106, 107, 108, 109, 110, 111, 112, 113, 114, 115, 116, 117, 118, 119, 120, 121, 122, 95, 48, 49, 50, 51, 52, 53, 54, 55, 56, 57]⟩ : ByteArray) = d2 from hd2.symm]
  clear hd1 hd2 hn
  go_wp2_with (go_at_call 7; refine (cP _).mono ?_; rintro e w' ⟨rfl, rfl⟩)
  clear e1 e2 hx1 hx2 s1 cP
  go_loopw [4, 5] (fun v x wr => ∃ (k : Nat) (z : ByteArray), k ≤ 11 ∧ (k : Int) ≤ (s.size : Int) ∧ v = .string z ∧ x = .int .i64 (k : Int) ∧ z.size = k + 1 ∧ Hid (Below w.heap.size w wr) ∧ Hid (Wordish (bts z))) (fun _ x _ => 11 - (intOf x).toNat)
  case atStart => exact ⟨0, z0, by omega, by omega, rfl, rfl, hzs, Below.refl _ _, HZ0⟩
  case round =>
    clear hzs HZ0
    obtain ⟨k, z, hk, hks, rfl, rfl, hz, HB, HW⟩ := hrel
    by_cases hlt : k < s.size
    · have hlt1 : (k : Int) < (s.size : Int) := by omega
      by_cases h11 : k < 11
      · have h111 : (k : Int) < 11 := by omega
        obtain ⟨x, hx⟩ : ∃ x, (s[k]'hlt).toNat = x := ⟨_, rfl⟩
        have hx3 : x < 256 := by rw [← hx]; exact (s[k]'hlt).toNat_lt
        obtain ⟨m, hm⟩ : ∃ m, x % 37 = m := ⟨_, rfl⟩
        have hm1 : (x : Int).tmod 37 = (m : Int) := by rw [← hm, Int.tmod_eq_emod_of_nonneg (by omega)]; omega
        have hm37 : m < 37 := by omega
        have hm2 : (m : Int) + 1 ≤ 37 := by omega
        obtain ⟨y, hy⟩ : ∃ y, d2.extract m (m + 1) = y := ⟨_, rfl⟩
        have hyb : bts y = [(bts d2).getD m 0] := by rw [← hy]; exact one_of d2 m (by omega)
        have hys : y.size = 1 := by rw [size_bytes, hyb]; rfl
        have R : Hid (Wordish (bts (z ++ y))) := by
          have : bts (z ++ y) = bts z ++ bts y := by
            unfold bts
            rw [ByteArray.data_append]
            simp
          rw [this, hyb]
          exact HW.out.push (H2.out m hm37)
        clear hm hyb HW
        go_wp2
        go_quiet (fail)
        go_wp2
        go_roundw
        case rel => exact ⟨k + 1, z ++ y, by omega, by omega, rfl, by go_num, by rw [ByteArray.size_append, hz, hys], drewN_below HB.out _, R⟩
        case measure => simp [intOf]; omega
      · have h111 : ¬ (k : Int) < 11 := by omega
        go_wp2
        go_ret
        exact ⟨bts z, by rw [str_bts]; rfl, HW.out, by rw [← size_bytes]; omega, HB.out⟩
    · have hlt1 : ¬ (k : Int) < (s.size : Int) := by omega
      go_wp2
      go_ret
      exact ⟨bts z, by rw [str_bts]; rfl, HW.out, by rw [← size_bytes]; omega, HB.out⟩

end Go.Proofs.YtgpopopgmmfnmabDoor
