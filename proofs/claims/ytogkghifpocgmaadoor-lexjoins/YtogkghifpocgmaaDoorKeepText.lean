/- The statements' own makers of texts: a word (WordOf), a clean text (Clean): what they give may be. -/
import Derived.Test.YtogkghifpocgmaaDoorLexUtf
import Derived.Test.YtogkghifpocgmaaDoorLexJoin
import Derived.Test.YtogkghifpocgmaaDoorPicked
import Derived.Deep.QuietTactic
import Derived.BigQuiet
namespace Go.Proofs.YtogkghifpocgmaaDoor
open Go.ChangeShapes Go.WideShapes Go.ChangeAt Go.RowKit

def firsts : ByteArray := ⟨#[97, 98, 99, 100, 101, 102, 103, 104, 105, 106, 107, 108, 109, 110, 111, 112, 113, 114, 115, 116, 117, 118, 119, 120, 121, 122, 95]⟩
def seconds : ByteArray := ⟨#[97, 98, 99, 100, 101, 102, 103, 104, 105, 106, 107, 108, 109, 110, 111, 112, 113, 114, 115, 116, 117, 118, 119, 120, 121, 122, 95, 48, 49, 50, 51, 52, 53, 54, 55, 56, 57]⟩

theorem firsts_letter : ∀ k, k < 27 → letter ((bts firsts).getD k 0) = true := by decide +kernel
theorem seconds_wordly : ∀ k, k < 37 → wordly ((bts seconds).getD k 0) = true := by decide +kernel

theorem one_of (s : ByteArray) (k : Nat) (hk : k < s.size) : bts (s.extract k (k + 1)) = [(bts s).getD k 0] := by
  have h : k < (bts s).length := by rw [← size_bytes]; exact hk
  rw [bytes_extract, drop_cons h, List.getD_eq_getElem?_getD, List.getElem?_eq_getElem h, show k + 1 - k = 1 by omega]
  rfl

/-- a beginning of a word -/
def Wordish (u : List UInt8) : Prop := 1 ≤ u.length ∧ letter (u.getD 0 0) = true ∧ ∀ c ∈ u, wordly c = true

theorem Wordish.isWord {u : List UInt8} (h : Wordish u) (hl : u.length ≤ 12) : isWord u = true := by
  obtain ⟨h1, h2, h3⟩ := h
  have hd : digit (u.getD 0 0) = false := by
    simp only [letter, digit, Bool.or_eq_true, Bool.and_eq_true, decide_eq_true_eq, Bool.and_eq_false_imp, decide_eq_false_iff_not] at h2 ⊢
    omega
  unfold Go.Proofs.YtogkghifpocgmaaDoor.isWord
  rw [decide_eq_true h1, decide_eq_true hl, hd, List.all_eq_true.2 h3]
  rfl

theorem Wordish.push {u : List UInt8} {c : UInt8} (h : Wordish u) (hc : wordly c = true) : Wordish (u ++ [c]) := by
  obtain ⟨h1, h2, h3⟩ := h
  refine ⟨by simp, ?_, fun d hd => ?_⟩
  · rw [List.getD_eq_getElem?_getD, List.getElem?_append_left (by omega), ← List.getD_eq_getElem?_getD]
    exact h2
  · rcases List.mem_append.1 hd with h | h
    · exact h3 d h
    · rw [List.mem_singleton.1 h]
      exact hc

set_option maxRecDepth 100000 in
set_option maxHeartbeats 4000000 in
theorem WordOf_any (s : ByteArray) (hs : s.size ≤ 9223372036854775807) (w : World) :
    Calls Tryd.prog 19 #[.string s] w fun e w' => ∃ u : List UInt8, e = .returned (.string (str u)) ∧ Wordish u ∧ u.length ≤ 12 ∧ Below w.heap.size w w' := by
  obtain ⟨n, hn⟩ : ∃ n : Nat, (s.size : Int) % 27 = (n : Int) := ⟨((s.size : Int) % 27).toNat, by omega⟩
  have hn27 : n < 27 := by omega
  have cP := Picked_any (s.size : Int) 27 (by decide) (by decide)
  rw [hn] at cP
  obtain ⟨d1, hd1⟩ : ∃ d : ByteArray, d = firsts := ⟨_, rfl⟩
  obtain ⟨d2, hd2⟩ : ∃ d : ByteArray, d = seconds := ⟨_, rfl⟩
  have s1 : d1.size = 27 := by rw [hd1]; rfl
  have s2 : d2.size = 37 := by rw [hd2]; rfl
  have H1 : Hid (∀ k, k < 27 → letter ((bts d1).getD k 0) = true) := by rw [hd1]; exact firsts_letter
  have H2 : Hid (∀ k, k < 37 → wordly ((bts d2).getD k 0) = true) := by rw [hd2]; exact seconds_wordly
  obtain ⟨x1, e1⟩ : ∃ x, d1.extract n 27 = x := ⟨_, rfl⟩
  have hx1 : x1.size = 27 - n := by
    rw [← e1, size_bytes, bytes_extract, List.length_take, List.length_drop, ← size_bytes, s1]
    omega
  have hx2 : (1 : Int) ≤ (x1.size : Int) := by omega
  obtain ⟨z0, e2⟩ : ∃ z, x1.extract 0 1 = z := ⟨_, rfl⟩
  have hz0 : bts z0 = [(bts d1).getD n 0] := by
    rw [← e2, bytes_extract, ← e1, bytes_extract, List.drop_zero]
    have hl : n < (bts d1).length := by rw [← size_bytes, s1]; exact hn27
    rw [drop_cons hl, List.getD_eq_getElem?_getD, List.getElem?_eq_getElem hl, show 27 - n = (26 - n) + 1 by omega]
    rfl
  have HZ0 : Hid (Wordish (bts z0)) := by
    rw [hz0]
    have hl := H1.out n hn27
    exact ⟨by simp, hl, fun c hc => by rw [List.mem_singleton.1 hc]; unfold wordly; rw [hl]; rfl⟩
  have hzs : z0.size = 1 := by rw [size_bytes, hz0]; rfl
  clear hz0 H1
  go_enter Tryd.func19, Tryd.ntmps19
  rw [show (⟨#[97, 98, 99, 100, 101, 102, 103, 104, 105, 106, 107, 108, 109, 110, 111, 112, 113, 114, 115, 116, 117, 118, 119, 120, 121, 122, 95]⟩ : ByteArray) = d1 from hd1.symm,
    show (⟨#[97, 98, 99, 100, 101, 102, 103, 104, 105, 106, 107, 108, 109, 110, 111, 112, 113, 114, 115, 116, 117, 118, 119, 120, 121, 122, 95, 48, 49, 50, 51, 52, 53, 54, 55, 56, 57]⟩ : ByteArray) = d2 from hd2.symm]
  clear hd1 hd2 hn
  go_wp2_with (go_at_call 18; refine (cP _).mono ?_; rintro e w' ⟨rfl, rfl⟩)
  clear e1 e2 hx1 hx2 s1 cP
  go_loopw [4, 5] (fun v x wr => ∃ (k : Nat) (z : ByteArray), k ≤ 11 ∧ (k : Int) ≤ (s.size : Int) ∧ v = .string z ∧ x = .int .i64 (k : Int) ∧ z.size = k + 1 ∧ Hid (Below w.heap.size w wr) ∧ Hid (Wordish (bts z))) (fun _ x _ => 11 - (intOf x).toNat)
  case atStart => exact ⟨0, z0, by omega, by omega, rfl, rfl, hzs, Below.refl _ _, HZ0⟩
  case round =>
    clear hzs HZ0
    obtain ⟨k, z, hk, hks, rfl, rfl, hz, HB, HW⟩ := hrel
    by_cases hlt : k < s.size
    · have hlt1 : (k : Int) < (s.size : Int) := by omega
      by_cases h11 : k < 11
      · have h111 : (k : Int) < 11 := by omega
        obtain ⟨x, hx⟩ : ∃ x, (s[k]'hlt).toNat = x := ⟨_, rfl⟩
        have hx3 : x < 256 := by rw [← hx]; exact (s[k]'hlt).toNat_lt
        obtain ⟨m, hm⟩ : ∃ m, x % 37 = m := ⟨_, rfl⟩
        have hm1 : (x : Int).tmod 37 = (m : Int) := by rw [← hm, Int.tmod_eq_emod_of_nonneg (by omega)]; omega
        have hm37 : m < 37 := by omega
        have hm2 : (m : Int) + 1 ≤ 37 := by omega
        obtain ⟨y, hy⟩ : ∃ y, d2.extract m (m + 1) = y := ⟨_, rfl⟩
        have hyb : bts y = [(bts d2).getD m 0] := by rw [← hy]; exact one_of d2 m (by omega)
        have hys : y.size = 1 := by rw [size_bytes, hyb]; rfl
        have R : Hid (Wordish (bts (z ++ y))) := by
          have : bts (z ++ y) = bts z ++ bts y := by
            unfold bts
            rw [ByteArray.data_append]
            simp
          rw [this, hyb]
          exact HW.out.push (H2.out m hm37)
        clear hm hyb HW
        go_wp2
        go_quiet (fail)
        go_wp2
        go_roundw
        case rel => exact ⟨k + 1, z ++ y, by omega, by omega, rfl, by go_num, by rw [ByteArray.size_append, hz, hys], drewN_below HB.out _, R⟩
        case measure => simp [intOf]; omega
      · have h111 : ¬ (k : Int) < 11 := by omega
        go_wp2
        go_ret
        exact ⟨bts z, by rw [str_bts]; rfl, HW.out, by rw [← size_bytes]; omega, HB.out⟩
    · have hlt1 : ¬ (k : Int) < (s.size : Int) := by omega
      go_wp2
      go_ret
      exact ⟨bts z, by rw [str_bts]; rfl, HW.out, by rw [← size_bytes]; omega, HB.out⟩

theorem and_127 (x : Nat) (hx : x < 256) : bits .and .u8 (x : Int) 127 = ((x % 128 : Nat) : Int) := by
  have h : ∀ x : Fin 256, bits .and .u8 ((x.val : Nat) : Int) 127 = ((x.val % 128 : Nat) : Int) := by decide +kernel
  exact h ⟨x, hx⟩

theorem bytes_two : ∀ u ∈ [Value.int .u8 195, Value.int .u8 169], u.oneCell' = true := by
  intro u hu
  simp only [List.mem_cons, List.not_mem_nil, or_false] at hu
  rcases hu with rfl | rfl <;> rfl

theorem cell_two_new (w : World) (ty : TypeId) : ∀ j u, [Value.int .u8 195, Value.int .u8 169][j]? = some u → (w.alloc (.cells #[.int .u8 195, .int .u8 169] ty)).cell? ((⟨w.heap.size, 0, none⟩ : Addr).add j) = some u := by
  intro j u hu
  rw [add_off]
  match j, hu with
  | 0, hu => cases hu; simp
  | 1, hu => cases hu; simp

set_option maxRecDepth 100000 in
set_option maxHeartbeats 4000000 in
theorem Clean_any (s : ByteArray) (n : Nat) (hn : n ≤ 1000) (hs : s.size ≤ 9223372036854775807) (w : World) :
    Calls Tryd.prog 20 #[.string s, .int .i64 (n : Int)] w fun e w' => ∃ u : List UInt8, e = .returned (.string (str u)) ∧ signs u = true ∧ u.length ≤ n ∧ Below w.heap.size w w' := by
  obtain ⟨i0, hi0, hz0, hz1, hz2⟩ := info_parts Tryd.infoByte
  go_enter Tryd.func20, Tryd.ntmps20
  go_wp2
  go_loopw [5, 6] (fun v x wr => ∃ (k : Nat) (acc : List UInt8) (ao : Option Addr) (cap : Nat), (k : Int) ≤ (s.size : Int) ∧ v = .slice ao acc.length cap ∧ x = .int .i64 (k : Int) ∧ acc.length ≤ n ∧ Hid (Below w.heap.size w wr) ∧
    wr.ownsRow w.heap.size 5 1 (.slice ao acc.length cap) acc.length (cellsOf acc) ∧ Hid (signs acc = true)) (fun _ x _ => s.size - (intOf x).toNat)
  case atStart => exact ⟨0, [], none, 0, by omega, rfl, rfl, Nat.zero_le _, Below.refl _ _, World.ownsRow_nil _ _ _ _, rfl⟩
  case round =>
    obtain ⟨k, acc, ao, cap, hks, rfl, rfl, hal, HB, hown, HS⟩ := hrel
    have hcv := own_string rfl hown
    by_cases hlt : k < s.size
    · have hlt1 : (k : Int) < (s.size : Int) := by omega
      obtain ⟨x, hx⟩ : ∃ x, (s[k]'hlt).toNat = x := ⟨_, rfl⟩
      have hx3 : x < 256 := by rw [← hx]; exact (s[k]'hlt).toNat_lt
      by_cases h255 : x = 255
      · have h1 : (x : Int) = 255 := by omega
        have h2 : ((x : Int) == 255) = true := beq_iff_eq.2 h1
        by_cases hf : n < acc.length + 2
        · have hf1 : (n : Int) < (acc.length : Int) + 2 := by omega
          go_wp2
          go_ret
          exact ⟨acc, rfl, HS.out, hal, HB.out⟩
        · have hf1 : ¬ (n : Int) < (acc.length : Int) + 2 := by omega
          have R : Hid (signs (acc ++ [195, 169]) = true) := signs_push HS.out signs_two
          go_wp2_with (at_builtin; refine wpList_append_own _ rfl (.tmp 22) (.tmp 23) 46 rfl w.heap.size 5 i0 (.int .u8 0) 1 1 Tryd.underlying46 hi0 hz0 hz1 hz2 rfl (by decide) _ _ _ rfl (hown.alloc _) ⟨wr.heap.size, 0, none⟩ 2 2 [.int .u8 195, .int .u8 169] rfl rfl (cell_two_new _ _) bytes_two (by unfold maxLen; omega) (by omega) (by have := HB.out.size; simp; omega) ?_; intro v2 w2 hown2 hg2 _; have b2 : Below w.heap.size w w2 := (HB.out.alloc HB.out.size _).grown hg2 (by have := HB.out.size; simp; omega) (fun k hk => (hown.lt k hk).1); have hown2 : w2.ownsRow w.heap.size 5 1 v2 (acc ++ [195, 169]).length (cellsOf (acc ++ [195, 169])) := (by rw [← cellsOf_append, List.length_append]; exact hown2); obtain ⟨ao2, cap2, rfl⟩ := own_shape hown2)
          go_roundw
          case rel => exact ⟨k + 1, acc ++ [195, 169], ao2, cap2, by omega, by simp, by go_num, by simp; omega, b2, hown2, R⟩
          case measure => simp [intOf]; omega
      · have h1 : ¬ (x : Int) = 255 := by omega
        have h2 : ((x : Int) == 255) = false := beq_eq_false_iff_ne.2 h1
        by_cases hf : n < acc.length + 1
        · have hf1 : (n : Int) < (acc.length : Int) + 1 := by omega
          go_wp2
          go_ret
          exact ⟨acc, rfl, HS.out, hal, HB.out⟩
        · have hf1 : ¬ (n : Int) < (acc.length : Int) + 1 := by omega
          have hA := and_127 x hx3
          obtain ⟨c, hc⟩ : ∃ c : UInt8, c.toNat = x % 128 := ⟨UInt8.ofNat (x % 128), by rw [UInt8.toNat_ofNat']; omega⟩
          rw [← hc] at hA
          have R : Hid (signs (acc ++ [c]) = true) := signs_push HS.out (signs_one c (by omega))
          clear hc
          go_wp2_with (at_builtin; refine wpList_append_own _ rfl (.tmp 30) (.tmp 35) 46 rfl w.heap.size 5 i0 (.int .u8 0) 1 1 Tryd.underlying46 hi0 hz0 hz1 hz2 rfl (by decide) _ _ _ rfl (hown.alloc _) ⟨wr.heap.size, 0, none⟩ 1 1 [.int .u8 (c.toNat : Int)] rfl rfl (cell_one_new _ _ _) (byte_one _) (by unfold maxLen; omega) (by omega) (by have := HB.out.size; simp; omega) ?_; intro v2 w2 hown2 hg2 _; have b2 : Below w.heap.size w w2 := (HB.out.alloc HB.out.size _).grown hg2 (by have := HB.out.size; simp; omega) (fun k hk => (hown.lt k hk).1); have hown2 : w2.ownsRow w.heap.size 5 1 v2 (acc ++ [c]).length (cellsOf (acc ++ [c])) := (by rw [← cellsOf_append, List.length_append]; exact hown2); obtain ⟨ao2, cap2, rfl⟩ := own_shape hown2)
          go_roundw
          case rel => exact ⟨k + 1, acc ++ [c], ao2, cap2, by omega, by simp, by go_num, by simp; omega, b2, hown2, R⟩
          case measure => simp [intOf]; omega
    · have hlt1 : ¬ (k : Int) < (s.size : Int) := by omega
      go_wp2
      go_ret
      exact ⟨acc, rfl, HS.out, hal, HB.out⟩

end Go.Proofs.YtogkghifpocgmaaDoor
