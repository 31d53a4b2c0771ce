/- The document's own way to read one token (oneToken): words. -/
import Derived.Test.YtjeniabnokcbnaaDoorLexRefByte
import Derived.Test.YtjeniabnokcbnaaDoorOverTabs
namespace Go.Proofs.YtjeniabnokcbnaaDoor
open Go.ChangeShapes Go.WideShapes Go.ChangeAt Go.RowKit

theorem low_enc_all : ∀ x : Fin 128, bts (Utf8.encode ((x.val : Nat) : Int)) = [UInt8.ofNat x.val] := by decide +kernel

theorem wordy_small_all : ∀ x : Fin 256, wordy (UInt8.ofNat x.val) = true → (low (UInt8.ofNat x.val)).toNat < 128 := by decide +kernel

theorem wordy_small {c : UInt8} (h : wordy c = true) : (low c).toNat < 128 := by
  have e : UInt8.ofNat c.toNat = c := by simp
  have := wordy_small_all ⟨c.toNat, c.toNat_lt⟩
  rw [e] at this
  exact this h

theorem low_enc {c : UInt8} (h : wordy c = true) : bts (Utf8.encode (((low c).toNat : Nat) : Int)) = [low c] := by
  have := low_enc_all ⟨(low c).toNat, wordy_small h⟩
  simpa using this

theorem one_is_word {s : ByteArray} {k : Nat} (hk : k < (bts s).length) (hl : letter (low (bts s)[k]) = true) :
    one ((bts s).drop k) = if 12 < on wordy (bts s) (k + 1) - k then .bad 1 else .tok ⟨1, 0, (((bts s).drop k).take (on wordy (bts s) (k + 1) - k)).map low⟩ (on wordy (bts s) (k + 1) - k) := by
  have hw : wordy (bts s)[k] = true := by unfold wordy; rw [hl]; rfl
  have hn : ((bts s).drop k |>.takeWhile wordy).length = on wordy (bts s) (k + 1) - k := by
    rw [← on_step wordy (bts s) k hk hw]
    unfold on
    omega
  rw [drop_cons hk] at hn ⊢
  simp only [one, hl, if_true, hn]

/-- what oneToken answers at a place -/
def OnePost (s : ByteArray) (k : Nat) (w : World) (e : Ending) (w' : World) : Prop :=
  Below w.heap.size w w' ∧ ((∃ er, one ((bts s).drop k) = .bad er ∧ e = .returned (.tuple #[tokv zeroTok, .int .i64 0, .int .i64 er])) ∨ ∃ t n, one ((bts s).drop k) = .tok t n ∧ e = .returned (.tuple #[tokv t, .int .i64 ((k + n : Nat) : Int), .int .i64 0]))

set_option maxRecDepth 100000 in
set_option maxHeartbeats 8000000 in
theorem oneToken_word (s : ByteArray) (hs : s.size ≤ 2000) (k : Nat) (hk : k < s.size) (hl : letter (low (s[k]'hk)) = true) (w : World) :
    Calls Tryd.prog 13 #[.string s, .int .i64 (k : Int)] w fun e w' => OnePost s k w e w' := by
  obtain ⟨x, hx⟩ : ∃ x, (s[k]'hk).toNat = x := ⟨_, rfl⟩
  have hkl : k < (bts s).length := by rw [← size_bytes]; exact hk
  have hk1 : (k : Int) < (s.size : Int) := by omega
  have cL := isLetter_any x (s[k]'hk) hx
  rw [hl] at cL
  obtain ⟨N, hN⟩ : ∃ N, N = on wordy (bts s) (k + 1) := ⟨_, rfl⟩
  have hN1 : k + 1 ≤ N := by rw [hN]; exact on_ge _ _ _
  have hN2 : N ≤ s.size := by rw [hN, size_bytes]; exact on_le _ _ _ hkl
  have HN := hidden hN
  have HW : Hid (∀ j (hj : j < s.size), k ≤ j → j < N → wordy (s[j]'hj) = true) := by
    intro j hj h1 h2
    by_cases he : j = k
    · subst he
      unfold wordy
      rw [hl]
      rfl
    · exact on_lt wordy (bts s) (k + 1) j (by omega) (by rw [← hN]; exact h2) (by rw [← size_bytes]; exact hj)
  have HE : Hid (∀ hj : N < s.size, wordy (s[N]'hj) = false) := fun hj => on_end wordy (bts s) (k + 1) N hN.symm (by rw [← size_bytes]; exact hj)
  have HO := hidden (one_is_word hkl hl)
  rw [← hN] at HO
  clear hN hl
  go_enter Tryd.func13, Tryd.ntmps13
  go_wp2_with (go_at_call 37; refine (cL _).mono ?_; rintro e w1 ⟨rfl, rfl⟩)
  go_loopw [8] (fun v wr => ∃ j : Nat, k + 1 ≤ j ∧ j ≤ N ∧ v = .int .i64 (j : Int) ∧ wr = w.alloc (.cells #[.int .i64 0, .int .i64 0, .string ⟨#[]⟩] 44)) (fun v _ => N - (intOf v).toNat)
  case atStart => exact ⟨k + 1, Nat.le_refl _, hN1, by go_num, rfl⟩
  case round =>
    obtain ⟨j, hj1, hj2, rfl, rfl⟩ := hrel
    clear cL
    by_cases hjN : j < N
    · have hjs : j < s.size := by omega
      have hjs1 : (j : Int) < (s.size : Int) := by omega
      have hw := HW.out j hjs (by omega) hjN
      obtain ⟨y, hy⟩ : ∃ y, (s[j]'hjs).toNat = y := ⟨_, rfl⟩
      have cL := isLetter_any y (s[j]'hjs) hy
      have cD := isDigit_any y (s[j]'hjs) hy
      unfold wordy at hw
      cases h1 : letter (low (s[j]'hjs)) with
      | true =>
        rw [h1] at cL
        clear cD hw
        go_wp2_with (go_at_call 37; refine (cL _).mono ?_; rintro e w1 ⟨rfl, rfl⟩)
        go_roundw
        case rel => exact ⟨j + 1, by omega, by omega, by go_num, trivial⟩
        case measure => simp [intOf]; omega
      | false =>
        rw [h1, Bool.false_or] at hw
        rw [h1] at cL
        rw [hw] at cD
        clear hw
        go_wp2_with (first
          | (go_at_call 37; refine (cL _).mono ?_; rintro e w1 ⟨rfl, rfl⟩)
          | (go_at_call 38; refine (cD _).mono ?_; rintro e w2 ⟨rfl, rfl⟩))
        go_roundw
        case rel => exact ⟨j + 1, by omega, by omega, by go_num, trivial⟩
        case measure => simp [intOf]; omega
    · obtain rfl : j = N := by omega
      have hcond : ¬ (j : Int) < (s.size : Int) ∨ ((j : Int) < (s.size : Int) ∧ ∃ hj : j < s.size, wordy (s[j]'hj) = false) := by
        by_cases h : j < s.size
        · exact .inr ⟨by omega, h, HE.out h⟩
        · exact .inl (by omega)
      have hb : Below w.heap.size w (w.alloc (.cells #[.int .i64 0, .int .i64 0, .string ⟨#[]⟩] 44)) := (Below.refl _ w).alloc (Nat.le_refl _) _
      by_cases hbig : 12 < j - k
      · have hb1 : (12 : Int) < (j : Int) - (k : Int) := by omega
        have R : Hid (one ((bts s).drop k) = .bad 1) := by
          have := HO.out
          rw [if_pos hbig] at this
          exact this
        rcases hcond with h1 | ⟨h1, hj, hw⟩
        · clear HO HW HE HN
          go_wp2
          refine bodyPost_ret (v := .tuple #[tokv zeroTok, .int .i64 0, .int .i64 1]) (by simp [results, Tryd.results13, go_sem, asAddr, tokv, zeroTok, str]) rfl ⟨hb, .inl ⟨1, R.out, rfl⟩⟩
        · obtain ⟨y, hy⟩ : ∃ y, (s[j]'hj).toNat = y := ⟨_, rfl⟩
          have cL := isLetter_any y (s[j]'hj) hy
          have cD := isDigit_any y (s[j]'hj) hy
          unfold wordy at hw
          rw [Bool.or_eq_false_iff] at hw
          rw [hw.1] at cL
          rw [hw.2] at cD
          clear hw HO HW HE HN
          go_wp2_with (first
            | (go_at_call 37; refine (cL _).mono ?_; rintro e w1 ⟨rfl, rfl⟩)
            | (go_at_call 38; refine (cD _).mono ?_; rintro e w2 ⟨rfl, rfl⟩))
          refine bodyPost_ret (v := .tuple #[tokv zeroTok, .int .i64 0, .int .i64 1]) (by simp [results, Tryd.results13, go_sem, asAddr, tokv, zeroTok, str]) rfl ⟨hb, .inl ⟨1, R.out, rfl⟩⟩
      · have hb1 : ¬ (12 : Int) < (j : Int) - (k : Int) := by omega
        rcases hcond with h1 | ⟨h1, hj, hw⟩
        · go_wp2
          go_loopw [9, 10] (fun v i wr => ∃ (m d : Nat) (z : ByteArray), k ≤ m ∧ m ≤ j ∧ v = .string z ∧ i = .int .i64 (m : Int) ∧ z.size = d ∧ d ≤ 12 ∧ Hid (m = k + d) ∧ wr = w.alloc (.cells #[.int .i64 0, .int .i64 0, .string ⟨#[]⟩] 44) ∧ Hid (bts z = (((bts s).drop k).take d).map low)) (fun _ i _ => j - (intOf i).toNat)
          case atStart => exact ⟨k, 0, ⟨#[]⟩, Nat.le_refl _, by omega, rfl, rfl, rfl, by omega, rfl, by trivial, by simp; rfl⟩
          case round =>
            obtain ⟨m, d, z, hm1, hm2, rfl, rfl, hz, hd12, HMD, rfl, HZ⟩ := hrel
            by_cases hmj : m < j
            · have hmj1 : (m : Int) < (j : Int) := by omega
              have hms : m < s.size := by omega
              have hms1 : (m : Int) < (s.size : Int) := by omega
              have hw := HW.out m hms hm1 hmj
              obtain ⟨y, hy⟩ : ∃ y, (s[m]'hms).toNat = y := ⟨_, rfl⟩
              have hy3 : y < 256 := by rw [← hy]; exact (s[m]'hms).toNat_lt
              obtain ⟨r, hr⟩ : ∃ r, Utf8.encode (((low (s[m]'hms)).toNat : Nat) : Int) = r := ⟨_, rfl⟩
              have hrb : bts r = [low (s[m]'hms)] := by rw [← hr]; exact low_enc hw
              have hrs : r.size = 1 := by rw [size_bytes, hrb]; rfl
              have hd13 : d + 1 ≤ 12 := by have := HMD.out; omega
              have R : Hid (bts (z ++ r) = (((bts s).drop k).take (d + 1)).map low) := by
                have hdl : d < ((bts s).drop k).length := by rw [List.length_drop, ← size_bytes]; have := HMD.out; omega
                have e : ((bts s).drop k)[d] = s[m]'hms := by
                  rw [List.getElem_drop]
                  have h2 := HMD.out
                  subst h2
                  rfl
                show _ = _
                rw [bts_append, HZ.out, hrb, List.take_succ_eq_append_getElem hdl, e, List.map_append]
                rfl
              have HM2 : Hid (m + 1 = k + (d + 1)) := by have := HMD.out; show _ = _; omega
              clear hrb HZ HMD hw
              by_cases hcap : 65 ≤ y ∧ y ≤ 90
              · have g1 : (65 : Int) ≤ (y : Int) := by omega
                have g2 : (y : Int) ≤ 90 := by omega
                have hE : Utf8.encode ((y : Int) + 32) = r := by
                  rw [← hr]
                  refine congrArg Utf8.encode ?_
                  unfold low
                  rw [hy, if_pos hcap, UInt8.toNat_add, hy]
                  show (y : Int) + 32 = (((y + 32) % 256 : Nat) : Int)
                  omega
                clear hr
                go_wp2
                go_roundw
                case rel => exact ⟨m + 1, d + 1, z ++ r, by omega, by omega, rfl, by go_num, by rw [ByteArray.size_append, hrs, hz], hd13, HM2, trivial, R⟩
                case measure => simp [intOf]; omega
              · have hE : Utf8.encode (y : Int) = r := by
                  rw [← hr]
                  refine congrArg Utf8.encode ?_
                  unfold low
                  rw [hy, if_neg hcap, hy]
                clear hr
                rcases (show ¬ (65 : Int) ≤ (y : Int) ∨ ((65 : Int) ≤ (y : Int) ∧ ¬ (y : Int) ≤ 90) by omega) with g1 | ⟨g1, g2⟩
                all_goals
                  clear hcap
                  go_wp2
                  go_roundw
                  case rel => exact ⟨m + 1, d + 1, z ++ r, by omega, by omega, rfl, by go_num, by rw [ByteArray.size_append, hrs, hz], hd13, HM2, trivial, R⟩
                  case measure => simp [intOf]; omega
            · have hmj1 : ¬ (m : Int) < (j : Int) := by omega
              have R2 : Hid (one ((bts s).drop k) = .tok ⟨1, 0, bts z⟩ d ∧ (j : Int) = ((k + d : Nat) : Int)) := by
                have h1 := HO.out
                have h2 := HMD.out
                rw [if_neg hbig, show j - k = d by omega, ← HZ.out] at h1
                exact ⟨h1, by omega⟩
              clear HO HW HE HN HZ HMD
              go_wp2
              refine bodyPost_ret (v := .tuple #[tokv ⟨1, 0, bts z⟩, .int .i64 (j : Int), .int .i64 0]) (by simp [results, Tryd.results13, go_sem, asAddr, tokv, str_bts]) rfl ⟨?_, .inr ⟨⟨1, 0, bts z⟩, d, R2.out.1, by rw [← R2.out.2]⟩⟩
              exact (Below.refl _ w).alloc (Nat.le_refl _) _
        · obtain ⟨y, hy⟩ : ∃ y, (s[j]'hj).toNat = y := ⟨_, rfl⟩
          have cL := isLetter_any y (s[j]'hj) hy
          have cD := isDigit_any y (s[j]'hj) hy
          unfold wordy at hw
          rw [Bool.or_eq_false_iff] at hw
          rw [hw.1] at cL
          rw [hw.2] at cD
          clear hw
          go_wp2_with (first
            | (go_at_call 37; refine (cL _).mono ?_; rintro e w1 ⟨rfl, rfl⟩)
            | (go_at_call 38; refine (cD _).mono ?_; rintro e w2 ⟨rfl, rfl⟩))
          clear cL cD hy
          go_loopw [9, 10] (fun v i wr => ∃ (m d : Nat) (z : ByteArray), k ≤ m ∧ m ≤ j ∧ v = .string z ∧ i = .int .i64 (m : Int) ∧ z.size = d ∧ d ≤ 12 ∧ Hid (m = k + d) ∧ wr = w.alloc (.cells #[.int .i64 0, .int .i64 0, .string ⟨#[]⟩] 44) ∧ Hid (bts z = (((bts s).drop k).take d).map low)) (fun _ i _ => j - (intOf i).toNat)
          case atStart => exact ⟨k, 0, ⟨#[]⟩, Nat.le_refl _, by omega, rfl, rfl, rfl, by omega, rfl, by trivial, by simp; rfl⟩
          case round =>
            obtain ⟨m, d, z, hm1, hm2, rfl, rfl, hz, hd12, HMD, rfl, HZ⟩ := hrel
            by_cases hmj : m < j
            · have hmj1 : (m : Int) < (j : Int) := by omega
              have hms : m < s.size := by omega
              have hms1 : (m : Int) < (s.size : Int) := by omega
              have hw := HW.out m hms hm1 hmj
              obtain ⟨y, hy⟩ : ∃ y, (s[m]'hms).toNat = y := ⟨_, rfl⟩
              have hy3 : y < 256 := by rw [← hy]; exact (s[m]'hms).toNat_lt
              obtain ⟨r, hr⟩ : ∃ r, Utf8.encode (((low (s[m]'hms)).toNat : Nat) : Int) = r := ⟨_, rfl⟩
              have hrb : bts r = [low (s[m]'hms)] := by rw [← hr]; exact low_enc hw
              have hrs : r.size = 1 := by rw [size_bytes, hrb]; rfl
              have hd13 : d + 1 ≤ 12 := by have := HMD.out; omega
              have R : Hid (bts (z ++ r) = (((bts s).drop k).take (d + 1)).map low) := by
                have hdl : d < ((bts s).drop k).length := by rw [List.length_drop, ← size_bytes]; have := HMD.out; omega
                have e : ((bts s).drop k)[d] = s[m]'hms := by
                  rw [List.getElem_drop]
                  have h2 := HMD.out
                  subst h2
                  rfl
                show _ = _
                rw [bts_append, HZ.out, hrb, List.take_succ_eq_append_getElem hdl, e, List.map_append]
                rfl
              have HM2 : Hid (m + 1 = k + (d + 1)) := by have := HMD.out; show _ = _; omega
              clear hrb HZ HMD hw
              by_cases hcap : 65 ≤ y ∧ y ≤ 90
              · have g1 : (65 : Int) ≤ (y : Int) := by omega
                have g2 : (y : Int) ≤ 90 := by omega
                have hE : Utf8.encode ((y : Int) + 32) = r := by
                  rw [← hr]
                  refine congrArg Utf8.encode ?_
                  unfold low
                  rw [hy, if_pos hcap, UInt8.toNat_add, hy]
                  show (y : Int) + 32 = (((y + 32) % 256 : Nat) : Int)
                  omega
                clear hr
                go_wp2
                go_roundw
                case rel => exact ⟨m + 1, d + 1, z ++ r, by omega, by omega, rfl, by go_num, by rw [ByteArray.size_append, hrs, hz], hd13, HM2, trivial, R⟩
                case measure => simp [intOf]; omega
              · have hE : Utf8.encode (y : Int) = r := by
                  rw [← hr]
                  refine congrArg Utf8.encode ?_
                  unfold low
                  rw [hy, if_neg hcap, hy]
                clear hr
                rcases (show ¬ (65 : Int) ≤ (y : Int) ∨ ((65 : Int) ≤ (y : Int) ∧ ¬ (y : Int) ≤ 90) by omega) with g1 | ⟨g1, g2⟩
                all_goals
                  clear hcap
                  go_wp2
                  go_roundw
                  case rel => exact ⟨m + 1, d + 1, z ++ r, by omega, by omega, rfl, by go_num, by rw [ByteArray.size_append, hrs, hz], hd13, HM2, trivial, R⟩
                  case measure => simp [intOf]; omega
            · have hmj1 : ¬ (m : Int) < (j : Int) := by omega
              have R2 : Hid (one ((bts s).drop k) = .tok ⟨1, 0, bts z⟩ d ∧ (j : Int) = ((k + d : Nat) : Int)) := by
                have h1 := HO.out
                have h2 := HMD.out
                rw [if_neg hbig, show j - k = d by omega, ← HZ.out] at h1
                exact ⟨h1, by omega⟩
              clear HO HW HE HN HZ HMD
              go_wp2
              refine bodyPost_ret (v := .tuple #[tokv ⟨1, 0, bts z⟩, .int .i64 (j : Int), .int .i64 0]) (by simp [results, Tryd.results13, go_sem, asAddr, tokv, str_bts]) rfl ⟨?_, .inr ⟨⟨1, 0, bts z⟩, d, R2.out.1, by rw [← R2.out.2]⟩⟩
              exact (Below.refl _ w).alloc (Nat.le_refl _) _

end Go.Proofs.YtjeniabnokcbnaaDoor
