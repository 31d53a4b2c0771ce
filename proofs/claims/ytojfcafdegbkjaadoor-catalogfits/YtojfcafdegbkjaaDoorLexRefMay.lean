/- The document's words on UTF-8, on marks and on which tokens may be, as the reference reckons them: contracts, at every argument. -/
import Derived.Test.YtojfcafdegbkjaaDoorLexSigns2
import Derived.Test.YtojfcafdegbkjaaDoorLexSigns3
import Derived.Test.YtojfcafdegbkjaaDoorLexSigns4
namespace Go.Proofs.YtojfcafdegbkjaaDoor
open Go.ChangeShapes Go.WideShapes Go.ChangeAt Go.RowKit

theorem runeSize_any (s : ByteArray) (hs : s.size ≤ 9223372036854775806) (w : World) :
    Calls Tryd.prog 45 #[.string s] w fun e w' => e = .returned (.int .i64 (sz (bts s) : Int)) ∧ w = w' := by
  by_cases h0 : s.size = 0
  · exact runeSize_few s hs w (.inl h0)
  have hl : 0 < s.size := by omega
  by_cases h1 : s[0].toNat < 194
  · exact runeSize_few s hs w (.inr ⟨hl, .inl h1⟩)
  by_cases h2 : s[0].toNat < 224
  · exact runeSize_two s hs w hl (by omega) h2
  by_cases h3 : s[0].toNat < 240
  · exact runeSize_three s hs w hl (by omega) h3
  by_cases h4 : s[0].toNat < 245
  · exact runeSize_four s hs w hl (by omega) h4
  · exact runeSize_few s hs w (.inr ⟨hl, .inr (by omega)⟩)

theorem bytes_from (s : ByteArray) (k : Nat) : bts (s.extract k s.size) = (bts s).drop k := by
  rw [bytes_extract, List.take_of_length_le]
  rw [List.length_drop, ← size_bytes]
  exact Nat.le_refl _

theorem Signs_any (s : ByteArray) (hs : s.size ≤ 9223372036854775806) (w : World) :
    Calls Tryd.prog 36 #[.string s] w fun e w' => e = .returned (.bool (signs (bts s))) ∧ w = w' := by
  obtain ⟨V, hV⟩ : ∃ V, signs (bts s) = V := ⟨_, rfl⟩
  rw [hV]
  have HL : Hid (s.size = (bts s).length) := size_bytes s
  go_enter Tryd.func36, Tryd.ntmps36
  go_wp2
  go_loopw [3] (fun x wr => ∃ k : Nat, k ≤ s.size ∧ x = .int .i64 (k : Int) ∧ wr = w ∧ Hid (signs ((bts s).drop k) = V)) (fun x _ => s.size - (intOf x).toNat)
  case atStart => exact ⟨0, Nat.zero_le _, rfl, rfl, hV⟩
  case round =>
    clear hV
    obtain ⟨k, hk, rfl, rfl, H⟩ := hrel
    by_cases hlt : k < s.size
    · have hlt1 : (k : Int) < (s.size : Int) := by omega
      have hz : (s.extract k s.size).size ≤ 9223372036854775806 := by
        rw [size_bytes, bytes_from, List.length_drop, ← HL.out]
        omega
      have cR := runeSize_any (s.extract k s.size) hz
      rw [bytes_from] at cR
      have hst := signs_step ((bts s).drop k) (fun h => by have := congrArg List.length h; rw [List.length_drop, ← HL.out] at this; simp at this; omega)
      have hle := sz_le ((bts s).drop k)
      rw [List.length_drop, ← HL.out] at hle
      rw [H.out] at hst
      obtain ⟨n, hn⟩ : ∃ n, sz ((bts s).drop k) = n := ⟨_, rfl⟩
      rw [hn] at cR hst hle
      clear hn
      by_cases h0 : n = 0
      · rw [if_pos h0] at hst
        subst h0
        subst hst
        go_wp2_with (go_at_call 45; refine (cR _).mono ?_; rintro e w' ⟨rfl, rfl⟩)
        go_ret
        exact ⟨rfl, rfl⟩
      · rw [if_neg h0, List.drop_drop] at hst
        have R : Hid (signs ((bts s).drop (k + n)) = V) := hst.symm
        have h01 : ¬ (n : Int) = 0 := by omega
        clear hst
        go_wp2_with (go_at_call 45; refine (cR _).mono ?_; rintro e w' ⟨rfl, rfl⟩)
        go_roundw
        case rel => exact ⟨k + n, by omega, by go_num, by trivial, R⟩
        case measure => simp [intOf]; omega
    · have R : V = true := by
        rw [← H.out, List.drop_eq_nil_of_le (by rw [← HL.out]; omega)]
        rfl
      subst R
      have hlt1 : ¬ (k : Int) < (s.size : Int) := by omega
      go_wp2
      go_ret
      exact ⟨rfl, rfl⟩

theorem mark_list (l : List UInt8) (h : isMark l = true) : l = [40] ∨ l = [41] ∨ l = [44] ∨ l = [46] ∨ l = [42] ∨ l = [43] ∨ l = [45] ∨ l = [47] ∨ l = [37] ∨ l = [61] ∨ l = [60] ∨ l = [62] ∨ l = [60, 61] ∨ l = [62, 61] ∨ l = [60, 62] := by
  rcases isMark_cases h with ⟨a, rfl, ha⟩ | ⟨a, b, rfl, hab⟩
  · simp only [mark1, List.contains_eq_mem, List.mem_cons, List.not_mem_nil, or_false, decide_eq_true_eq] at ha
    have e : ∀ c : UInt8, a.toNat = c.toNat → [a] = [c] := fun c h => by rw [UInt8.toNat.inj h]
    rcases ha with h | h | h | h | h | h | h | h | h | h | h | h
    · exact .inl (e 40 h)
    · exact .inr (.inl (e 41 h))
    · exact .inr (.inr (.inl (e 44 h)))
    · exact .inr (.inr (.inr (.inl (e 46 h))))
    · exact .inr (.inr (.inr (.inr (.inl (e 42 h)))))
    · exact .inr (.inr (.inr (.inr (.inr (.inl (e 43 h))))))
    · exact .inr (.inr (.inr (.inr (.inr (.inr (.inl (e 45 h)))))))
    · exact .inr (.inr (.inr (.inr (.inr (.inr (.inr (.inl (e 47 h))))))))
    · exact .inr (.inr (.inr (.inr (.inr (.inr (.inr (.inr (.inl (e 37 h)))))))))
    · exact .inr (.inr (.inr (.inr (.inr (.inr (.inr (.inr (.inr (.inl (e 61 h))))))))))
    · exact .inr (.inr (.inr (.inr (.inr (.inr (.inr (.inr (.inr (.inr (.inl (e 60 h)))))))))))
    · exact .inr (.inr (.inr (.inr (.inr (.inr (.inr (.inr (.inr (.inr (.inr (.inl (e 62 h))))))))))))
  · simp only [mark2, List.contains_eq_mem, List.mem_cons, Prod.mk.injEq, List.not_mem_nil, or_false, decide_eq_true_eq] at hab
    have e : ∀ c d : UInt8, a.toNat = c.toNat → b.toNat = d.toNat → [a, b] = [c, d] := fun c d h h2 => by rw [UInt8.toNat.inj h, UInt8.toNat.inj h2]
    rcases hab with ⟨h, h2⟩ | ⟨h, h2⟩ | ⟨h, h2⟩
    · exact .inr (.inr (.inr (.inr (.inr (.inr (.inr (.inr (.inr (.inr (.inr (.inr (.inl (e 60 61 h h2)))))))))))))
    · exact .inr (.inr (.inr (.inr (.inr (.inr (.inr (.inr (.inr (.inr (.inr (.inr (.inr (.inl (e 62 61 h h2))))))))))))))
    · exact .inr (.inr (.inr (.inr (.inr (.inr (.inr (.inr (.inr (.inr (.inr (.inr (.inr (.inr (e 60 62 h h2))))))))))))))

set_option maxHeartbeats 2000000 in
theorem isMark_ref (s : ByteArray) (w : World) :
    Calls Tryd.prog 37 #[.string s] w fun e w' => e = .returned (.bool (isMark (bts s))) ∧ w = w' := by
  cases hm : isMark (bts s)
  · have n : ∀ l, isMark l = true → (s.toList == l) = false := fun l hl => by
      rw [beq_eq_false_iff_ne]
      intro h
      rw [bytes_to_list] at h
      have h : bts s = l := h
      rw [h, hl] at hm
      cases hm
    have n1 := n [40] rfl
    have n2 := n [41] rfl
    have n3 := n [44] rfl
    have n4 := n [46] rfl
    have n5 := n [42] rfl
    have n6 := n [43] rfl
    have n7 := n [45] rfl
    have n8 := n [47] rfl
    have n9 := n [37] rfl
    have n10 := n [61] rfl
    have n11 := n [60] rfl
    have n12 := n [62] rfl
    have n13 := n [60, 61] rfl
    have n14 := n [62, 61] rfl
    have n15 := n [60, 62] rfl
    clear n
    go_enter Tryd.func37, Tryd.ntmps37
    go_wp2
    go_ret
    exact ⟨rfl, rfl⟩
  · rcases mark_list _ hm with h | h | h | h | h | h | h | h | h | h | h | h | h | h | h
    all_goals
      have es : s.toList = _ := (bytes_to_list s).trans h
      clear hm h
      go_enter Tryd.func37, Tryd.ntmps37
      go_wp2
      go_ret
      exact ⟨rfl, rfl⟩

end Go.Proofs.YtojfcafdegbkjaaDoor
