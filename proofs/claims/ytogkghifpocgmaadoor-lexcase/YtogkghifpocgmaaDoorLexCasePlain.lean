/- Capital letters are small ones, but in quotes. No model here. -/
import Derived.Test.YtogkghifpocgmaaDoorLexBadPlain
namespace Go.Proofs.YtogkghifpocgmaaDoor

/-- a small letter as a capital one; any other byte as it is -/
def up (c : UInt8) : UInt8 := if 97 ≤ c.toNat ∧ c.toNat ≤ 122 then c - 32 else c

theorem up_all : ∀ x : Fin 256, wordly (UInt8.ofNat x.val) = true → low (up (UInt8.ofNat x.val)) = UInt8.ofNat x.val ∧ wordy (up (UInt8.ofNat x.val)) = true ∧ (up (UInt8.ofNat x.val)).toNat < 128 := by decide +kernel

theorem up_ok {c : UInt8} (h : wordly c = true) : low (up c) = c ∧ wordy (up c) = true ∧ (up c).toNat < 128 := by
  have e : UInt8.ofNat c.toNat = c := by simp
  have := up_all ⟨c.toNat, c.toNat_lt⟩
  rw [e] at this
  exact this h

theorem low_up {u : List UInt8} (h : ∀ c ∈ u, wordly c = true) : (u.map up).map low = u := by
  induction u with
  | nil => rfl
  | cons c u ih =>
    rw [List.map_cons, List.map_cons, (up_ok (h c (by simp))).1, ih (fun d hd => h d (by simp [hd]))]

theorem quote_may {t : List UInt8} (hs : signs t = true) (hl : t.length ≤ 10) : AllMay [⟨3, 0, t⟩] := by
  intro q hq
  rw [List.mem_singleton.1 hq]
  refine ⟨?_, by show (0 : Int) ≤ _; decide⟩
  have : t.length ≤ 40 := by omega
  simp [may, hs, this]

theorem case_cut {u v t : List UInt8} (hu : isWord u = true) (hl : v.map low = u) (hw : ∀ c ∈ v, wordy c = true) (hs : signs t = true) (ht : t.length ≤ 10) :
    CutIs (v ++ 32 :: joined [⟨3, 0, t⟩]) [⟨1, 0, u⟩, ⟨3, 0, t⟩] 0 0 := by
  have hm := quote_may hs ht
  have hj := joined_len hm
  have hvl : v.length = u.length := by rw [← hl, List.length_map]
  have hu1 : 1 ≤ u.length ∧ u.length ≤ 12 := by
    simp only [isWord, Bool.and_eq_true, decide_eq_true_eq] at hu
    omega
  have ho : one (v ++ 32 :: joined [⟨3, 0, t⟩]) = .tok ⟨1, 0, u⟩ v.length := by
    rw [← hl]
    exact one_word (by rw [hl]; exact hu) hw (sep_cons (by decide))
  have hg : gap false (v ++ 32 :: joined [⟨3, 0, t⟩]) = 0 := by
    refine one_gap ho ?_
    rintro ⟨r, hr⟩
    match v, hvl, hw, hr with
    | [], hvl, _, _ => simp at hvl; omega
    | c :: v, _, hw, hr =>
      have e : c = 45 := by simpa using (List.cons.inj hr).1
      have := hw c (by simp)
      rw [e] at this
      exact absurd this (by decide)
  refine .inr ⟨by simp only [List.length_append, List.length_cons, List.length_nil] at hj ⊢; omega, ?_⟩
  rw [hg]
  have hd : (v ++ 32 :: joined [⟨3, 0, t⟩]).drop (v.length + 1) = joined [⟨3, 0, t⟩] := by rw [drop_behind]; rfl
  have hd0 : (v ++ 32 :: joined [⟨3, 0, t⟩]).drop v.length = 32 :: joined [⟨3, 0, t⟩] := List.drop_left
  refine .step 0 [] ⟨1, 0, u⟩ v.length _ _ _ (by simp; omega) (by decide) ho ?_
  rw [Nat.zero_add, hd0, gap_blank 32 _ (by decide), ← Nat.add_assoc]
  have := cuts_joined (l := v ++ 32 :: joined [⟨3, 0, t⟩]) [⟨3, 0, t⟩] [] (v.length + 1) [⟨1, 0, u⟩] [⟨1, 0, u⟩, ⟨3, 0, t⟩] 0 0 (by rw [hd, List.append_nil]) hm sep_nil (by simp) (.done _ _ (by simp; omega))
  rw [hd] at this
  exact this

end Go.Proofs.YtogkghifpocgmaaDoor
