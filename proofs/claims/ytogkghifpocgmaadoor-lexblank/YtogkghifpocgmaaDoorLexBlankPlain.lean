/- Blanks and remarks between joined tokens do not matter. No model here. -/
import Derived.Test.YtogkghifpocgmaaDoorLexBadPlain
namespace Go.Proofs.YtogkghifpocgmaaDoor

/-- a text that is skipped, whatever stands behind it, and that begins with a blank -/
def Skipped (G : List UInt8) : Prop := (∀ r, gap false (G ++ r) = G.length + gap false r) ∧ ∀ r, Sep (G ++ r)

theorem gap_remark (note r : List UInt8) (h : ∀ c ∈ note, ¬ c.toNat = 10) : gap true (note ++ 10 :: r) = note.length + (1 + gap false r) := by
  induction note with
  | nil =>
    have h1 : noLine 10 = false := by decide
    show gap true (10 :: r) = 0 + (1 + gap false r)
    simp [gap, h1]
  | cons c note ih =>
    have hc : noLine c = true := by simp [noLine, h c (by simp)]
    rw [List.cons_append]
    simp only [gap, hc, List.length_cons]
    rw [ih (fun d hd => h d (by simp [hd]))]
    omega

theorem gap_remark_end (note : List UInt8) (h : ∀ c ∈ note, ¬ c.toNat = 10) : gap true note = note.length := by
  induction note with
  | nil => rfl
  | cons c note ih =>
    have hc : noLine c = true := by simp [noLine, h c (by simp)]
    simp only [gap, hc, List.length_cons]
    rw [ih (fun d hd => h d (by simp [hd]))]
    omega

theorem gap_two (r : List UInt8) : gap false (45 :: 45 :: r) = 2 + gap true r := by
  have h1 : blank 45 = false := by decide
  have h2 : noLine 45 = true := by decide
  simp [gap, h1, h2]
  omega

def gapList : List (List UInt8) := [[9], [10], [13], [32, 32], [10, 9, 32], [45, 45, 10]]

theorem gapList_skipped : ∀ m, m < 6 → Skipped (32 :: gapList.getD m []) ∧ (gapList.getD m []).length ≤ 3 := by
  intro m hm
  have hb : ∀ c : UInt8, (c = 9 ∨ c = 10 ∨ c = 13 ∨ c = 32) → blank c = true := by
    intro c hc
    rcases hc with rfl | rfl | rfl | rfl <;> decide
  rcases (show m = 0 ∨ m = 1 ∨ m = 2 ∨ m = 3 ∨ m = 4 ∨ m = 5 by omega) with rfl | rfl | rfl | rfl | rfl | rfl
  · refine ⟨⟨fun r => ?_, fun r => sep_cons (by decide)⟩, by decide⟩
    show gap false (32 :: 9 :: r) = 2 + gap false r
    rw [gap_blank _ _ (by decide), gap_blank _ _ (by decide)]
    omega
  · refine ⟨⟨fun r => ?_, fun r => sep_cons (by decide)⟩, by decide⟩
    show gap false (32 :: 10 :: r) = 2 + gap false r
    rw [gap_blank _ _ (by decide), gap_blank _ _ (by decide)]
    omega
  · refine ⟨⟨fun r => ?_, fun r => sep_cons (by decide)⟩, by decide⟩
    show gap false (32 :: 13 :: r) = 2 + gap false r
    rw [gap_blank _ _ (by decide), gap_blank _ _ (by decide)]
    omega
  · refine ⟨⟨fun r => ?_, fun r => sep_cons (by decide)⟩, by decide⟩
    show gap false (32 :: 32 :: 32 :: r) = 3 + gap false r
    rw [gap_blank _ _ (by decide), gap_blank _ _ (by decide), gap_blank _ _ (by decide)]
    omega
  · refine ⟨⟨fun r => ?_, fun r => sep_cons (by decide)⟩, by decide⟩
    show gap false (32 :: 10 :: 9 :: 32 :: r) = 4 + gap false r
    rw [gap_blank _ _ (by decide), gap_blank _ _ (by decide), gap_blank _ _ (by decide), gap_blank _ _ (by decide)]
    omega
  · refine ⟨⟨fun r => ?_, fun r => sep_cons (by decide)⟩, by decide⟩
    show gap false (32 :: 45 :: 45 :: 10 :: r) = 4 + gap false r
    rw [gap_blank _ _ (by decide), gap_two]
    have := gap_remark [] r (by simp)
    simp at this
    omega

theorem allMay_append {a b : List Tok} (ha : AllMay a) (hb : AllMay b) : AllMay (a ++ b) := fun t ht => by
  rcases List.mem_append.1 ht with h | h
  · exact ha t h
  · exact hb t h

theorem plain_cut {a b : List Tok} (ha : AllMay a) (hb : AllMay b) (hna : a.length ≤ 10) (hnb : b.length ≤ 10) : CutIs (joined a ++ 32 :: joined b) (a ++ b) 0 0 := by
  have l1 := joined_len ha
  have l2 := joined_len hb
  refine cut_joined ha (by omega) (sep_cons (by decide)) (by simp; omega) ?_
  rw [gap_blank 32 _ (by decide), ← Nat.add_assoc]
  have hd : (joined a ++ 32 :: joined b).drop ((joined a).length + 1) = joined b := by rw [drop_behind]; rfl
  have := cuts_joined (l := joined a ++ 32 :: joined b) b [] ((joined a).length + 1) a (a ++ b) 0 0 (by rw [hd, List.append_nil]) hb sep_nil (by omega) (.done _ _ (by simp; omega))
  rw [hd] at this
  exact this

theorem wide_cut {a b : List Tok} {G note : List UInt8} (ha : AllMay a) (hb : AllMay b) (hna : a.length ≤ 10) (hnb : b.length ≤ 10) (hG : Skipped G) (hGl : G.length ≤ 4) (hN : ∀ c ∈ note, ¬ c.toNat = 10) (hNl : note.length ≤ 60) :
    CutIs (G ++ joined a ++ G ++ [45, 45] ++ note ++ [10] ++ joined b ++ G ++ [45, 45] ++ note) (a ++ b) 0 0 := by
  have l1 := joined_len ha
  have l2 := joined_len hb
  obtain ⟨R, hR⟩ : ∃ R, R = G ++ 45 :: 45 :: note := ⟨_, rfl⟩
  obtain ⟨Q, hQ⟩ : ∃ Q, Q = G ++ 45 :: 45 :: (note ++ 10 :: (joined b ++ R)) := ⟨_, rfl⟩
  have hL : G ++ joined a ++ G ++ [45, 45] ++ note ++ [10] ++ joined b ++ G ++ [45, 45] ++ note = G ++ (joined a ++ Q) := by rw [hQ, hR]; simp
  have hRl : R.length = G.length + 2 + note.length := by rw [hR]; simp; omega
  have hQl : Q.length = G.length + 2 + note.length + 1 + (joined b).length + R.length := by rw [hQ]; simp; omega
  have gR : gap false R = R.length := by
    rw [hR, hG.1, gap_two, gap_remark_end _ hN]
    simp
    omega
  have gQ : gap false Q = G.length + 2 + note.length + 1 + gap false (joined b ++ R) := by
    rw [hQ, hG.1, gap_two, gap_remark _ _ hN]
    omega
  have sR : Sep R := by rw [hR]; exact hG.2 _
  have sQ : Sep Q := by rw [hQ]; exact hG.2 _
  rw [hL]
  refine .inr ⟨by simp; omega, ?_⟩
  have d0 : (G ++ (joined a ++ Q)).drop G.length = joined a ++ Q := List.drop_left
  have d1 : (G ++ (joined a ++ Q)).drop (G.length + (joined a).length) = Q := by rw [← List.drop_drop, d0, List.drop_left]
  have d2 : (G ++ (joined a ++ Q)).drop (G.length + (joined a).length + (G.length + 2 + note.length + 1)) = joined b ++ R := by
    rw [← List.drop_drop, d1, hQ, show G.length + 2 + note.length + 1 = G.length + (1 + (1 + (note.length + 1))) by omega, drop_behind]
    rw [← List.drop_drop, List.drop_succ_cons, List.drop_zero, ← List.drop_drop, List.drop_succ_cons, List.drop_zero, drop_behind]
    rfl
  have d3 : (G ++ (joined a ++ Q)).drop (G.length + (joined a).length + (G.length + 2 + note.length + 1) + (joined b).length) = R := by rw [← List.drop_drop, d2, List.drop_left]
  have c2 := cuts_joined (l := G ++ (joined a ++ Q)) b R (G.length + (joined a).length + (G.length + 2 + note.length + 1)) a (a ++ b) 0 0 d2 hb sR (by omega) (.done _ _ (by
    rw [d3, gR]
    simp
    omega))
  have c1 := cuts_joined (l := G ++ (joined a ++ Q)) a Q G.length [] (a ++ b) 0 0 d0 ha sQ (by simp; omega) (by
    rw [d1, gQ, List.nil_append]
    rw [d2] at c2
    rw [← Nat.add_assoc]
    exact c2)
  rw [d0] at c1
  rw [hG.1]
  exact c1

theorem word_remark : CutIs [97, 45, 45, 98] [⟨1, 0, [97]⟩] 0 0 :=
  .inr ⟨by decide, .step 0 [] ⟨1, 0, [97]⟩ 1 _ _ _ (by decide) (by decide) rfl (.done _ _ (by decide))⟩

end Go.Proofs.YtogkghifpocgmaaDoor
