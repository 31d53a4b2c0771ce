/- Two intents that read what the other writes, or have nothing to do with each other: plainly. -/
import Derived.Test.YtjjdednlddnllabMlLaw
namespace Go.Proofs.Ytjjdednlddnllab
open Go.ChangeShapes Go.WideShapes Go.ChangeAt Go.RowKit

/-- an intent of one read and one write -/
def oneI (c n x v : Int) : Itt := ⟨c, 1, n, [([115, x], [115, x, 0])], [⟨[115, x], [v], false⟩]⟩

theorem oneI_may {c n x v : Int} (hc : 1 ≤ c ∧ c ≤ 1048576) (hn : 0 ≤ n ∧ n ≤ 1000) : MayI (oneI c n x v) :=
  ⟨hc, ⟨by show (1 : Int) ≤ 1; omega, by show (1 : Int) ≤ 1048576; omega⟩, ⟨hn.1, by show n ≤ 1048576; omega⟩, ⟨by simp [oneI], by simp [oneI]⟩, (fun r hr => by simp only [oneI, List.mem_cons, List.not_mem_nil, or_false] at hr; subst hr; exact ⟨by simp, by simp⟩), (fun y hy => by simp only [oneI, List.mem_cons, List.not_mem_nil, or_false] at hy; subst hy; exact ⟨by simp, by simp, by simp, fun e => by cases e⟩), by simp [oneI, AscW]⟩

theorem oneI_short (c n x v : Int) : (encI (oneI c n x v)).length ≤ 4000 := by
  simp [encI, oneI, encRd, encWt, txt4, le4_length]

theorem oneI_tells {c n x v : Int} (hc : 1 ≤ c ∧ c ≤ 1048576) (hn : 0 ≤ n ∧ n ≤ 1000) : TellsI (encI (oneI c n x v)) (some (oneI c n x v)) := ⟨oneI_may hc hn, rfl, oneI_short c n x v⟩

theorem inRng_one (a b : Int) : inRng [115, a] ([115, b], [115, b, 0]) = decide (a = b) := by
  by_cases h : a = b
  · subst h
    simp [inRng, ahead]
  · simp only [inRng, ahead, if_true, if_neg h, decide_eq_false h, Bool.and_eq_false_iff, Bool.not_eq_false', decide_eq_true_eq, decide_eq_false_iff_not]
    omega

/-- whoever is done was done before, or in the log -/
theorem hasD_from {c n : Int} : ∀ (l : List (Option Itt)) (s : Sta), hasD (playM s l).1.dones c n = true → hasD s.dones c n = true ∨ ∃ x, some x ∈ l ∧ x.client = c ∧ x.number = n
  | [], _, h => .inl h
  | e :: l, s, h => by
    simp only [playM] at h
    rcases hasD_from l (stepM s e) h with h1 | ⟨x, hx, h2⟩
    · cases e with
      | none => exact .inl h1
      | some x =>
        by_cases hc : x.client = c ∧ x.number = n
        · exact .inr ⟨x, List.mem_cons_self, hc⟩
        · simp only [stepM] at h1
          split at h1
          · exact .inl h1
          · simp only [hasD_putD, hc, decide_false, Bool.or_false] at h1
            exact .inl h1
    · exact .inr ⟨x, List.mem_cons_of_mem _ hx, h2⟩

theorem hasD_js {js : List Itt} (hm : ∀ x ∈ js, Mild x) {c n : Int} (hc : 5 < c) : hasD (playM noSta (js.map some)).1.dones c n = false := by
  cases h : hasD (playM noSta (js.map some)).1.dones c n with
  | false => rfl
  | true =>
    rcases hasD_from _ _ h with h1 | ⟨x, hx, h2, -⟩
    · simp [hasD, noSta] at h1
    · obtain ⟨y, hy, e⟩ := List.mem_map.1 hx
      cases e
      have := (hm _ hy).client.2
      omega

/-- of two that read what the other writes the first one is kept, of others both -/
theorem first_js {js : List Itt} (hm : ∀ x ∈ js, Mild x) (x y : Int) {n : Int} (hn : n = js.length) :
    (playM noSta (js.map some ++ [some (oneI 100 n x 1), some (oneI 101 n y 2)])).1.pos = n + 2 ∧ (playM noSta (js.map some ++ [some (oneI 100 n x 1), some (oneI 101 n y 2)])).2 = (playM noSta (js.map some)).2 ++ [0, if x = y then 19 else 0] := by
  obtain ⟨s, hs⟩ : ∃ s, s = (playM noSta (js.map some)).1 := ⟨_, rfl⟩
  have hp : s.pos = n := by rw [hs, playM_pos, List.length_map, hn]; show (0 : Int) + _ = _; omega
  have ho : Olds s := by rw [hs]; exact Olds.play _ (fun c h => by cases h)
  have h1 : hasD s.dones 100 1 = false := by rw [hs]; exact hasD_js hm (by omega)
  have h2 : hasD s.dones 101 1 = false := by rw [hs]; exact hasD_js hm (by omega)
  have c1 : codeM s (s.pos + 1) (some (oneI 100 n x 1)) = 0 := by
    have ht : touchedK s.cells (oneI 100 n x 1) = false := touched_none ho (by rw [hp]; exact Int.le_refl _)
    have hlt : ¬ s.pos + 1 ≤ (oneI 100 n x 1).base := by rw [hp]; show ¬ n + 1 ≤ n; omega
    have hd : hasD s.dones (oneI 100 n x 1).client (oneI 100 n x 1).number = false := h1
    simp only [codeM, hd, hlt, ht, if_false]
    simp
  have e1 : stepM s (some (oneI 100 n x 1)) = ⟨s.pos + 1, putC s.cells ⟨[115, x], [1], false, s.pos + 1⟩, putD s.dones ⟨100, 1, s.pos + 1, true⟩⟩ := by
    have hd : hasD s.dones (oneI 100 n x 1).client (oneI 100 n x 1).number = false := h1
    simp only [stepM, hd, c1]
    simp [oneI, putsK, cellOf]
  have ht2 : touchedK (putC s.cells ⟨[115, x], [1], false, s.pos + 1⟩) (oneI 101 n y 2) = decide (x = y) := by
    rw [Bool.eq_iff_iff, decide_eq_true_eq]
    simp only [touchedK, List.any_eq_true, Bool.and_eq_true, decide_eq_true_eq]
    constructor
    · rintro ⟨c, hc, hb, r, hr, hk⟩
      have hb' : n < c.since := hb
      simp only [oneI, List.mem_cons, List.not_mem_nil, or_false] at hr
      subst hr
      rcases mem_putC hc with rfl | hc
      · rw [inRng_one] at hk
        simpa using hk
      · have := ho c hc
        omega
    · rintro rfl
      refine ⟨⟨[115, x], [1], false, s.pos + 1⟩, by simp [putC], by show n < s.pos + 1; omega, _, List.mem_cons_self, ?_⟩
      show inRng [115, x] ([115, x], [115, x, 0]) = true
      rw [inRng_one]
      simp
  have c2 : codeM (stepM s (some (oneI 100 n x 1))) ((stepM s (some (oneI 100 n x 1))).pos + 1) (some (oneI 101 n y 2)) = if x = y then 19 else 0 := by
    have hd : hasD (putD s.dones ⟨100, 1, s.pos + 1, true⟩) (oneI 101 n y 2).client (oneI 101 n y 2).number = false := by
      rw [hasD_putD]
      have : hasD s.dones (oneI 101 n y 2).client (oneI 101 n y 2).number = false := h2
      rw [this]
      simp [oneI]
    have hlt : ¬ s.pos + 1 + 1 ≤ (oneI 101 n y 2).base := by rw [hp]; show ¬ n + 1 + 1 ≤ n; omega
    rw [e1]
    simp only [codeM, hd, hlt, ht2, if_false]
    by_cases hxy : x = y <;> simp [hxy]
  rw [playM_append, ← hs]
  refine ⟨?_, ?_⟩
  · simp only [playM, stepM_pos]
    omega
  · simp only [playM, c1, c2]

end Go.Proofs.Ytjjdednlddnllab
