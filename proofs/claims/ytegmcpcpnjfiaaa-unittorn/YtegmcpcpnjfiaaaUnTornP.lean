/- What was put down in part is as if it had never been: in plain words. -/
import Derived.Test.YtegmcpcpnjfiaaaUnReg
namespace Go.Proofs.Ytegmcpcpnjfiaaa
open Go.ChangeShapes Go.WideShapes Go.ChangeAt Go.RowKit

/-- what the three plays come to: what the six slots are at the end -/
theorem torn_facts (ts : List Tsk) (n : Nat) (hn : n ≤ 40) (a : Nat) (ha : a < 6) (d : List Int) (hd : d.length ≤ 20) (z : Int) (js : List Jb) (q : Int) (e1 : js = (jobsOf 0 (ts.take n)).1) (e2 : q = (jobsOf 0 (ts.take n)).2) :
    ∃ (p1 p2 p3 t1 t2 t3 : List Rp), p1.length = js.length + 3 ∧ p2.length = js.length + 1 ∧ p3.length = js.length + 2 ∧ t1.length = 6 ∧ t2.length = 6 ∧ t3.length = 6 ∧
      (playU unit0 (((js ++ [⟨2, q, 0, []⟩]) ++ [⟨1, q, (a : Int), d⟩, ⟨6, 0, z, []⟩]) ++ askK q 6)).1 = p1 ++ t1 ∧
      (playU unit0 ((js ++ [⟨2, q, 0, []⟩]) ++ askK q 6)).1 = p2 ++ t2 ∧
      (playU unit0 (((js ++ [⟨2, q, 0, []⟩]) ++ [⟨1, q, (a : Int), d⟩]) ++ askK q 6)).1 = p3 ++ t3 ∧
      (z < (d.length : Int) + 8 → t1 = t2) ∧ (¬ z < (d.length : Int) + 8 → t1 = t3) := by
  have hs := jobs_state ts n (by omega)
  rw [← e1, ← e2] at hs
  obtain ⟨u, hu⟩ : ∃ u, u = (playU unit0 js).2 := ⟨_, rfl⟩
  rw [← hu] at hs
  have hep := hs.ep
  have hd4 : ¬ 4000 < d.length := by omega
  have ha64 : ¬ ((a : Int) < 0 ∨ 64 ≤ (a : Int)) := by omega
  have hfl := playU_length unit0 js
  -- the fetch leaves the unit calm
  have hf : stepU u ⟨2, q, 0, []⟩ = (readSl (u.sl 0), u.calm) := by
    have := step_look u 0 (by decide)
    rw [hep] at this
    simpa using this
  have hp0 : playU unit0 (js ++ [⟨2, q, 0, []⟩]) = ((playU unit0 js).1 ++ [readSl (u.sl 0)], u.calm) := by
    rw [playU_snoc, ← hu, hf]
  have hst : stepU u.calm ⟨1, q, (a : Int), d⟩ = storeU u.calm a d := by
    simp [stepU, atU, Un.calm, hep, ha64]
  have look : ∀ (v : Un) (l : List Jb), (playU unit0 l).2 = v → v.ep = q → (playU unit0 (l ++ askK q 6)).1 = (playU unit0 l).1 ++ (List.range 6).map (fun a => readSl (v.sl a)) := fun v l h1 h2 => by
    rw [playU_append, h1, ← h2, (play_look v 6 (by decide)).1]
  have hst2 : playU unit0 ((js ++ [⟨2, q, 0, []⟩]) ++ [⟨1, q, (a : Int), d⟩]) = (((playU unit0 js).1 ++ [readSl (u.sl 0)]) ++ [(storeU u.calm a d).1], (storeU u.calm a d).2) := by
    rw [playU_snoc, hp0, hst]
  have hcr : ∀ v : Un, stepU v ⟨6, 0, z, []⟩ = (rp 0, crashU v.calm v.fr z) := fun v => by simp [stepU]
  have hst3 : playU unit0 ((js ++ [⟨2, q, 0, []⟩]) ++ [⟨1, q, (a : Int), d⟩, ⟨6, 0, z, []⟩]) = (((playU unit0 js).1 ++ [readSl (u.sl 0)]) ++ [(storeU u.calm a d).1, rp 0], crashU (storeU u.calm a d).2.calm (storeU u.calm a d).2.fr z) := by
    rw [playU_append, hp0]
    simp only [playU, hst, hcr]
  have hse : (storeU u.calm a d).2.ep = q := by
    unfold storeU
    split
    · exact hep
    · split
      · exact hep
      · exact hep
  have hce : (crashU (storeU u.calm a d).2.calm (storeU u.calm a d).2.fr z).ep = q := by
    unfold crashU
    split
    · exact hse
    · split
      · exact hse
      · exact hse
  refine ⟨_, _, _, _, _, _, ?_, ?_, ?_, ?_, ?_, ?_, look _ _ (by rw [hst3]) hce, look u.calm _ (by rw [hp0]) hep, look _ _ (by rw [hst2]) hse, ?_, ?_⟩
  · rw [hst3]; simp [hfl]
  · rw [hp0]; simp [hfl]
  · rw [hst2]; simp [hfl]
  · simp
  · simp
  · simp
  · intro hz
    refine List.map_congr_left fun i _ => ?_
    by_cases hk : (u.sl a).kind = 0
    · have e : storeU u.calm a d = (rp 0, ⟨(u.calm.put a ⟨1, d⟩).sl, u.calm.ep, a⟩) := by
        unfold storeU
        rw [if_neg hd4, if_pos (show (u.calm.sl a).kind = 0 from hk)]
      have hz8 : z < 8 + (d.length : Int) := by omega
      have hne : ¬ (a : Int) = -1 := by omega
      rw [e]
      simp only [crashU, Un.calm, Un.put, if_neg hne, Int.toNat_natCast, if_true, true_and, hz8]
      by_cases hi : i = a
      · subst hi
        simp [readSl, hk]
      · simp [hi]
    · have e : storeU u.calm a d = (hasSl (u.sl a), u.calm) := by
        unfold storeU
        rw [if_neg hd4, if_neg (show ¬ (u.calm.sl a).kind = 0 from hk)]
        rfl
      rw [e]
      rfl
  · intro hz
    refine List.map_congr_left fun i _ => ?_
    by_cases hk : (u.sl a).kind = 0
    · have e : storeU u.calm a d = (rp 0, ⟨(u.calm.put a ⟨1, d⟩).sl, u.calm.ep, a⟩) := by
        unfold storeU
        rw [if_neg hd4, if_pos (show (u.calm.sl a).kind = 0 from hk)]
      have hz8 : ¬ z < 8 + (d.length : Int) := by omega
      have hne : ¬ (a : Int) = -1 := by omega
      rw [e]
      simp only [crashU, Un.calm, Un.put, if_neg hne, Int.toNat_natCast, if_true, true_and, if_neg hz8]
    · have e : storeU u.calm a d = (hasSl (u.sl a), u.calm) := by
        unfold storeU
        rw [if_neg hd4, if_neg (show ¬ (u.calm.sl a).kind = 0 from hk)]
        rfl
      rw [e]
      rfl

end Go.Proofs.Ytegmcpcpnjfiaaa
