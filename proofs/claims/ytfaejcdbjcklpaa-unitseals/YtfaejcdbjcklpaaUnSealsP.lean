/- What comes from an epoch that is over does nothing: in plain words. -/
import Derived.Test.YtfaejcdbjcklpaaUnReg
namespace Go.Proofs.Ytfaejcdbjcklpaa
open Go.ChangeShapes Go.WideShapes Go.ChangeAt Go.RowKit

/-- a job of an epoch that is over -/
def LateJ (next : Int) (j : Jb) : Prop := 1 ≤ j.kind ∧ j.kind ≤ 5 ∧ j.epoch < next

theorem late_step {u : Un} {next : Int} (h : u.ep = next) {j : Jb} (hj : LateJ next j) : stepU u j = (rp 18, u.calm) := by
  obtain ⟨h1, h5, he⟩ := hj
  have hne : j.epoch ≠ u.calm.ep := by show j.epoch ≠ u.ep; omega
  by_cases h4 : j.kind = 1 ∨ j.kind = 2 ∨ j.kind = 3 ∨ j.kind = 4
  · simp only [stepU, if_pos h4, atU, if_pos hne]
  · have h5 : j.kind = 5 := by omega
    have hle : j.epoch ≤ u.calm.ep := by show j.epoch ≤ u.ep; omega
    simp only [stepU, if_neg h4, if_pos h5, sealU, if_pos hle]

/-- a row of them -/
theorem late_play {next : Int} : ∀ (l : List Jb) (u : Un), u.ep = next → (∀ j ∈ l, LateJ next j) → (playU u l).1 = List.replicate l.length (rp 18) ∧ (playU u l).2.sl = u.sl ∧ (playU u l).2.ep = next
  | [], _, h, _ => ⟨rfl, rfl, h⟩
  | j :: l, u, h, hl => by
    obtain ⟨i1, i2, i3⟩ := late_play l u.calm h (fun x hx => hl x (List.mem_cons_of_mem _ hx))
    have e := late_step h (hl j List.mem_cons_self)
    simp only [playU, e, List.length_cons, List.replicate_succ]
    exact ⟨by rw [i1], i2, i3⟩

/-- what the two plays come to -/
theorem seals_facts (ts : List Tsk) (n : Nat) (hn : n ≤ 40) (x : Int) (hx : 0 ≤ x ∧ x < 5) (js : List Jb) (q : Int) (e1 : js = (jobsOf 0 (ts.take n)).1) (e2 : q = (jobsOf 0 (ts.take n)).2) :
    ∃ p t : List Rp, p.length = js.length + 1 ∧ t.length = 6 ∧
      (playU unit0 ((js ++ [⟨5, q + 1 + x, 0, []⟩]) ++ askK (q + 1 + x) 6)).1 = p ++ t ∧
      ∀ l : List Jb, (∀ j ∈ l, LateJ (q + 1 + x) j) →
        (playU unit0 (((js ++ [⟨5, q + 1 + x, 0, []⟩]) ++ l) ++ askK (q + 1 + x) 6)).1 = (p ++ List.replicate l.length (rp 18)) ++ t := by
  have hs := jobs_state ts n (by omega)
  have hq := (jobs_few ts n (by omega)).2
  rw [← e1, ← e2] at hs
  rw [← e2] at hq
  have hfl := playU_length unit0 js
  obtain ⟨u, hu⟩ : ∃ u, u = (playU unit0 (js ++ [⟨5, q + 1 + x, 0, []⟩])).2 := ⟨_, rfl⟩
  have hue : u.ep = q + 1 + x := by
    rw [hu, playU_snoc]
    have e : stepU (playU unit0 js).2 ⟨5, q + 1 + x, 0, []⟩ = sealU (playU unit0 js).2.calm (q + 1 + x) := by simp [stepU]
    have hc : (playU unit0 js).2.calm.ep = q := hs.ep
    rw [e]
    unfold sealU
    rw [if_neg (by rw [hc]; omega), if_neg (by omega)]
  have hl0 := (play_look u 6 (by decide)).1
  rw [hue] at hl0
  refine ⟨(playU unit0 (js ++ [⟨5, q + 1 + x, 0, []⟩])).1, (List.range 6).map (fun a => readSl (u.sl a)), ?_, by simp, ?_, fun l hl => ?_⟩
  · rw [playU_length]; simp
  · rw [playU_append, ← hu, hl0]
  · obtain ⟨i1, i2, i3⟩ := late_play l u hue hl
    have hl1 := (play_look (playU u l).2 6 (by decide)).1
    rw [i3, i2] at hl1
    have hb := playU_append unit0 (js ++ [(⟨5, q + 1 + x, 0, []⟩ : Jb)]) l
    rw [playU_append, hb, ← hu]
    simp only [i1, hl1]

end Go.Proofs.Ytfaejcdbjcklpaa
