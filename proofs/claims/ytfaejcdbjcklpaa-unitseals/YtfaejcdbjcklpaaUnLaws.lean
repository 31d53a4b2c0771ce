/- What the jobs of a unit come to, in plain words. -/
import Derived.Test.YtfaejcdbjcklpaaUnLook
namespace Go.Proofs.Ytfaejcdbjcklpaa
open Go.ChangeShapes Go.WideShapes Go.ChangeAt Go.RowKit

/-- a unit that plain jobs have left: its epoch, and nothing from the sixth slot on -/
structure LowU (u : Un) (ep : Int) : Prop where
  ep : u.ep = ep
  high : ∀ i, 6 ≤ i → (u.sl i).kind = 0
  fr : u.fr = -1 ∨ (0 ≤ u.fr ∧ u.fr < 6)
  kinds : ∀ i, (u.sl i).kind ≤ 3

theorem LowU.calm {u : Un} {ep : Int} (h : LowU u ep) : LowU u.calm ep := ⟨h.ep, h.high, .inl rfl, h.kinds⟩

theorem LowU.put {u : Un} {ep : Int} (h : LowU u ep) (a : Nat) (ha : a < 6) (s : Sl) (hs : s.kind ≤ 3) : LowU (u.put a s) ep := by
  refine ⟨h.ep, fun i hi => ?_, h.fr, fun i => ?_⟩
  · simp only [Un.put]
    rw [if_neg (by omega)]
    exact h.high i hi
  · simp only [Un.put]
    split
    · exact hs
    · exact h.kinds i

theorem atU_low {u : Un} {ep : Int} (h : LowU u ep) (j : Jb) (ha : 0 ≤ j.addr ∧ j.addr < 6) : LowU (atU u j).2 ep := by
  unfold atU
  have h6 : j.addr.toNat < 6 := by omega
  split
  · exact h
  · split
    · exact h
    · split
      · unfold storeU
        split
        · exact h
        · split
          · have := h.put j.addr.toNat h6 ⟨1, j.data⟩ (by simp)
            exact ⟨this.ep, this.high, .inr ⟨by simp only; omega, by simp only; omega⟩, this.kinds⟩
          · exact h
      · split
        · exact h
        · split
          · unfold putU
            split
            · exact h.put _ h6 _ (by simp)
            · exact h
          · exact h.put _ h6 _ (by simp)

theorem crashU_low {u : Un} {ep : Int} (h : LowU u ep) (f s : Int) (hf : f = -1 ∨ (0 ≤ f ∧ f < 6)) : LowU (crashU u f s) ep := by
  unfold crashU
  split
  · exact h
  · split
    · exact h.put _ (by omega) _ (by simp)
    · exact h

/-- one job of these -/
theorem jobOf_low {u : Un} {ep : Int} (h : LowU u ep) (hep : ep + 2 ≤ 1000000) (t : Tsk) : LowU (stepU u (jobOf ep t).1).2 (jobOf ep t).2 := by
  have hk := Int.emod_nonneg t.kind (show (6 : Int) ≠ 0 by decide)
  have hk2 := Int.emod_lt_of_pos t.kind (show (0 : Int) < 6 by decide)
  have ha := Int.emod_nonneg t.addr (show (6 : Int) ≠ 0 by decide)
  have ha2 := Int.emod_lt_of_pos t.addr (show (0 : Int) < 6 by decide)
  have he := Int.emod_nonneg t.epoch (show (2 : Int) ≠ 0 by decide)
  have he2 := Int.emod_lt_of_pos t.epoch (show (0 : Int) < 2 by decide)
  unfold jobOf
  split
  · rename_i h5
    simp only
    have e : stepU u ⟨5, ep + (1 + t.epoch % 2), t.addr % 6, []⟩ = sealU u.calm (ep + (1 + t.epoch % 2)) := by simp [stepU]
    rw [e]
    unfold sealU
    have hc : u.calm.ep = ep := h.ep
    rw [if_neg (by rw [hc]; omega), if_neg (by omega)]
    exact ⟨rfl, h.high, .inl rfl, h.kinds⟩
  · rename_i h5
    simp only
    by_cases h14 : 1 + t.kind % 6 = 1 ∨ 1 + t.kind % 6 = 2 ∨ 1 + t.kind % 6 = 3 ∨ 1 + t.kind % 6 = 4
    · have h6 : ¬ 1 + t.kind % 6 = 6 := by omega
      unfold stepU
      simp only [h14, if_true, h6, if_false]
      exact atU_low h.calm _ ⟨by simp only; omega, by simp only; omega⟩
    · have h6 : 1 + t.kind % 6 = 6 := by omega
      unfold stepU
      simp only [h6, if_true]
      simp only [show ¬ ((6 : Int) = 1 ∨ (6 : Int) = 2 ∨ (6 : Int) = 3 ∨ (6 : Int) = 4) by decide, show ¬ (6 : Int) = 5 by decide, if_false]
      exact crashU_low h.calm _ _ h.fr

theorem low0 : LowU unit0 0 := ⟨rfl, fun _ _ => rfl, .inl rfl, fun _ => Nat.zero_le _⟩

theorem jobs_low : ∀ (ts : List Tsk) {u : Un} {ep : Int}, LowU u ep → ep + 2 * ts.length ≤ 1000000 → LowU (playU u (jobsOf ep ts).1).2 (jobsOf ep ts).2
  | [], _, _, h, _ => h
  | t :: ts, u, ep, h, hl => by
    simp only [List.length_cons] at hl
    have h1 := jobOf_low h (by omega) t
    have h2 := (jobOf_epoch ep t).2
    exact jobs_low ts h1 (by omega)

/-- what is asked of one slot -/
theorem step_look (u : Un) (a : Nat) (ha : a < 64) : stepU u ⟨2, u.ep, (a : Int), []⟩ = (readSl (u.sl a), u.calm) := by
  have h1 : ¬ ((a : Int) < 0 ∨ 64 ≤ (a : Int)) := by omega
  simp only [stepU, atU, Un.calm]
  simp [h1]

/-- all of a few slots are asked -/
theorem play_look (u : Un) (n : Nat) (hn : n ≤ 64) : (playU u (askK u.ep n)).1 = (List.range n).map (fun a => readSl (u.sl a)) ∧ (playU u (askK u.ep n)).2.sl = u.sl ∧ (playU u (askK u.ep n)).2.ep = u.ep := by
  induction n with
  | zero => exact ⟨rfl, rfl, rfl⟩
  | succ n ih =>
    obtain ⟨h1, h2, h3⟩ := ih (by omega)
    rw [askK_succ, playU_snoc]
    have e : stepU (playU u (askK u.ep n)).2 ⟨2, u.ep, (n : Int), []⟩ = (readSl (u.sl n), (playU u (askK u.ep n)).2.calm) := by
      have := step_look (playU u (askK u.ep n)).2 n (by omega)
      rw [h3, h2] at this
      exact this
    rw [e]
    refine ⟨?_, h2, h3⟩
    simp only [h1, List.range_succ, List.map_append, List.map_cons, List.map_nil]

theorem tailTo_spec (sl : Nat → Sl) : ∀ n, (∀ i, tailTo sl n ≤ i → i < n → (sl i).kind = 0) ∧ tailTo sl n ≤ n ∧ (∀ t, tailTo sl n = t + 1 → (sl t).kind ≠ 0)
  | 0 => ⟨fun i _ h => absurd h (Nat.not_lt_zero i), Nat.le_refl _, fun t h => by simp [tailTo] at h⟩
  | n + 1 => by
    obtain ⟨h1, h2, h3⟩ := tailTo_spec sl n
    by_cases hz : (sl n).kind = 0
    · have e : tailTo sl (n + 1) = tailTo sl n := by simp [tailTo, hz]
      rw [e]
      refine ⟨fun i hi hn => ?_, by omega, h3⟩
      by_cases h : i = n
      · rw [h]; exact hz
      · exact h1 i hi (by omega)
    · have e : tailTo sl (n + 1) = n + 1 := by simp [tailTo, hz]
      rw [e]
      refine ⟨fun i hi hn => by omega, Nat.le_refl _, fun t ht => ?_⟩
      have : t = n := by omega
      rw [this]; exact hz

end Go.Proofs.Ytfaejcdbjcklpaa
