/- A round above all others, in whose way nothing gets, decides. -/
import Derived.Test.YtppcikfhhmiipaaBlEndsQ
import Derived.Test.YtppcikfhhmiipaaBlEndsW
namespace Go.Proofs.Ytppcikfhhmiipaa

theorem lastO_snoc (xs : List Oc) (o : Oc) : lastO (xs ++ [o]) = o := by simp [lastO]

theorem calm_step (n : Nat) (before : List Tn) (R v nx : Int) (k : Nat) : (playB (bl0 n) (calmS before R v nx (k + 1))).2 = ((playB (bl0 n) (calmS before R v nx k)).2.play ⟨2, nx + k, 0, 0⟩).2 ∧ calmO n before R v nx (k + 1) = (playB (bl0 n) (calmS before R v nx k)).2.oc ⟨2, nx + k, 0, 0⟩ := by
  unfold calmO
  simp only [calmS, playB_snoc]
  exact ⟨trivial, lastO_snoc _ _⟩

theorem calm_zero (n : Nat) (before : List Tn) (R v nx : Int) : (playB (bl0 n) (calmS before R v nx 0)).2 = ((playB (bl0 n) before).2.play ⟨1, 0, R, v⟩).2 ∧ calmO n before R v nx 0 = (playB (bl0 n) before).2.oc ⟨1, 0, R, v⟩ := by
  unfold calmO
  simp only [calmS, playB_snoc]
  exact ⟨trivial, lastO_snoc _ _⟩

theorem calm_len (n : Nat) (before : List Tn) (R v nx : Int) (k : Nat) : (calmO n before R v nx k).len = (playB (bl0 n) (calmS before R v nx k)).2.ls.length := by
  cases k with
  | zero => rw [(calm_zero n before R v nx).1, (calm_zero n before R v nx).2]; rfl
  | succ k => rw [(calm_step n before R v nx k).1, (calm_step n before R v nx k).2]; rfl

theorem calm_split (before : List Tn) (R v nx : Int) (k : Nat) : ∃ rest, calmS before R v nx k = before ++ rest := by
  induction k with
  | zero => exact ⟨_, rfl⟩
  | succ k ih =>
    obtain ⟨rest, e⟩ := ih
    exact ⟨rest ++ [⟨2, nx + k, 0, 0⟩], by simp only [calmS, e, List.append_assoc]⟩

theorem from_playB {n : Nat} (ts : List Tn) : ∀ b : Bl, b.Inv → b.Ok n → b.From (fun d => 1 ≤ d) → (playB b ts).2.From (fun d => 1 ≤ d) := by
  induction ts with
  | nil => intro b _ _ h; exact h
  | cons t ts ih => intro b hi ho h; exact ih _ (hi.play ho t) (ho.play t) (From_pos hi h t)

theorem pushS_round (l : List Tn) (M : Nat) : ∀ t ∈ pushS l M, t.round ≤ 9 := by
  induction M with
  | zero => intro t ht; cases ht
  | succ M ih =>
    intro t ht
    simp only [pushS] at ht
    rcases List.mem_append.1 ht with h | h
    · exact ih t h
    · split at h
      · rw [List.mem_singleton.1 h]
        simp only [pushT]
        omega
      · cases h

set_option maxRecDepth 100000 in
theorem ends0_all : ∀ n : Fin 5, ∀ v : Fin 5, calmD (n + 1) [] 100 (10 + (v : Nat) : Int) 0 (4 * (n + 1)) = (10 + (v : Nat) : Int) := by decide +kernel

/-- the round begins -/
theorem Ph.start {b : Bl} {n : Nat} (ho : b.Ok n) (hs : b.Small) (hL : b.ls.length + 4 * n ≤ 200) (own : Int) (how : 1 ≤ own ∧ own ≤ 1048576) : Ph (b.play ⟨1, 0, 100, own⟩).2 n b.ls.length 100 0 0 0 0 ∧ (b.oc ⟨1, 0, 100, own⟩).code = 0 := by
  have hr : b.rs 100 = none := by
    cases e : b.rs 100 with
    | none => rfl
    | some x => have := hs.rs _ x e; omega
  have ha : b.ask 100 own = (0, ({ b.setR 100 (newRn own) with n := b.n + 1 }).sendAll ⟨0, 0, 0, 0, 100, false⟩) := by
    simp [Bl.ask, counts_iff.2 how, show counts 100 = true from rfl, hr]
  have hp : b.play ⟨1, 0, 100, own⟩ = ((0, (b.ask 100 own).1), (b.ask 100 own).2) := if_pos rfl
  refine ⟨?_, by unfold Bl.oc; rw [hp, ha]⟩
  rw [hp]
  show Ph (b.ask 100 own).2 n b.ls.length 100 0 0 0 0
  rw [ha]
  show Ph (({ b.setR 100 (newRn own) with n := b.n + 1 } : Bl).sendTo ⟨0, 0, 0, 0, 100, false⟩ b.vs.length) n b.ls.length 100 0 0 0 0
  rw [ho.len]
  obtain ⟨s1, s2, s3⟩ := sendTo_at (c := { b.setR 100 (newRn own) with n := b.n + 1 }) ⟨0, 0, 0, 0, 100, false⟩ n (show b.ls.length + n ≤ 200 by omega)
  have hrs := sendTo_rs ({ b.setR 100 (newRn own) with n := b.n + 1 }) ⟨0, 0, 0, 0, 100, false⟩ n
  generalize ({ b.setR 100 (newRn own) with n := b.n + 1 } : Bl).sendTo ⟨0, 0, 0, 0, 100, false⟩ n = e at *
  have ev : e.vs = b.vs := hrs.2
  have er : e.rs 100 = some (newRn own) := by rw [hrs.1]; simp [Bl.setR]
  refine ⟨by rw [ev]; exact ho.len, ⟨fun i hi => ⟨_, s2 i hi, rfl, rfl, rfl, rfl, fun k => by omega⟩⟩, lets_none _ _ _ _, fun h => by omega, lets_none _ _ _ _, ?_, fun i v hv => ?_, _, er, ?_, ?_, rfl, ?_⟩
  · have sz : e.ls.length = b.ls.length + n := s3
    rw [sz]
    simp
  · rw [ev] at hv
    have := hs.vs i v hv
    exact ⟨fun h => by omega, fun _ => by omega⟩
  · rw [show min 0 (n / 2 + 1) = 0 by omega]
    funext i
    simp [newRn, upto]
  · funext i
    simp [newRn, upto]
  · simp [newRn]

theorem ends : Ends := by
  intro n hn l M hM hMl own how
  obtain ⟨before, hbe⟩ : ∃ before, before = pushS l M := ⟨_, rfl⟩
  rw [← hbe]
  have hbl : before.length = M := by rw [hbe, pushS_length l M hMl]
  have hi0 := Bl.Inv.start n
  have ho0 := Bl.Ok.start hn
  have hf0 : (bl0 n).From (fun d => 1 ≤ d) := fun r x hr => by simp [bl0] at hr
  have hs0 : (bl0 n).Small := ⟨fun r x hr => by simp [bl0] at hr, fun i v hv => by
    simp only [bl0, List.getElem?_replicate] at hv
    split at hv
    · cases hv
      simp
    · cases hv⟩
  obtain ⟨h1, h2, -⟩ := behind before (by rw [hbe]; exact pushS_round l M) (bl0 n) hi0 ho0 hs0 hf0
  have hl0 : (bl0 n).ls.length = 0 := rfl
  rw [hbl] at h2
  obtain ⟨L0, hL0⟩ : ∃ L0, L0 = (playB (bl0 n) before).2.ls.length := ⟨_, rfl⟩
  have hLb : L0 + 4 * n ≤ 200 := by omega
  have hOk := ho0.playB before
  obtain ⟨p0, pc⟩ := Ph.start hOk h1 (by rw [← hL0]; exact hLb) own (by omega)
  rw [← hL0] at p0
  have z := calm_zero n before 100 own L0
  have st := fun k => calm_step n before 100 own L0 k
  have ln := fun k => calm_len n before 100 own L0 k
  rw [← z.1] at p0
  have nk : ∀ k : Nat, ((L0 : Int) + (k : Nat) : Int) = ((L0 + k : Nat) : Int) := fun k => by omega
  have PA : ∀ j, j ≤ n → Ph (playB (bl0 n) (calmS before 100 own L0 j)).2 n L0 100 j 0 0 0 := by
    intro j
    induction j with
    | zero => intro _; exact p0
    | succ j ih =>
      intro hj
      rw [(st j).1, nk]
      exact (ih (by omega)).ask (by omega) hLb
  have PB : ∀ j, j ≤ n → Ph (playB (bl0 n) (calmS before 100 own L0 (n + j))).2 n L0 100 n j 0 0 := by
    intro j
    induction j with
    | zero => intro _; exact PA n (Nat.le_refl _)
    | succ j ih =>
      intro hj
      rw [show n + (j + 1) = n + j + 1 from rfl, (st (n + j)).1, nk, show L0 + (n + j) = L0 + n + j by omega]
      exact (ih (by omega)).prom (by omega) hn.2 hLb
  have PC : ∀ j, j ≤ n → Ph (playB (bl0 n) (calmS before 100 own L0 (2 * n + j))).2 n L0 100 n n j 0 := by
    intro j
    induction j with
    | zero => intro _; rw [show 2 * n + 0 = n + n by omega]; exact PB n (Nat.le_refl _)
    | succ j ih =>
      intro hj
      rw [show 2 * n + (j + 1) = 2 * n + j + 1 from rfl, (st (2 * n + j)).1, nk, show L0 + (2 * n + j) = L0 + 2 * n + j by omega]
      exact (ih (by omega)).chooses (by omega) hLb
  have PD : ∀ j, j ≤ n → Ph (playB (bl0 n) (calmS before 100 own L0 (3 * n + j))).2 n L0 100 n n n j := by
    intro j
    induction j with
    | zero => intro _; rw [show 3 * n + 0 = 2 * n + n by omega]; exact PC n (Nat.le_refl _)
    | succ j ih =>
      intro hj
      rw [show 3 * n + (j + 1) = 3 * n + j + 1 from rfl, (st (3 * n + j)).1, nk, show L0 + (3 * n + j) = L0 + 3 * n + j by omega]
      exact ((ih (by omega)).chosen (by omega) hn.2).1
  have hlast := PD (n - 1) (by omega)
  obtain ⟨x, x1, -⟩ := hlast.round
  have hdec : (calmO n before 100 own L0 (4 * n)).dec = x.va := by
    rw [show 4 * n = 3 * n + (n - 1) + 1 by omega, (st (3 * n + (n - 1))).2]
    show ((playB (bl0 n) (calmS before 100 own L0 (3 * n + (n - 1)))).2.play ⟨2, (L0 : Int) + ((3 * n + (n - 1) : Nat) : Int), 0, 0⟩).1.1 = x.va
    rw [nk, show L0 + (3 * n + (n - 1)) = L0 + 3 * n + (n - 1) by omega, (hlast.chosen (by omega) hn.2).2 x x1, if_pos (by omega)]
  have hva : 1 ≤ x.va := from_playB (calmS before 100 own L0 (3 * n + (n - 1))) (bl0 n) hi0 ho0 hf0 100 x x1
  have hD : calmD n before 100 own L0 (4 * n) = x.va := by
    rw [calmD_eq, hdec, if_pos (by omega)]
  refine ⟨(L0 : Int), 4 * n, ⟨⟨?_, ?_, by omega⟩, fun k hk => ?_, ?_, by omega⟩, by rw [hD]; omega, fun o ho hod => ?_, fun hM0 => ?_⟩
  · rw [z.2]
    exact pc
  · rw [ln 0, (PA 0 (Nat.zero_le _)).size]
    simp
  · rw [ln k]
    by_cases k1 : k < n
    · rw [(PA k (by omega)).size, if_neg (by omega)]
      omega
    · by_cases k2 : k < 2 * n
      · rw [show k = n + (k - n) by omega, (PB (k - n) (by omega)).size]
        split <;> omega
      · by_cases k3 : k < 3 * n
        · rw [show k = 2 * n + (k - 2 * n) by omega, (PC (k - 2 * n) (by omega)).size, if_pos (by omega)]
          omega
        · rw [show k = 3 * n + (k - 3 * n) by omega, (PD (k - 3 * n) (by omega)).size, if_pos (by omega)]
          omega
  · rw [ln (4 * n), show 4 * n = 3 * n + n by omega, (PD n (Nat.le_refl _)).size, if_pos (by omega)]
    omega
  · have hmem : calmO n before 100 own L0 (4 * n) ∈ (playB (bl0 n) (calmS before 100 own L0 (4 * n))).1 := by
      have hpos : 0 < (playB (bl0 n) (calmS before 100 own L0 (4 * n))).1.length := by rw [playB_length, calmS_length]; omega
      unfold calmO
      rw [lastO_at _ hpos]
      exact List.getElem_mem _
    have hmem2 : o ∈ (playB (bl0 n) (calmS before 100 own L0 (4 * n))).1 := by
      obtain ⟨rest, e⟩ := calm_split before 100 own L0 (4 * n)
      rw [e, playB_append]
      exact List.mem_append_left _ ho
    rw [hD, ← hdec]
    exact one_value n hn _ _ _ hmem hmem2 (by rw [hdec]; omega) hod
  · have hb0 : before = [] := List.length_eq_zero_iff.1 (by omega)
    subst hb0
    have hl : L0 = 0 := hL0
    subst hl
    have := ends0_all ⟨n - 1, by omega⟩ ⟨(own - 10).toNat, by omega⟩
    simp only at this
    rw [show n - 1 + 1 = n by omega, show (10 : Int) + (((own - 10).toNat : Nat) : Int) = own by omega] at this
    exact this

end Go.Proofs.Ytppcikfhhmiipaa
