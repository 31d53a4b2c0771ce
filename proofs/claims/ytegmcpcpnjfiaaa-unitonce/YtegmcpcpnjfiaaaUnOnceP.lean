/- What was fetched once is fetched ever after, until it is trimmed: in plain words. -/
import Derived.Test.YtegmcpcpnjfiaaaUnReg
namespace Go.Proofs.Ytegmcpcpnjfiaaa
open Go.ChangeShapes Go.WideShapes Go.ChangeAt Go.RowKit

/-- a slot that holds what was read, and is not the one that was stored just now; or it was trimmed -/
structure HeldU (a : Nat) (s : Sl) (u : Un) : Prop where
  slot : (u.sl a = s ∧ u.fr ≠ (a : Int)) ∨ (u.sl a).kind = 3
  fr : u.fr = -1 ∨ 0 ≤ u.fr

theorem HeldU.calm {a : Nat} {s : Sl} {u : Un} (h : HeldU a s u) : HeldU a s u.calm :=
  ⟨h.slot.imp (fun e => ⟨e.1, show (-1 : Int) ≠ a by omega⟩) id, .inl rfl⟩

theorem HeldU.put {a : Nat} {s : Sl} {u : Un} (h : HeldU a s u) (b : Nat) (t : Sl) (hb : b = a → t.kind = 3) : HeldU a s (u.put b t) := by
  refine ⟨?_, h.fr⟩
  simp only [Un.put]
  by_cases e : a = b
  · rw [if_pos e]
    exact .inr (hb e.symm)
  · rw [if_neg e]
    exact h.slot

theorem HeldU.busy {a : Nat} {s : Sl} {u : Un} (h : HeldU a s u) (hs : s.kind ≠ 0) : (u.sl a).kind ≠ 0 := by
  rcases h.slot with ⟨e, -⟩ | e
  · rw [e]; exact hs
  · rw [e]; decide

theorem held_at {a : Nat} {s : Sl} (hs : s.kind ≠ 0) {u : Un} (h : HeldU a s u) (j : Jb) : HeldU a s (atU u j).2 := by
  unfold atU
  split
  · exact h
  · split
    · exact h
    · split
      · unfold storeU
        split
        · exact h
        · split
          · rename_i h0
            have hne : j.addr.toNat ≠ a := fun e => h.busy hs (by rw [← e]; exact h0)
            have := h.put j.addr.toNat ⟨1, j.data⟩ (fun e => absurd e hne)
            refine ⟨?_, .inr (by simp only; omega)⟩
            rcases this.slot with ⟨e, -⟩ | e
            · exact .inl ⟨e, by simp only; omega⟩
            · exact .inr e
          · exact h
      · split
        · exact h
        · split
          · unfold putU
            split
            · rename_i h0
              exact h.put _ _ (fun e => absurd (show (u.sl a).kind = 0 by rw [← e]; exact h0) (h.busy hs))
            · exact h
          · exact h.put _ _ (fun _ => rfl)

theorem held_step {a : Nat} {s : Sl} (hs : s.kind ≠ 0) {u : Un} (h : HeldU a s u) (j : Jb) : HeldU a s (stepU u j).2 := by
  unfold stepU
  split
  · exact held_at hs h.calm j
  · split
    · unfold sealU
      split
      · exact h.calm
      · split
        · exact h.calm
        · exact ⟨h.calm.slot, h.calm.fr⟩
    · split
      · unfold crashU
        split
        · exact h.calm
        · split
          · rename_i hn hk
            refine h.calm.put _ _ fun e => ?_
            exfalso
            rcases h.slot with ⟨-, e2⟩ | e2
            · have := h.fr
              omega
            · have : (u.sl u.fr.toNat).kind = 1 := hk.1
              rw [e] at this
              omega
          · exact h.calm
      · exact h.calm

theorem held_play {a : Nat} {s : Sl} (hs : s.kind ≠ 0) : ∀ (l : List Jb) (u : Un), HeldU a s u → HeldU a s (playU u l).2
  | [], _, h => h
  | j :: l, _, h => held_play hs l _ (held_step hs h j)

/-- a fetch that is answered -/
theorem fetch_ok {u : Un} {j : Jb} (hk : j.kind = 2) (h : (stepU u j).1.code = 0) : 0 ≤ j.addr ∧ j.addr < 64 ∧ (u.sl j.addr.toNat).kind ≠ 0 ∧ (stepU u j).1 = readSl (u.sl j.addr.toNat) ∧ HeldU j.addr.toNat (u.sl j.addr.toNat) (stepU u j).2 := by
  have e : stepU u j = atU u.calm j := by simp [stepU, hk]
  rw [e] at h ⊢
  unfold atU at h ⊢
  by_cases h1 : j.epoch ≠ u.calm.ep
  · rw [if_pos h1] at h
    exact absurd h (by simp [rp])
  · rw [if_neg h1] at h ⊢
    by_cases h2 : j.addr < 0 ∨ 64 ≤ j.addr
    · rw [if_pos h2] at h
      exact absurd h (by simp [rp])
    · rw [if_neg h2] at h ⊢
      rw [if_neg (by omega), if_pos hk] at h ⊢
      refine ⟨by omega, by omega, fun e0 => ?_, rfl, .inl ⟨rfl, show (-1 : Int) ≠ _ by omega⟩, .inl rfl⟩
      have e0' : (u.calm.sl j.addr.toNat).kind = 0 := e0
      simp only [readSl, if_pos e0'] at h
      exact absurd h (by simp [rp])

/-- a fetch of a slot that is held -/
theorem fetch_held {a : Nat} {s : Sl} {u : Un} (h : HeldU a s u) {j : Jb} (hk : j.kind = 2) (ha : j.addr.toNat = a) (h0 : 0 ≤ j.addr ∧ j.addr < 64) : (stepU u j).1.code = 18 ∨ (stepU u j).1.code = 16 ∨ (stepU u j).1 = readSl s := by
  have e : stepU u j = atU u.calm j := by simp [stepU, hk]
  rw [e]
  unfold atU
  by_cases h1 : j.epoch ≠ u.calm.ep
  · rw [if_pos h1]
    exact .inl rfl
  · rw [if_neg h1, if_neg (by omega), if_neg (by omega), if_pos hk, ha]
    rcases h.slot with ⟨e2, -⟩ | e2
    · exact .inr (.inr (by show readSl (u.sl a) = _; rw [e2]))
    · exact .inr (.inl (by show (readSl (u.sl a)).code = 16; simp [readSl, e2, rp]))

/-- what comes of it, of whatever jobs -/
theorem once_facts (js : List Jb) (i k : Nat) (hik : i < k) (hk : k < js.length) (h1 : (js[i]).kind = 2) (h2 : (js[k]).kind = 2) (h3 : (js[k]).addr = (js[i]).addr)
    (hi : i < (playU unit0 js).1.length) (hk2 : k < (playU unit0 js).1.length) (h4 : ((playU unit0 js).1[i]).code = 0) :
    ((playU unit0 js).1[k]).code = 18 ∨ ((playU unit0 js).1[k]).code = 16 ∨ (playU unit0 js).1[k] = (playU unit0 js).1[i] := by
  have one : ∀ m (hm : m < js.length) (hm2 : m < (playU unit0 js).1.length), (playU unit0 js).1[m] = (stepU (playU unit0 (js.take m)).2 js[m]).1 := fun m hm hm2 => by
    have e : js = js.take m ++ (js[m] :: js.drop (m + 1)) := by rw [List.getElem_cons_drop, List.take_append_drop]
    have e2 : (playU unit0 js).1 = (playU unit0 (js.take m)).1 ++ (playU (playU unit0 (js.take m)).2 (js[m] :: js.drop (m + 1))).1 := by
      conv => lhs; rw [e, playU_append]
    have hl : (playU unit0 (js.take m)).1.length = m := by rw [playU_length, List.length_take]; omega
    have : (playU unit0 js).1[m]? = some (stepU (playU unit0 (js.take m)).2 js[m]).1 := by
      rw [e2, List.getElem?_append_right (by omega), hl, Nat.sub_self]
      rfl
    exact (List.getElem?_eq_some_iff.mp this).2
  rw [one i (by omega) hi] at h4 ⊢
  rw [one k hk hk2]
  obtain ⟨a0, a1, a2, a3, a4⟩ := fetch_ok h1 h4
  rw [a3]
  refine fetch_held ?_ h2 (by rw [h3]) (by rw [h3]; exact ⟨a0, a1⟩)
  have e : js.take k = js.take i ++ [js[i]] ++ (js.take k).drop (i + 1) := by
    have : js.take i ++ [js[i]] = (js.take k).take (i + 1) := by
      rw [List.take_take, Nat.min_eq_left (by omega), List.take_succ_eq_append_getElem (by omega)]
    rw [this, List.take_append_drop]
  rw [e, playU_append, playU_snoc]
  exact held_play a2 _ _ a4

end Go.Proofs.Ytegmcpcpnjfiaaa
