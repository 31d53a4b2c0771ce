/- What was read, range by range: plainly. -/
import Derived.Test.YtjjdednlddnllabMlLaw
namespace Go.Proofs.Ytjjdednlddnllab

/-- in each range the same stands -/
def sameK (B N : List Ent) (rs : List Ent) : Bool := rs.all (fun r => decide (pieceK B r = pieceK N r))

/-- a cell of a range was changed since -/
def hitC (b : Int) (r : Ent) (cs : List Cel) : Bool := cs.any (fun c => inRng c.key r && decide (b < c.since))

def touchC (b : Int) (rs : List Ent) (cs : List Cel) : Bool := rs.any (fun r => hitC b r cs)

theorem sameK_take {B N rs : List Ent} {k : Nat} (hk : k < rs.length) : sameK B N (rs.take (k + 1)) = (sameK B N (rs.take k) && decide (pieceK B rs[k] = pieceK N rs[k])) := by
  rw [take_succ' hk, sameK, List.all_append]
  simp [sameK]

theorem touchC_take {b : Int} {rs : List Ent} {cs : List Cel} {k : Nat} (hk : k < rs.length) : touchC b (rs.take (k + 1)) cs = (touchC b (rs.take k) cs || hitC b rs[k] cs) := by
  rw [take_succ' hk, touchC, List.any_append]
  simp [touchC]

theorem hitC_take {b : Int} {r : Ent} {cs : List Cel} {k : Nat} (hk : k < cs.length) : hitC b r (cs.take (k + 1)) = (hitC b r (cs.take k) || (inRng (cs[k]).key r && decide (b < (cs[k]).since))) := by
  rw [take_succ' hk, hitC, List.any_append]
  simp [hitC]

theorem touchC_K (l : List Cel) (x : Itt) : touchC x.base x.reads l = touchedK l x := by
  rw [Bool.eq_iff_iff]
  simp only [touchC, hitC, touchedK, List.any_eq_true, Bool.and_eq_true, decide_eq_true_eq]
  constructor
  · rintro ⟨r, hr, c, hc, h1, h2⟩
    exact ⟨c, hc, h2, r, hr, h1⟩
  · rintro ⟨c, hc, h2, r, hr, h1⟩
    exact ⟨r, hr, c, hc, h1, h2⟩

/-- what an intent of a log is told -/
theorem reads_js {js : List Itt} (hm : LogJ 16 js) {p : Nat} (hp : p < js.length) {b : Nat} (hb : (b : Int) = (js[p]).base) :
    ∃ z, (playM noSta (js.map some)).2[p]? = some z ∧ ((z = 0 ∧ sameK (snapK (playM noSta ((js.take b).map some)).1.cells) (snapK (playM noSta ((js.take p).map some)).1.cells) (js[p]).reads = true) ∨ (z = 19 ∧ touchC (js[p]).base (js[p]).reads (playM noSta ((js.take p).map some)).1.cells = true) ∨ z = 7) := by
  obtain ⟨s, hs⟩ : ∃ s, s = (playM noSta ((js.take p).map some)).1 := ⟨_, rfl⟩
  have hpp : s.pos = p := by
    rw [hs, playM_pos, List.length_map, List.length_take, Nat.min_eq_left (by omega)]
    show (0 : Int) + _ = _
    omega
  have hbp : b ≤ p := by have := hm.2.2 p hp; omega
  refine ⟨codeM s (s.pos + 1) (some js[p]), ?_, ?_⟩
  · have e : js.map some = (js.take p).map some ++ (some js[p] :: (js.drop (p + 1)).map some) := by
      have h := List.take_append_drop p js
      rw [List.drop_eq_getElem_cons hp] at h
      rw [← List.map_cons, ← List.map_append, h]
    have hlen : (playM noSta ((js.take p).map some)).2.length = p := by rw [playM_length, List.length_map, List.length_take, Nat.min_eq_left (by omega)]
    rw [e, playM_append, List.getElem?_append_right (by rw [hlen]; exact Nat.le_refl _), hlen, Nat.sub_self, ← hs]
    rfl
  · by_cases hd : hasD s.dones (js[p]).client (js[p]).number = true
    · exact .inr (.inr (by simp [codeM, hd]))
    · have hlt : ¬ s.pos + 1 ≤ (js[p]).base := by have := hm.2.2 p hp; omega
      cases ht : touchedK s.cells js[p] with
      | true =>
        refine .inr (.inl ⟨by simp [codeM, hd, hlt, ht], ?_⟩)
        rw [touchC_K, ← hs]
        exact ht
      | false =>
        have h0 : codeM s (s.pos + 1) (some js[p]) = 0 := by simp [codeM, hd, hlt, ht]
        refine .inl ⟨h0, ?_⟩
        simp only [sameK, List.all_eq_true, decide_eq_true_eq]
        intro r hr
        have e : (js.take p).map some = (js.take b).map some ++ ((js.take p).drop b).map some := by
          rw [← List.map_append]
          congr 1
          have h := List.take_append_drop b (js.take p)
          rw [List.take_take, Nat.min_eq_left hbp] at h
          exact h.symm
        have hh : codeM (playM noSta ((js.take b).map some ++ ((js.take p).drop b).map some)).1 ((playM noSta ((js.take b).map some ++ ((js.take p).drop b).map some)).1.pos + 1) (some js[p]) = 0 := by rw [← e, ← hs]; exact h0
        have h9 := reads_same _ _ (by rw [List.length_map, List.length_take, Nat.min_eq_left (by omega)]; exact hb.symm) hh hr
        rw [← e] at h9
        rw [piece_cells, piece_cells, h9]

end Go.Proofs.Ytjjdednlddnllab
