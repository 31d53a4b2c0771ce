/- Plain facts: cells and writes gone through once; what was changed, asked by the first key from Low on. -/
import Derived.Test.YtjjdednlddnllaaMlMem
namespace Go.Proofs.Ytjjdednlddnllaa

/-- is the first one of a list of that key -/
def headC (r : List Cel) (k : List Int) : Bool := match r with
  | [] => false
  | c :: _ => decide (c.key = k)

/-- without the first one, if it is of that key -/
def pastC (r : List Cel) (k : List Int) : List Cel := if headC r k then r.drop 1 else r

theorem AscC.right {l r : List Cel} (h : AscC (l ++ r)) : AscC r := (List.pairwise_append.1 h).2.1

theorem filter_past {r : List Cel} {k : List Int} (ha : AscC r) (h : ∀ y ∈ r, ahead y.key k = false) : r.filter (fun x => ahead k x.key) = pastC r k := by
  cases r with
  | nil => rfl
  | cons c r =>
    obtain ⟨h1, h2⟩ := List.pairwise_cons.1 ha
    by_cases e : c.key = k
    · have h3 : r.filter (fun x => ahead k x.key) = r := List.filter_eq_self.2 (fun y hy => by rw [← e]; exact h1 y hy)
      subst e
      have h4 : ahead c.key c.key = false := h c List.mem_cons_self
      simp only [List.filter_cons, h4, Bool.false_eq_true, if_false, h3, pastC, headC, decide_true, if_true, List.drop_succ_cons, List.drop_zero]
    · have hk : ahead k c.key = true := by
        cases q : ahead k c.key with
        | true => rfl
        | false => exact absurd (ahead_total (h c List.mem_cons_self) q) e
      have h3 : (c :: r).filter (fun x => ahead k x.key) = c :: r := List.filter_eq_self.2 (fun y hy => by
        rcases List.mem_cons.1 hy with rfl | hy
        · exact hk
        · exact ahead_trans hk (h1 y hy))
      rw [h3]
      simp only [pastC, headC, e, decide_false, Bool.false_eq_true, if_false]

/-- a cell is put where it belongs -/
theorem putC_cut {m l r : List Cel} {c : Cel} (hm : ∀ y ∈ m, ahead y.key c.key = true) (hl : ∀ y ∈ l, ahead y.key c.key = true) (hr : ∀ y ∈ r, ahead y.key c.key = false) (ha : AscC r) : putC (m ++ (l ++ r)) c = m ++ l ++ [c] ++ pastC r c.key := by
  have f1 : m.filter (fun x => ahead x.key c.key) = m := List.filter_eq_self.2 hm
  have f2 : l.filter (fun x => ahead x.key c.key) = l := List.filter_eq_self.2 hl
  have f3 : r.filter (fun x => ahead x.key c.key) = [] := List.filter_eq_nil_iff.2 (fun y hy => by rw [hr y hy]; simp)
  have g1 : m.filter (fun x => ahead c.key x.key) = [] := List.filter_eq_nil_iff.2 (fun y hy => by rw [ahead_asymm (hm y hy)]; simp)
  have g2 : l.filter (fun x => ahead c.key x.key) = [] := List.filter_eq_nil_iff.2 (fun y hy => by rw [ahead_asymm (hl y hy)]; simp)
  simp only [putC, List.filter_append, f1, f2, f3, g1, g2, filter_past ha hr]
  simp

/-- so far as the writes have been gone through: what is made, and what is left of the cells -/
structure Merge (p : Int) (cs : List Cel) (ws : List Wt) (k : Nat) (m r : List Cel) : Prop where
  eq : putsK p cs (ws.take k) = m ++ r
  asc : AscC r
  up : ∀ (h : k < ws.length), ∀ y ∈ m, ahead y.key ws[k].key = true
  few : m.length + r.length ≤ cs.length + k

theorem Merge.zero {p : Int} {cs : List Cel} {ws : List Wt} (ha : AscC cs) : Merge p cs ws 0 [] cs := ⟨rfl, ha, (fun _ _ h => by cases h), by simp⟩

theorem putsK_append (p : Int) (cs : List Cel) (a b : List Wt) : putsK p cs (a ++ b) = putsK p (putsK p cs a) b := List.foldl_append

theorem pastC_few (r : List Cel) (k : List Int) : (pastC r k).length ≤ r.length := by
  unfold pastC
  split
  · rw [List.length_drop]; omega
  · exact Nat.le_refl _

theorem pastC_asc {r : List Cel} {k : List Int} (h : AscC r) : AscC (pastC r k) := by
  unfold pastC
  split
  · exact List.Pairwise.sublist (List.drop_sublist _ _) h
  · exact h

theorem Merge.step {p : Int} {cs : List Cel} {ws : List Wt} {k : Nat} {m l r : List Cel} (h : Merge p cs ws k m (l ++ r)) (hw : AscW ws) (hk : k < ws.length) (hl : ∀ y ∈ l, ahead y.key ws[k].key = true) (hr : ∀ y ∈ r, ahead y.key ws[k].key = false) :
    Merge p cs ws (k + 1) (m ++ l ++ [cellOf p ws[k]]) (pastC r ws[k].key) := by
  refine ⟨?_, pastC_asc h.asc.right, fun h2 y hy => ?_, ?_⟩
  · rw [List.take_succ_eq_append_getElem hk, putsK_append, h.eq]
    exact putC_cut (c := cellOf p ws[k]) (h.up hk) hl hr h.asc.right
  · have hn : ahead ws[k].key ws[k + 1].key = true := List.pairwise_iff_getElem.1 hw k (k + 1) hk h2 (by omega)
    rcases List.mem_append.1 hy with hy | hy
    · rcases List.mem_append.1 hy with hy | hy
      · exact ahead_trans (h.up hk y hy) hn
      · exact ahead_trans (hl y hy) hn
    · rw [List.mem_singleton.1 hy]; exact hn
  · have h1 := h.few
    have h2 := pastC_few r ws[k].key
    simp only [List.length_append, List.length_cons, List.length_nil] at h1 ⊢
    omega

theorem Merge.all {p : Int} {cs : List Cel} {ws : List Wt} {k : Nat} {m r : List Cel} (h : Merge p cs ws k m r) (hk : ws.length ≤ k) : m ++ r = putsK p cs ws := by
  rw [← h.eq, List.take_of_length_le hk]

/-- the keys that were changed since -/
def changedK (l : List Cel) (b : Int) : List (List Int) := (l.filter (fun c => decide (b < c.since))).map (fun c => c.key)

theorem changedK_asc {l : List Cel} (h : AscC l) (b : Int) : (changedK l b).Pairwise (fun x y => ahead x y = true) := by
  rw [changedK, List.pairwise_map]
  exact List.Pairwise.filter _ h

theorem changedK_few (l : List Cel) (b : Int) : (changedK l b).length ≤ l.length := by
  rw [changedK, List.length_map]
  exact List.length_filter_le _ _

theorem changedK_take {l : List Cel} {b : Int} {k : Nat} (hk : k < l.length) : changedK (l.take (k + 1)) b = changedK (l.take k) b ++ (if b < (l[k]).since then [(l[k]).key] else []) := by
  rw [List.take_succ_eq_append_getElem hk, changedK, List.filter_append, List.map_append]
  congr 1
  by_cases h : b < (l[k]).since
  · simp [h]
  · simp [h]

/-- is one of them in a range -/
def hitK (ks : List (List Int)) (r : List Int × List Int) : Bool := ks.any (fun k => inRng k r)

theorem touched_hit (l : List Cel) (x : Itt) : touchedK l x = x.reads.any (hitK (changedK l x.base)) := by
  rw [Bool.eq_iff_iff]
  simp only [touchedK, hitK, changedK, List.any_eq_true, Bool.and_eq_true, decide_eq_true_eq, List.mem_map, List.mem_filter]
  constructor
  · rintro ⟨c, hc, h1, r, hr, h2⟩
    exact ⟨r, hr, c.key, ⟨c, ⟨hc, h1⟩, rfl⟩, h2⟩
  · rintro ⟨r, hr, k, ⟨c, ⟨hc, h1⟩, rfl⟩, h2⟩
    exact ⟨c, hc, h1, r, hr, h2⟩

/-- is the first one ahead of a key -/
def firstK (r : List (List Int)) (h : List Int) : Bool := match r with
  | [] => false
  | k :: _ => ahead k h

/-- the first one from Low on tells it -/
theorem hit_first {ks l r : List (List Int)} {x : List Int × List Int} (he : ks = l ++ r) (ha : ks.Pairwise (fun x y => ahead x y = true)) (hl : ∀ y ∈ l, ahead y x.1 = true) (hr : ∀ y ∈ r, ahead y x.1 = false) : hitK ks x = firstK r x.2 := by
  subst he
  have h1 : l.any (fun k => inRng k x) = false := List.any_eq_false.2 (fun y hy => by simp [inRng, hl y hy])
  rw [hitK, List.any_append, h1, Bool.false_or]
  cases r with
  | nil => rfl
  | cons k r =>
    have hk := hr k List.mem_cons_self
    simp only [List.any_cons, inRng, hk, Bool.not_false, Bool.true_and, firstK]
    cases q : ahead k x.2 with
    | true => rfl
    | false =>
      rw [Bool.false_or]
      refine List.any_eq_false.2 (fun y hy => ?_)
      have h2 : ahead k y = true := (List.pairwise_cons.1 (List.pairwise_append.1 ha).2.1).1 y hy
      cases q2 : ahead y x.2 with
      | false => simp
      | true =>
        have := ahead_trans h2 q2
        rw [q] at this
        cases this

/-- where a done stands or would stand -/
theorem putD_cut {l r : List Dn} {d : Dn} (ha : (l ++ r).Pairwise (fun a b => dnAhead a b = true)) (hl : ∀ y ∈ l, dnAhead y d = true) (hr : ∀ y ∈ r, dnAhead y d = false) (hn : ∀ c ∈ r.head?, ¬ (c.client = d.client ∧ c.number = d.number)) : putD (l ++ r) d = l ++ d :: r ∧ hasD (l ++ r) d.client d.number = false := by
  have hr2 : ∀ y ∈ r, dnAhead d y = true := fun y hy => by
    cases r with
    | nil => cases hy
    | cons c r =>
      have h0 := hn c (by simp)
      have h1 := hr c List.mem_cons_self
      have h2 : dnAhead d c = true := by
        simp only [dnAhead, decide_eq_false_iff_not, decide_eq_true_eq] at h1 ⊢
        omega
      rcases List.mem_cons.1 hy with rfl | hy
      · exact h2
      · exact dnAhead_trans h2 ((List.pairwise_cons.1 (List.pairwise_append.1 ha).2.1).1 y hy)
  have asy : ∀ a b : Dn, dnAhead a b = true → dnAhead b a = false := fun a b h => by
    simp only [dnAhead, decide_eq_false_iff_not, decide_eq_true_eq] at h ⊢
    omega
  have f1 : l.filter (fun x => dnAhead x d) = l := List.filter_eq_self.2 hl
  have f2 : r.filter (fun x => dnAhead x d) = [] := List.filter_eq_nil_iff.2 (fun y hy => by rw [hr y hy]; simp)
  have g1 : l.filter (fun x => dnAhead d x) = [] := List.filter_eq_nil_iff.2 (fun y hy => by rw [asy _ _ (hl y hy)]; simp)
  have g2 : r.filter (fun x => dnAhead d x) = r := List.filter_eq_self.2 hr2
  refine ⟨by simp only [putD, List.filter_append, f1, f2, g1, g2]; simp, ?_⟩
  simp only [hasD, List.any_eq_false, decide_eq_true_eq]
  intro y hy hc
  rcases List.mem_append.1 hy with h | h
  · have := hl y h
    simp only [dnAhead, decide_eq_true_eq] at this
    omega
  · have := hr2 y h
    simp only [dnAhead, decide_eq_true_eq] at this
    omega

end Go.Proofs.Ytjjdednlddnllaa

/- Rows of bytes in a row: keys. -/
namespace Go.Proofs.Ytjjdednlddnllaa
open Go.ChangeShapes Go.WideShapes Go.ChangeAt Go.RowKit

/-- a row of bytes as one cell -/
def kKey : Kd (List Int) 1 where
  rel ok w x cs := ∃ u, cs = [u] ∧ IsBody w ok u x
  move hk hok _ _ := by
    rintro ⟨u, rfl, h1⟩
    exact ⟨u, rfl, h1.move hk hok⟩
  len := by
    rintro _ _ _ _ ⟨u, rfl, _⟩
    rfl
  one := by
    rintro _ _ _ _ ⟨u, rfl, h1⟩ x hx
    simp only [List.mem_cons, List.not_mem_nil, or_false] at hx
    subst hx
    exact h1.one

theorem eltK : Elt 27 38 1 24 := ⟨Try.underlying27, by
  obtain ⟨i0, hi, hz0, hz1, hz2⟩ := info_parts (show (Try.prog.info? 38).map (fun i => (i.zero, i.size, i.bytes)) = some (some (.slice none 0 0), 1, 24) by kernel_rfl)
  exact ⟨i0, _, hi, hz0, hz1, hz2, rfl⟩, by decide⟩

/-- a key of a row -/
theorem key_at {ok : Nat → Prop} {w : World} {ao : Option Addr} {cap : Nat} {l : List (List Int)} (hL : Lies kKey ok w ao cap l) {k : Nat} (hk : k < l.length) :
    ∃ bb off a1 c1, ao = some ⟨bb, off, none⟩ ∧ bb < w.heap.size ∧ Octs w a1 c1 l[k] ∧ ∀ W : World, Below w.heap.size w W → W.cell? ⟨bb, off + k, none⟩ = some (.slice a1 (l[k]).length c1) := by
  obtain ⟨bb, off, e, hb, _, cs, ⟨u, rfl, h1⟩, hc⟩ := hL.at hk
  obtain ⟨a1, c1, rfl, o1, _⟩ := id h1
  refine ⟨bb, off, a1, c1, e, hb, o1, fun W hW => (hW.cell (p := ⟨bb, off + k, none⟩) hb).trans ?_⟩
  have := hc 0 _ rfl
  simpa using this

/-- a whole number in a row -/
def kNum : Kd Int 1 where
  rel _ _ x cs := cs = [.int .i64 x]
  move _ _ _ _ := fun h => h
  len := by
    rintro _ _ _ _ rfl
    rfl
  one := by
    rintro _ _ _ _ rfl x hx
    simp only [List.mem_cons, List.not_mem_nil, or_false] at hx
    subst hx
    rfl

theorem eltN : Elt 28 29 1 8 := ⟨Try.underlying28, by
  obtain ⟨i0, hi, hz0, hz1, hz2⟩ := info_parts (show (Try.prog.info? 29).map (fun i => (i.zero, i.size, i.bytes)) = some (some (.int .i64 0), 1, 8) by kernel_rfl)
  exact ⟨i0, _, hi, hz0, hz1, hz2, rfl⟩, by decide⟩

theorem num_at {ok : Nat → Prop} {w : World} {ao : Option Addr} {cap : Nat} {l : List Int} (hL : Lies kNum ok w ao cap l) {k : Nat} (hk : k < l.length) :
    ∃ bb off, ao = some ⟨bb, off, none⟩ ∧ bb < w.heap.size ∧ ∀ W : World, Below w.heap.size w W → W.cell? ⟨bb, off + k, none⟩ = some (.int .i64 l[k]) := by
  obtain ⟨bb, off, e, hb, _, cs, rfl, hc⟩ := hL.at hk
  refine ⟨bb, off, e, hb, fun W hW => (hW.cell (p := ⟨bb, off + k, none⟩) hb).trans ?_⟩
  have := hc 0 _ rfl
  simpa using this

end Go.Proofs.Ytjjdednlddnllaa
