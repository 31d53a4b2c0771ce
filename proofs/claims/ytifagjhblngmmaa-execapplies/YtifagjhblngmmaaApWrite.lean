/- One write: what it comes to, plain; and slices.Insert in all its ways. -/
import Derived.Test.YtifagjhblngmmaaApInsert3
import Derived.Test.YtifagjhblngmmaaApDelete
import Derived.Test.YtifagjhblngmmaaApFind
namespace Go.Proofs.Ytifagjhblngmmaa
open Go.ChangeShapes Go.WideShapes Go.ChangeAt Go.RowKit

/-- a write: a key, what it has from then on, or that it is gone -/
structure Write1 where
  key : List Int
  val : List Int
  gone : Bool

/-- entries behind a write -/
def wrK (l : List Ent) (x : Write1) : List Ent := if x.gone then dropK l x.key else putK l (x.key, x.val)

theorem cut_yes {es l r : List Ent} {key : List Int} (ha : Asc es) (e : es = l ++ r) (hh : headIs r key = true) : ∃ x m, r = x :: m ∧ x.1 = key ∧ ∀ y ∈ m, ahead key y.1 = true := by
  match r, hh with
  | x :: m, hh =>
    have hx : x.1 = key := of_decide_eq_true hh
    refine ⟨x, m, rfl, hx, fun y hy => ?_⟩
    rw [e] at ha
    have := (List.pairwise_cons.1 (List.pairwise_append.1 ha).2.1).1 y hy
    rwa [hx] at this

theorem cut_no {es l r : List Ent} {key : List Int} (ha : Asc es) (e : es = l ++ r) (hr : ∀ y ∈ r, ahead y.1 key = false) (hh : headIs r key = false) : ∀ y ∈ r, ahead key y.1 = true := by
  match r, hh with
  | [], _ => intro y hy; cases hy
  | x :: m, hh =>
    have hx : ¬ x.1 = key := of_decide_eq_false hh
    have h1 : ahead key x.1 = true := by
      cases h2 : ahead key x.1 with
      | true => rfl
      | false => exact absurd (ahead_total (hr x List.mem_cons_self) h2) hx
    rw [e] at ha
    intro y hy
    rcases List.mem_cons.1 hy with rfl | hy
    · exact h1
    · exact ahead_trans h1 ((List.pairwise_cons.1 (List.pairwise_append.1 ha).2.1).1 y hy)

/-- what a write comes to, by where its key stands -/
theorem wr_yes {es l r : List Ent} {key : List Int} (val : List Int) (ha : Asc es) (e : es = l ++ r) (hl : ∀ y ∈ l, ahead y.1 key = true) (hh : headIs r key = true) :
    l.length < es.length ∧ wrK es ⟨key, val, true⟩ = es.take l.length ++ es.drop (l.length + 1) ∧ wrK es ⟨key, val, false⟩ = es.take l.length ++ (key, val) :: es.drop (l.length + 1) := by
  obtain ⟨x, m, rfl, hx, hm⟩ := cut_yes ha e hh
  subst e
  have e1 : (l ++ x :: m).take l.length = l := by simp
  have e2 : (l ++ x :: m).drop (l.length + 1) = m := by simp [List.drop_append]
  refine ⟨by simp, ?_, ?_⟩
  · rw [e1, e2]
    exact dropK_at hl hx hm
  · rw [e1, e2]
    exact putK_at (x := (key, val)) hl hx hm

theorem wr_no {es l r : List Ent} {key : List Int} (val : List Int) (ha : Asc es) (e : es = l ++ r) (hl : ∀ y ∈ l, ahead y.1 key = true) (hr : ∀ y ∈ r, ahead y.1 key = false) (hh : headIs r key = false) :
    l.length ≤ es.length ∧ wrK es ⟨key, val, true⟩ = es ∧ wrK es ⟨key, val, false⟩ = es.take l.length ++ (key, val) :: es.drop l.length := by
  have hm := cut_no ha e hr hh
  subst e
  have e1 : (l ++ r).take l.length = l := by simp
  have e2 : (l ++ r).drop l.length = r := by simp
  refine ⟨by simp, ?_, ?_⟩
  · refine dropK_none (fun y hy => ?_)
    rcases List.mem_append.1 hy with hy | hy
    · exact ahead_ne (hl y hy)
    · exact fun q => ahead_ne (hm y hy) q.symm
  · rw [e1, e2]
    exact putK_new (x := (key, val)) hl hm

theorem wrK_asc {l : List Ent} (h : Asc l) (x : Write1) : Asc (wrK l x) := by
  unfold wrK
  split
  · exact h.drop _
  · exact h.put _

theorem wrK_length (l : List Ent) (x : Write1) : (wrK l x).length ≤ l.length + 1 := by
  unfold wrK
  split
  · have := dropK_length l x.key
    omega
  · exact putK_length l _

/-- where a row of the call's own lies -/
theorem Own.at0 {B : Nat} {w : World} {a : Option Addr} {cap : Nat} {l : List Ent} (h : Own B w (.slice a l.length cap) l) (hl : l ≠ []) : ∃ g, a = some ⟨g, 0, none⟩ ∧ B ≤ g ∧ g < w.heap.size := by
  obtain ⟨css, hO, -⟩ := h.open
  rcases hO.2 with ⟨e, h0⟩ | ⟨g, cap', cur, e, h1, h2, _⟩
  · exact absurd (List.length_eq_zero_iff.1 h0) hl
  · simp only [Value.slice.injEq] at e
    exact ⟨g, e.1, h1, (Array.getElem?_eq_some_iff.1 h2).1⟩

theorem Own.later {B : Nat} {w w' : World} {v : Value} {l : List Ent} (h : Own B w v l) (hb : Below w.heap.size w w') : Own B w' v l := Rows.later h hb

theorem Own.lies {B : Nat} {w : World} {a : Option Addr} {n cap : Nat} {l : List Ent} (h : Own B w (.slice a n cap) l) : Lies kEnt (fun _ => True) w a cap l := (rows_lies (h.turned (ok2 := fun _ => True) (fun _ _ _ => trivial)) (fun _ _ => trivial)).2.1

theorem insert_any (B : Nat) (l : List Ent) (hl : l.length ≤ 90000) (i : Nat) (hi : i ≤ l.length) (a : Option Addr) (cap vb : Nat) (u v : Value) (x : Ent) (w : World) (hBw : B ≤ w.heap.size) (hvb : vb < w.heap.size) (hR : Own B w (.slice a l.length cap) l) (hv : Laid1 B w vb u v x) (hne : ∀ g, (Value.slice a l.length cap).ownBlock = some g → vb ≠ g) :
    Calls Try.prog 18 #[.slice a l.length cap, .int .i64 i, .slice (some ⟨vb, 0, none⟩) 1 1] w fun e w' => InsPost B (l.take i ++ x :: l.drop i) w e w' := by
  by_cases h : i = l.length
  · subst h
    rw [List.take_of_length_le (Nat.le_refl _), List.drop_of_length_le (Nat.le_refl _)]
    exact insert_end B l hl a cap vb u v x w hBw hR hv
  · obtain ⟨g, rfl, -, -⟩ := hR.at0 (by rintro rfl; simp at hi; simp at h; omega)
    by_cases hc : l.length + 1 ≤ cap
    · exact insert_room B l i (by omega) g cap vb hc u v x w hR hv (hne g rfl)
    · exact insert_grow B l hl i (by omega) g cap vb (by omega) u v x w hBw hvb hR hv

theorem set_over {L : List Value} {o : Nat} (u v : Value) (h : o + 2 ≤ L.length) : (L.set o u).set (o + 1) v = over L o [u, v] := by
  unfold over
  apply List.ext_getElem?
  intro j
  simp only [List.getElem?_set, List.getElem?_append, List.length_take, List.getElem?_take, List.getElem?_drop, List.length_cons, List.length_nil]
  have hm : min o L.length = o := by omega
  rw [hm]
  by_cases h1 : j < o
  · have q1 : ¬ o = j := by omega
    have q2 : ¬ o + 1 = j := by omega
    simp only [h1, q1, q2, if_true, if_false]
  · by_cases h2 : j = o
    · subst h2
      have q1 : j < L.length := by omega
      have q2 : ¬ j + 1 = j := by omega
      simp only [h1, q1, q2, if_true, if_false, Nat.sub_self, Nat.zero_add]
      rfl
    · by_cases h3 : j = o + 1
      · subst h3
        have q1 : o + 1 < L.length := by omega
        have q2 : ¬ o = o + 1 := by omega
        have q3 : o + 1 - o = 1 := by omega
        simp only [h1, q1, q3, List.length_set, if_true, if_false]
        rfl
      · have q1 : ¬ o = j := by omega
        have q2 : ¬ o + 1 = j := by omega
        have q3 : ¬ j - o < 0 + 1 + 1 := by omega
        simp only [h1, q1, q2, q3, if_false]
        congr 1
        omega

/-- one entry in place of another -/
theorem set_any {B : Nat} {w : World} {g cap i : Nat} {l : List Ent} {u v : Value} {x : Ent} (hi : i < l.length) (hR : Own B w (.slice (some ⟨g, 0, none⟩) l.length cap) l) (hx : kEnt.rel (fun b => b < B) w x [u, v]) :
    (∃ y0, w.cell? ⟨g, i * 2, none⟩ = some y0) ∧ (∃ y1, w.cell? ⟨g, i * 2 + 1, none⟩ = some y1) ∧ w.frozen? ⟨g, i * 2, none⟩ = false ∧ w.frozen? ⟨g, i * 2 + 1, none⟩ = false ∧
      Own B ((w.setCell ⟨g, i * 2, none⟩ u).setCell ⟨g, i * 2 + 1, none⟩ v) (.slice (some ⟨g, 0, none⟩) l.length cap) (l.take i ++ x :: l.drop (i + 1)) ∧ Below B w ((w.setCell ⟨g, i * 2, none⟩ u).setCell ⟨g, i * 2 + 1, none⟩ v) := by
  obtain ⟨css, hO, hE⟩ := hR.open
  rcases hO.2 with ⟨h0, -⟩ | ⟨g', cap', cur0, e, hB, hg, hc, hm, hs, ht⟩
  · cases h0
  · obtain ⟨cur, rfl⟩ : ∃ cur : List Value, cur.toArray = cur0 := ⟨cur0.toList, by simp⟩
    simp only [Value.slice.injEq, Option.some.injEq, Addr.mk.injEq, and_true, true_and] at e
    obtain ⟨rfl, rfl⟩ := e
    simp only [List.size_toArray] at hs ht
    have hfit : i * 2 + [u, v].length ≤ cur.length := by rw [hs]; simp; omega
    have hfit' : i * 2 + 2 ≤ cur.length := hfit
    have hw : (w.setCell ⟨g, i * 2, none⟩ u).setCell ⟨g, i * 2 + 1, none⟩ v = w.setRow g (over cur (i * 2) [u, v]).toArray := by
      rw [setCell_eq_setRow w g (i * 2) cur.toArray 40 (0, 0) u hg, setCell_eq_setRow _ g (i * 2 + 1) _ 40 (0, 0) v (setRow_heap w g _ _ 40 _ hg), setRow_setRow]
      congr 1
      rw [← set_over u v hfit]
      simp
    have hb : Below B w (w.setRow g (over cur (i * 2) [u, v]).toArray) := below_row (Below.refl _ _) hB _
    refine ⟨⟨cur[i * 2], row_cell hg (List.getElem?_eq_getElem (by omega))⟩, ⟨cur[i * 2 + 1], row_cell hg (List.getElem?_eq_getElem (by omega))⟩, by simp [World.frozen?, hg], by simp [World.frozen?, hg], ?_, by rw [hw]; exact hb⟩
    rw [hw]
    have hll : (l.take i ++ x :: l.drop (i + 1)).length = l.length := by
      simp only [List.length_append, List.length_cons, List.length_take, List.length_drop]
      omega
    have hcl2 : ∀ c ∈ css, c.length = 2 := rel_len hE
    have hfl : css.flatten.length = l.length * 2 := hO.1
    have := Own.of (css := css.take i ++ [u, v] :: css.drop (i + 1)) (l := l.take i ++ x :: l.drop (i + 1)) (cap := cap) hB (row_heap hg (over cur (i * 2) [u, v])) (by omega) hm (by rw [over_length hfit, hs]) ?_ (Ents.later ((hE.take i).append ⟨hx, hE.drop (i + 1)⟩) hb)
    · rw [hll] at this
      exact this
    · have e2 : css.flatten = (css.take i).flatten ++ (css.drop i).flatten := by rw [← List.flatten_append, List.take_append_drop]
      have e3 : (css.take i).flatten.length = i * 2 := by
        rw [flatten_len (fun c hc => hcl2 c (List.mem_of_mem_take hc)), List.length_take, ← hE.length]
        congr 1
        omega
      have e5 : css.flatten.take (i * 2) = (css.take i).flatten := by rw [e2, List.take_append_of_le_length (by omega), List.take_of_length_le (by omega)]
      have e6 : cur.take (i * 2) = css.flatten.take (i * 2) := by
        rw [← ht, List.take_take]
        congr 1
        omega
      have e7 : (cur.drop (i * 2 + 2)).take (l.length * 2 - (i * 2 + 2)) = css.flatten.drop ((i + 1) * 2) := by
        rw [← ht, List.drop_take]
        congr 1
        · omega
        · congr 1
          omega
      rw [hll, List.flatten_append, List.flatten_cons, flatten_drop hcl2, ← e5, ← e6, ← e7, over]
      have e8 : l.length * 2 = (cur.take (i * 2)).length + ([u, v].length + (l.length * 2 - (i * 2 + 2))) := by
        rw [List.length_take]
        simp
        omega
      rw [e8, List.take_length_add_append, List.take_length_add_append]
      congr 2
      simp
      congr 1
      omega

end Go.Proofs.Ytifagjhblngmmaa
