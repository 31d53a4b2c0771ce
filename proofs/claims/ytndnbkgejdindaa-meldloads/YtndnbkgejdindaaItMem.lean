/- Intents in memory: their reads and writes, and what may be, place by place. -/
import Derived.Test.YtndnbkgejdindaaApBase
import Derived.Test.YtndnbkgejdindaaIntentPlain
import Derived.Test.YtndnbkgejdindaaTreePlain
namespace Go.Proofs.Ytndnbkgejdindaa
open Go.ChangeShapes Go.WideShapes Go.ChangeAt Go.RowKit

/-- a write in memory: its key, its value, whether it is gone -/
def kWt : Kd Wt 3 where
  rel ok w x cs := ∃ u v, cs = [u, v, .bool x.gone] ∧ IsBody w ok u x.key ∧ IsBody w ok v x.val
  move hk hok _ _ := by
    rintro ⟨u, v, rfl, h1, h2⟩
    exact ⟨u, v, rfl, h1.move hk hok, h2.move hk hok⟩
  len := by
    rintro _ _ _ _ ⟨u, v, rfl, _, _⟩
    rfl
  one := by
    rintro _ _ _ _ ⟨u, v, rfl, h1, h2⟩ x hx
    simp only [List.mem_cons, List.not_mem_nil, or_false] at hx
    rcases hx with rfl | rfl | rfl
    · exact h1.one
    · exact h2.one
    · rfl

theorem eltR : Elt 62 76 2 48 := ⟨Try.underlying62, by
  obtain ⟨i0, hi, hz0, hz1, hz2⟩ := info_parts (show (Try.prog.info? 76).map (fun i => (i.zero, i.size, i.bytes)) = some (some (.agg #[.slice none 0 0, .slice none 0 0]), 2, 48) by kernel_rfl)
  exact ⟨i0, _, hi, hz0, hz1, hz2, rfl⟩, by decide⟩

theorem eltW : Elt 63 79 3 56 := ⟨Try.underlying63, by
  obtain ⟨i0, hi, hz0, hz1, hz2⟩ := info_parts (show (Try.prog.info? 79).map (fun i => (i.zero, i.size, i.bytes)) = some (some (.agg #[.slice none 0 0, .slice none 0 0, .bool false]), 3, 56) by kernel_rfl)
  exact ⟨i0, _, hi, hz0, hz1, hz2, rfl⟩, by decide⟩

/-- an intent's reads and writes lie in memory -/
structure ItIs (ok : Nat → Prop) (w : World) (rs : List (List Int × List Int)) (ws : List Wt) (ra : Option Addr) (rc : Nat) (wa : Option Addr) (wc : Nat) : Prop where
  reads : Lies kEnt ok w ra rc rs
  writes : Lies kWt ok w wa wc ws
  few : rs.length ≤ 140737488351232 ∧ ws.length ≤ 140737488351232

theorem ItIs.later {ok : Nat → Prop} {w w' : World} {rs : List (List Int × List Int)} {ws : List Wt} {ra : Option Addr} {rc : Nat} {wa : Option Addr} {wc : Nat} (h : ItIs ok w rs ws ra rc wa wc) (hb : Below w.heap.size w w') : ItIs ok w' rs ws ra rc wa wc :=
  ⟨h.reads.later hb, h.writes.later hb, h.few⟩

theorem bool_of (p : Prop) : ∃ r : Bool, (r = true ↔ p) := by
  by_cases h : p
  · exact ⟨true, fun _ => h, fun _ => rfl⟩
  · exact ⟨false, fun e => (by cases e), fun e => absurd e h⟩

theorem of_not {R : Bool} {p : Prop} (h : R = true ↔ p) (hn : ¬ p) : R = false := by
  cases R with
  | false => rfl
  | true => exact absurd (h.1 rfl) hn

/-- reads that may be -/
def RdsP (l : List (List Int × List Int)) : Prop := l.length ≤ 400 ∧ ∀ r ∈ l, OkRd r

/-- writes that may be -/
def WtsP (l : List Wt) : Prop := l.length ≤ 400 ∧ (∀ y ∈ l, OkWt y) ∧ AscW l

/-- the first k are right -/
def GoodW (l : List Wt) (k : Nat) : Prop := (∀ y ∈ l.take k, OkWt y) ∧ AscW (l.take k)

theorem GoodW.zero (l : List Wt) : GoodW l 0 := by simp [GoodW, AscW]

theorem take_succ' {α : Type} {l : List α} {k : Nat} (hk : k < l.length) : l.take (k + 1) = l.take k ++ [l[k]] := List.take_succ_eq_append_getElem hk

theorem GoodW.step {l : List Wt} {k : Nat} (hk : k < l.length) (h : GoodW l k) (ho : OkWt l[k]) (ha : ∀ p, p + 1 = k → ∀ hp : p < l.length, ahead l[p].key l[k].key = true) : GoodW l (k + 1) := by
  unfold GoodW
  rw [take_succ' hk]
  refine ⟨fun y hy => ?_, ?_⟩
  · rcases List.mem_append.1 hy with h1 | h1
    · exact h.1 y h1
    · rw [List.mem_singleton.1 h1]; exact ho
  · refine List.pairwise_append.2 ⟨h.2, List.pairwise_singleton _ _, fun a ha' b hb => ?_⟩
    rw [List.mem_singleton.1 hb]
    cases k with
    | zero => simp at ha'
    | succ p =>
      have hp : p < l.length := by omega
      have h1 := ha p rfl hp
      rw [take_succ' hp] at ha'
      rcases List.mem_append.1 ha' with h2 | h2
      · have h3 := h.2
        unfold AscW at h3
        rw [take_succ' hp] at h3
        have h4 := (List.pairwise_append.1 h3).2.2 a h2 l[p] (by simp)
        exact ahead_trans h4 h1
      · rw [List.mem_singleton.1 h2]; exact h1

theorem GoodW.all {l : List Wt} {k : Nat} (h : GoodW l k) (hk : l.length ≤ k) : (∀ y ∈ l, OkWt y) ∧ AscW l := by
  unfold GoodW at h
  rwa [List.take_of_length_le hk] at h

theorem ascW_next {l : List Wt} {p : Nat} (h : AscW l) (hp : p + 1 < l.length) : ahead (l[p]'(by omega)).key l[p + 1].key = true :=
  List.pairwise_iff_getElem.1 h p (p + 1) (by omega) hp (by omega)

end Go.Proofs.Ytndnbkgejdindaa
