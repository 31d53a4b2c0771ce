/- Plain facts: a scan, entry by entry, until one is too many or too far. -/
import Derived.Test.YtcegkgobkpakiaaTrFrom2
namespace Go.Proofs.Ytcegkgobkpakiaa
open Go.ChangeShapes Go.WideShapes Go.ChangeAt Go.RowKit

/-- entries that a scan has taken -/
structure Taken (hi : List Int) (lim : Nat) (pre : List Ent) : Prop where
  few : pre.length ≤ lim
  all : ∀ y ∈ pre, hi = [] ∨ ahead y.1 hi = true

theorem scan_filter (l : List Ent) (lo hi : List Int) : l.filter (fun e => within lo hi e.1) = (fromL l lo).filter (fun e => decide (hi = []) || ahead e.1 hi) := by
  unfold fromL
  rw [List.filter_filter]
  congr 1
  funext e
  simp [within, Bool.and_comm]

theorem taken_filter {hi : List Int} {lim : Nat} {pre : List Ent} (h : Taken hi lim pre) : pre.filter (fun e => decide (hi = []) || ahead e.1 hi) = pre := by
  rw [List.filter_eq_self]
  intro y hy
  rcases h.all y hy with q | q <;> simp [q]

theorem scan_all {l : List Ent} {lo hi : List Int} {lim : Nat} (h : Taken hi lim (fromL l lo)) : scanK l lo hi lim = fromL l lo := by
  rw [scanK, scan_filter, taken_filter h, List.take_of_length_le h.few]

theorem scan_stop {l : List Ent} {lo hi : List Int} {lim : Nat} (ha : Asc l) {pre : List Ent} {x : Ent} (h : Taken hi lim pre) (hp : pre ++ [x] <+: fromL l lo) (hs : pre.length = lim ∨ (hi ≠ [] ∧ ahead x.1 hi = false)) : scanK l lo hi lim = pre := by
  obtain ⟨r, hr⟩ := hp
  rw [scanK, scan_filter, ← hr, List.append_assoc, List.filter_append, taken_filter h]
  rcases hs with hs | ⟨h1, h2⟩
  · rw [← hs, List.take_left]
  · have ha2 : Asc (pre ++ [x] ++ r) := by rw [hr]; exact ha.filter _
    rw [List.append_assoc] at ha2
    have ha3 := (List.pairwise_append.1 ha2).2.1
    have hz : ([x] ++ r).filter (fun e => decide (hi = []) || ahead e.1 hi) = [] := by
      rw [List.filter_eq_nil_iff]
      intro y hy
      have hyn : ahead y.1 hi = false := by
        rcases List.mem_cons.1 hy with rfl | hy
        · exact h2
        · cases e : ahead y.1 hi with
          | false => rfl
          | true =>
            have := ahead_trans ((List.pairwise_cons.1 ha3).1 y hy) e
            rw [h2] at this
            cases this
      simp [h1, hyn]
    rw [hz, List.append_nil, List.take_of_length_le h.few]

theorem taken_snoc {hi : List Int} {lim : Nat} {pre : List Ent} {x : Ent} (h : Taken hi lim pre) (h1 : pre.length < lim) (h2 : hi = [] ∨ ahead x.1 hi = true) : Taken hi lim (pre ++ [x]) :=
  ⟨by simp; omega, fun y hy => by
    rcases List.mem_append.1 hy with hy | hy
    · exact h.all y hy
    · rw [List.mem_singleton.1 hy]
      exact h2⟩

end Go.Proofs.Ytcegkgobkpakiaa
