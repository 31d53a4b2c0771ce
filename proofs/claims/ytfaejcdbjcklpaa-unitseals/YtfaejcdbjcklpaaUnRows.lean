/- Rows of jobs, one behind the other, and their play: as the laws ask it. -/
import Derived.Test.YtfaejcdbjcklpaaUnLaws
import Derived.Test.YtfaejcdbjcklpaaUnJobs
import Derived.Test.YtfaejcdbjcklpaaUnRun
namespace Go.Proofs.Ytfaejcdbjcklpaa
open Go.ChangeShapes Go.WideShapes Go.ChangeAt Go.RowKit

/-- jobs that lie somewhere -/
def Jbs (W : World) (v : Value) (js : List Jb) : Prop := ∃ a c, v = .slice a js.length c ∧ Lies kJb (fun _ => True) W a c js

theorem Jbs.later {w w' : World} {v : Value} {js : List Jb} (h : Jbs w v js) (hb : Below w.heap.size w w') : Jbs w' v js := by
  obtain ⟨a, c, e, h1⟩ := h
  exact ⟨a, c, e, h1.later hb⟩

theorem Jbs.of_rows {w : World} {base : Nat} {E : TypeId} {v : Value} {js : List Jb} (h : Rows kJb (fun _ => True) w base E v js) : Jbs w v js := by
  obtain ⟨a, c, e, h1, -⟩ := h.lies (fun _ _ => trivial)
  exact ⟨a, c, e, h1⟩

/-- replies that lie somewhere -/
def Rps (W : World) (a : Option Addr) (c : Nat) (rs : List Rp) : Prop := Lies kRp (fun _ => True) W a c rs

/-- a reply's cells -/
theorem Rps.cell {W : World} {a : Option Addr} {c : Nat} {rs : List Rp} (h : Rps W a c rs) {k : Nat} (hk : k < rs.length) :
    ∃ b off da dc, a = some ⟨b, off, none⟩ ∧ W.cell? ⟨b, off + k * 4, none⟩ = some (.int .i64 (rs[k]).code) ∧ W.cell? ⟨b, off + k * 4 + 1, none⟩ = some (.bool (rs[k]).junk) ∧
      W.cell? ⟨b, off + k * 4 + 2, none⟩ = some (.slice da (rs[k]).data.length dc) ∧ W.cell? ⟨b, off + k * 4 + 3, none⟩ = some (.int .i64 (rs[k]).tail) ∧ Octs W da dc (rs[k]).data := by
  obtain ⟨b, off, e, _, _, cs, ⟨u, rfl, hu⟩, hc⟩ := h.at hk
  obtain ⟨da, dc, rfl, ho, -⟩ := hu
  exact ⟨b, off, da, dc, e, by simpa using hc 0 _ rfl, hc 1 _ rfl, hc 2 _ rfl, hc 3 _ rfl, ho⟩

/-- a play, as the laws ask it -/
theorem Play_law (js : List Jb) (hjs : js.length ≤ 400) (W : World) (v : Value) (h : Jbs W v js) :
    Calls Try.prog 7 #[v] W fun e w' => ∃ (a : Option Addr) (n c : Nat), e = .returned (.tuple #[.slice a n c, .int .i64 0]) ∧ Hid (n = js.length ∧ Rps w' a c (playU unit0 js).1) ∧ Hid (Below W.heap.size W w') := by
  obtain ⟨a, c, rfl, hL⟩ := h
  refine (Play_any _ js hjs a c W hL).mono ?_
  rintro e w' ⟨a', n, c', rfl, h1, h2, -, h3⟩
  exact ⟨a', n, c', rfl, put_by ⟨h1, h2⟩, put_by h3⟩

/-- Jobs, as the laws ask it -/
theorem Jobs_law (ts : List Tsk) (n : Nat) (hn : n ≤ 60) (ta : Option Addr) (tc len : Nat) (hlen : len = ts.length) (w : World) (hL : Lies kTs (fun _ => True) w ta tc ts) :
    Calls Try.prog 4 #[.slice ta len tc, .int .i64 n] w fun e w' => ∃ (a : Option Addr) (m c : Nat) (q : Int), e = .returned (.tuple #[.slice a m c, .int .i64 q]) ∧ Hid (q = (jobsOf 0 (ts.take n)).2 ∧ m = (jobsOf 0 (ts.take n)).1.length) ∧ Hid (JbI w (jobsOf 0 (ts.take n)).1 (.slice a m c) w') := by
  subst hlen
  refine (Jobs_any _ ts n hn ta tc w hL).mono ?_
  rintro e w' ⟨a, m, c, rfl, h1, h2⟩
  exact ⟨a, m, c, _, rfl, put_by ⟨rfl, h1⟩, put_by h2⟩

/-- few jobs, a small epoch -/
theorem jobs_few (ts : List Tsk) (n : Nat) (hn : n ≤ 60) : (jobsOf 0 (ts.take n)).1.length ≤ n ∧ 0 ≤ (jobsOf 0 (ts.take n)).2 ∧ (jobsOf 0 (ts.take n)).2 ≤ 120 := by
  have h1 := jobsOf_epoch 0 (ts.take n)
  have h2 : (ts.take n).length ≤ n := by rw [List.length_take]; omega
  rw [jobsOf_length]
  omega

theorem jobs_state (ts : List Tsk) (n : Nat) (hn : n ≤ 60) : LowU (playU unit0 (jobsOf 0 (ts.take n)).1).2 (jobsOf 0 (ts.take n)).2 := by
  have h2 : (ts.take n).length ≤ n := by rw [List.length_take]; omega
  exact jobs_low (ts.take n) low0 (by omega)

/-- a row of the call's own has got others behind it -/
structure RowI (w : World) (js : List Jb) (v : Value) (W : World) : Prop where
  rows : Rows kJb (fun _ => True) W w.heap.size 29 v js
  below : Below w.heap.size w W

theorem RowI.later {w W W' : World} {js : List Jb} {v : Value} (h : RowI w js v W) (hb : Below W.heap.size W W') : RowI w js v W' := ⟨h.rows.later hb, h.below.trans (hb.mono h.below.size)⟩

theorem RowI.grown {w W W' : World} {js js' : List Jb} {v v' : Value} (h : RowI w js v W) (h1 : Rows kJb (fun _ => True) W' w.heap.size 29 v' js') (h2 : W.grownBy W' v.ownBlock) : RowI w js' v' W' :=
  ⟨h1, below_grown h.below h.below.size h2 (fun r hr => (rows_lt h.rows r hr).1)⟩

/-- what is asked of all of a few slots, as the laws ask it -/
theorem look_law (ep : Int) (w : World) : Calls Try.prog 8 #[.int .i64 ep] w fun e w' => ∃ (a : Option Addr) (c : Nat), e = .returned (.slice a 6 c) ∧ Hid (Lies kJb (fun b => w.heap.size ≤ b) w' a c (askK ep 6)) ∧ Hid (Below w.heap.size w w') := by
  refine (look_any ep w).mono ?_
  rintro e w' ⟨a, c, rfl, h1, h2⟩
  obtain ⟨a', c', e, h3, -⟩ := h1.lies (fun b hb => (rows_lt h1 b hb).1)
  simp only [Value.slice.injEq] at e
  obtain ⟨rfl, -, rfl⟩ := e
  exact ⟨a, c, rfl, put_by h3, put_by h2⟩

theorem rows_slice {w W : World} {js : List Jb} {v : Value} (h : RowI w js v W) : ∃ a c, v = .slice a js.length c ∧ Lies kJb (fun _ => True) W a c js := by
  obtain ⟨a, c, e, h1, -⟩ := h.rows.lies (fun _ _ => trivial)
  exact ⟨a, c, e, h1⟩

end Go.Proofs.Ytfaejcdbjcklpaa
