/- Turns that a law lays, and what Play makes of them. -/
import Derived.Test.YtppcikfhhmiipaaBlRun
import Derived.Test.YtppcikfhhmiipaaPicked
namespace Go.Proofs.Ytppcikfhhmiipaa
open Go.ChangeShapes Go.WideShapes Go.ChangeAt Go.RowKit Go.Maps

theorem eltTn : Elt 22 34 4 32 := ⟨Try.underlying22, by
  obtain ⟨i0, hi, hz0, hz1, hz2⟩ := info_parts (show (Try.prog.info? 34).map (fun i => (i.zero, i.size, i.bytes)) = some (some (.agg #[.int .i64 0, .int .i64 0, .int .i64 0, .int .i64 0]), 4, 32) by kernel_rfl)
  exact ⟨i0, _, hi, hz0, hz1, hz2, rfl⟩, by decide⟩

/-- turns in a row of the call's own -/
structure TsI (w : World) (ts : List Tn) (f : Value) (W : World) : Prop where
  rows : Rows kTn (fun _ => True) W w.heap.size 34 f ts
  below : Below w.heap.size w W

theorem TsI.later {w W W' : World} {ts : List Tn} {f : Value} (h : TsI w ts f W) (hb : Below W.heap.size W W') : TsI w ts f W' := ⟨h.rows.later hb, h.below.trans (hb.mono h.below.size)⟩

theorem below_rowT {n : Nat} {w X Y : World} {row : Option Nat} (h : Below n w X) (hn : n ≤ X.heap.size) (hg : X.grownBy Y row) (hr : ∀ r, row = some r → n ≤ r) : Below n w Y :=
  ⟨hg.os.trans h.os, hg.tape.trans h.tape, hg.output.trans h.output, Nat.le_trans h.size hg.size, fun b hb => (hg.block b (by omega) (fun e => by have := hr b e.symm; omega)).trans (h.block b hb)⟩

theorem TsI.put {w W W' : World} {ts ts' : List Tn} {f f' : Value} (h : TsI w ts f W) (q1 : Rows kTn (fun _ => True) W' w.heap.size 34 f' ts') (q2 : W.grownBy W' f.ownBlock) : TsI w ts' f' W' :=
  ⟨q1, below_rowT h.below h.below.size q2 (fun r hr => (rows_lt h.rows r hr).1)⟩

theorem TsI.form {w W : World} {ts : List Tn} {f : Value} (h : TsI w ts f W) : ∃ a c, f = .slice a ts.length c := rows_form h.rows

theorem TsI.lies {w W : World} {ts : List Tn} {a : Option Addr} {m c : Nat} (h : TsI w ts (.slice a m c) W) : Lies kTn (fun _ => True) W a c ts := by
  obtain ⟨ao, cap, e, h1, -, -, -⟩ := h.rows.lies (fun _ _ => trivial)
  simp only [Value.slice.injEq] at e
  obtain ⟨rfl, -, rfl⟩ := e
  exact h1

/-- outcomes that lie -/
def Ocs (W : World) (a : Option Addr) (c : Nat) (os : List Oc) : Prop := Lies kOc (fun _ => True) W a c os

theorem Ocs.later {W W' : World} {a : Option Addr} {c : Nat} {os : List Oc} (h : Ocs W a c os) (hb : Below W.heap.size W W') : Ocs W' a c os := Lies.later h hb

theorem Ocs.cell {W : World} {a : Option Addr} {c : Nat} {os : List Oc} (h : Ocs W a c os) {k : Nat} (hk : k < os.length) :
    ∃ b off, a = some ⟨b, off, none⟩ ∧ W.cell? ⟨b, off + k * 3, none⟩ = some (.int .i64 os[k].code) ∧ W.cell? ⟨b, off + k * 3 + 1, none⟩ = some (.int .i64 os[k].dec) ∧ W.cell? ⟨b, off + k * 3 + 2, none⟩ = some (.int .i64 os[k].len) := by
  obtain ⟨b, off, e, -, -, cs, rfl, hc⟩ := h.at hk
  exact ⟨b, off, e, by simpa using hc 0 _ rfl, hc 1 _ rfl, hc 2 _ rfl⟩

/-- Play in a law -/
theorem Play_law (n : Nat) (hn : 1 ≤ n ∧ n ≤ 5) (ts : List Tn) (m : Nat) (hm : m = ts.length) (hts : m ≤ 400) (a : Option Addr) (c : Nat) (W : World) (h : Lies kTn (fun _ => True) W a c ts) :
    Calls Try.prog 7 #[.int .i64 (n : Int), .slice a m c] W fun e w' => ∃ (a' : Option Addr) (c' : Nat), e = .returned (.tuple #[.slice a' m c', .int .i64 0]) ∧ Hid (Ocs w' a' c' (playB (bl0 n) ts).1) ∧ Hid (Below W.heap.size W w') := by
  subst hm
  refine (Play_any (fun _ => True) n hn ts hts a c W h).mono ?_
  rintro e w' ⟨a', c', rfl, h1, h2⟩
  exact ⟨a', c', rfl, put_by h1, put_by h2⟩

/-- a turn of small numbers -/
theorem tn_rel (ok : Nat → Prop) (w : World) (k h r v : Int) (hr : -9223372036854775808 ≤ r ∧ r ≤ 9223372036854775807) : kTn.rel ok w ⟨k, h, r, v⟩ [.int .i64 k, .int .i64 h, .int .i64 r, .int .i64 v] := ⟨rfl, hr⟩

end Go.Proofs.Ytppcikfhhmiipaa
