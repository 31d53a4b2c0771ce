/- Package parse: Parse: the contract, at every list of tokens. -/
import Derived.Test.YtedinkoapieakaaDoorParseStatement
import Derived.Test.YtedinkoapieakaaDoorLexMay
namespace Go.Proofs.YtedinkoapieakaaDoor
open Go.ChangeShapes Go.WideShapes Go.ChangeAt Go.RowKit

def endP (s : St) : St := if s.rest = [] then s else s.stop

set_option maxRecDepth 100000 in
set_option maxHeartbeats 4000000 in
theorem end_on (c : RC) {w0 W : World} {s : St} (h : Hid (On c w0 W s)) :
    Calls Tryd.prog 16 #[.pointer (some ⟨c.R, 0, none⟩)] W fun e w' => e = .returned (.tuple #[]) ∧ Hid (On c w0 w' (endP s)) := by
  have hR := h.out.lt
  have c0 := h.out.rdr.tok
  have c1 := h.out.rdr.at_
  have hle := h.out.rdr.len_le
  have hl := c.hl
  have HR : Hid (∀ n, Calls Tryd.prog 49 #[.pointer (some ⟨c.R, 0, none⟩)] (W.drewN n) fun e w' => e = .returned (.tuple #[]) ∧ Hid (On c w0 w' s.stop)) := fun n => refuse_on (h.out.drewN n)
  unfold endP
  by_cases hr : s.rest = []
  · rw [if_pos hr]
    have e0 : c.ts.length - s.rest.length = c.ts.length := by rw [hr]; simp
    rw [e0] at c1
    generalize c.ts.length = n at c0 c1 hl
    clear hle e0
    go_enter Tryd.func16, Tryd.ntmps16
    go_wp2
    go_quiet (fail)
    go_wp2
    go_end0
    exact ⟨rfl, h.out.drewN _⟩
  · rw [if_neg hr]
    have hp : 0 < s.rest.length := List.length_pos_iff.2 hr
    obtain ⟨k, hk⟩ : ∃ k, c.ts.length - s.rest.length = k := ⟨_, rfl⟩
    rw [hk] at c1
    have hlt : (k : Int) < (c.ts.length : Int) := by omega
    generalize c.ts.length = n at c0 hl hlt
    clear hle hk hp hr
    go_enter Tryd.func16, Tryd.ntmps16
    go_wp2
    go_quiet (fail)
    go_wp2_with (go_at_call 49; refine (HR.out _).mono ?_; rintro e w1 ⟨rfl, HB⟩)
    go_end0
    exact ⟨rfl, HB⟩

/-- the first token that may not be -/
def firstBad (ts : List Tok) : Option Nat := ts.findIdx? fun t => !may t
def parseP (ts : List Tok) : Stm × Nat × Int :=
  if 300 < ts.length then (noStm, 0, 8)
  else match firstBad ts with
    | some i => (noStm, i, 4)
    | none => readP ts

theorem firstBad_at {ts : List Tok} {k : Nat} (hk : k < ts.length) (h : ∀ j (hj : j < ts.length), j < k → may ts[j] = true) (hb : may ts[k] = false) : firstBad ts = some k := by
  unfold firstBad
  rw [List.findIdx?_eq_some_iff_getElem]
  exact ⟨hk, by simp [hb], fun j hj => by simp [h j (by omega) hj]⟩
theorem firstBad_none {ts : List Tok} (h : ∀ j (hj : j < ts.length), may ts[j] = true) : firstBad ts = none := by
  unfold firstBad
  rw [List.findIdx?_eq_none_iff]
  intro t ht
  obtain ⟨j, hj, rfl⟩ := List.getElem_of_mem ht
  simp [h j hj]

/-- a reader that Parse has laid -/
theorem On.start {W : World} {ao : Option Addr} {cap : Nat} {ts : List Tok} (hl : ts.length ≤ 300) (ht : Toks W ao cap ts) (ho : ∀ a, ao = some a → a.block < W.heap.size) (hop : Opers W) :
    On ⟨W.heap.size, ao, cap, ts, hl⟩ (W.alloc (.cells #[.slice ao ts.length cap, .int .i64 0, .bool false] 49)) (W.alloc (.cells #[.slice ao ts.length cap, .int .i64 0, .bool false] 49)) ⟨ts, false⟩ := by
  have hb : Below W.heap.size W (W.alloc (.cells #[.slice ao ts.length cap, .int .i64 0, .bool false] 49)) := (Below.refl _ W).alloc (Nat.le_refl _) _
  refine ⟨⟨by simp, by simp, by simp, by simp, fun i => by simp, ⟨[], rfl⟩, ht.later hb, fun a ha => ?_⟩, .refl _ _, by simp, fun a ha => ?_, hop.later hb, ?_⟩
  · have := ho a ha
    show a.block ≠ W.heap.size
    omega
  · have := ho a ha
    simp
    omega
  · have := hop.lt
    show 5 ≠ W.heap.size
    omega

theorem results_cell_two {fn : Func} {p u v : Tmp} {ty : TypeId} (h : fn.results = #[.cell p ty, .tmp u, .tmp v]) (tmps : Array Value) (P : Program) (w : World) :
    (results fn tmps).run P w = ((asAddr (tmps.getD p undef)).run P w).andThen fun a w₁ => ((loadVar ty a).run P w₁).andThen fun x w₂ => .ok (.tuple #[x, tmps.getD u undef, tmps.getD v undef]) w₂ := by
  simp only [results, h]
  simp [Sem.run_bind, Result.andThen]

set_option maxRecDepth 100000 in
theorem results_parse {fn : Func} {p u v : Tmp} (h : fn.results = #[.cell p 38, .tmp u, .tmp v]) {tmps : Array Value} {w : World} {B : Nat} {x : SD} {y z : Value} (hp : tmps.getD p undef = .pointer (some ⟨B, 0, none⟩)) (hu : tmps.getD u undef = y) (hv : tmps.getD v undef = z) (hr : w.rangeAt B 0 (stmCells x)) :
    (results fn tmps).run Tryd.prog w = .ok (.tuple #[stmval x, y, z]) w := by
  rw [results_cell_two h, hp, hu, hv]
  simp only [asAddr, Sem.run_pure, Result.andThen_ok]
  rw [run_loadVar_mid w B 0 38 (stmCells x) _ hr Tryd.underlying38 rfl (stm_length x)]
  rfl

/-- the result, stored -/
theorem parse_fin {w W : World} {t : Stm} {x : SD} (h : Below (w.alloc zeroStm).heap.size (w.alloc zeroStm) W) (hI : IsStm (w.heap.size + 1) W t x) :
    ∃ W', W.setCells w.heap.size 0 (stmCells x).toArray.toList = W' ∧ Hid (W'.rangeAt w.heap.size 0 (stmCells x)) ∧ Hid (Below w.heap.size w W' ∧ IsStm w.heap.size W' t x) := by
  have hv : VarB W w.heap.size _ := (VarB.new w #[.int .i64 0, .string ⟨#[]⟩, .string ⟨#[]⟩, .string ⟨#[]⟩, .slice none 0 0, .slice none 0 0, .slice none 0 0, .slice none 0 0, .int .i64 0, .int .i64 0, .int .i64 0, .string ⟨#[]⟩, .string ⟨#[]⟩, .string ⟨#[]⟩, .int .i64 0, .slice none 0 0, .int .i64 0, .int .i64 0, .int .i64 0, .string ⟨#[]⟩, .string ⟨#[]⟩, .string ⟨#[]⟩, .int .i64 0, .slice none 0 0, .slice none 0 0, .slice none 0 0, .bool false, .int .i64 0] 38).move (R := W.heap.size) (.of_below h) (by have := h.size; simp at this; omega)
  have hk := setFrom_keeps w.heap.size (stmCells x) W 0
  refine ⟨_, rfl, (hv.all (stmCells x) rfl).range, ?_, (hI.keep hk (Nat.lt_succ_self _)).weak (Nat.le_succ _)⟩
  have h1 : Below w.heap.size w W := ((Below.refl _ w).alloc (Nat.le_refl _) zeroStm).trans (h.mono (by simp))
  exact h1.trans (hk.below (Nat.le_refl _) h1.size)
theorem parse_there {w W : World} (h : Below (w.alloc zeroStm).heap.size (w.alloc zeroStm) W) (x : SD) : W.there w.heap.size 0 (stmCells x).toArray.size :=
  ((VarB.new w #[.int .i64 0, .string ⟨#[]⟩, .string ⟨#[]⟩, .string ⟨#[]⟩, .slice none 0 0, .slice none 0 0, .slice none 0 0, .slice none 0 0, .int .i64 0, .int .i64 0, .int .i64 0, .string ⟨#[]⟩, .string ⟨#[]⟩, .string ⟨#[]⟩, .int .i64 0, .slice none 0 0, .int .i64 0, .int .i64 0, .int .i64 0, .string ⟨#[]⟩, .string ⟨#[]⟩, .string ⟨#[]⟩, .int .i64 0, .slice none 0 0, .slice none 0 0, .slice none 0 0, .bool false, .int .i64 0] 38).move (R := W.heap.size) (.of_below h) (by have := h.size; simp at this; omega)).there (o := 0) (n := 28) (Nat.le_refl _)

end Go.Proofs.YtedinkoapieakaaDoor
