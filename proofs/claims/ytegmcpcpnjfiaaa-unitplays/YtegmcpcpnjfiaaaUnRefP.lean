/- The document's own unit in memory: a map of slots. -/
import Derived.Test.YtegmcpcpnjfiaaaUnMem
import Derived.Test.YtegmcpcpnjfiaaaRtSameP
import Derived.Maps.OwnSet
import Derived.Lib.SliceRun
namespace Go.Proofs.Ytegmcpcpnjfiaaa
open Go.ChangeShapes Go.WideShapes Go.ChangeAt Go.RowKit Go.Maps

theorem keyedI : Keyed Try.prog 3 := int_keyed Try.underlying3
theorem zeroSl (w : World) : (zeroValue 64).run Try.prog w = .ok (.agg #[.int .i64 0, .slice none 0 0]) w := by kernel_rfl

/-- an element reads as itself -/
def rH (v : Value) : Option (DataW Value × List MemPlace) := some (.held v, [])

/-- what stands in a slot of the document's own unit -/
def IsSr (ok : Nat → Prop) (W : World) (v : Value) (s : Sl) : Prop :=
  ∃ a c, v = .agg #[.int .i64 s.kind, .slice a s.data.length c] ∧ IsBody W ok (.slice a s.data.length c) s.data ∧ s.data.length ≤ 4000

theorem IsSr.move {ok ok' : Nat → Prop} {w w' : World} {v : Value} {s : Sl} (hk : Kept ok w w') (hok : ∀ b, b < w.heap.size → ok b → ok' b) (h : IsSr ok w v s) : IsSr ok' w' v s := by
  obtain ⟨a, c, e, h1, h2⟩ := h
  exact ⟨a, c, e, h1.move hk hok, h2⟩

/-- the slots in the map of block M -/
def MapI (M n : Nat) (ok : Nat → Prop) (sl : Nat → Sl) (W : World) : Prop :=
  ∃ D, W.ownsMap Try.prog 3 rH M n D ∧ ∀ i : Nat, i < 64 → ∃ v, D.atKey (.int .i64 (i : Int)) (.held (.agg #[.int .i64 0, .slice none 0 0])) = .held v ∧ IsSr ok W v (sl i)

theorem keyI (i : Nat) (hi : i < 64) : keyOf Try.prog 3 (.int .i64 (i : Int)) = some (.int .i64 (i : Int)) :=
  keyOf_int_mk Try.underlying3 (by simp [Lit.wf, IntKind.min, IntKind.max, IntKind.bits, IntKind.signed]; omega)

theorem MapI.lt {M n : Nat} {ok : Nat → Prop} {sl : Nat → Sl} {W : World} (h : MapI M n ok sl W) : M < W.heap.size := by
  obtain ⟨D, h1, _⟩ := h
  exact h1.lt

/-- the map's block as it was, and all that hangs on it -/
theorem MapI.move {M n : Nat} {ok ok' : Nat → Prop} {sl : Nat → Sl} {W W' : World} (h : MapI M n ok sl W) (hk : Kept ok W W') (hM : W'.heap[M]? = W.heap[M]?) (hok : ∀ b, b < W.heap.size → ok b → ok' b) : MapI M n ok' sl W' := by
  obtain ⟨D, ⟨es, clock, h1, h2⟩, h3⟩ := h
  refine ⟨D, ⟨es, clock, hM.trans h1, h2⟩, fun i hi => ?_⟩
  obtain ⟨v, h4, h5⟩ := h3 i hi
  exact ⟨v, h4, h5.move hk hok⟩

/-- a slot is looked up, in whatever world has that block -/
theorem MapI.look {M n : Nat} {ok : Nat → Prop} {sl : Nat → Sl} {W : World} (h : MapI M n ok sl W) (i : Nat) (hi : i < 64) :
    ∃ v, IsSr ok W v (sl i) ∧ ∀ V : World, V.heap[M]? = W.heap[M]? → (Instr.lookup 60 (.map (some M)) (.int .i64 (i : Int)) false).run Try.prog V = .ok v V := by
  obtain ⟨D, ⟨es, clock, h1, h2⟩, h3⟩ := h
  obtain ⟨v, h4, h5⟩ := h3 i hi
  refine ⟨v, h5, fun V hV => ?_⟩
  have ho : V.ownsMap Try.prog 3 rH M n D := ⟨es, clock, hV.trans h1, h2⟩
  obtain ⟨v', ps, hrun, hv⟩ := ho.lookup keyedI Try.underlying60 (zeroSl V) (zd := .held (.agg #[.int .i64 0, .slice none 0 0])) (zp := []) rfl (keyI i hi)
  rw [h4] at hv
  simp only [rH, Option.some.injEq, Prod.mk.injEq, DataW.held.injEq] at hv
  rw [hrun, hv.1]

/-- a slot is set -/
theorem MapI.store {M n : Nat} {ok : Nat → Prop} {sl : Nat → Sl} {W : World} (h : MapI M n ok sl W) (hM : ¬ ok M) (hn : n < 1000000) (i : Nat) (hi : i < 64) (s : Sl) (val : Value) (hv : IsSr ok W val s) :
    ∃ w', (Instr.mapUpdate 60 (.map (some M)) (.int .i64 (i : Int)) val).run Try.prog W = .ok () w' ∧ MapI M (n + 1) ok (fun j => if j = i then s else sl j) w' ∧ W.grownBy w' (some M) := by
  obtain ⟨D, h1, h3⟩ := h
  obtain ⟨w', hrun, ho, hg⟩ := h1.update (val := val) (d := .held val) (ps := []) keyedI Try.underlying60 (by unfold maxLen; omega) (keyI i hi) rfl
  refine ⟨w', hrun, ⟨_, ho, fun (j : Nat) hj => ?_⟩, hg⟩
  have hk : Kept ok W w' := Kept.of_grown hg (fun b hb e => hM (by rw [Option.some.inj e]; exact hb))
  by_cases e : j = i
  · subst e
    refine ⟨val, atKey_put_same (h1.isMap) (keyedI.key (keyI j hj)) _ _, ?_⟩
    simp only [if_true]
    exact hv.move hk (fun _ _ q => q)
  · obtain ⟨v, h4, h5⟩ := h3 j hj
    refine ⟨v, ?_, ?_⟩
    · rw [atKey_put_other (show (Lit.int .i64 (j : Int)) ≠ .int .i64 (i : Int) by simp; omega)]
      exact h4
    · simp only [e, if_false]
      exact h5.move hk (fun _ _ q => q)

/-- the document's own unit: its variable P, its map M -/
structure RefI (P M n : Nat) (ok : Nat → Prop) (u : Un) (W : World) : Prop where
  ep : W.cell? ⟨P, 0, none⟩ = some (.int .i64 u.ep)
  mp : W.cell? ⟨P, 1, none⟩ = some (.map (some M))
  fr : W.cell? ⟨P, 2, none⟩ = some (.int .i64 u.fr)
  f0 : W.frozen? ⟨P, 0, none⟩ = false
  f2 : W.frozen? ⟨P, 2, none⟩ = false
  f1 : W.frozen? ⟨P, 1, none⟩ = false
  map : MapI M n ok u.sl W
  frok : u.fr = -1 ∨ (0 ≤ u.fr ∧ u.fr < 64 ∧ (u.sl u.fr.toNat).kind = 1)
  kinds : ∀ i, i < 64 → (u.sl i).kind ≤ 3 ∧ ((u.sl i).kind ≠ 1 → (u.sl i).data = [])
  notP : ¬ ok P
  notM : ¬ ok M
  ne : P ≠ M

theorem RefI.lt {P M n : Nat} {ok : Nat → Prop} {u : Un} {W : World} (h : RefI P M n ok u W) : P < W.heap.size := World.block_lt_of_cell? _ _ h.ep

theorem RefI.move {P M n : Nat} {ok ok' : Nat → Prop} {u : Un} {W W' : World} (h : RefI P M n ok u W) (hk : Kept ok W W') (hP : W'.heap[P]? = W.heap[P]?) (hM : W'.heap[M]? = W.heap[M]?) (hok : ∀ b, b < W.heap.size → ok b → ok' b) (nP : ¬ ok' P) (nM : ¬ ok' M) : RefI P M n ok' u W' :=
  ⟨(World.cell?_of_block (w := W) hP).trans h.ep, (World.cell?_of_block (w := W) hP).trans h.mp, (World.cell?_of_block (w := W) hP).trans h.fr, (World.frozen?_of_block (w := W) hP).trans h.f0, (World.frozen?_of_block (w := W) hP).trans h.f2, (World.frozen?_of_block (w := W) hP).trans h.f1,
   h.map.move hk hM hok, h.frok, h.kinds, nP, nM, h.ne⟩

theorem RefI.later {P M n : Nat} {ok : Nat → Prop} {u : Un} {W W' : World} (h : RefI P M n ok u W) (hb : Below W.heap.size W W') : RefI P M n ok u W' :=
  h.move (Kept.of_below hb) (hb.block P h.lt) (hb.block M h.map.lt) (fun _ _ q => q) h.notP h.notM

/-- nothing turns but the unit's variable and its map -/
structure Trn (P M : Nat) (w w' : World) : Prop where
  os : w'.os = w.os
  tape : w'.tape = w.tape
  output : w'.output = w.output
  size : w.heap.size ≤ w'.heap.size
  block : ∀ b, b < w.heap.size → b ≠ P → b ≠ M → w'.heap[b]? = w.heap[b]?

theorem Trn.of_below {P M : Nat} {w w' : World} (h : Below w.heap.size w w') : Trn P M w w' := ⟨h.os, h.tape, h.output, h.size, fun b hb _ _ => h.block b hb⟩
theorem Trn.of_map {P M : Nat} {w w' : World} (h : w.grownBy w' (some M)) : Trn P M w w' := ⟨h.os, h.tape, h.output, h.size, fun b hb _ hne => h.block b hb (fun e => hne (Option.some.inj e))⟩
theorem Trn.of_var {P M : Nat} {w w' : World} (h : w.grownBy w' (some P)) : Trn P M w w' := ⟨h.os, h.tape, h.output, h.size, fun b hb hne _ => h.block b hb (fun e => hne (Option.some.inj e))⟩
theorem Trn.trans {P M : Nat} {a b c : World} (h : Trn P M a b) (k : Trn P M b c) : Trn P M a c :=
  ⟨k.os.trans h.os, k.tape.trans h.tape, k.output.trans h.output, Nat.le_trans h.size k.size, fun x hx h1 h2 => (k.block x (Nat.lt_of_lt_of_le hx h.size) h1 h2).trans (h.block x hx h1 h2)⟩

/-- the address that was stored just now is set -/
theorem RefI.setFr {P M n : Nat} {ok : Nat → Prop} {u : Un} {W : World} (h : RefI P M n ok u W) (e : Int) (he : e = -1 ∨ (0 ≤ e ∧ e < 64 ∧ (u.sl e.toNat).kind = 1)) : RefI P M n ok ⟨u.sl, u.ep, e⟩ (W.setCell ⟨P, 2, none⟩ (.int .i64 e)) := by
  refine ⟨?_, ?_, World.cell?_setCell_same' _ _ _ (by rw [h.fr]; rfl), ?_, ?_, ?_, h.map.move (kept_set h.notP _) (heap_setCell_other _ _ _ _ (fun e => h.ne e.symm)) (fun _ _ q => q), he, h.kinds, h.notP, h.notM, h.ne⟩
  · rw [World.cell?_setCell_other _ _ _ _ (by simp)]
    exact h.ep
  · rw [World.cell?_setCell_other _ _ _ _ (by simp)]
    exact h.mp
  · rw [World.frozen?_setCell]
    exact h.f0
  · rw [World.frozen?_setCell]
    exact h.f2
  · rw [World.frozen?_setCell]
    exact h.f1

theorem RefI.setEp {P M n : Nat} {ok : Nat → Prop} {u : Un} {W : World} (h : RefI P M n ok u W) (e : Int) : RefI P M n ok ⟨u.sl, e, u.fr⟩ (W.setCell ⟨P, 0, none⟩ (.int .i64 e)) := by
  refine ⟨World.cell?_setCell_same' _ _ _ (by rw [h.ep]; rfl), ?_, ?_, ?_, ?_, ?_, h.map.move (kept_set h.notP _) (heap_setCell_other _ _ _ _ (fun e => h.ne e.symm)) (fun _ _ q => q), h.frok, h.kinds, h.notP, h.notM, h.ne⟩
  · rw [World.cell?_setCell_other _ _ _ _ (by simp)]
    exact h.mp
  · rw [World.cell?_setCell_other _ _ _ _ (by simp)]
    exact h.fr
  · rw [World.frozen?_setCell]
    exact h.f0
  · rw [World.frozen?_setCell]
    exact h.f2
  · rw [World.frozen?_setCell]
    exact h.f1

/-- a slot of the map is set; the unit is calm -/
theorem RefI.put {P M n : Nat} {ok : Nat → Prop} {u : Un} {W : World} (h : RefI P M n ok u W) (hf : u.fr = -1) (hn : n < 1000000) (i : Nat) (hi : i < 64) (s : Sl) (hs : s.kind ≤ 3 ∧ (s.kind ≠ 1 → s.data = [])) (val : Value) (hv : IsSr ok W val s) :
    ∃ w', (Instr.mapUpdate 60 (.map (some M)) (.int .i64 (i : Int)) val).run Try.prog W = .ok () w' ∧ RefI P M (n + 1) ok (u.put i s) w' ∧ W.grownBy w' (some M) := by
  obtain ⟨w', hrun, h1, hg⟩ := h.map.store h.notM hn i hi s val hv
  have hP : w'.heap[P]? = W.heap[P]? := hg.block P h.lt (fun e => h.ne (Option.some.inj e))
  refine ⟨w', hrun, ⟨(World.cell?_of_block (w := W) hP).trans h.ep, (World.cell?_of_block (w := W) hP).trans h.mp, (World.cell?_of_block (w := W) hP).trans h.fr, (World.frozen?_of_block (w := W) hP).trans h.f0, (World.frozen?_of_block (w := W) hP).trans h.f2, (World.frozen?_of_block (w := W) hP).trans h.f1, h1, .inl hf, fun j hj => ?_, h.notP, h.notM, h.ne⟩, hg⟩
  simp only [Un.put]
  split
  · exact hs
  · exact h.kinds j hj

end Go.Proofs.Ytegmcpcpnjfiaaa
