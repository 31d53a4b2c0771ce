/- One job of the document's own unit. -/
import Derived.Test.YtegmcpcpnjfiaaaUnRefHas
import Derived.Test.YtegmcpcpnjfiaaaUnCode
namespace Go.Proofs.Ytegmcpcpnjfiaaa
open Go.ChangeShapes Go.WideShapes Go.ChangeAt Go.RowKit Go.Maps

theorem belowR {B : Nat} {a w : World} (h : Below B a w) (n : Nat) : Below B a (w.drewN n) := h.trans ⟨rfl, rfl, rfl, Nat.le_refl _, fun _ _ => rfl⟩

theorem fld (W : World) (x y : Value) : (Instr.field 64 (.agg #[x, y]) 0).run Try.prog W = .ok x W ∧ (Instr.field 64 (.agg #[x, y]) 1).run Try.prog W = .ok y W := ⟨by kernel_rfl, by kernel_rfl⟩

theorem exec_fld {o : Oper} {a : Act} {w : World} {t : TypeId} {x : Operand} {k : Nat} (ho : o.op = .field t x k) {v u : Value} (hx : a.eval x = v) (hv : (Instr.field t v k).run Try.prog w = .ok u w) : (execOp a.eval o).run Try.prog w = .ok (.value u) w := by
  unfold execOp
  simp [ho, hx, hv, Result.andThen]

/-- a field of a value, where an order is drawn -/
theorem quiet_fld {o : Oper} {a : Act} {C : World → Prop} {K : Act → Prop} (t : TypeId) (x : Operand) (k : Nat) (ho : o.op = .field t x k) (v u : Value) (hx : a.eval x = v) (hv : ∀ w, (Instr.field t v k).run Try.prog w = .ok u w) (hk : K (a.put o.dst u)) : o.quiet Try.prog a C K :=
  ⟨u, fun w _ => by unfold Oper.quietAt; rw [exec_fld ho hx (hv w)]; exact ⟨rfl, rfl⟩, hk⟩

/-- a field of a value -/
theorem wpList_fld {ops : Array Oper} {rest : List Oper} {o : Oper} {a : Act} {w : World} {Q : Exit → Act → World → Prop} (hg : o.guard = none) (t : TypeId) (x : Operand) (k : Nat) (ho : o.op = .field t x k) (v u : Value) (hx : a.eval x = v) (hv : ∀ w, (Instr.field t v k).run Try.prog w = .ok u w) (h : wpList Try.prog ops Q rest (a.put o.dst u) w) : wpList Try.prog ops Q (o :: rest) a w := by
  refine wpList_plain hg fun K' hK' => ?_
  unfold Oper.wp
  rw [exec_fld ho hx (hv w)]
  exact hK' _ _ h

/-- what a job of the document's own unit comes to -/
def SrPost (P M n : Nat) (ok : Nat → Prop) (w : World) (x : Rp × Un) (e : Ending) (w' : World) : Prop :=
  IsRp w x.1 e w' ∧ (∃ n', n' ≤ n + 1 ∧ RefI P M n' ok x.2 w') ∧ Trn P M w w'

/-- a job in a variable of the call's own, the unit calm -/
structure RfJ (P M n : Nat) (ok : Nat → Prop) (u : Un) (w : World) (k e a : Int) (da : Option Addr) (m dc : Nat) (W : World) : Prop where
  job : Quad W w.heap.size (.int .i64 k) (.int .i64 e) (.int .i64 a) (.slice da m dc)
  res : Quad W (w.heap.size + 1) (.int .i64 0) (.bool false) (.slice none 0 0) (.int .i64 0)
  un : RefI P M n (fun b => ok b ∧ b ≠ w.heap.size + 1) u W
  trn : Trn P M w W
  lt : P < w.heap.size ∧ M < w.heap.size
  notP : ¬ ok P
  notM : ¬ ok M

theorem RfJ.later {P M n : Nat} {ok : Nat → Prop} {u : Un} {w W W' : World} {k e a : Int} {da : Option Addr} {m dc : Nat} (h : RfJ P M n ok u w k e a da m dc W) (hb : Below W.heap.size W W') : RfJ P M n ok u w k e a da m dc W' :=
  ⟨h.job.later hb, h.res.later hb, h.un.later hb, h.trn.trans (Trn.of_below hb), h.lt, h.notP, h.notM⟩

theorem RfJ.start {P M n : Nat} {ok : Nat → Prop} {u : Un} {w : World} (hu : RefI P M n ok u w) (k e a : Int) (da : Option Addr) (m dc : Nat) : RfJ P M n ok u w k e a da m dc ((w.alloc (.cells #[.int .i64 k, .int .i64 e, .int .i64 a, .slice da m dc] 34)).alloc (.cells #[.int .i64 0, .bool false, .slice none 0 0, .int .i64 0] 36)) := by
  have hav : RefI P M n (fun b => ok b ∧ b ≠ w.heap.size + 1) u w := hu.move (Kept.of_below (Below.refl _ _)) rfl rfl (fun b hb ho => ⟨ho, by omega⟩) (fun h => hu.notP h.1) (fun h => hu.notM h.1)
  have b1 := (Below.refl w.heap.size w).alloc (Nat.le_refl _) (.cells #[.int .i64 k, .int .i64 e, .int .i64 a, .slice da m dc] 34)
  have q1 := Quad.new w (.int .i64 k) (.int .i64 e) (.int .i64 a) (.slice da m dc) 34
  have s1 : (w.alloc (.cells #[.int .i64 k, .int .i64 e, .int .i64 a, .slice da m dc] 34)).heap.size = w.heap.size + 1 := by simp
  generalize w.alloc (.cells #[.int .i64 k, .int .i64 e, .int .i64 a, .slice da m dc] 34) = W1 at *
  have b2 := (Below.refl W1.heap.size W1).alloc (Nat.le_refl _) (.cells #[.int .i64 0, .bool false, .slice none 0 0, .int .i64 0] 36)
  have q2 := Quad.new W1 (.int .i64 0) (.bool false) (.slice none 0 0) (.int .i64 0) 36
  rw [s1] at q2
  exact ⟨q1.later b2, q2, (hav.later b1).later b2, Trn.of_below (b1.trans (b2.mono (by omega))), ⟨hu.lt, hu.map.lt⟩, hu.notP, hu.notM⟩

theorem RfJ.calm {P M n : Nat} {ok : Nat → Prop} {u : Un} {w W : World} {k e a : Int} {da : Option Addr} {m dc : Nat} (h : RfJ P M n ok u w k e a da m dc W) : RfJ P M n ok u.calm w k e a da m dc (W.setCell ⟨P, 2, none⟩ (.int .i64 (-1))) :=
  ⟨h.job.move (heap_setCell_other _ _ _ _ (show w.heap.size ≠ P by have := h.lt; omega)), h.res.move (heap_setCell_other _ _ _ _ (show w.heap.size + 1 ≠ P by have := h.lt; omega)), h.un.setFr (-1) (.inl rfl), h.trn.trans (Trn.of_var (grown_set2 _)), h.lt, h.notP, h.notM⟩

/-- an answer is put into the result's variable -/
theorem ref_done {P M n n' R : Nat} {ok : Nat → Prop} {u : Un} {w W : World} (hq : Quad W R (.int .i64 0) (.bool false) (.slice none 0 0) (.int .i64 0)) (hR : R = w.heap.size + 1) (hlt : P < w.heap.size ∧ M < w.heap.size) (nP : ¬ ok P) (nM : ¬ ok M)
    (hu : RefI P M n' (fun b => ok b ∧ b ≠ R) u W) (hn : n' ≤ n + 1) (ht : Trn P M w W) (r : Rp) (p : Option Addr) (q : Nat) (ho : Octs W p q r.data) (hd : r.data ≠ [] → ∀ ad, p = some ad → R + 1 ≤ ad.block) :
    Quad (set4 W R (.int .i64 r.code) (.bool r.junk) (.slice p r.data.length q) (.int .i64 r.tail)) R (.int .i64 r.code) (.bool r.junk) (.slice p r.data.length q) (.int .i64 r.tail) ∧
    SrPost P M n ok w (r, u) (.returned (.agg #[.int .i64 r.code, .bool r.junk, .slice p r.data.length q, .int .i64 r.tail])) (set4 W R (.int .i64 r.code) (.bool r.junk) (.slice p r.data.length q) (.int .i64 r.tail)) := by
  refine ⟨hq.set _ _ _ _, isRp_at (by omega) ho hd _ _ _ _, ⟨n', hn, hu.move (kept_set4 (fun e => e.2 rfl) _ _ _ _) (heap_set4 _ _ _ _ (by omega)) (heap_set4 _ _ _ _ (by omega)) (fun _ _ h => h.1) nP nM⟩, ?_⟩
  exact ⟨ht.os, ht.tape, ht.output, by simpa [set4] using ht.size, fun b hb h1 h2 => (heap_set4 _ _ _ _ (by omega)).trans (ht.block b hb h1 h2)⟩

/-- a slot is set, whatever the order -/
theorem RfJ.put {P M n : Nat} {ok : Nat → Prop} {u : Un} {w W : World} {k e a : Int} {da : Option Addr} {m dc : Nat} (h : RfJ P M n ok u w k e a da m dc W) (hf : u.fr = -1) (hn : n < 1000000) (i : Nat) (hi : i < 64) (s : Sl) (hs : s.kind ≤ 3 ∧ (s.kind ≠ 1 → s.data = [])) (val : Value) (hv : IsSr (fun b => ok b ∧ b ≠ w.heap.size + 1) W val s) :
    ∃ w', (Instr.mapUpdate 60 (.map (some M)) (.int .i64 (i : Int)) val).run Try.prog W = .ok () w' ∧ RfJ P M (n + 1) ok (u.put i s) w k e a da m dc w' := by
  obtain ⟨w', h1, h2, h3⟩ := h.un.put hf hn i hi s hs val hv
  have hl := h.lt
  exact ⟨w', h1, h.job.move (h3.block _ h.job.lt (fun e => by have := Option.some.inj e; omega)), h.res.move (h3.block _ h.res.lt (fun e => by have := Option.some.inj e; omega)), h2, h.trn.trans (Trn.of_map h3), h.lt, h.notP, h.notM⟩

/-- the address that was stored just now is put down -/
theorem RfJ.mark {P M n : Nat} {ok : Nat → Prop} {u : Un} {w W : World} {k e a : Int} {da : Option Addr} {m dc : Nat} (h : RfJ P M n ok u w k e a da m dc W) (x : Int) (hx : x = -1 ∨ (0 ≤ x ∧ x < 64 ∧ (u.sl x.toNat).kind = 1)) : RfJ P M n ok ⟨u.sl, u.ep, x⟩ w k e a da m dc (W.setCell ⟨P, 2, none⟩ (.int .i64 x)) :=
  ⟨h.job.move (heap_setCell_other _ _ _ _ (show w.heap.size ≠ P by have := h.lt; omega)), h.res.move (heap_setCell_other _ _ _ _ (show w.heap.size + 1 ≠ P by have := h.lt; omega)), h.un.setFr x hx, h.trn.trans (Trn.of_var (grown_set2 _)), h.lt, h.notP, h.notM⟩

/-- done without a word -/
theorem RfJ.quiet {P M n n' : Nat} {ok : Nat → Prop} {u : Un} {w W : World} {k e a : Int} {da : Option Addr} {m dc : Nat} (h : RfJ P M n' ok u w k e a da m dc W) (hn : n' ≤ n + 1) :
    Quad (set4 W (w.heap.size + 1) (.int .i64 0) (.bool false) (.slice none 0 0) (.int .i64 0)) (w.heap.size + 1) (.int .i64 0) (.bool false) (.slice none 0 0) (.int .i64 0) ∧
    SrPost P M n ok w (rp 0, u) (.returned (.agg #[.int .i64 0, .bool false, .slice none 0 0, .int .i64 0])) (set4 W (w.heap.size + 1) (.int .i64 0) (.bool false) (.slice none 0 0) (.int .i64 0)) :=
  ref_done h.res rfl h.lt h.notP h.notM h.un hn h.trn (rp 0) none 0 (Octs.nil _ _ _ (fun _ => rfl)) (fun hx => absurd rfl hx)

/-- what is told of a slot is handed on, under whatever code -/
theorem RfJ.told {P M n : Nat} {ok : Nat → Prop} {u : Un} {w W w' : World} {k e a : Int} {da : Option Addr} {m dc : Nat} (h : RfJ P M n ok u w k e a da m dc W) {r : Rp} {y : Ending} (h1 : IsRp W r y w') (h2 : Below W.heap.size W w') :
    ∃ p t q, y = .returned (.agg #[.int .i64 r.code, .bool r.junk, .slice p t q, .int .i64 r.tail]) ∧ RfJ P M n ok u w k e a da m dc w' ∧
    Hid (∀ (W2 : World) (c : Int), Below w'.heap.size w' W2 →
      Quad (set4 W2 (w.heap.size + 1) (.int .i64 c) (.bool r.junk) (.slice p t q) (.int .i64 r.tail)) (w.heap.size + 1) (.int .i64 c) (.bool r.junk) (.slice p t q) (.int .i64 r.tail) ∧
      SrPost P M n ok w (⟨c, r.junk, r.data, r.tail⟩, u) (.returned (.agg #[.int .i64 c, .bool r.junk, .slice p t q, .int .i64 r.tail])) (set4 W2 (w.heap.size + 1) (.int .i64 c) (.bool r.junk) (.slice p t q) (.int .i64 r.tail))) := by
  obtain ⟨p, t, q, rfl, rfl, ho, hnew⟩ := h1.parts
  have hr := h.res.lt
  refine ⟨p, _, q, rfl, h.later h2, put_by fun W2 c hW => ?_⟩
  have h9 := (h.later h2).later hW
  exact ref_done h9.res rfl h9.lt h9.notP h9.notM h9.un (Nat.le_succ _) h9.trn ⟨c, r.junk, r.data, r.tail⟩ p q (ho.later hW) (fun hx ad e => by have := hnew hx ad e; omega)

theorem RfJ.bare {P M n : Nat} {ok : Nat → Prop} {u : Un} {w W : World} {k e a : Int} {da : Option Addr} {m dc : Nat} (h : RfJ P M n ok u w k e a da m dc W) (c : Int) :
    Quad (set4 W (w.heap.size + 1) (.int .i64 c) (.bool false) (.slice none 0 0) (.int .i64 0)) (w.heap.size + 1) (.int .i64 c) (.bool false) (.slice none 0 0) (.int .i64 0) ∧
    SrPost P M n ok w (rp c, u) (.returned (.agg #[.int .i64 c, .bool false, .slice none 0 0, .int .i64 0])) (set4 W (w.heap.size + 1) (.int .i64 c) (.bool false) (.slice none 0 0) (.int .i64 0)) :=
  ref_done h.res rfl h.lt h.notP h.notM h.un (Nat.le_succ _) h.trn (rp c) none 0 (Octs.nil _ _ _ (fun _ => rfl)) (fun hx => absurd rfl hx)

end Go.Proofs.Ytegmcpcpnjfiaaa
