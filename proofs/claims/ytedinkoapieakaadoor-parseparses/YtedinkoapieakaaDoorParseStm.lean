/- Statements in memory; rows, as the calls come. -/
import Derived.Test.YtedinkoapieakaaDoorParseParts
namespace Go.Proofs.YtedinkoapieakaaDoor
open Go.ChangeShapes Go.WideShapes Go.ChangeAt Go.RowKit

structure SL where
  ao : Option Addr
  n : Nat
  cap : Nat

structure SD where
  kind : Int
  name : ByteArray
  table : ByteArray
  other : ByteArray
  co : SL
  nm : SL
  va : SL
  se : SL
  on : ED
  wh : ED
  gr : SL
  od : SL
  lim : Bool
  limit : Int

def stmCells (x : SD) : List Value := [.int .i64 x.kind, .string x.name, .string x.table, .string x.other, .slice x.co.ao x.co.n x.co.cap, .slice x.nm.ao x.nm.n x.nm.cap, .slice x.va.ao x.va.n x.va.cap, .slice x.se.ao x.se.n x.se.cap, .int .i64 x.on.op, .int .i64 x.on.vk, .int .i64 x.on.vi, .string x.on.vt, .string x.on.tb, .string x.on.nm, .int .i64 0, .slice x.on.ao x.on.n x.on.cap, .int .i64 x.wh.op, .int .i64 x.wh.vk, .int .i64 x.wh.vi, .string x.wh.vt, .string x.wh.tb, .string x.wh.nm, .int .i64 0, .slice x.wh.ao x.wh.n x.wh.cap, .slice x.gr.ao x.gr.n x.gr.cap, .slice x.od.ao x.od.n x.od.cap, .bool x.lim, .int .i64 x.limit]
abbrev stmval (x : SD) : Value := .agg (stmCells x).toArray
abbrev zeroStm : Obj := .cells #[.int .i64 0, .string ⟨#[]⟩, .string ⟨#[]⟩, .string ⟨#[]⟩, .slice none 0 0, .slice none 0 0, .slice none 0 0, .slice none 0 0, .int .i64 0, .int .i64 0, .int .i64 0, .string ⟨#[]⟩, .string ⟨#[]⟩, .string ⟨#[]⟩, .int .i64 0, .slice none 0 0, .int .i64 0, .int .i64 0, .int .i64 0, .string ⟨#[]⟩, .string ⟨#[]⟩, .string ⟨#[]⟩, .int .i64 0, .slice none 0 0, .slice none 0 0, .slice none 0 0, .bool false, .int .i64 0] 38
def noED : ED := ⟨0, 0, 0, ⟨#[]⟩, ⟨#[]⟩, ⟨#[]⟩, none, 0, 0⟩
def noSL : SL := ⟨none, 0, 0⟩
def noSD : SD := ⟨0, ⟨#[]⟩, ⟨#[]⟩, ⟨#[]⟩, noSL, noSL, noSL, noSL, noED, noED, noSL, noSL, false, 0⟩

/-- the slice is a row of these -/
def RowIs {α D : Type} (K : Kind α D) (lo : Nat) (e : TypeId) (size : Nat) (W : World) (x : SL) (l : List α) : Prop := ∃ ds, Rw K lo e size W (.slice x.ao x.n x.cap) l ds ∧ x.n = ds.length ∧ x.n ≤ 301

theorem RowIs.nil {α D : Type} (K : Kind α D) (lo : Nat) (e : TypeId) (size : Nat) (W : World) : RowIs K lo e size W noSL [] := ⟨[], ⟨⟨by simp, .inl ⟨rfl, rfl⟩⟩, trivial⟩, rfl, Nat.zero_le _⟩
theorem RowIs.keep {α D : Type} {K : Kind α D} {lo : Nat} {e : TypeId} {size : Nat} {W W' : World} {x : SL} {l : List α} (h : RowIs K lo e size W x l) {R : Nat} (hk : Keeps R W W') (hR : R < lo) : RowIs K lo e size W' x l := by
  obtain ⟨ds, h1, h2⟩ := h
  exact ⟨ds, h1.keep hk hR, h2⟩
theorem RowIs.weak {α D : Type} {K : Kind α D} {lo lo' : Nat} {e : TypeId} {size : Nat} {W : World} {x : SL} {l : List α} (h : RowIs K lo e size W x l) (hl : lo' ≤ lo) : RowIs K lo' e size W x l := by
  obtain ⟨ds, h1, h2⟩ := h
  exact ⟨ds, h1.weak hl, h2⟩

/-- the value x is this statement -/
structure IsStm (lo : Nat) (W : World) (t : Stm) (x : SD) : Prop where
  kind : x.kind = t.kind
  name : x.name = str t.name
  table : x.table = str t.table
  other : x.other = str t.other
  co : RowIs kCol lo 74 3 W x.co t.columns
  nm : RowIs kStr lo 9 1 W x.nm t.names
  va : RowIs kEx lo 35 8 W x.va t.values
  se : RowIs kSet lo 71 9 W x.se t.sets
  on : IsEx (fun b => lo ≤ b) W t.on x.on
  wh : IsEx (fun b => lo ≤ b) W t.wher x.wh
  gr : RowIs kEx lo 35 8 W x.gr t.groups
  od : RowIs kOrd lo 76 2 W x.od t.orders
  lim : x.lim = t.limited
  limit : x.limit = t.limit

theorem IsStm.keep {lo : Nat} {W W' : World} {t : Stm} {x : SD} (h : IsStm lo W t x) {R : Nat} (hk : Keeps R W W') (hR : R < lo) : IsStm lo W' t x :=
  ⟨h.kind, h.name, h.table, h.other, h.co.keep hk hR, h.nm.keep hk hR, h.va.keep hk hR, h.se.keep hk hR, h.on.keep hk (by show ¬ lo ≤ R; omega), h.wh.keep hk (by show ¬ lo ≤ R; omega), h.gr.keep hk hR, h.od.keep hk hR, h.lim, h.limit⟩
theorem IsStm.weak {lo lo' : Nat} {W : World} {t : Stm} {x : SD} (h : IsStm lo W t x) (hl : lo' ≤ lo) : IsStm lo' W t x :=
  ⟨h.kind, h.name, h.table, h.other, h.co.weak hl, h.nm.weak hl, h.va.weak hl, h.se.weak hl, h.on.weak (fun b (hb : lo ≤ b) _ => by show lo' ≤ b; omega), h.wh.weak (fun b (hb : lo ≤ b) _ => by show lo' ≤ b; omega), h.gr.weak hl, h.od.weak hl, h.lim, h.limit⟩
theorem IsEx.none (ok : Nat → Prop) (W : World) : IsEx ok W noEx noED := ⟨rfl, rfl, rfl, rfl, rfl, rfl, rfl⟩
theorem IsStm.none (lo : Nat) (W : World) : IsStm lo W noStm noSD :=
  ⟨rfl, rfl, rfl, rfl, RowIs.nil _ _ _ _ _, RowIs.nil _ _ _ _ _, RowIs.nil _ _ _ _ _, RowIs.nil _ _ _ _ _, IsEx.none _ _, IsEx.none _ _, RowIs.nil _ _ _ _ _, RowIs.nil _ _ _ _ _, rfl, rfl⟩

/-- a reader that answers a row, with whatever arguments -/
def RowAt {α D : Type} (K : Kind α D) (e : TypeId) (size : Nat) (f : Nat) (args : Array Value) (c : RC) (P : St → List α × St) : Prop := ∀ (w : World) (s : St), On c w w s →
  Calls Tryd.prog f args w fun r w' => ∃ x : SL, r = .returned (.slice x.ao x.n x.cap) ∧ On c w w' (P s).2 ∧ RowIs K w.heap.size e size w' x (P s).1

/-- .. as its call comes -/
theorem RowAt.call {α D : Type} {K : Kind α D} {e : TypeId} {size : Nat} {f : Nat} {args : Array Value} {c : RC} {P : St → List α × St} (hp : RowAt K e size f args c P) {w0 : World} {T : Nat} {W : World} {s : St} {vs : List Value} {L : World → Prop} (h : Hid (SV c w0 T W s vs L)) :
    Calls Tryd.prog f args W fun r w' => ∃ x : SL, r = .returned (.slice x.ao x.n x.cap) ∧ c.R < w'.heap.size ∧ Hid (SV c w0 T w' (P s).2 vs (fun W => L W ∧ RowIs K (T + 1) e size W x (P s).1)) :=
  (hp W s h.out.on.here).mono fun _ _ ⟨x, h1, h2, h3⟩ => ⟨x, h1, h2.lt, (h.out.go h2).more (h3.weak h.out.size) (fun _ _ _ r k h => h.keep k r)⟩

/-- a reader that answers a statement -/
def StmOf (f : Nat) (c : RC) (P : St → Stm × St) : Prop := ∀ (w : World) (s : St), On c w w s →
  Calls Tryd.prog f #[.pointer (some ⟨c.R, 0, none⟩)] w fun e w' => ∃ x : SD, e = .returned (stmval x) ∧ On c w w' (P s).2 ∧ IsStm w.heap.size w' (P s).1 x

theorem stm_one (x : SD) : (stmCells x).toArray.all (·.oneCell') = true := all_oneCell_toArray fun v hv => by
  simp only [stmCells, List.mem_cons, List.not_mem_nil, or_false] at hv
  rcases hv with rfl | rfl | rfl | rfl | rfl | rfl | rfl | rfl | rfl | rfl | rfl | rfl | rfl | rfl | rfl | rfl | rfl | rfl | rfl | rfl | rfl | rfl | rfl | rfl | rfl | rfl | rfl | rfl <;> rfl
theorem Tryd.infoStm : (Tryd.prog.info? 38).map (·.size) = some 28 := by kernel_rfl
theorem Tryd.infoExpr : (Tryd.prog.info? 35).map (·.size) = some 8 := by kernel_rfl
theorem stm_size (x : SD) : (Tryd.prog.info? 38).map (·.size) = some (stmCells x).toArray.size := Tryd.infoStm
theorem stm_length (x : SD) : (Tryd.prog.info? 38).map (·.size) = some (stmCells x).length := Tryd.infoStm
theorem ex_size (d : ED) : (Tryd.prog.info? 35).map (·.size) = some (exCells d).toArray.size := Tryd.infoExpr
theorem ex_one (d : ED) : (exCells d).toArray.all (·.oneCell') = true := all_oneCell_toArray (kEx.one d)

theorem VarB.there {W : World} {B : Nat} {vs : List Value} (h : VarB W B vs) {o n : Nat} (hn : o + n ≤ vs.length) : W.there B o n := fun j hj =>
  ⟨by rw [h.2.1 (o + j) _ (List.getElem?_eq_getElem (by omega))]; rfl, h.2.2 _⟩
theorem VarB.range {W : World} {B : Nat} {vs : List Value} (h : VarB W B vs) : W.rangeAt B 0 vs := fun j v hv => by rw [Nat.zero_add]; exact h.2.1 j v hv

/-- a variable of a statement, laid -/
theorem SV.init {c : RC} {w0 W : World} {s : St} (h : On c w0 W s) (x : SD) : ∃ W', (W.alloc zeroStm).setCells W.heap.size 0 (stmCells x).toArray.toList = W' ∧ c.R < W'.heap.size ∧ Hid (SV c w0 W.heap.size W' s (stmCells x) (fun _ => True)) := by
  have h1 := SV.start h #[.int .i64 0, .string ⟨#[]⟩, .string ⟨#[]⟩, .string ⟨#[]⟩, .slice none 0 0, .slice none 0 0, .slice none 0 0, .slice none 0 0, .int .i64 0, .int .i64 0, .int .i64 0, .string ⟨#[]⟩, .string ⟨#[]⟩, .string ⟨#[]⟩, .int .i64 0, .slice none 0 0, .int .i64 0, .int .i64 0, .int .i64 0, .string ⟨#[]⟩, .string ⟨#[]⟩, .string ⟨#[]⟩, .int .i64 0, .slice none 0 0, .slice none 0 0, .slice none 0 0, .bool false, .int .i64 0] 38
  have h2 : SV c w0 W.heap.size ((W.alloc zeroStm).setCells W.heap.size 0 (stmCells x)) s (stmCells x) (fun _ => True) := ⟨setFrom_on h1.lo _ _ _ h1.on, h1.var.all (stmCells x) rfl, trivial, h1.firm, h1.lo⟩
  exact ⟨_, rfl, h2.on.lt, h2⟩
theorem init_there (W : World) (x : SD) : (W.alloc zeroStm).there W.heap.size 0 (stmCells x).toArray.size := (VarB.new W #[.int .i64 0, .string ⟨#[]⟩, .string ⟨#[]⟩, .string ⟨#[]⟩, .slice none 0 0, .slice none 0 0, .slice none 0 0, .slice none 0 0, .int .i64 0, .int .i64 0, .int .i64 0, .string ⟨#[]⟩, .string ⟨#[]⟩, .string ⟨#[]⟩, .int .i64 0, .slice none 0 0, .int .i64 0, .int .i64 0, .int .i64 0, .string ⟨#[]⟩, .string ⟨#[]⟩, .string ⟨#[]⟩, .int .i64 0, .slice none 0 0, .slice none 0 0, .slice none 0 0, .bool false, .int .i64 0] 38).there (o := 0) (n := 28) (Nat.le_refl _)

/-- an expression stored into a field -/
theorem SV.putEx {c : RC} {w0 : World} {T : Nat} {W : World} {s : St} {vs : List Value} {K : World → Prop} (h : SV c w0 T W s vs K) (o : Nat) (d : ED) (ho : o + 8 ≤ vs.length) {us : List Value} (hu : vs.take o ++ exCells d ++ vs.drop (o + 8) = us) : ∃ W', W.setCells T o (exCells d).toArray.toList = W' ∧ c.R < W'.heap.size ∧ Hid (SV c w0 T W' s us K) := by
  have h2 : SV c w0 T (W.setCells T o (exCells d)) s us K := ⟨setFrom_on h.lo _ _ _ h.on, by rw [← hu]; exact setFrom_var (exCells d) W o vs h.var ho, h.firm T _ _ (Nat.lt_succ_self _) (setFrom_keeps _ _ _ _) h.k, h.firm, h.lo⟩
  exact ⟨_, rfl, h2.on.lt, h2⟩

/-- the result's cells, stored -/
theorem stm_fin {c : RC} {w W : World} {s s0 : St} {t : Stm} {x : SD} (h0 : On c w w s0) (h : On c (w.alloc zeroStm) W s) (hI : IsStm (w.heap.size + 1) W t x) :
    ∃ W', W.setCells w.heap.size 0 (stmCells x).toArray.toList = W' ∧ Hid (W'.rangeAt w.heap.size 0 (stmCells x)) ∧ Hid (On c w W' s ∧ IsStm w.heap.size W' t x) :=
  ⟨_, rfl, ((VarB.res h h0.lt).all (stmCells x) rfl).range, setFrom_on (Nat.le_refl _) _ _ _ ((h0.alloc zeroStm).back h), (hI.keep (setFrom_keeps _ _ _ _) (Nat.lt_succ_self _)).weak (Nat.le_succ _)⟩
theorem res_there {c : RC} {w W : World} {s : St} (h : On c (w.alloc zeroStm) W s) (hR : c.R < w.heap.size) (x : SD) : W.there w.heap.size 0 (stmCells x).toArray.size := (VarB.res h hR).there (o := 0) (n := 28) (Nat.le_refl _)

theorem results_cell {fn : Func} {p : Tmp} {ty : TypeId} (h : fn.results = #[.cell p ty]) (tmps : Array Value) (P : Program) (w : World) :
    (results fn tmps).run P w = ((asAddr (tmps.getD p undef)).run P w).andThen fun a w₁ => (loadVar ty a).run P w₁ := by
  simp only [results, h]
  simp [Sem.run_bind, Result.andThen]

set_option maxRecDepth 100000 in
theorem results_stm {fn : Func} {p : Tmp} (h : fn.results = #[.cell p 38]) {tmps : Array Value} {w : World} {B : Nat} {x : SD} (hp : tmps.getD p undef = .pointer (some ⟨B, 0, none⟩)) (hr : w.rangeAt B 0 (stmCells x)) :
    (results fn tmps).run Tryd.prog w = .ok (stmval x) w := by
  rw [results_cell h, hp]
  simp only [asAddr, Sem.run_pure, Result.andThen_ok]
  exact run_loadVar_mid w B 0 38 (stmCells x) _ hr Tryd.underlying38 rfl (stm_length x)

set_option maxRecDepth 100000 in
set_option maxHeartbeats 8000000 in
theorem names_row (c : RC) : RowAt kStr 9 1 98 #[.pointer (some ⟨c.R, 0, none⟩)] c namesP := by
  intro w s h
  have hmf : ∀ (fn : Fn) (first cap : Array Value) (w : World), (Instr.makeFunc fn first cap).run Tryd.prog w = .ok (.func fn first cap) w := fun _ _ _ _ => rfl
  have cN := need1 c [40] ⟨#[40]⟩ rfl (hide h)
  have hR := h.lt
  unfold namesP
  generalize needs [[40]] s = s1 at cN ⊢
  have cL := hide (fun W (h : Hid (On c w W s1)) => (listStr_any 70 74 (fun _ _ => rfl) (fun _ _ => rfl) (name_one c) (comma_more c) nameP_shrinks comma_takes W s1 h.out.here).mono (R' := fun e w' => ∃ ao n cap, e = .returned (.slice ao n cap) ∧ Hid (On c w w' (listP nameP comma s1).2 ∧ ∃ ds, Rw kStr w.heap.size 9 1 w' (.slice ao n cap) (listP nameP comma s1).1 ds ∧ n = ds.length ∧ n ≤ 301)) fun e w' ⟨ao, n, cap, ds, h1, h2, h3, h4, h5⟩ => ⟨ao, n, cap, h1, h.out.back h2, ds, h3.weak h.out.size, h4, h5⟩)
  generalize listP nameP comma s1 = p at cL ⊢
  obtain ⟨l, s2⟩ := p
  simp only at cL ⊢
  have cM := hide (fun W (h : Hid (On c w W s2)) => need1 c [41] ⟨#[41]⟩ rfl (hide h.out.here))
  generalize needs [[41]] s2 = s3 at cM ⊢
  clear h
  go_enter Tryd.func98, Tryd.ntmps98
  go_wp2_with (first
    | (go_at_call 69; (with_reducible refine cN.mono ?_); rintro e w1 ⟨rfl, hR1, HB⟩)
    | (go_at_call 110; refine (cL.out _ HB).mono ?_; rintro e w2 ⟨ao, n, cap, rfl, HB2⟩; have HB3 := hide HB2.out.1)
    | (go_at_call 69; (with_reducible refine (cM.out _ HB3).mono ?_); rintro e w3 ⟨rfl, hR3, HB4⟩))
  go_ret
  obtain ⟨ds, r1, r2, r3⟩ := HB2.out.2
  exact ⟨⟨ao, n, cap⟩, rfl, HB3.out.back HB4.out, ds, r1.keep HB4.out.keeps hR, r2, r3⟩

set_option maxRecDepth 100000 in
set_option maxHeartbeats 8000000 in
theorem exprs_row (c : RC) : RowAt kEx 35 8 71 #[.pointer (some ⟨c.R, 0, none⟩)] c exprsP := by
  intro w s h
  have hmf : ∀ (fn : Fn) (first cap : Array Value) (w : World), (Instr.makeFunc fn first cap).run Tryd.prog w = .ok (.func fn first cap) w := fun _ _ _ _ => rfl
  have cL := listEx_any 77 74 (fun _ _ => rfl) (fun _ _ => rfl) (expr_one c) (comma_more c) exprP_shrinks comma_takes w s h
  have cL := cL.mono (R' := fun e w' => ∃ ao n cap, e = .returned (.slice ao n cap) ∧ Hid (On c w w' (listP exprP comma s).2 ∧ RowIs kEx w.heap.size 35 8 w' ⟨ao, n, cap⟩ (listP exprP comma s).1)) fun e w' ⟨ao, n, cap, ds, h1, h2, h3, h4, h5⟩ => ⟨ao, n, cap, h1, h2, ds, h3, h4, h5⟩
  unfold exprsP
  generalize listP exprP comma s = p at cL ⊢
  obtain ⟨l, s2⟩ := p
  simp only at cL ⊢
  clear h
  go_enter Tryd.func71, Tryd.ntmps71
  go_wp2_with (go_at_call 78; refine cL.mono ?_; rintro e w2 ⟨ao, n, cap, rfl, HB⟩)
  go_ret
  exact ⟨⟨ao, n, cap⟩, rfl, HB.out.1, HB.out.2⟩

set_option maxRecDepth 100000 in
theorem listCol_row (c : RC) : RowAt kCol 74 3 95 #[.func (.func 96) #[.pointer (some ⟨c.R, 0, none⟩)] #[], .func (.func 97) #[.pointer (some ⟨c.R, 0, none⟩)] #[]] c (listP columnP moreColumns) :=
  fun w s h => (listCol_any 96 97 (fun _ _ => rfl) (fun _ _ => rfl) (column_one c) (more_columns c) columnP_shrinks moreColumns_takes w s h).mono fun _ _ ⟨ao, n, cap, ds, h1, h2, h3, h4, h5⟩ => ⟨⟨ao, n, cap⟩, h1, h2, ds, h3, h4, h5⟩

set_option maxRecDepth 100000 in
theorem listOrd_row (c : RC) : RowAt kOrd 76 2 80 #[.func (.func 81) #[.pointer (some ⟨c.R, 0, none⟩)] #[], .func (.func 74) #[.pointer (some ⟨c.R, 0, none⟩)] #[]] c (listP orderP comma) :=
  fun w s h => (listOrd_any 81 74 (fun _ _ => rfl) (fun _ _ => rfl) (order_one c) (comma_more c) orderP_shrinks comma_takes w s h).mono fun _ _ ⟨ao, n, cap, ds, h1, h2, h3, h4, h5⟩ => ⟨⟨ao, n, cap⟩, h1, h2, ds, h3, h4, h5⟩

set_option maxRecDepth 100000 in
theorem listEx_row (c : RC) : RowAt kEx 35 8 78 #[.func (.func 79) #[.pointer (some ⟨c.R, 0, none⟩)] #[], .func (.func 74) #[.pointer (some ⟨c.R, 0, none⟩)] #[]] c (listP columnOfP comma) :=
  fun w s h => (listEx_any 79 74 (fun _ _ => rfl) (fun _ _ => rfl) (columnOf_one c) (comma_more c) columnOfP_shrinks comma_takes w s h).mono fun _ _ ⟨ao, n, cap, ds, h1, h2, h3, h4, h5⟩ => ⟨⟨ao, n, cap⟩, h1, h2, ds, h3, h4, h5⟩

end Go.Proofs.YtedinkoapieakaaDoor
