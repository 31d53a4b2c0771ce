/- Rows of dones that are written in place: cells laid over cells. -/
import Derived.Test.YtjjdednlddnllaaMlMem
namespace Go.Proofs.Ytjjdednlddnllaa
open Go.ChangeShapes Go.WideShapes Go.ChangeAt Go.RowKit

/-- cells laid over cells, from a place on -/
def over (L : List Value) (o : Nat) (cs : List Value) : List Value := L.take o ++ (cs ++ L.drop (o + cs.length))

theorem over_length {L : List Value} {o : Nat} {cs : List Value} (h : o + cs.length ≤ L.length) : (over L o cs).length = L.length := by
  simp only [over, List.length_append, List.length_take, List.length_drop]
  omega

/-- what stands ahead of it stays -/
theorem over_ahead {L : List Value} {o n : Nat} {cs : List Value} (h : n ≤ o) (ho : o ≤ L.length) : (over L o cs).take n = L.take n := by
  rw [over, List.take_append_of_le_length (by rw [List.length_take]; omega), List.take_take, Nat.min_eq_left h]

/-- up to its end -/
theorem over_upto {L : List Value} {o n : Nat} {cs : List Value} (hn : n = o + cs.length) (ho : o ≤ L.length) : (over L o cs).take n = L.take o ++ cs := by
  have h1 : (L.take o).length = o := by rw [List.length_take]; omega
  rw [over, ← List.append_assoc, List.take_append_of_le_length (by rw [List.length_append]; omega), List.take_of_length_le (by rw [List.length_append]; omega)]

theorem row_heap {w : World} {g : Nat} {cur : List Value} {ty : TypeId} {fr : Nat × Nat} (hg : w.heap[g]? = some (.cells cur.toArray ty fr)) (cs : List Value) : (w.setRow g cs.toArray).heap[g]? = some (.cells cs.toArray ty fr) := setRow_heap w g _ _ ty _ hg

theorem below_row {B g : Nat} {w0 w : World} (hb : Below B w0 w) (hBg : B ≤ g) (cs : Array Value) : Below B w0 (w.setRow g cs) :=
  hb.trans ⟨rfl, rfl, rfl, by simp [World.setRow], fun k hk => setRow_other w g k cs (by omega)⟩

theorem row_cell {w : World} {g : Nat} {cur : List Value} {ty : TypeId} {fr : Nat × Nat} (hg : w.heap[g]? = some (.cells cur.toArray ty fr)) {j : Nat} {u : Value} (h : cur[j]? = some u) : w.cell? ⟨g, j, none⟩ = some u := by
  simp [World.cell?, hg, h]

section
variable {w : World} {g : Nat} {cur : List Value}

/-- 'append' where there is room -/
theorem run_append_over (ty : TypeId) (i cap : Nat) (a : Addr) (m c : Nat) (news : List Value) (hg : w.heap[g]? = some (.cells cur.toArray 57 (0, 0))) (hl : news.length = m * 4) (hn : ∀ j u, news[j]? = some u → w.cell? (a.add j) = some u) (h1 : ∀ u ∈ news, u.oneCell' = true)
    (hroom : i + m ≤ cap) (hfit : i * 4 + news.length ≤ cur.length) :
    (Builtin.append_ #[23, 23] ty #[.slice (some ⟨g, 0, none⟩) i cap, .slice (some a) m c]).run Try.prog w = .ok (.slice (some ⟨g, 0, none⟩) (i + m) cap) (w.setRow g (over cur (i * 4) news).toArray) := by
  obtain ⟨i0, z, hi, hz0, hz1, hz2, hz3⟩ := eltD.info
  have hfc := run_firstCells_some (P := Try.prog) w i0.size m a m c news (by rw [hz1]; exact hl) hn
  have hst := run_storeCells_at Try.prog g (i * 4) 57 news 0 cur.toArray w hg (by simpa using hfit) h1
  simp only [Nat.add_zero, List.append_assoc] at hst
  rw [hz1] at hfc
  simp [Builtin.append_, run_underlying eltD.und, sizeOf, typeInfo, hi, hz1, Builtin.lenOf, hroom, hfc, Addr.add_lit, hst, over]

/-- 'copy', into a row -/
theorem run_copy_over (ty : TypeId) (o dLen dCap : Nat) (a : Addr) (sLen sCap : Nat) (cs : List Value) (hg : w.heap[g]? = some (.cells cur.toArray 57 (0, 0))) (hl : cs.length = Nat.min sLen dLen * 4) (hn : ∀ j u, cs[j]? = some u → w.cell? (a.add j) = some u) (h1 : ∀ u ∈ cs, u.oneCell' = true)
    (hfit : o + cs.length ≤ cur.length) :
    (Builtin.copy_ #[23, 23] ty #[.slice (some ⟨g, o, none⟩) dLen dCap, .slice (some a) sLen sCap]).run Try.prog w = .ok (goInt (Nat.min sLen dLen)) (w.setRow g (over cur o cs).toArray) := by
  obtain ⟨i0, z, hi, hz0, hz1, hz2, hz3⟩ := eltD.info
  have hld := run_loadCells_list (P := Try.prog) w a cs hn
  have hst := run_storeCells_at Try.prog g o 57 cs 0 cur.toArray w hg (by simpa using hfit) h1
  simp only [Nat.add_zero, List.append_assoc] at hst
  rw [hl] at hld
  simp [Builtin.copy_, run_underlying eltD.und, Builtin.lenOf, Builtin.firstCells, sizeOf, typeInfo, hi, hz1, hld, hst, over]

end

/-- a builtin as one step of a region that draws -/
theorem step_append_run {ops : Array Oper} {o : Oper} {a : Act} {w : World} {K : Act → World → Prop} {Q : Exit → Act → World → Prop} {E : Prop}
    (hg : o.guard = none) (s x : Operand) (t t' : TypeId) (hop : o.op = Op.call { callee := Callee.builtin Builtin.append, args := #[s, x], argTypes := #[t, t'] })
    (v u : Value) (hs : a.eval s = v) (hx : a.eval x = u) {v' : Value} {w' : World} (hr : (Builtin.append_ #[t, t'] o.type #[v, u]).run Try.prog w = .ok v' w') (hK : K (a.put o.dst v') w') :
    if Region.wanted o (yielded ops a.tmps) = true then Oper.wp Try.prog o a w K Q else E := by
  have hw : Region.wanted o (yielded ops a.tmps) = true := by simp [Region.wanted, hg]
  rw [if_pos hw]
  unfold Oper.wp
  simp [execOp, hop, resolve, invoke, builtin, hs, hx, hr, Result.andThen]
  exact hK

theorem step_copy_run {ops : Array Oper} {o : Oper} {a : Act} {w : World} {K : Act → World → Prop} {Q : Exit → Act → World → Prop} {E : Prop}
    (hg : o.guard = none) (s x : Operand) (t t' : TypeId) (hop : o.op = Op.call { callee := Callee.builtin Builtin.copy, args := #[s, x], argTypes := #[t, t'] })
    (v u : Value) (hs : a.eval s = v) (hx : a.eval x = u) {v' : Value} {w' : World} (hr : (Builtin.copy_ #[t, t'] o.type #[v, u]).run Try.prog w = .ok v' w') (hK : K (a.put o.dst v') w') :
    if Region.wanted o (yielded ops a.tmps) = true then Oper.wp Try.prog o a w K Q else E := by
  have hw : Region.wanted o (yielded ops a.tmps) = true := by simp [Region.wanted, hg]
  rw [if_pos hw]
  unfold Oper.wp
  simp [execOp, hop, resolve, invoke, builtin, hs, hx, hr, Result.andThen]
  exact hK

theorem wpList_copy_run' {ops : Array Oper} {rest : List Oper} {o : Oper} {a : Act} {w : World} {Q : Exit → Act → World → Prop}
    (hg : o.guard = none) (s x : Operand) (t t' : TypeId) (hop : o.op = Op.call { callee := Callee.builtin Builtin.copy, args := #[s, x], argTypes := #[t, t'] })
    (v u : Value) (hs : a.eval s = v) (hx : a.eval x = u) {v' : Value} {w' : World} (hr : (Builtin.copy_ #[t, t'] o.type #[v, u]).run Try.prog w = .ok v' w') (hK : wpList Try.prog ops Q rest (a.put o.dst v') w') :
    wpList Try.prog ops Q (o :: rest) a w := by
  refine wpList_plain hg fun K hK' => ?_
  unfold Oper.wp
  simp [execOp, hop, resolve, invoke, builtin, hs, hx, hr, Result.andThen]
  exact hK' _ _ hK

theorem wpList_append_run' {ops : Array Oper} {rest : List Oper} {o : Oper} {a : Act} {w : World} {Q : Exit → Act → World → Prop}
    (hg : o.guard = none) (s x : Operand) (t t' : TypeId) (hop : o.op = Op.call { callee := Callee.builtin Builtin.append, args := #[s, x], argTypes := #[t, t'] })
    (v u : Value) (hs : a.eval s = v) (hx : a.eval x = u) {v' : Value} {w' : World} (hr : (Builtin.append_ #[t, t'] o.type #[v, u]).run Try.prog w = .ok v' w') (hK : wpList Try.prog ops Q rest (a.put o.dst v') w') :
    wpList Try.prog ops Q (o :: rest) a w := by
  refine wpList_plain hg fun K hK' => ?_
  unfold Oper.wp
  simp [execOp, hop, resolve, invoke, builtin, hs, hx, hr, Result.andThen]
  exact hK' _ _ hK

/-- a row of entries whose bytes lie in blocks ahead of B, itself behind B -/
abbrev DOwn (B : Nat) (w : World) (v : Value) (l : List Dn) : Prop := Rows kDn (fun b => b < B) w B 57 v l

/-- entries and their cells -/
abbrev DEnts (B : Nat) (w : World) (l : List Dn) (css : List (List Value)) : Prop := All2 (kDn.rel (fun b => b < B) w) l css

theorem DEnts.later {B : Nat} {w w' : World} {l : List Dn} {css : List (List Value)} (h : DEnts B w l css) (hb : Below B w w') : DEnts B w' l css :=
  All2.imp (fun _ _ hr => kDn.move ⟨hb.size, fun b _ ho => hb.block b ho⟩ (fun _ _ ho => ho) hr) h

theorem DOwn.open {B : Nat} {w : World} {v : Value} {l : List Dn} (h : DOwn B w v l) : ∃ css, w.ownsRow B 57 4 v l.length css.flatten ∧ DEnts B w l css := by
  obtain ⟨css, h1, h2⟩ := h
  exact ⟨css, h1, All2.imp (fun _ _ hr => kDn.move (Kept.of_below (Below.refl _ _)) (fun _ _ ho => ho.1) hr) h2⟩

theorem DOwn.shut {B : Nat} {w : World} {v : Value} {l : List Dn} {css : List (List Value)} (h1 : w.ownsRow B 57 4 v l.length css.flatten) (h2 : DEnts B w l css) : DOwn B w v l :=
  ⟨css, h1, All2.imp (fun _ _ hr => kDn.move (Kept.of_below (Below.refl _ _)) (fun b _ ho => ⟨ho, fun e => by have := (h1.lt b e).1; omega⟩) hr) h2⟩

/-- a block that holds them is such a row -/
theorem DOwn.of {B g cap : Nat} {w : World} {cur : List Value} {l : List Dn} {css : List (List Value)} (hB : B ≤ g) (hg : w.heap[g]? = some (.cells cur.toArray 57 (0, 0))) (hc : l.length ≤ cap) (hm : cap ≤ maxLen) (hs : cur.length = cap * 4) (ht : cur.take (l.length * 4) = css.flatten) (h2 : DEnts B w l css) :
    DOwn B w (.slice (some ⟨g, 0, none⟩) l.length cap) l :=
  DOwn.shut ⟨by rw [flatten_len (rel_len h2), ← h2.length], .inr ⟨g, cap, cur.toArray, rfl, hB, hg, hc, hm, by simpa using hs, by simpa using ht⟩⟩ h2

end Go.Proofs.Ytjjdednlddnllaa
