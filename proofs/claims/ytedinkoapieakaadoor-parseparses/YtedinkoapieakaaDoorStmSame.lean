/- Two rows in memory that are the same, told as the same. -/
import Derived.Test.YtedinkoapieakaaDoorParseStm
import Derived.Deep.RegionWith
import Derived.BigQuiet
import Derived.Test.YtedinkoapieakaaDoorParseEx
import Derived.Deep.RegionHeld
import Derived.Test.YtedinkoapieakaaDoorParseParse
namespace Go.Proofs.YtedinkoapieakaaDoor
open Go.ChangeShapes Go.WideShapes Go.ChangeAt Go.RowKit

theorem flat_at {D : Type} (f : D → List Value) (size : Nat) (hf : ∀ d, (f d).length = size) : ∀ (ds : List D) (i : Nat) (hi : i < ds.length) (j : Nat) (u : Value), (f ds[i])[j]? = some u → (ds.flatMap f)[i * size + j]? = some u
  | d :: ds, 0, _, j, u, h => by
    have hj : j < (f d).length := (List.getElem?_eq_some_iff.1 h).1
    simp only [List.flatMap_cons, Nat.zero_mul, Nat.zero_add]
    rw [List.getElem?_append_left hj]
    exact h
  | d :: ds, i + 1, hi, j, u, h => by
    have hl := hf d
    simp only [List.flatMap_cons]
    rw [List.getElem?_append_right (by rw [hl, Nat.succ_mul]; omega)]
    have e : (i + 1) * size + j - (f d).length = i * size + j := by rw [hl, Nat.succ_mul]; omega
    rw [e]
    exact flat_at f size hf ds i (Nat.lt_of_succ_lt_succ hi) j u h

/-- a row's cells, one by one -/
def CellsOf {α D : Type} (K : Kind α D) (lo size : Nat) (W : World) (ao : Option Addr) (l : List α) : Prop := l = [] ∨ ∃ b, ao = some ⟨b, 0, none⟩ ∧ b < W.heap.size ∧ ∀ i (hi : i < l.length), ∃ d, K.rel (fun b => lo ≤ b) W l[i] d ∧ ∀ j u, (K.cel d)[j]? = some u → W.cell? ⟨b, i * size + j, none⟩ = some u
theorem RowIs.cells {α D : Type} {K : Kind α D} {lo : Nat} {e : TypeId} {size : Nat} {W : World} {x : SL} {l : List α} (hK : ∀ d, (K.cel d).length = size) (h : RowIs K lo e size W x l) : x.n = l.length ∧ CellsOf K lo size W x.ao l := by
  obtain ⟨ds, ⟨hown, heach⟩, hn, _⟩ := h
  have hl := heach.length
  refine ⟨by omega, ?_⟩
  have h0 := hown
  rcases hown.2 with ⟨h1, h2⟩ | ⟨g, cap, cur, h1, h2, h3, _⟩
  · exact .inl (List.eq_nil_of_length_eq_zero (by omega))
  · simp only [Value.slice.injEq] at h1
    obtain ⟨h5, h6, h7⟩ := h1
    refine .inr ⟨g, h5, (Array.getElem?_eq_some_iff.1 h3).1, fun i hi => ⟨ds[i], K.move (Nat.le_refl _) (fun _ _ _ => rfl) (fun b hb _ => hb.1) (heach.at i hi (by omega)), fun j u hu => ?_⟩⟩
    have hc := h0.cells (g := g) (by rw [h5]; rfl) (i * size + j) u (flat_at K.cel size hK ds i (by omega) j u hu)
    have hadd : (⟨g, 0, none⟩ : Addr).add (i * size + j) = ⟨g, i * size + j, none⟩ := by unfold Addr.add; split <;> simp_all
    rw [hadd] at hc
    exact hc

set_option maxRecDepth 100000 in
set_option maxHeartbeats 4000000 in
theorem sameTexts_same {lo lo' : Nat} (l : List (List UInt8)) (x y : SL) (w : World) (hx : RowIs kStr lo 9 1 w x l) (hy : RowIs kStr lo' 9 1 w y l) :
    Calls Tryd.prog 21 #[.slice x.ao x.n x.cap, .slice y.ao y.n y.cap] w fun e w' => e = .returned (.bool true) ∧ Below w.heap.size w w' := by
  obtain ⟨ao, n, cap⟩ := x
  obtain ⟨ao2, n2, cap2⟩ := y
  obtain ⟨ds, hd⟩ := hx
  have h301 : n ≤ 301 := hd.2.2
  obtain ⟨hn, HC⟩ := RowIs.cells (fun _ => rfl) ⟨ds, hd⟩
  obtain ⟨hn2, HC2⟩ := RowIs.cells (fun _ => rfl) hy
  simp only at hn hn2 HC HC2 ⊢
  have e2 : n2 = n := hn2.trans hn.symm
  subst e2
  have H1 := hide HC
  have H2 := hide HC2
  have HN := hide hn
  clear hy hd hn hn2 HC HC2
  go_enter Tryd.func21, Tryd.ntmps21
  go_wp2
  go_loopw [5] (fun v wr => ∃ k : Nat, k ≤ n2 ∧ v = .int .i64 (k : Int) ∧ Hid (Below w.heap.size w wr)) (fun v _ => n2 - (intOf v).toNat)
  case atStart => exact ⟨0, Nat.zero_le _, rfl, Below.refl _ _⟩
  case round =>
    obtain ⟨k, hk, rfl, HB⟩ := hrel
    by_cases hlt : k < n2
    · have hlt1 : (k : Int) < (n2 : Int) := by omega
      have hlt2 : k < l.length := by rw [← HN.out]; exact hlt
      rcases H1.out with h0 | ⟨b, rfl, hb, h1⟩
      · rw [h0] at hlt2; cases hlt2
      rcases H2.out with h0 | ⟨b', rfl, hb', h1'⟩
      · rw [h0] at hlt2; cases hlt2
      obtain ⟨d, hr, hc⟩ := h1 k hlt2
      obtain ⟨d', hr', hc'⟩ := h1' k hlt2
      have e : d' = d := hr'.symm.trans hr
      subst e
      have c0 := (HB.out.cell (p := ⟨b, k * 1 + 0, none⟩) hb).trans (hc 0 _ rfl)
      have c1 := (HB.out.cell (p := ⟨b', k * 1 + 0, none⟩) hb').trans (hc' 0 _ rfl)
      simp only [Nat.mul_one, Nat.add_zero] at c0 c1
      clear h1 h1' hc hc' hr hr' hlt2
      go_wp2_with (go_region)
      all_goals
        go_roundw
        case rel => exact ⟨k + 1, by omega, by go_num, HB.out.drew⟩
        case measure => simp [intOf]; omega
    · have hlt1 : ¬ (k : Int) < (n2 : Int) := by omega
      go_wp2
      go_ret
      exact ⟨rfl, HB.out⟩

set_option maxRecDepth 100000 in
set_option maxHeartbeats 4000000 in
theorem sameColumns_same {lo lo' : Nat} (l : List Col) (x y : SL) (w : World) (hx : RowIs kCol lo 74 3 w x l) (hy : RowIs kCol lo' 74 3 w y l) :
    Calls Tryd.prog 20 #[.slice x.ao x.n x.cap, .slice y.ao y.n y.cap] w fun e w' => e = .returned (.bool true) ∧ Below w.heap.size w w' := by
  obtain ⟨ao, n, cap⟩ := x
  obtain ⟨ao2, n2, cap2⟩ := y
  obtain ⟨ds, hd⟩ := hx
  have h301 : n ≤ 301 := hd.2.2
  obtain ⟨hn, HC⟩ := RowIs.cells (fun _ => rfl) ⟨ds, hd⟩
  obtain ⟨hn2, HC2⟩ := RowIs.cells (fun _ => rfl) hy
  simp only at hn hn2 HC HC2 ⊢
  have e2 : n2 = n := hn2.trans hn.symm
  subst e2
  have H1 := hide HC
  have H2 := hide HC2
  have HN := hide hn
  clear hy hd hn hn2 HC HC2
  go_enter Tryd.func20, Tryd.ntmps20
  go_wp2
  go_loopw [5] (fun v wr => ∃ k : Nat, k ≤ n2 ∧ v = .int .i64 (k : Int) ∧ Hid (Below w.heap.size w wr)) (fun v _ => n2 - (intOf v).toNat)
  case atStart => exact ⟨0, Nat.zero_le _, rfl, Below.refl _ _⟩
  case round =>
    obtain ⟨k, hk, rfl, HB⟩ := hrel
    by_cases hlt : k < n2
    · have hlt1 : (k : Int) < (n2 : Int) := by omega
      have hlt2 : k < l.length := by rw [← HN.out]; exact hlt
      rcases H1.out with h0 | ⟨b, rfl, hb, h1⟩
      · rw [h0] at hlt2; cases hlt2
      rcases H2.out with h0 | ⟨b', rfl, hb', h1'⟩
      · rw [h0] at hlt2; cases hlt2
      obtain ⟨d, hr, hc⟩ := h1 k hlt2
      obtain ⟨d', hr', hc'⟩ := h1' k hlt2
      have e : d' = d := hr'.symm.trans hr
      subst e
      have c0 := (HB.out.cell (p := ⟨b, k * 3 + 0, none⟩) hb).trans (hc 0 _ rfl)
      have c1 := (HB.out.cell (p := ⟨b, k * 3 + 1, none⟩) hb).trans (hc 1 _ rfl)
      have c2 := (HB.out.cell (p := ⟨b, k * 3 + 2, none⟩) hb).trans (hc 2 _ rfl)
      have c3 := (HB.out.cell (p := ⟨b', k * 3 + 0, none⟩) hb').trans (hc' 0 _ rfl)
      have c4 := (HB.out.cell (p := ⟨b', k * 3 + 1, none⟩) hb').trans (hc' 1 _ rfl)
      have c5 := (HB.out.cell (p := ⟨b', k * 3 + 2, none⟩) hb').trans (hc' 2 _ rfl)
      simp only [Nat.add_zero] at c0 c3
      clear h1 h1' hc hc' hr hr' hlt2
      go_wp2_with (go_region)
      all_goals
        go_roundw
        case rel => exact ⟨k + 1, by omega, by go_num, HB.out.drew⟩
        case measure => simp [intOf]; omega
    · have hlt1 : ¬ (k : Int) < (n2 : Int) := by omega
      go_wp2
      go_ret
      exact ⟨rfl, HB.out⟩

set_option maxRecDepth 100000 in
set_option maxHeartbeats 4000000 in
theorem sameOrders_same {lo lo' : Nat} (l : List (Int × Bool)) (x y : SL) (w : World) (hx : RowIs kOrd lo 76 2 w x l) (hy : RowIs kOrd lo' 76 2 w y l) :
    Calls Tryd.prog 25 #[.slice x.ao x.n x.cap, .slice y.ao y.n y.cap] w fun e w' => e = .returned (.bool true) ∧ Below w.heap.size w w' := by
  obtain ⟨ao, n, cap⟩ := x
  obtain ⟨ao2, n2, cap2⟩ := y
  obtain ⟨ds, hd⟩ := hx
  have h301 : n ≤ 301 := hd.2.2
  obtain ⟨hn, HC⟩ := RowIs.cells (fun _ => rfl) ⟨ds, hd⟩
  obtain ⟨hn2, HC2⟩ := RowIs.cells (fun _ => rfl) hy
  simp only at hn hn2 HC HC2 ⊢
  have e2 : n2 = n := hn2.trans hn.symm
  subst e2
  have H1 := hide HC
  have H2 := hide HC2
  have HN := hide hn
  clear hy hd hn hn2 HC HC2
  go_enter Tryd.func25, Tryd.ntmps25
  go_wp2
  go_loopw [5] (fun v wr => ∃ k : Nat, k ≤ n2 ∧ v = .int .i64 (k : Int) ∧ Hid (Below w.heap.size w wr)) (fun v _ => n2 - (intOf v).toNat)
  case atStart => exact ⟨0, Nat.zero_le _, rfl, Below.refl _ _⟩
  case round =>
    obtain ⟨k, hk, rfl, HB⟩ := hrel
    by_cases hlt : k < n2
    · have hlt1 : (k : Int) < (n2 : Int) := by omega
      have hlt2 : k < l.length := by rw [← HN.out]; exact hlt
      rcases H1.out with h0 | ⟨b, rfl, hb, h1⟩
      · rw [h0] at hlt2; cases hlt2
      rcases H2.out with h0 | ⟨b', rfl, hb', h1'⟩
      · rw [h0] at hlt2; cases hlt2
      obtain ⟨d, hr, hc⟩ := h1 k hlt2
      obtain ⟨d', hr', hc'⟩ := h1' k hlt2
      have e : d' = d := hr'.symm.trans hr
      subst e
      have c0 := (HB.out.cell (p := ⟨b, k * 2 + 0, none⟩) hb).trans (hc 0 _ rfl)
      have c1 := (HB.out.cell (p := ⟨b, k * 2 + 1, none⟩) hb).trans (hc 1 _ rfl)
      have c2 := (HB.out.cell (p := ⟨b', k * 2 + 0, none⟩) hb').trans (hc' 0 _ rfl)
      have c3 := (HB.out.cell (p := ⟨b', k * 2 + 1, none⟩) hb').trans (hc' 1 _ rfl)
      simp only [Nat.add_zero] at c0 c2
      clear h1 h1' hc hc' hr hr' hlt2
      go_wp2_with (go_region)
      all_goals
        go_roundw
        case rel => exact ⟨k + 1, by omega, by go_num, HB.out.drew⟩
        case measure => simp [intOf]; omega
    · have hlt1 : ¬ (k : Int) < (n2 : Int) := by omega
      go_wp2
      go_ret
      exact ⟨rfl, HB.out⟩

end Go.Proofs.YtedinkoapieakaaDoor

/- What sameExpr comes to at two expressions in memory that are the same. -/
namespace Go.Proofs.YtedinkoapieakaaDoor
open Go.ChangeShapes Go.WideShapes Go.ChangeAt Go.RowKit

/-- sameExpr says of these two that they are the same -/
def Same2 (e : Ex) : Prop := ∀ (ok ok' : Nat → Prop) (d d' : ED) (W : World), IsEx ok W e d → IsEx ok' W e d' →
  Calls Tryd.prog 24 #[exval d, exval d'] W fun r w' => r = .returned (.bool true) ∧ Below W.heap.size W w'

/-- a row of expressions in memory -/
def ExRow (ok : Nat → Prop) (W : World) (ao : Option Addr) (es : List Ex) : Prop := es = [] ∨ ∃ b, ao = some ⟨b, 0, none⟩ ∧ b < W.heap.size ∧ ∀ i (hi : i < es.length), ∃ d, Cell8 W b (i * 8) d ∧ IsEx ok W es[i] d

theorem cell8_at {W : World} {b off : Nat} {d : ED} (h : Cell8 W b off d) : W.cell? ⟨b, off, none⟩ = some (.int .i64 d.op) ∧ W.cell? ⟨b, off + 1, none⟩ = some (.int .i64 d.vk) ∧ W.cell? ⟨b, off + 2, none⟩ = some (.int .i64 d.vi) ∧ W.cell? ⟨b, off + 3, none⟩ = some (.string d.vt) ∧
    W.cell? ⟨b, off + 4, none⟩ = some (.string d.tb) ∧ W.cell? ⟨b, off + 5, none⟩ = some (.string d.nm) ∧ W.cell? ⟨b, off + 6, none⟩ = some (.int .i64 0) ∧ W.cell? ⟨b, off + 7, none⟩ = some (.slice d.ao d.n d.cap) :=
  ⟨h 0 _ rfl, h 1 _ rfl, h 2 _ rfl, h 3 _ rfl, h 4 _ rfl, h 5 _ rfl, h 6 _ rfl, h 7 _ rfl⟩

set_option maxRecDepth 100000 in
set_option maxHeartbeats 4000000 in
theorem sameExprs_same {ok ok' : Nat → Prop} (es : List Ex) (ao bo : Option Addr) (cap cbp : Nat) (w : World) (he : ExRow ok w ao es) (hf : ExRow ok' w bo es) (hP : ∀ e ∈ es, Same2 e) (n : Nat) (hn : n = es.length) (hn9 : n ≤ 301) :
    Calls Tryd.prog 22 #[.slice ao n cap, .slice bo n cbp] w fun e w' => e = .returned (.bool true) ∧ Below w.heap.size w w' := by
  have HE := hide he
  have HF := hide hf
  have HP := hide hP
  have HN := hide hn
  clear he hf hP hn
  go_enter Tryd.func22, Tryd.ntmps22
  go_wp2
  go_loopw [5] (fun i wr => ∃ k : Nat, k ≤ n ∧ i = .int .i64 k ∧ Hid (Below w.heap.size w wr)) (fun i _ => n - (intOf i).toNat)
  case atStart => exact ⟨0, Nat.zero_le _, rfl, Below.refl _ _⟩
  case round =>
    obtain ⟨k, hk, rfl, HB⟩ := hrel
    by_cases hlt : k < n
    · have hx : k < es.length := by rw [← HN.out]; exact hlt
      rcases HE.out with h0 | ⟨b, rfl, hb, h1⟩
      · rw [h0] at hx; exact absurd hx (Nat.not_lt_zero _)
      rcases HF.out with h0 | ⟨b', rfl, hb', h1'⟩
      · rw [h0] at hx; exact absurd hx (Nat.not_lt_zero _)
      obtain ⟨d, hc, hi⟩ := h1 k hx
      obtain ⟨d', hc', hi'⟩ := h1' k hx
      have HS : ∀ v1, Below w.heap.size w v1 → Calls Tryd.prog 24 #[exval d, exval d'] v1 fun e w' => e = .returned (.bool true) ∧ Below w.heap.size w w' := by
        intro v1 h1
        exact (HP.out _ (List.getElem_mem hx) ok ok' d d' v1 (hi.later h1) (hi'.later h1)).mono (fun e w' h => ⟨h.1, h1.trans (h.2.mono h1.size)⟩)
      have hcw : Cell8 wr b (k * 8) d := fun j u hu => (HB.out.cell hb).trans (hc j u hu)
      have hcw' : Cell8 wr b' (k * 8) d' := fun j u hu => (HB.out.cell hb').trans (hc' j u hu)
      obtain ⟨c0, c1, c2, c3, c4, c5, c6, c7⟩ := cell8_at hcw
      obtain ⟨e0, e1, e2, e3, e4, e5, e6, e7⟩ := cell8_at hcw'
      clear h1 h1' hc hc' hi hi' hcw hcw' hx
      have bx : Below w.heap.size w wr.drew := HB.out.drew
      go_wp2
      go_region_with (go_at_call 24; (with_reducible refine (HS _ ?_).mono ?_); assumption; rintro e w3 ⟨rfl, b3⟩)
      all_goals
        go_wp2
        go_roundw
        case rel => exact ⟨k + 1, by omega, by go_num, b3⟩
        case measure => simp [intOf]; omega
    · have hkn : k = n := by omega
      subst hkn
      go_wp2
      go_ret
      exact ⟨rfl, HB.out⟩

/-- the same beside the parts -/
def Like (d d' : ED) : Prop := d.op = d'.op ∧ d.vk = d'.vk ∧ d.vi = d'.vi ∧ d.vt = d'.vt ∧ d.tb = d'.tb ∧ d.nm = d'.nm ∧ d.n = d'.n

set_option maxRecDepth 100000 in
set_option maxHeartbeats 4000000 in
theorem sameExpr_like (d d' : ED) (W : World) (hl : Like d d') (hS : ∀ v, Below W.heap.size W v → Calls Tryd.prog 22 #[.slice d.ao d.n d.cap, .slice d'.ao d'.n d'.cap] v fun r w' => r = .returned (.bool true) ∧ Below W.heap.size W w') :
    Calls Tryd.prog 24 #[exval d, exval d'] W fun r w' => r = .returned (.bool true) ∧ Below W.heap.size W w' := by
  obtain ⟨op, vk, vi, vt, tb, nm, ao, n, cap⟩ := d
  obtain ⟨op', vk', vi', vt', tb', nm', ao', n', cap'⟩ := d'
  obtain ⟨h1, h2, h3, h4, h5, h6, h7⟩ := hl
  simp only at h1 h2 h3 h4 h5 h6 h7 hS
  subst h1 h2 h3 h4 h5 h6 h7
  have hb : Below W.heap.size W ((W.alloc (.cells #[.int .i64 op, .int .i64 vk, .int .i64 vi, .string vt, .string tb, .string nm, .int .i64 0, .slice ao n cap] 35)).alloc (.cells #[.int .i64 op, .int .i64 vk, .int .i64 vi, .string vt, .string tb, .string nm, .int .i64 0, .slice ao' n cap'] 35)) :=
    ((Below.refl _ W).alloc (Nat.le_refl _) _).alloc (by simp) _
  have HS := hide (hS _ hb)
  clear hS hb
  go_enter Tryd.func24, Tryd.ntmps24
  go_wp2_with (go_at_call 22; (with_reducible refine HS.out.mono ?_); rintro e w3 ⟨rfl, b3⟩)
  go_ret
  exact ⟨rfl, b3⟩

theorem Bare.like {op : Int} {n : Nat} {d d' : ED} (h : Bare op n d) (h' : Bare op n d') : Like d d' := by
  obtain ⟨a0, a1, a2, a3, a4, a5, a6⟩ := h
  obtain ⟨b0, b1, b2, b3, b4, b5, b6⟩ := h'
  exact ⟨a0.trans b0.symm, a1.trans b1.symm, a2.trans b2.symm, a3.trans b3.symm, a4.trans b4.symm, a5.trans b5.symm, a6.trans b6.symm⟩

theorem sameExpr_same (e : Ex) : Same2 e := by
  induction e with
  | leaf op v tb nm =>
    intro ok ok' d d' W ⟨a0, a1, a2, a3, a4, a5, a6⟩ ⟨b0, b1, b2, b3, b4, b5, b6⟩
    refine sameExpr_like d d' W ⟨a0.trans b0.symm, a1.trans b1.symm, a2.trans b2.symm, a3.trans b3.symm, a4.trans b4.symm, a5.trans b5.symm, a6.trans b6.symm⟩ fun v hv => ?_
    rw [a6, b6]
    exact (sameExprs_same (ok := ok) (ok' := ok') [] d.ao d'.ao d.cap d'.cap v (.inl rfl) (.inl rfl) (fun e he => by cases he) 0 rfl (by omega)).mono fun r w' h => ⟨h.1, hv.trans (h.2.mono hv.size)⟩
  | un op a ih =>
    intro ok ok' d d' W ⟨h0, b, d1, h1, h2, h3, h4, h5⟩ ⟨h0', b', d1', h1', h2', h3', h4', h5'⟩
    refine sameExpr_like d d' W (h0.like h0') fun v hv => ?_
    rw [h0.2.2.2.2.2.2, h0'.2.2.2.2.2.2]
    have r1 : ExRow ok v d.ao [a] := .inr ⟨b, h1, Nat.lt_of_lt_of_le h3 hv.size, fun i hi => by
      match i, hi with
      | 0, _ => exact ⟨d1, fun j u hu => (hv.cell h3).trans (h4 j u hu), h5.later hv⟩⟩
    have r2 : ExRow ok' v d'.ao [a] := .inr ⟨b', h1', Nat.lt_of_lt_of_le h3' hv.size, fun i hi => by
      match i, hi with
      | 0, _ => exact ⟨d1', fun j u hu => (hv.cell h3').trans (h4' j u hu), h5'.later hv⟩⟩
    exact (sameExprs_same [a] d.ao d'.ao d.cap d'.cap v r1 r2 (fun e he => by rw [List.mem_singleton.1 he]; exact ih) 1 rfl (by omega)).mono fun r w' h => ⟨h.1, hv.trans (h.2.mono hv.size)⟩
  | bi op a a2 ih ih2 =>
    intro ok ok' d d' W ⟨h0, b, d1, d2, h1, h2, h3, h4, h5, h6, h7⟩ ⟨h0', b', d1', d2', h1', h2', h3', h4', h5', h6', h7'⟩
    refine sameExpr_like d d' W (h0.like h0') fun v hv => ?_
    rw [h0.2.2.2.2.2.2, h0'.2.2.2.2.2.2]
    have r1 : ExRow ok v d.ao [a, a2] := .inr ⟨b, h1, Nat.lt_of_lt_of_le h3 hv.size, fun i hi => by
      match i, hi with
      | 0, _ => exact ⟨d1, fun j u hu => (hv.cell h3).trans (h4 j u hu), h6.later hv⟩
      | 1, _ => exact ⟨d2, fun j u hu => (hv.cell h3).trans (h5 j u hu), h7.later hv⟩⟩
    have r2 : ExRow ok' v d'.ao [a, a2] := .inr ⟨b', h1', Nat.lt_of_lt_of_le h3' hv.size, fun i hi => by
      match i, hi with
      | 0, _ => exact ⟨d1', fun j u hu => (hv.cell h3').trans (h4' j u hu), h6'.later hv⟩
      | 1, _ => exact ⟨d2', fun j u hu => (hv.cell h3').trans (h5' j u hu), h7'.later hv⟩⟩
    exact (sameExprs_same [a, a2] d.ao d'.ao d.cap d'.cap v r1 r2 (fun e he => by
      rcases List.mem_cons.1 he with h | h
      · rw [h]; exact ih
      · rw [List.mem_singleton.1 h]; exact ih2) 2 rfl (by omega)).mono fun r w' h => ⟨h.1, hv.trans (h.2.mono hv.size)⟩

end Go.Proofs.YtedinkoapieakaaDoor

/- sameExprs at rows in memory that are the same. -/
namespace Go.Proofs.YtedinkoapieakaaDoor
open Go.ChangeShapes Go.WideShapes Go.ChangeAt Go.RowKit

theorem exprs_same {lo lo' : Nat} (l : List Ex) (x y : SL) (w : World) (hx : RowIs kEx lo 35 8 w x l) (hy : RowIs kEx lo' 35 8 w y l) :
    Calls Tryd.prog 22 #[.slice x.ao x.n x.cap, .slice y.ao y.n y.cap] w fun e w' => e = .returned (.bool true) ∧ Below w.heap.size w w' := by
  have key : ∀ {lo : Nat} {z : SL}, RowIs kEx lo 35 8 w z l → z.n = l.length ∧ ExRow (fun b => lo ≤ b) w z.ao l := by
    intro lo z hz
    obtain ⟨h1, h2⟩ := RowIs.cells (fun _ => rfl) hz
    refine ⟨h1, ?_⟩
    rcases h2 with h | ⟨b, e1, e2, e3⟩
    · exact .inl h
    · exact .inr ⟨b, e1, e2, fun i hi => by
        obtain ⟨d, k1, k2⟩ := e3 i hi
        exact ⟨d, fun j u hu => k2 j u hu, k1⟩⟩
  obtain ⟨h1, h2⟩ := key hx
  obtain ⟨h3, h4⟩ := key hy
  have h301 : x.n ≤ 301 := by obtain ⟨_, _, _, h⟩ := hx; exact h
  have e : y.n = x.n := h3.trans h1.symm
  rw [e]
  exact sameExprs_same l x.ao y.ao x.cap y.cap w h2 h4 (fun e _ => sameExpr_same e) x.n h1 h301

theorem set9_at {W : World} {b off : Nat} {d : List UInt8 × ED} (h : ∀ j u, (kSet.cel d)[j]? = some u → W.cell? ⟨b, off + j, none⟩ = some u) : W.cell? ⟨b, off, none⟩ = some (.string (str d.1)) ∧ W.cell? ⟨b, off + 1, none⟩ = some (.int .i64 d.2.op) ∧ W.cell? ⟨b, off + 2, none⟩ = some (.int .i64 d.2.vk) ∧ W.cell? ⟨b, off + 3, none⟩ = some (.int .i64 d.2.vi) ∧ W.cell? ⟨b, off + 4, none⟩ = some (.string d.2.vt) ∧
    W.cell? ⟨b, off + 5, none⟩ = some (.string d.2.tb) ∧ W.cell? ⟨b, off + 6, none⟩ = some (.string d.2.nm) ∧ W.cell? ⟨b, off + 7, none⟩ = some (.int .i64 0) ∧ W.cell? ⟨b, off + 8, none⟩ = some (.slice d.2.ao d.2.n d.2.cap) :=
  ⟨h 0 _ rfl, h 1 _ rfl, h 2 _ rfl, h 3 _ rfl, h 4 _ rfl, h 5 _ rfl, h 6 _ rfl, h 7 _ rfl, h 8 _ rfl⟩

end Go.Proofs.YtedinkoapieakaaDoor

/- sameSets at rows in memory that are the same. -/
namespace Go.Proofs.YtedinkoapieakaaDoor
open Go.ChangeShapes Go.WideShapes Go.ChangeAt Go.RowKit

set_option maxRecDepth 100000 in
set_option maxHeartbeats 4000000 in
theorem sameSets_same {lo lo' : Nat} (l : List (List UInt8 × Ex)) (x y : SL) (w : World) (hx : RowIs kSet lo 71 9 w x l) (hy : RowIs kSet lo' 71 9 w y l) :
    Calls Tryd.prog 23 #[.slice x.ao x.n x.cap, .slice y.ao y.n y.cap] w fun e w' => e = .returned (.bool true) ∧ Below w.heap.size w w' := by
  obtain ⟨ao, n, cap⟩ := x
  obtain ⟨ao2, n2, cap2⟩ := y
  obtain ⟨ds, hd⟩ := hx
  have h301 : n ≤ 301 := hd.2.2
  obtain ⟨hn, HC⟩ := RowIs.cells (fun _ => rfl) ⟨ds, hd⟩
  obtain ⟨hn2, HC2⟩ := RowIs.cells (fun _ => rfl) hy
  simp only at hn hn2 HC HC2 ⊢
  have e2 : n2 = n := hn2.trans hn.symm
  subst e2
  have H1 := hide HC
  have H2 := hide HC2
  have HN := hide hn
  clear hy hd hn hn2 HC HC2
  go_enter Tryd.func23, Tryd.ntmps23
  go_wp2
  go_loopw [5] (fun v wr => ∃ k : Nat, k ≤ n2 ∧ v = .int .i64 (k : Int) ∧ Hid (Below w.heap.size w wr)) (fun v _ => n2 - (intOf v).toNat)
  case atStart => exact ⟨0, Nat.zero_le _, rfl, Below.refl _ _⟩
  case round =>
    obtain ⟨k, hk, rfl, HB⟩ := hrel
    by_cases hlt : k < n2
    · have hlt1 : (k : Int) < (n2 : Int) := by omega
      have hlt2 : k < l.length := by rw [← HN.out]; exact hlt
      rcases H1.out with h0 | ⟨b, rfl, hb, h1⟩
      · rw [h0] at hlt2; cases hlt2
      rcases H2.out with h0 | ⟨b', rfl, hb', h1'⟩
      · rw [h0] at hlt2; cases hlt2
      obtain ⟨⟨nm, d⟩, hr, hc⟩ := h1 k hlt2
      obtain ⟨⟨nm', d'⟩, hr', hc'⟩ := h1' k hlt2
      have e : nm' = nm := hr'.1.symm.trans hr.1
      subst e
      have HS : ∀ v1, Below w.heap.size w v1 → Calls Tryd.prog 24 #[exval d, exval d'] v1 fun e w' => e = .returned (.bool true) ∧ Below w.heap.size w w' := by
        intro v1 h1
        exact (sameExpr_same (l[k]).2 _ _ d d' v1 (hr.2.later h1) (hr'.2.later h1)).mono (fun e w' h => ⟨h.1, h1.trans (h.2.mono h1.size)⟩)
      have HC1 := hide (fun (wq : World) (hq : Below w.heap.size w wq) => set9_at (W := wq) (b := b) (off := k * 9) (d := (nm', d)) (fun j u hu => (hq.cell hb).trans (hc j u hu)))
      have HC2 := hide (fun (wq : World) (hq : Below w.heap.size w wq) => set9_at (W := wq) (b := b') (off := k * 9) (d := (nm', d')) (fun j u hu => (hq.cell hb').trans (hc' j u hu)))
      clear h1 h1' hc hc' hr hr' hlt2
      have bx : Below w.heap.size w wr.drew := HB.out.drew
      go_wp2
      refine wp_region_held (S := fun W => Below w.heap.size w W) (by kernel_rfl) ?_
      change wpAnyH _ _ _ _ _ 25 #[false, false, false, false, false, false, false, false, false, false, false, false, false, false, false, false, false, false, false, false, false, false, false, false, false] _ wr.drew
      refine wpAnyH_take (i := 0) (v := .slice (some ⟨b, 0, none⟩) n2 cap) rfl (by kernel_rfl) (by kernel_rfl) (by kernel_rfl) (fun _ _ _ h => h) (Or.inl ⟨by kernel_rfl, ?_⟩) bx ?_
      · intro wq hq
        go_simp
      simp only [Act.put, List.setIfInBounds_toArray, List.set_cons_zero]
      refine wpAnyH_take (i := 1) (v := .int .i64 (k : Int)) rfl (by kernel_rfl) (by kernel_rfl) (by kernel_rfl) (fun _ _ _ h => h) (Or.inl ⟨by kernel_rfl, ?_⟩) bx ?_
      · intro wq hq
        go_simp
      simp only [Act.put, List.setIfInBounds_toArray, List.set_cons_zero, List.set_cons_succ]
      refine wpAnyH_take (i := 2) (v := .pointer (some ⟨b, k * 9, none⟩)) rfl (by kernel_rfl) (by kernel_rfl) (by kernel_rfl) (fun _ _ _ h => h) (Or.inl ⟨by kernel_rfl, ?_⟩) bx ?_
      · intro wq hq
        go_simp
      simp only [Act.put, List.setIfInBounds_toArray, List.set_cons_zero, List.set_cons_succ]
      refine wpAnyH_take (i := 3) (v := .pointer (some ⟨b, k * 9, none⟩)) rfl (by kernel_rfl) (by kernel_rfl) (by kernel_rfl) (fun _ _ _ h => h) (Or.inl ⟨by kernel_rfl, ?_⟩) bx ?_
      · intro wq hq
        go_simp
      simp only [Act.put, List.setIfInBounds_toArray, List.set_cons_zero, List.set_cons_succ]
      refine wpAnyH_take (i := 4) (v := (.string (str nm'))) rfl (by kernel_rfl) (by kernel_rfl) (by kernel_rfl) (fun _ _ _ h => h) (Or.inl ⟨by kernel_rfl, ?_⟩) bx ?_
      · intro wq hq
        have hh := HC1.out wq hq
        clear HC1 HC2
        obtain ⟨q0, q1, q2, q3, q4, q5, q6, q7, q8⟩ := hh
        go_simp
      simp only [Act.put, List.setIfInBounds_toArray, List.set_cons_zero, List.set_cons_succ]
      refine wpAnyH_take (i := 5) (v := (.slice (some ⟨b', 0, none⟩) n2 cap2)) rfl (by kernel_rfl) (by kernel_rfl) (by kernel_rfl) (fun _ _ _ h => h) (Or.inl ⟨by kernel_rfl, ?_⟩) bx ?_
      · intro wq hq
        go_simp
      simp only [Act.put, List.setIfInBounds_toArray, List.set_cons_zero, List.set_cons_succ]
      refine wpAnyH_take (i := 6) (v := .int .i64 (k : Int)) rfl (by kernel_rfl) (by kernel_rfl) (by kernel_rfl) (fun _ _ _ h => h) (Or.inl ⟨by kernel_rfl, ?_⟩) bx ?_
      · intro wq hq
        go_simp
      simp only [Act.put, List.setIfInBounds_toArray, List.set_cons_zero, List.set_cons_succ]
      refine wpAnyH_take (i := 7) (v := (.pointer (some ⟨b', k * 9, none⟩))) rfl (by kernel_rfl) (by kernel_rfl) (by kernel_rfl) (fun _ _ _ h => h) (Or.inl ⟨by kernel_rfl, ?_⟩) bx ?_
      · intro wq hq
        go_simp
      simp only [Act.put, List.setIfInBounds_toArray, List.set_cons_zero, List.set_cons_succ]
      refine wpAnyH_take (i := 8) (v := (.pointer (some ⟨b', k * 9, none⟩))) rfl (by kernel_rfl) (by kernel_rfl) (by kernel_rfl) (fun _ _ _ h => h) (Or.inl ⟨by kernel_rfl, ?_⟩) bx ?_
      · intro wq hq
        go_simp
      simp only [Act.put, List.setIfInBounds_toArray, List.set_cons_zero, List.set_cons_succ]
      refine wpAnyH_take (i := 9) (v := (.string (str nm'))) rfl (by kernel_rfl) (by kernel_rfl) (by kernel_rfl) (fun _ _ _ h => h) (Or.inl ⟨by kernel_rfl, ?_⟩) bx ?_
      · intro wq hq
        have hh := HC2.out wq hq
        clear HC1 HC2
        obtain ⟨q0, q1, q2, q3, q4, q5, q6, q7, q8⟩ := hh
        go_simp
      simp only [Act.put, List.setIfInBounds_toArray, List.set_cons_zero, List.set_cons_succ]
      refine wpAnyH_take (i := 10) (v := .bool false) rfl (by kernel_rfl) (by kernel_rfl) (by kernel_rfl) (fun _ _ _ h => h) (Or.inl ⟨by kernel_rfl, ?_⟩) bx ?_
      · intro wq hq
        go_simp
      simp only [Act.put, List.setIfInBounds_toArray, List.set_cons_zero, List.set_cons_succ]
      refine wpAnyH_take (i := 11) (v := .bool false) rfl (by kernel_rfl) (by kernel_rfl) (by kernel_rfl) (fun _ _ _ h => h) (Or.inl ⟨by kernel_rfl, ?_⟩) bx ?_
      · intro wq hq
        go_simp
      simp only [Act.put, List.setIfInBounds_toArray, List.set_cons_zero, List.set_cons_succ]
      refine wpAnyH_take (i := 12) (v := .slice (some ⟨b, 0, none⟩) n2 cap) rfl (by kernel_rfl) (by kernel_rfl) (by kernel_rfl) (fun _ _ _ h => h) (Or.inl ⟨by kernel_rfl, ?_⟩) bx ?_
      · intro wq hq
        go_simp
      simp only [Act.put, List.setIfInBounds_toArray, List.set_cons_zero, List.set_cons_succ]
      refine wpAnyH_take (i := 13) (v := .int .i64 (k : Int)) rfl (by kernel_rfl) (by kernel_rfl) (by kernel_rfl) (fun _ _ _ h => h) (Or.inl ⟨by kernel_rfl, ?_⟩) bx ?_
      · intro wq hq
        go_simp
      simp only [Act.put, List.setIfInBounds_toArray, List.set_cons_zero, List.set_cons_succ]
      refine wpAnyH_take (i := 14) (v := .pointer (some ⟨b, k * 9, none⟩)) rfl (by kernel_rfl) (by kernel_rfl) (by kernel_rfl) (fun _ _ _ h => h) (Or.inl ⟨by kernel_rfl, ?_⟩) bx ?_
      · intro wq hq
        go_simp
      simp only [Act.put, List.setIfInBounds_toArray, List.set_cons_zero, List.set_cons_succ]
      refine wpAnyH_take (i := 15) (v := .pointer (some ⟨b, k * 9 + 1, none⟩)) rfl (by kernel_rfl) (by kernel_rfl) (by kernel_rfl) (fun _ _ _ h => h) (Or.inl ⟨by kernel_rfl, ?_⟩) bx ?_
      · intro wq hq
        go_simp
      simp only [Act.put, List.setIfInBounds_toArray, List.set_cons_zero, List.set_cons_succ]
      refine wpAnyH_take (i := 16) (v := exval d) rfl (by kernel_rfl) (by kernel_rfl) (by kernel_rfl) (fun _ _ _ h => h) (Or.inl ⟨by kernel_rfl, ?_⟩) bx ?_
      · intro wq hq
        have hh := HC1.out wq hq
        clear HC1 HC2
        obtain ⟨q0, q1, q2, q3, q4, q5, q6, q7, q8⟩ := hh
        go_simp
      simp only [Act.put, List.setIfInBounds_toArray, List.set_cons_zero, List.set_cons_succ]
      refine wpAnyH_take (i := 17) (v := (.slice (some ⟨b', 0, none⟩) n2 cap2)) rfl (by kernel_rfl) (by kernel_rfl) (by kernel_rfl) (fun _ _ _ h => h) (Or.inl ⟨by kernel_rfl, ?_⟩) bx ?_
      · intro wq hq
        go_simp
      simp only [Act.put, List.setIfInBounds_toArray, List.set_cons_zero, List.set_cons_succ]
      refine wpAnyH_take (i := 18) (v := .int .i64 (k : Int)) rfl (by kernel_rfl) (by kernel_rfl) (by kernel_rfl) (fun _ _ _ h => h) (Or.inl ⟨by kernel_rfl, ?_⟩) bx ?_
      · intro wq hq
        go_simp
      simp only [Act.put, List.setIfInBounds_toArray, List.set_cons_zero, List.set_cons_succ]
      refine wpAnyH_take (i := 19) (v := (.pointer (some ⟨b', k * 9, none⟩))) rfl (by kernel_rfl) (by kernel_rfl) (by kernel_rfl) (fun _ _ _ h => h) (Or.inl ⟨by kernel_rfl, ?_⟩) bx ?_
      · intro wq hq
        go_simp
      simp only [Act.put, List.setIfInBounds_toArray, List.set_cons_zero, List.set_cons_succ]
      refine wpAnyH_take (i := 20) (v := (.pointer (some ⟨b', k * 9 + 1, none⟩))) rfl (by kernel_rfl) (by kernel_rfl) (by kernel_rfl) (fun _ _ _ h => h) (Or.inl ⟨by kernel_rfl, ?_⟩) bx ?_
      · intro wq hq
        go_simp
      simp only [Act.put, List.setIfInBounds_toArray, List.set_cons_zero, List.set_cons_succ]
      refine wpAnyH_take (i := 21) (v := (exval d')) rfl (by kernel_rfl) (by kernel_rfl) (by kernel_rfl) (fun _ _ _ h => h) (Or.inl ⟨by kernel_rfl, ?_⟩) bx ?_
      · intro wq hq
        have hh := HC2.out wq hq
        clear HC1 HC2
        obtain ⟨q0, q1, q2, q3, q4, q5, q6, q7, q8⟩ := hh
        go_simp
      simp only [Act.put, List.setIfInBounds_toArray, List.set_cons_zero, List.set_cons_succ]
      refine wpAnyH_ready (rs := [22]) (by kernel_rfl) (by simp) ?_
      refine AllReadyH.cons rfl (fun K1 hK1 => ?_) AllReadyH.nil
      rw [if_pos (by kernel_rfl)]
      unfold Oper.wp
      go_simp
      go_wp2_with (go_at_call 24; refine (HS _ bx).mono ?_; rintro e w3 ⟨rfl, b3⟩)
      refine hK1.out _ _ b3 (fun _ => ?_)
      simp only [List.setIfInBounds_toArray, List.set_cons_zero, List.set_cons_succ]
      refine wpAnyH_take (i := 23) (v := .bool false) rfl (by kernel_rfl) (by kernel_rfl) (by kernel_rfl) (fun _ _ _ h => h) (Or.inl ⟨by kernel_rfl, ?_⟩) b3 ?_
      · intro wq hq
        go_simp
      simp only [Act.put, List.setIfInBounds_toArray, List.set_cons_zero, List.set_cons_succ]
      refine wpAnyH_take (i := 24) (v := .bool false) rfl (by kernel_rfl) (by kernel_rfl) (by kernel_rfl) (fun _ _ _ h => h) (Or.inl ⟨by kernel_rfl, ?_⟩) b3 ?_
      · intro wq hq
        go_simp
      simp only [Act.put, List.setIfInBounds_toArray, List.set_cons_zero, List.set_cons_succ]
      refine wpAnyH_done (by kernel_rfl) ?_ _
      go_wp2
      go_roundw
      case rel => exact ⟨k + 1, by omega, by go_num, b3⟩
      case measure => simp [intOf]; omega
    · have hlt1 : ¬ (k : Int) < (n2 : Int) := by omega
      go_wp2
      go_ret
      exact ⟨rfl, HB.out⟩

end Go.Proofs.YtedinkoapieakaaDoor

/- Two statements in memory that are the same, told as the same. -/
namespace Go.Proofs.YtedinkoapieakaaDoor
open Go.ChangeShapes Go.WideShapes Go.ChangeAt Go.RowKit

theorem rowOwn_later {W W' : World} {lo : Nat} {e : TypeId} {size n : Nat} {v : Value} {xs : List Value} (h : W.ownsRow lo e size v n xs) (hb : Below W.heap.size W W') : W'.ownsRow lo e size v n xs := by
  refine ⟨h.1, ?_⟩
  rcases h.2 with hn | ⟨g, cap, cur, rfl, h1, h2, h3⟩
  · exact .inl hn
  · exact .inr ⟨g, cap, cur, rfl, h1, (hb.block g (Array.getElem?_eq_some_iff.1 h2).1).trans h2, h3⟩

theorem RowIs.later {α D : Type} {K : Kind α D} {lo : Nat} {e : TypeId} {size : Nat} {W W' : World} {x : SL} {l : List α} (h : RowIs K lo e size W x l) (hb : Below W.heap.size W W') : RowIs K lo e size W' x l := by
  obtain ⟨ds, h1, h2⟩ := h
  exact ⟨ds, ⟨rowOwn_later h1.own hb, h1.each.mono fun _ _ hr => K.move hb.size (fun b _ hlt => hb.block b hlt) (fun _ hb _ => hb) hr⟩, h2⟩

theorem IsStm.later {lo : Nat} {W W' : World} {t : Stm} {x : SD} (h : IsStm lo W t x) (hb : Below W.heap.size W W') : IsStm lo W' t x :=
  ⟨h.kind, h.name, h.table, h.other, h.co.later hb, h.nm.later hb, h.va.later hb, h.se.later hb, h.on.later hb, h.wh.later hb, h.gr.later hb, h.od.later hb, h.lim, h.limit⟩

/-- the cells of a statement's variable -/
def StmAt (W : World) (B : Nat) (x : SD) : Prop := B < W.heap.size ∧ ∀ j u, (stmCells x)[j]? = some u → W.cell? ⟨B, j, none⟩ = some u
theorem StmAt.later {W W' : World} {B : Nat} {x : SD} (h : StmAt W B x) (hb : Below W.heap.size W W') : StmAt W' B x := ⟨Nat.lt_of_lt_of_le h.1 hb.size, fun j u hu => (hb.cell (p := ⟨B, j, none⟩) h.1).trans (h.2 j u hu)⟩

theorem wpList_box_stm {w : World} {ops : Array Oper} {rest : List Oper} {o : Oper} {a : Act} {Q : Exit → Act → World → Prop} (hgd : o.guard = none) (s : Operand) (ho : o.op = .box 38 s) (x : SD) (hs : a.eval s = stmval x)
    (h : ∀ w', Hid (Below w.heap.size w w') → Hid (StmAt w' w.heap.size x) → wpList Tryd.prog ops Q rest (a.put o.dst (.pointer (some ⟨w.heap.size, 0, none⟩))) w') : wpList Tryd.prog ops Q (o :: rest) a w := by
  refine wpList_plain hgd fun K' hK' => ?_
  unfold Oper.wp
  have h1 : (Instr.box 38 (stmval x)).run Tryd.prog w = .ok (.pointer (some ⟨w.heap.size, 0, none⟩)) (w.alloc (.cells (stmCells x).toArray 38)) := by
    simp [go_sem]
  simp [execOp, ho, hs, h1, Result.andThen]
  refine hK' _ _ (h _ ((Below.refl _ w).alloc (Nat.le_refl _) _) ⟨by simp, fun j u hu => ?_⟩)
  simp [hu]

set_option maxRecDepth 100000 in
set_option maxHeartbeats 8000000 in
theorem sameStatement_same {lo lo' : Nat} (t : Stm) (x y : SD) (w : World) (hx : IsStm lo w t x) (hy : IsStm lo' w t y) :
    Calls Tryd.prog 10 #[stmval x, stmval y] w fun e w' => e = .returned (.bool true) ∧ Below w.heap.size w w' := by
  have cC : Hid (∀ V, Hid (Below w.heap.size w V) → Calls Tryd.prog 20 #[.slice x.co.ao x.co.n x.co.cap, .slice y.co.ao y.co.n y.co.cap] V fun e w' => e = .returned (.bool true) ∧ Hid (Below V.heap.size V w')) := fun V hV =>
    sameColumns_same t.columns x.co y.co V (hx.co.later hV.out) (hy.co.later hV.out)
  have cT : Hid (∀ V, Hid (Below w.heap.size w V) → Calls Tryd.prog 21 #[.slice x.nm.ao x.nm.n x.nm.cap, .slice y.nm.ao y.nm.n y.nm.cap] V fun e w' => e = .returned (.bool true) ∧ Hid (Below V.heap.size V w')) := fun V hV =>
    sameTexts_same t.names x.nm y.nm V (hx.nm.later hV.out) (hy.nm.later hV.out)
  have cV : Hid (∀ V, Hid (Below w.heap.size w V) → Calls Tryd.prog 22 #[.slice x.va.ao x.va.n x.va.cap, .slice y.va.ao y.va.n y.va.cap] V fun e w' => e = .returned (.bool true) ∧ Hid (Below V.heap.size V w')) := fun V hV =>
    exprs_same t.values x.va y.va V (hx.va.later hV.out) (hy.va.later hV.out)
  have cS : Hid (∀ V, Hid (Below w.heap.size w V) → Calls Tryd.prog 23 #[.slice x.se.ao x.se.n x.se.cap, .slice y.se.ao y.se.n y.se.cap] V fun e w' => e = .returned (.bool true) ∧ Hid (Below V.heap.size V w')) := fun V hV =>
    sameSets_same t.sets x.se y.se V (hx.se.later hV.out) (hy.se.later hV.out)
  have cO : Hid (∀ V, Hid (Below w.heap.size w V) → Calls Tryd.prog 24 #[exval x.on, exval y.on] V fun e w' => e = .returned (.bool true) ∧ Hid (Below V.heap.size V w')) := fun V hV =>
    sameExpr_same t.on _ _ x.on y.on V (hx.on.later hV.out) (hy.on.later hV.out)
  have cW : Hid (∀ V, Hid (Below w.heap.size w V) → Calls Tryd.prog 24 #[exval x.wh, exval y.wh] V fun e w' => e = .returned (.bool true) ∧ Hid (Below V.heap.size V w')) := fun V hV =>
    sameExpr_same t.wher _ _ x.wh y.wh V (hx.wh.later hV.out) (hy.wh.later hV.out)
  have cG : Hid (∀ V, Hid (Below w.heap.size w V) → Calls Tryd.prog 22 #[.slice x.gr.ao x.gr.n x.gr.cap, .slice y.gr.ao y.gr.n y.gr.cap] V fun e w' => e = .returned (.bool true) ∧ Hid (Below V.heap.size V w')) := fun V hV =>
    exprs_same t.groups x.gr y.gr V (hx.gr.later hV.out) (hy.gr.later hV.out)
  have cD : Hid (∀ V, Hid (Below w.heap.size w V) → Calls Tryd.prog 25 #[.slice x.od.ao x.od.n x.od.cap, .slice y.od.ao y.od.n y.od.cap] V fun e w' => e = .returned (.bool true) ∧ Hid (Below V.heap.size V w')) := fun V hV =>
    sameOrders_same t.orders x.od y.od V (hx.od.later hV.out) (hy.od.later hV.out)
  have e_kind : x.kind = y.kind := hx.kind.trans hy.kind.symm
  have e_name : x.name = y.name := hx.name.trans hy.name.symm
  have e_table : x.table = y.table := hx.table.trans hy.table.symm
  have e_other : x.other = y.other := hx.other.trans hy.other.symm
  have e_lim : x.lim = y.lim := hx.lim.trans hy.lim.symm
  have e_limit : x.limit = y.limit := hx.limit.trans hy.limit.symm
  obtain ⟨xk, xn, xt, xo, xco, xnm, xva, xse, xon, xwh, xgr, xod, xl, xm⟩ := x
  obtain ⟨yk, yn, yt, yo, yco, ynm, yva, yse, yon, ywh, ygr, yod, yl, ym⟩ := y
  simp only at e_kind e_name e_table e_other e_lim e_limit
  subst e_kind e_name e_table e_other e_lim e_limit
  simp only at cC cT cV cS cO cW cG cD
  clear hx hy
  go_enter Tryd.func10, Tryd.ntmps10
  go_wp2_with (first
    | (refine wpList_box_stm rfl _ rfl ⟨xk, xn, xt, xo, xco, xnm, xva, xse, xon, xwh, xgr, xod, xl, xm⟩ rfl ?_; intro w1 b1 s1)
    | (refine wpList_box_stm rfl _ rfl ⟨xk, xn, xt, xo, yco, ynm, yva, yse, yon, ywh, ygr, yod, xl, xm⟩ rfl ?_; intro w2 b2 s2; have B2 : Hid (Below w.heap.size w w2) := b1.out.trans (b2.out.mono b1.out.size); have S2 : Hid (StmAt w2 w.heap.size _) := s1.out.later b2.out; have p0 := S2.out.2 0 _ rfl; have q0 := s2.out.2 0 _ rfl; have p1 := S2.out.2 1 _ rfl; have q1 := s2.out.2 1 _ rfl; have p2 := S2.out.2 2 _ rfl; have q2 := s2.out.2 2 _ rfl; have p3 := S2.out.2 3 _ rfl; have q3 := s2.out.2 3 _ rfl; have p4 := S2.out.2 4 _ rfl; have q4 := s2.out.2 4 _ rfl)
    | (go_at_call 20; (with_reducible refine (cC.out _ B2).mono ?_); rintro e w3 ⟨rfl, b3⟩; have B3 : Hid (Below w.heap.size w w3) := B2.out.trans (b3.out.mono B2.out.size); have S3 : Hid (StmAt w3 w.heap.size _) := S2.out.later b3.out; have s3 : Hid (StmAt w3 w1.heap.size _) := s2.out.later b3.out; have p5 := S3.out.2 5 _ rfl; have q5 := s3.out.2 5 _ rfl)
    | (go_at_call 21; (with_reducible refine (cT.out _ B3).mono ?_); rintro e w4 ⟨rfl, b4⟩; have B4 : Hid (Below w.heap.size w w4) := B3.out.trans (b4.out.mono B3.out.size); have S4 : Hid (StmAt w4 w.heap.size _) := S3.out.later b4.out; have s4 : Hid (StmAt w4 w1.heap.size _) := s3.out.later b4.out; have p6 := S4.out.2 6 _ rfl; have q6 := s4.out.2 6 _ rfl)
    | (go_at_call 22; (with_reducible refine (cV.out _ B4).mono ?_); rintro e w5 ⟨rfl, b5⟩; have B5 : Hid (Below w.heap.size w w5) := B4.out.trans (b5.out.mono B4.out.size); have S5 : Hid (StmAt w5 w.heap.size _) := S4.out.later b5.out; have s5 : Hid (StmAt w5 w1.heap.size _) := s4.out.later b5.out; have p7 := S5.out.2 7 _ rfl; have q7 := s5.out.2 7 _ rfl)
    | (go_at_call 23; (with_reducible refine (cS.out _ B5).mono ?_); rintro e w6 ⟨rfl, b6⟩; have B6 : Hid (Below w.heap.size w w6) := B5.out.trans (b6.out.mono B5.out.size); have S6 : Hid (StmAt w6 w.heap.size _) := S5.out.later b6.out; have s6 : Hid (StmAt w6 w1.heap.size _) := s5.out.later b6.out; have p8 := S6.out.2 8 _ rfl; have q8 := s6.out.2 8 _ rfl; have p9 := S6.out.2 9 _ rfl; have q9 := s6.out.2 9 _ rfl; have p10 := S6.out.2 10 _ rfl; have q10 := s6.out.2 10 _ rfl; have p11 := S6.out.2 11 _ rfl; have q11 := s6.out.2 11 _ rfl; have p12 := S6.out.2 12 _ rfl; have q12 := s6.out.2 12 _ rfl; have p13 := S6.out.2 13 _ rfl; have q13 := s6.out.2 13 _ rfl; have p14 := S6.out.2 14 _ rfl; have q14 := s6.out.2 14 _ rfl; have p15 := S6.out.2 15 _ rfl; have q15 := s6.out.2 15 _ rfl)
    | (go_at_call 24; (with_reducible refine (cO.out _ B6).mono ?_); rintro e w7 ⟨rfl, b7⟩; have B7 : Hid (Below w.heap.size w w7) := B6.out.trans (b7.out.mono B6.out.size); have S7 : Hid (StmAt w7 w.heap.size _) := S6.out.later b7.out; have s7 : Hid (StmAt w7 w1.heap.size _) := s6.out.later b7.out; have p16 := S7.out.2 16 _ rfl; have q16 := s7.out.2 16 _ rfl; have p17 := S7.out.2 17 _ rfl; have q17 := s7.out.2 17 _ rfl; have p18 := S7.out.2 18 _ rfl; have q18 := s7.out.2 18 _ rfl; have p19 := S7.out.2 19 _ rfl; have q19 := s7.out.2 19 _ rfl; have p20 := S7.out.2 20 _ rfl; have q20 := s7.out.2 20 _ rfl; have p21 := S7.out.2 21 _ rfl; have q21 := s7.out.2 21 _ rfl; have p22 := S7.out.2 22 _ rfl; have q22 := s7.out.2 22 _ rfl; have p23 := S7.out.2 23 _ rfl; have q23 := s7.out.2 23 _ rfl)
    | (go_at_call 24; (with_reducible refine (cW.out _ B7).mono ?_); rintro e w8 ⟨rfl, b8⟩; have B8 : Hid (Below w.heap.size w w8) := B7.out.trans (b8.out.mono B7.out.size); have S8 : Hid (StmAt w8 w.heap.size _) := S7.out.later b8.out; have s8 : Hid (StmAt w8 w1.heap.size _) := s7.out.later b8.out; have p24 := S8.out.2 24 _ rfl; have q24 := s8.out.2 24 _ rfl)
    | (go_at_call 22; (with_reducible refine (cG.out _ B8).mono ?_); rintro e w9 ⟨rfl, b9⟩; have B9 : Hid (Below w.heap.size w w9) := B8.out.trans (b9.out.mono B8.out.size); have S9 : Hid (StmAt w9 w.heap.size _) := S8.out.later b9.out; have s9 : Hid (StmAt w9 w1.heap.size _) := s8.out.later b9.out; have p25 := S9.out.2 25 _ rfl; have q25 := s9.out.2 25 _ rfl)
    | (go_at_call 25; (with_reducible refine (cD.out _ B9).mono ?_); rintro e w10 ⟨rfl, b10⟩; have B10 : Hid (Below w.heap.size w w10) := B9.out.trans (b10.out.mono B9.out.size); have S10 : Hid (StmAt w10 w.heap.size _) := S9.out.later b10.out; have s10 : Hid (StmAt w10 w1.heap.size _) := s9.out.later b10.out; have p26 := S10.out.2 26 _ rfl; have q26 := s10.out.2 26 _ rfl; have p27 := S10.out.2 27 _ rfl; have q27 := s10.out.2 27 _ rfl))
  go_ret
  exact ⟨rfl, B10.out⟩

end Go.Proofs.YtedinkoapieakaaDoor
