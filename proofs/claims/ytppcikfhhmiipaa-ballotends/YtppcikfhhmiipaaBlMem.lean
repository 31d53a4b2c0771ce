/- A ballot in memory: its variable, its voters, its map of rounds, each round's variable, its letters; a tag for each block that is the ballot's own. -/
import Derived.Test.YtppcikfhhmiipaaBlBase
import Derived.Test.YtppcikfhhmiipaaBlPlain
import Derived.LoopTactic
import Derived.Deep.RegionHeld3
import Derived.Maps.OwnSet
namespace Go.Proofs.Ytppcikfhhmiipaa
open Go.ChangeShapes Go.WideShapes Go.ChangeAt Go.RowKit Go.Maps

/-- these cells lie there, and may be written -/
def Cs (W : World) (B o : Nat) (cs : List Value) : Prop := ∀ (i : Nat) (v : Value), cs[i]? = some v → W.cell? ⟨B, o + i, none⟩ = some v ∧ W.frozen? ⟨B, o + i, none⟩ = false

theorem Cs.move {W W' : World} {B o : Nat} {cs : List Value} (h : Cs W B o cs) (e : W'.heap[B]? = W.heap[B]?) : Cs W' B o cs := fun i v hv =>
  ⟨(World.cell?_of_block (w := W) e).trans (h i v hv).1, (World.frozen?_of_block (w := W) e).trans (h i v hv).2⟩

theorem Cs.set {W : World} {B o : Nat} {cs : List Value} (h : Cs W B o cs) (i : Nat) (v : Value) : Cs (W.setCell ⟨B, o + i, none⟩ v) B o (cs.set i v) := fun j u hj => by
  refine ⟨?_, ?_⟩
  · by_cases e : j = i
    · subst e
      have hl : j < cs.length := by
        have := (List.getElem?_eq_some_iff.1 hj).1
        simpa using this
      rw [List.getElem?_set_self hl] at hj
      cases hj
      exact World.cell?_setCell_same' _ _ _ (by rw [(h j _ (List.getElem?_eq_getElem hl)).1]; rfl)
    · rw [List.getElem?_set_ne (fun e2 => e e2.symm)] at hj
      rw [World.cell?_setCell_other _ _ _ _ (by simp)]
      exact (h j u hj).1
  · rw [World.frozen?_setCell]
    by_cases e : j = i
    · subst e
      have hl : j < cs.length := by
        have := (List.getElem?_eq_some_iff.1 hj).1
        simpa using this
      exact (h j _ (List.getElem?_eq_getElem hl)).2
    · rw [List.getElem?_set_ne (fun e2 => e e2.symm)] at hj
      exact (h j u hj).2

/-- a cell of the same block, outside of these -/
theorem Cs.beside {W : World} {B o : Nat} {cs : List Value} (h : Cs W B o cs) (k : Nat) (v : Value) (hk : ∀ i, i < cs.length → o + i ≠ k) : Cs (W.setCell ⟨B, k, none⟩ v) B o cs := fun j u hj => by
  have hl := (List.getElem?_eq_some_iff.1 hj).1
  refine ⟨?_, ?_⟩
  · rw [World.cell?_setCell_other _ _ _ _ (by simp; exact fun e => hk j hl e.symm)]
    exact (h j u hj).1
  · rw [World.frozen?_setCell]
    exact (h j u hj).2

theorem Cs.lt {W : World} {B o : Nat} {c : Value} {cs : List Value} (h : Cs W B o (c :: cs)) : B < W.heap.size := World.block_lt_of_cell? _ _ (h 0 c rfl).1

theorem Cs.new (W : World) (cs : List Value) (zs : Array Value) (hz : zs = cs.toArray) (ty : TypeId) : Cs (W.alloc (.cells zs ty)) W.heap.size 0 cs := fun i v hv => by
  subst hz
  have hl := (List.getElem?_eq_some_iff.1 hv).1
  refine ⟨?_, ?_⟩
  · rw [Nat.zero_add]
    simpa using hv
  · rw [Nat.zero_add]
    simp

def ltC (l : Lt) : List Value := [.int .i64 l.rd, .int .i64 l.va, .int .i64 l.kd, .int .i64 l.vo, .int .i64 l.ro, .bool l.lost]
def ltV (l : Lt) : Value := .agg #[.int .i64 l.rd, .int .i64 l.va, .int .i64 l.kd, .int .i64 l.vo, .int .i64 l.ro, .bool l.lost]

def kLt : Kd Lt 6 where
  rel _ _ l cs := cs = ltC l
  move _ _ _ _ h := h
  len := by
    rintro _ _ _ _ rfl
    rfl
  one := by
    rintro _ _ l _ rfl x hx
    simp only [ltC, List.mem_cons, List.not_mem_nil, or_false] at hx
    rcases hx with rfl | rfl | rfl | rfl | rfl | rfl <;> rfl

theorem eltLt : Elt 42 78 6 48 := ⟨Try.underlying42, by
  obtain ⟨i0, hi, hz0, hz1, hz2⟩ := info_parts (show (Try.prog.info? 78).map (fun i => (i.zero, i.size, i.bytes)) = some (some (.agg #[.int .i64 0, .int .i64 0, .int .i64 0, .int .i64 0, .int .i64 0, .bool false]), 6, 48) by kernel_rfl)
  exact ⟨i0, _, hi, hz0, hz1, hz2, rfl⟩, by decide⟩

def vrC (v : Vr) : List Value := [.int .i64 v.rd, .int .i64 v.va, .int .i64 v.word]
def crC (c : Nat → Bool) : List Value := [.bool (c 0), .bool (c 1), .bool (c 2), .bool (c 3), .bool (c 4), .int .i64 (cnt c)]
def rnC (x : Rn) : List Value := [.int .i64 x.rd, .int .i64 x.va] ++ crC x.pr ++ crC x.ch ++ [.bool x.stopped, .bool x.told]

theorem keyedI : Keyed Try.prog 3 := int_keyed Try.underlying3
theorem zeroPt (w : World) : (zeroValue 68).run Try.prog w = .ok (.pointer none) w := by kernel_rfl

/-- an element reads as itself -/
def rH (v : Value) : Option (DataW Value × List MemPlace) := some (.held v, [])

/-- a round's variable, or none -/
def ptr (o : Option Rn) (a : Nat) : Value := match o with
  | none => .pointer none
  | some _ => .pointer (some ⟨a, 0, none⟩)

theorem keyR (r : Int) (hr : -9223372036854775808 ≤ r ∧ r ≤ 9223372036854775807) : keyOf Try.prog 3 (.int .i64 r) = some (.int .i64 r) :=
  keyOf_int_mk Try.underlying3 (by simp [Lit.wf, IntKind.min, IntKind.max, IntKind.bits, IntKind.signed]; omega)

structure BlI (B V M : Nat) (tg : Nat → Int) (ad : Int → Nat) (f : Value) (b : Bl) (W : World) : Prop where
  top : Cs W B 0 [.slice (some ⟨V, 0, none⟩) b.vs.length b.vs.length, .map (some M), f]
  vs : ∀ i v, b.vs[i]? = some v → Cs W V (i * 3) (vrC v)
  map : ∃ D, W.ownsMap Try.prog 3 rH M b.n D ∧ ∀ r : Int, D.atKey (.int .i64 r) (.held (.pointer none)) = .held (ptr (b.rs r) (ad r))
  rs : ∀ r x, b.rs r = some x → Cs W (ad r) 0 (rnC x)
  ls : Rows kLt (fun _ => True) W 0 78 f b.ls
  tB : tg B = -1
  tV : tg V = -2
  tM : tg M = -3
  tf : ∀ g, f.ownBlock = some g → tg g = -4
  tr : ∀ r x, b.rs r = some x → tg (ad r) = r ∧ 1 ≤ r
  out : ∀ x, W.heap.size ≤ x → tg x = 0

/-- nothing turns but what bears a tag; no block that was there changes its tag -/
structure Trn (tg tg' : Nat → Int) (w w' : World) : Prop where
  os : w'.os = w.os
  tape : w'.tape = w.tape
  output : w'.output = w.output
  size : w.heap.size ≤ w'.heap.size
  block : ∀ b, b < w.heap.size → tg b = 0 → w'.heap[b]? = w.heap[b]?
  tag : ∀ b, b < w.heap.size → tg' b = tg b

theorem Trn.of_below {tg : Nat → Int} {w w' : World} (h : Below w.heap.size w w') : Trn tg tg w w' := ⟨h.os, h.tape, h.output, h.size, fun b hb _ => h.block b hb, fun _ _ => rfl⟩
theorem Trn.refl (tg : Nat → Int) (w : World) : Trn tg tg w w := Trn.of_below (Below.refl _ _)
theorem Trn.trans {t1 t2 t3 : Nat → Int} {a b c : World} (h : Trn t1 t2 a b) (k : Trn t2 t3 b c) : Trn t1 t3 a c :=
  ⟨k.os.trans h.os, k.tape.trans h.tape, k.output.trans h.output, Nat.le_trans h.size k.size, fun x hx h1 => (k.block x (Nat.lt_of_lt_of_le hx h.size) ((h.tag x hx).trans h1)).trans (h.block x hx h1), fun x hx => (k.tag x (Nat.lt_of_lt_of_le hx h.size)).trans (h.tag x hx)⟩
/-- a cell of a block that bears a tag is written -/
theorem Trn.set {tg : Nat → Int} {w : World} {B i : Nat} {v : Value} (h : tg B ≠ 0) : Trn tg tg w (w.setCell ⟨B, i, none⟩ v) :=
  ⟨rfl, rfl, rfl, by simp, fun b _ hb => heap_setCell_other _ _ _ _ (fun e => h (by have e' : b = B := e; rw [← e']; exact hb)), fun _ _ => rfl⟩
theorem Trn.of_grown {tg : Nat → Int} {w w' : World} {row : Option Nat} (h : w.grownBy w' row) (hr : ∀ g, row = some g → tg g ≠ 0) : Trn tg tg w w' :=
  ⟨h.os, h.tape, h.output, h.size, fun b hb h0 => h.block b hb (fun e => hr b e.symm h0), fun _ _ => rfl⟩

section
variable {B V M : Nat} {tg : Nat → Int} {ad : Int → Nat} {f : Value} {b : Bl} {W W' : World}

theorem tag_ne {tg : Nat → Int} {x y : Nat} (h : tg x ≠ tg y) : x ≠ y := fun e => h (by rw [e])

theorem BlI.ltB (h : BlI B V M tg ad f b W) : B < W.heap.size := h.top.lt
theorem BlI.ltM (h : BlI B V M tg ad f b W) : M < W.heap.size := by
  obtain ⟨D, h1, _⟩ := h.map
  exact h1.lt
theorem BlI.ltR (h : BlI B V M tg ad f b W) {r : Int} {x : Rn} (hr : b.rs r = some x) : ad r < W.heap.size := Cs.lt (h.rs r x hr)

/-- all of its blocks stay -/
theorem BlI.move (h : BlI B V M tg ad f b W) (hs : W.heap.size ≤ W'.heap.size) (hb : ∀ x, x < W.heap.size → tg x ≠ 0 → W'.heap[x]? = W.heap[x]?) : BlI B V M tg ad f b W' := by
  have hB : W'.heap[B]? = W.heap[B]? := hb B h.ltB (by rw [h.tB]; decide)
  have hM : W'.heap[M]? = W.heap[M]? := hb M h.ltM (by rw [h.tM]; decide)
  refine ⟨h.top.move hB, fun i v hv => ?_, ?_, fun r x hr => ?_, ?_, h.tB, h.tV, h.tM, h.tf, h.tr, fun x hx => h.out x (by omega)⟩
  · exact (h.vs i v hv).move (hb V (h.vs i v hv).lt (by rw [h.tV]; decide))
  · obtain ⟨D, ⟨es, clock, h1, h2⟩, h3⟩ := h.map
    exact ⟨D, ⟨es, clock, hM.trans h1, h2⟩, h3⟩
  · obtain ⟨h1, h2⟩ := h.tr r x hr
    exact (h.rs r x hr).move (hb _ (h.ltR hr) (by rw [h1]; omega))
  · have hlt := own_lt' h.ls.choose_spec.1
    have hv : ∀ g, f.ownBlock = some g → W'.heap[g]? = W.heap[g]? := fun g hg => hb g (hlt g hg).2 (by rw [h.tf g hg]; decide)
    obtain ⟨css, h1, h2⟩ := h.ls
    exact ⟨css, own_kept h1 hv, All2.imp (fun _ _ q => q) h2⟩

theorem BlI.later (h : BlI B V M tg ad f b W) (hb : Below W.heap.size W W') : BlI B V M tg ad f b W' := h.move hb.size (fun x hx _ => hb.block x hx)

/-- a round is looked up, in whatever world has that block -/
theorem BlI.look (h : BlI B V M tg ad f b W) (r : Int) (hr : -9223372036854775808 ≤ r ∧ r ≤ 9223372036854775807) (U : World) (hU : U.heap[M]? = W.heap[M]?) :
    (Instr.lookup 41 (.map (some M)) (.int .i64 r) false).run Try.prog U = .ok (ptr (b.rs r) (ad r)) U := by
  obtain ⟨D, ⟨es, clock, h1, h2⟩, h3⟩ := h.map
  have ho : U.ownsMap Try.prog 3 rH M b.n D := ⟨es, clock, hU.trans h1, h2⟩
  obtain ⟨v', ps, hrun, hv⟩ := ho.lookup keyedI Try.underlying41 (zeroPt U) (zd := .held (.pointer none)) (zp := []) rfl (keyR r hr)
  rw [h3 r] at hv
  simp only [rH, Option.some.injEq, Prod.mk.injEq, DataW.held.injEq] at hv
  rw [hrun, hv.1]

theorem BlI.form (h : BlI B V M tg ad f b W) : ∃ a c, f = .slice a b.ls.length c := rows_form h.ls

/-- a cell of a round is written -/
theorem BlI.setR (h : BlI B V M tg ad f b W) {r : Int} {x : Rn} (hr : b.rs r = some x) (i : Nat) (v : Value) (y : Rn) (hy : (rnC x).set i v = rnC y) : BlI B V M tg ad f (b.setR r y) (W.setCell ⟨ad r, i, none⟩ v) := by
  obtain ⟨t1, t2⟩ := h.tr r x hr
  have hne : ∀ k, tg k ≠ r → (W.setCell ⟨ad r, i, none⟩ v).heap[k]? = W.heap[k]? := fun k hk => heap_setCell_other _ _ _ _ (fun e => hk (by have e' : k = ad r := e; rw [e', t1]))
  refine ⟨h.top.move (hne B (by rw [h.tB]; omega)), fun j u hu => (h.vs j u hu).move (hne V (by rw [h.tV]; omega)), ?_, fun k z hk => ?_, ?_, h.tB, h.tV, h.tM, h.tf, fun k z hk => ?_, fun k hk => h.out k (by simpa using hk)⟩
  · obtain ⟨D, h1, h3⟩ := h.map
    refine ⟨D, h1.setCell (a := ⟨ad r, i, none⟩) (show M ≠ ad r from tag_ne (tg := tg) (by rw [h.tM, t1]; omega)) _, fun k => ?_⟩
    rw [h3 k]
    simp only [Bl.setR]
    split
    · rename_i e
      rw [e, hr]
      rfl
    · rfl
  · simp only [Bl.setR] at hk
    split at hk
    · rename_i e
      subst e
      cases hk
      rw [← hy]
      have := (h.rs k x hr).set i v
      rwa [Nat.zero_add] at this
    · rename_i e
      obtain ⟨t3, t4⟩ := h.tr k z hk
      exact (h.rs k z hk).move (hne _ (by rw [t3]; exact e))
  · obtain ⟨css, h1, h2⟩ := h.ls
    exact ⟨css, own_kept h1 (fun g hg => hne g (by rw [h.tf g hg]; omega)), All2.imp (fun _ _ q => q) h2⟩
  · simp only [Bl.setR] at hk
    split at hk
    · rename_i e
      rw [e]
      exact ⟨t1, t2⟩
    · exact h.tr k z hk

/-- a cell of a voter is written -/
theorem BlI.setV (h : BlI B V M tg ad f b W) {k : Nat} {x : Vr} (hk : b.vs[k]? = some x) (i : Nat) (hi : i < 3) (v : Value) (y : Vr) (hy : (vrC x).set i v = vrC y) : BlI B V M tg ad f (b.setV k y) (W.setCell ⟨V, k * 3 + i, none⟩ v) := by
  have hne : ∀ j, tg j ≠ -2 → (W.setCell ⟨V, k * 3 + i, none⟩ v).heap[j]? = W.heap[j]? := fun j hj => heap_setCell_other _ _ _ _ (fun e => hj (by have e' : j = V := e; rw [e', h.tV]))
  have hkl := (List.getElem?_eq_some_iff.1 hk).1
  refine ⟨?_, fun j u hu => ?_, ?_, fun r z hr => ?_, ?_, h.tB, h.tV, h.tM, h.tf, h.tr, fun j hj => h.out j (by simpa using hj)⟩
  · have := h.top.move (hne B (by rw [h.tB]; omega))
    simpa [Bl.setV] using this
  · simp only [Bl.setV] at hu
    by_cases e : j = k
    · subst e
      rw [List.getElem?_set_self hkl] at hu
      cases hu
      rw [← hy]
      exact (h.vs j x hk).set i v
    · rw [List.getElem?_set_ne (fun e2 => e e2.symm)] at hu
      exact (h.vs j u hu).beside _ _ (fun m hm => by simp [vrC] at hm; omega)
  · obtain ⟨D, h1, h3⟩ := h.map
    exact ⟨D, h1.setCell (a := ⟨V, k * 3 + i, none⟩) (show M ≠ V from tag_ne (tg := tg) (by rw [h.tM, h.tV]; omega)) _, h3⟩
  · obtain ⟨t3, t4⟩ := h.tr r z hr
    exact (h.rs r z hr).move (hne _ (by rw [t3]; omega))
  · obtain ⟨css, h1, h2⟩ := h.ls
    exact ⟨css, own_kept h1 (fun g hg => hne g (by rw [h.tf g hg]; omega)), All2.imp (fun _ _ q => q) h2⟩

theorem map_rel (l : List Lt) (css : List (List Value)) (ok : Nat → Prop) (w : World) (h : All2 (kLt.rel ok w) l css) : css = l.map ltC := by
  induction l generalizing css with
  | nil => cases css with
    | nil => rfl
    | cons c cs => exact h.elim
  | cons x l ih => cases css with
    | nil => exact h.elim
    | cons c cs => rw [List.map_cons, ← ih cs h.2, show c = ltC x from h.1]

theorem rel_map (l : List Lt) (ok : Nat → Prop) (w : World) : All2 (kLt.rel ok w) l (l.map ltC) := by
  induction l with
  | nil => trivial
  | cons x l ih => exact ⟨rfl, ih⟩

theorem ltC_each (l : List Lt) : ∀ c ∈ l.map ltC, c.length = 6 := fun c hc => by
  obtain ⟨x, _, rfl⟩ := List.mem_map.1 hc
  rfl

/-- a letter -/
theorem BlI.letter (h : BlI B V M tg ad f b W) {k : Nat} {l : Lt} (hk : b.ls[k]? = some l) : ∃ g c, f = .slice (some ⟨g, 0, none⟩) b.ls.length c ∧ tg g = -4 ∧ g < W.heap.size ∧ Cs W g (k * 6) (ltC l) := by
  obtain ⟨css, h1, h2⟩ := h.ls
  have e := map_rel _ _ _ _ h2
  subst e
  have hkl := (List.getElem?_eq_some_iff.1 hk).1
  have hlt := own_lt' h1
  rcases h1.2 with ⟨_, h0⟩ | ⟨g, cap, cur, e, hb, hg, hc, hm, hs, ht⟩
  · omega
  · refine ⟨g, cap, e, h.tf g (by rw [e]; rfl), (hlt g (by rw [e]; rfl)).2, fun i v hv => ?_⟩
    have hi : i < 6 := by
      have := (List.getElem?_eq_some_iff.1 hv).1
      simpa [ltC] using this
    have h3 := flatten_at (size := 6) (ltC_each b.ls) (k := k) (c := ltC l) (by rw [List.getElem?_map, hk]; rfl) i hi
    rw [hv, ← ht, List.getElem?_take_of_lt (by omega), Array.getElem?_toList] at h3
    have hlt := (Array.getElem?_eq_some_iff.1 h3).1
    refine ⟨by simp [World.cell?, hg, h3], ?_⟩
    simp [World.frozen?, hg]

theorem flat_set (l : List Lt) (k : Nat) (x y : Lt) (hk : l[k]? = some x) (i : Nat) (hi : i < 6) (v : Value) (hy : (ltC x).set i v = ltC y) : ((l.set k y).map ltC).flatten = ((l.map ltC).flatten).set (k * 6 + i) v := by
  induction l generalizing k with
  | nil => cases hk
  | cons z l ih => cases k with
    | zero =>
      cases hk
      rw [List.set_cons_zero, List.map_cons, List.flatten_cons, List.map_cons, List.flatten_cons, ← hy, List.set_append_left _ _ (by simp [ltC]; omega)]
      simp
    | succ k =>
      have h6 : (ltC z).length = 6 := rfl
      rw [List.set_cons_succ, List.map_cons, List.flatten_cons, List.map_cons, List.flatten_cons, List.set_append_right _ _ (by rw [h6]; omega), h6, ih k hk]
      congr 2
      omega

/-- a letter is lost -/
theorem BlI.mark (h : BlI B V M tg ad f b W) {k g c : Nat} {l : Lt} (hk : b.ls[k]? = some l) (hf : f = .slice (some ⟨g, 0, none⟩) b.ls.length c) : BlI B V M tg ad f { b with ls := b.ls.set k { l with lost := true } } (W.setCell ⟨g, k * 6 + 5, none⟩ (.bool true)) := by
  have tg4 : tg g = -4 := h.tf g (by rw [hf]; rfl)
  have hne : ∀ j, tg j ≠ -4 → (W.setCell ⟨g, k * 6 + 5, none⟩ (.bool true)).heap[j]? = W.heap[j]? := fun j hj => heap_setCell_other _ _ _ _ (fun e => hj (by have e' : j = g := e; rw [e', tg4]))
  have hkl := (List.getElem?_eq_some_iff.1 hk).1
  refine ⟨h.top.move (hne B (by rw [h.tB]; omega)), fun j u hu => (h.vs j u hu).move (hne V (by rw [h.tV]; omega)), ?_, fun r z hr => ?_, ?_, h.tB, h.tV, h.tM, h.tf, h.tr, fun j hj => h.out j (by simpa using hj)⟩
  · obtain ⟨D, h1, h3⟩ := h.map
    exact ⟨D, h1.setCell (a := ⟨g, k * 6 + 5, none⟩) (show M ≠ g from tag_ne (tg := tg) (by rw [h.tM, tg4]; omega)) _, h3⟩
  · obtain ⟨t3, t4⟩ := h.tr r z hr
    exact (h.rs r z hr).move (hne _ (by rw [t3]; omega))
  · obtain ⟨css, h1, h2⟩ := h.ls
    have e := map_rel _ _ _ _ h2
    subst e
    refine ⟨_, ?_, rel_map _ _ _⟩
    refine ⟨(flatten_len (ltC_each _)).trans (by simp), ?_⟩
    rcases h1.2 with ⟨_, h0⟩ | ⟨g', cap, cur, e, hb, hg, hc, hm, hs, ht⟩
    · omega
    · rw [hf] at e
      simp only [Value.slice.injEq, Option.some.injEq, Addr.mk.injEq, true_and, and_true] at e
      obtain ⟨rfl, rfl⟩ := e
      refine .inr ⟨g, c, cur.setIfInBounds (k * 6 + 5) (.bool true), ?_, hb, ?_, ?_, hm, ?_, ?_⟩
      · rw [hf]
        simp
      · have hgl : g < W.heap.size := (Array.getElem?_eq_some_iff.1 hg).1
        simp only [World.setCell, Array.getElem?_modify, hg]
        simp
      · simpa using hc
      · simpa using hs
      · rw [flat_set b.ls k l _ hk 5 (by omega) (.bool true) rfl, ← ht, Array.toList_setIfInBounds, List.length_set, List.take_set]

theorem BlI.ltF (h : BlI B V M tg ad f b W) {g : Nat} (hg : f.ownBlock = some g) : g < W.heap.size := (own_lt' h.ls.choose_spec.1 g hg).2

/-- a letter is put behind the others, the top cell is set -/
theorem BlI.sent (h : BlI B V M tg ad f b W) {l : Lt} {f' : Value} {w' : World} (hr : Rows kLt (fun _ => True) w' 0 78 f' (b.ls ++ [l])) (hg : W.grownBy w' f.ownBlock) (hf : f'.ownBlock = f.ownBlock ∨ ∃ j, W.heap.size ≤ j ∧ j < w'.heap.size ∧ f'.ownBlock = some j) :
    ∃ tg', BlI B V M tg' ad f' { b with ls := b.ls ++ [l] } (w'.setCell ⟨B, 2, none⟩ f') ∧ Trn tg tg' W (w'.setCell ⟨B, 2, none⟩ f') := by
  have hB := h.ltB
  have hM := h.ltM
  have hfB : ∀ x, tg x ≠ -4 → x < W.heap.size → f'.ownBlock ≠ some x := fun x hx hl e => by
    rcases hf with hf | ⟨j, hj, _, hf⟩
    · rw [hf] at e
      exact hx (h.tf x e)
    · rw [hf] at e
      have := Option.some.inj e
      omega
  have hb : ∀ x, x < W.heap.size → tg x ≠ -4 → w'.heap[x]? = W.heap[x]? := fun x hx hne => hg.block x hx (fun e => hne (h.tf x e.symm))
  refine ⟨fun x => if f'.ownBlock = some x then -4 else if x < W.heap.size then tg x else 0, ?_, ?_⟩
  · have hval : ∀ x, tg x ≠ -4 → x < W.heap.size → (if f'.ownBlock = some x then -4 else if x < W.heap.size then tg x else 0 : Int) = tg x := fun x h1 h2 => by
      rw [if_neg (hfB x h1 h2), if_pos h2]
    have hne : ∀ x, x < W.heap.size → tg x ≠ -4 → tg x ≠ -1 → (w'.setCell ⟨B, 2, none⟩ f').heap[x]? = W.heap[x]? := fun x h1 h2 h3 => (heap_setCell_other _ _ _ _ (fun e => h3 (by have e' : x = B := e; rw [e', h.tB]))).trans (hb x h1 h2)
    refine ⟨?_, fun j u hu => ?_, ?_, fun r x hx => ?_, ?_, ?_, ?_, ?_, fun g e => if_pos e, fun r x hx => ?_, fun x hx => ?_⟩
    · have := ((h.top.move (hb B hB (by rw [h.tB]; decide))).set 2 f')
      rwa [Nat.zero_add] at this
    · exact (h.vs j u hu).move (hne V (h.vs j u hu).lt (by rw [h.tV]; decide) (by rw [h.tV]; decide))
    · obtain ⟨D, ⟨es, clock, h1, h2⟩, h3⟩ := h.map
      exact ⟨D, ⟨es, clock, (hne M hM (by rw [h.tM]; decide) (by rw [h.tM]; decide)).trans h1, h2⟩, h3⟩
    · obtain ⟨t3, t4⟩ := h.tr r x hx
      exact (h.rs r x hx).move (hne _ (h.ltR hx) (by rw [t3]; omega) (by rw [t3]; omega))
    · obtain ⟨css, h1, h2⟩ := hr
      exact ⟨css, own_kept h1 (fun g e => heap_setCell_other _ _ _ _ (fun e2 => hfB B (by rw [h.tB]; decide) hB (by rw [e]; exact congrArg some e2))), All2.imp (fun _ _ q => q) h2⟩
    · rw [hval B (by rw [h.tB]; decide) hB, h.tB]
    · by_cases hv : V < W.heap.size
      · rw [hval V (by rw [h.tV]; decide) hv, h.tV]
      · have := h.out V (by omega)
        rw [h.tV] at this
        cases this
    · rw [hval M (by rw [h.tM]; decide) hM, h.tM]
    · obtain ⟨t3, t4⟩ := h.tr r x hx
      refine ⟨?_, t4⟩
      rw [hval _ (by rw [t3]; omega) (h.ltR hx), t3]
    · have hx2 : w'.heap.size ≤ x := by simpa using hx
      have := hg.size
      rw [if_neg (fun e => ?_), if_neg (by omega)]
      rcases hf with hf | ⟨j, _, hj, hf⟩
      · rw [hf] at e
        have := h.ltF e
        omega
      · rw [hf] at e
        have := Option.some.inj e
        omega
  · refine ⟨hg.os, hg.tape, hg.output, by simpa using hg.size, fun x hx h0 => ?_, fun x hx => ?_⟩
    · exact (heap_setCell_other _ _ _ _ (fun e => by have e' : x = B := e; rw [e', h.tB] at h0; cases h0)).trans (hb x hx (by rw [h0]; decide))
    · show (if f'.ownBlock = some x then -4 else if x < W.heap.size then tg x else 0) = tg x
      by_cases e : f'.ownBlock = some x
      · rw [if_pos e]
        rcases hf with hf | ⟨j, hj, _, hf⟩
        · rw [hf] at e
          exact (h.tf x e).symm
        · rw [hf] at e
          have := Option.some.inj e
          omega
      · rw [if_neg e, if_pos hx]

/-- a round begins: its variable is new, the map leads to it -/
theorem BlI.begun (h : BlI B V M tg ad f b W) (hn : b.n < 1000000) (r : Int) (h0 : 1 ≤ r ∧ r ≤ 1048576) (v : Int) (zs : Array Value) (hz : zs = (rnC (newRn v)).toArray) (ty : TypeId) :
    ∃ w', (Instr.mapUpdate 41 (.map (some M)) (.int .i64 r) (.pointer (some ⟨W.heap.size, 0, none⟩))).run Try.prog (W.alloc (.cells zs ty)) = .ok () w' ∧
      Hid (∃ tg' ad', BlI B V M tg' ad' f { b.setR r (newRn v) with n := b.n + 1 } w' ∧ Trn tg tg' W w') := by
  have hB := h.ltB
  have hM := h.ltM
  have ht := h.tB
  have htM := h.tM
  have htV := h.tV
  have hW1 : (W.alloc (.cells zs ty)).heap.size = W.heap.size + 1 := alloc_size _ _
  have hbe : Below W.heap.size W (W.alloc (.cells zs ty)) := (Below.refl _ W).alloc (Nat.le_refl _) _
  have hnew := Cs.new W _ zs hz ty
  have h1 := h.later hbe
  generalize W.alloc (.cells zs ty) = W1 at *
  obtain ⟨D, hD, hD2⟩ := h1.map
  obtain ⟨w', hrun, ho, hg⟩ := hD.update (val := .pointer (some ⟨W.heap.size, 0, none⟩)) (d := .held (.pointer (some ⟨W.heap.size, 0, none⟩))) (ps := []) keyedI Try.underlying41 (by unfold maxLen; omega) (keyR r (by omega)) rfl
  have hb1 : ∀ x, x < W1.heap.size → x ≠ M → w'.heap[x]? = W1.heap[x]? := fun x hx hne => hg.block x hx (fun e => hne (Option.some.inj e))
  have hb : ∀ x, x < W.heap.size → x ≠ M → w'.heap[x]? = W.heap[x]? := fun x hx hne => (hb1 x (by omega) hne).trans (hbe.block x hx)
  have hsz := hg.size
  have hV : V < W.heap.size := by
    by_cases hv : V < W.heap.size
    · exact hv
    · have := h.out V (by omega)
      rw [htV] at this
      cases this
  have tne : ∀ x, x < W.heap.size → (if x = W.heap.size then r else tg x) = tg x := fun x hx => if_neg (by omega)
  refine ⟨w', hrun, put_by ⟨fun x => if x = W.heap.size then r else tg x, fun k => if k = r then W.heap.size else ad k, ⟨?_, fun j u hu => ?_, ⟨_, ho, fun k => ?_⟩, fun k z hk => ?_, ?_, (tne B hB).trans ht, (tne V hV).trans htV, (tne M hM).trans htM, fun g e => (tne g (h.ltF e)).trans (h.tf g e), fun k z hk => ?_, fun x hx => ?_⟩, ?_⟩⟩
  · exact h.top.move (hb B hB (tag_ne (tg := tg) (by rw [ht, htM]; decide)))
  · exact (h.vs j u hu).move (hb V hV (tag_ne (tg := tg) (by rw [htV, htM]; decide)))
  · by_cases e : k = r
    · subst e
      rw [atKey_put_same hD.isMap (keyedI.key (keyR k (by omega)))]
      simp [Bl.setR, ptr]
    · rw [atKey_put_other (show (Lit.int .i64 k) ≠ .int .i64 r by simp; omega), hD2 k]
      simp [Bl.setR, e]
  · simp only [Bl.setR] at hk
    by_cases e : k = r
    · subst e
      simp only [if_true] at hk ⊢
      cases hk
      exact hnew.move (hb1 _ (by omega) (by omega))
    · simp only [e, if_false] at hk ⊢
      obtain ⟨t3, t4⟩ := h.tr k z hk
      exact (h.rs k z hk).move (hb _ (h.ltR hk) (tag_ne (tg := tg) (by rw [t3, htM]; omega)))
  · obtain ⟨css, q1, q2⟩ := h.ls
    exact ⟨css, own_kept q1 (fun g e => hb g (h.ltF e) (tag_ne (tg := tg) (by rw [h.tf g e, htM]; decide))), All2.imp (fun _ _ q => q) q2⟩
  · simp only [Bl.setR] at hk
    by_cases e : k = r
    · subst e
      simp only [if_true]
      exact ⟨trivial, h0.1⟩
    · simp only [e, if_false] at hk ⊢
      obtain ⟨t3, t4⟩ := h.tr k z hk
      exact ⟨(tne _ (h.ltR hk)).trans t3, t4⟩
  · show (if x = W.heap.size then r else tg x) = 0
    rw [if_neg (by omega)]
    exact h.out x (by omega)
  · exact ⟨hg.os.trans hbe.os, hg.tape.trans hbe.tape, hg.output.trans hbe.output, by omega, fun x hx hx0 => hb x hx (fun e => by rw [e, htM] at hx0; cases hx0), tne⟩

/-- what a method leaves of a ballot -/
def BlPost (B V M : Nat) (tg : Nat → Int) (w : World) (b : Bl) (w' : World) : Prop := ∃ tg' ad' f', BlI B V M tg' ad' f' b w' ∧ Trn tg tg' w w'

theorem BlI.post (h : BlI B V M tg ad f b W) (hb : Trn tg tg W' W) : BlPost B V M tg W' b W := ⟨_, _, _, h, hb⟩

end
end Go.Proofs.Ytppcikfhhmiipaa
