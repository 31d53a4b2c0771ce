/- A unit in memory: its variable of 66 cells, whatever hangs on it; jobs and replies. -/
import Derived.Test.YtfaejcdbjcklpaaUnPlain
import Derived.LoopTactic
import Derived.Deep.RegionHeld3
namespace Go.Proofs.Ytfaejcdbjcklpaa
open Go.ChangeShapes Go.WideShapes Go.ChangeAt Go.RowKit

theorem put_by {p : Prop} (h : p) : Hid p := h

def kRp : Kd Rp 4 where
  rel ok w r cs := ∃ u, cs = [.int .i64 r.code, .bool r.junk, u, .int .i64 r.tail] ∧ IsBody w ok u r.data
  move hk hok _ _ := by
    rintro ⟨u, rfl, h1⟩
    exact ⟨u, rfl, h1.move hk hok⟩
  len := by
    rintro _ _ _ _ ⟨u, rfl, _⟩
    rfl
  one := by
    rintro _ _ _ _ ⟨u, rfl, ⟨_, _, rfl, _⟩⟩ x hx
    simp only [List.mem_cons, List.not_mem_nil, or_false] at hx
    rcases hx with rfl | rfl | rfl | rfl <;> rfl

def kJb : Kd Jb 4 where
  rel ok w j cs := ∃ u, cs = [.int .i64 j.kind, .int .i64 j.epoch, .int .i64 j.addr, u] ∧ IsBody w ok u j.data
  move hk hok _ _ := by
    rintro ⟨u, rfl, h1⟩
    exact ⟨u, rfl, h1.move hk hok⟩
  len := by
    rintro _ _ _ _ ⟨u, rfl, _⟩
    rfl
  one := by
    rintro _ _ _ _ ⟨u, rfl, ⟨_, _, rfl, _⟩⟩ x hx
    simp only [List.mem_cons, List.not_mem_nil, or_false] at hx
    rcases hx with rfl | rfl | rfl | rfl <;> rfl

theorem eltRp : Elt 33 40 4 48 := ⟨Try.underlying33, by
  obtain ⟨i0, hi, hz0, hz1, hz2⟩ := info_parts (show (Try.prog.info? 40).map (fun i => (i.zero, i.size, i.bytes)) = some (some (.agg #[.int .i64 0, .bool false, .slice none 0 0, .int .i64 0]), 4, 48) by kernel_rfl)
  exact ⟨i0, _, hi, hz0, hz1, hz2, rfl⟩, by decide⟩

theorem eltJb : Elt 23 29 4 48 := ⟨Try.underlying23, by
  obtain ⟨i0, hi, hz0, hz1, hz2⟩ := info_parts (show (Try.prog.info? 29).map (fun i => (i.zero, i.size, i.bytes)) = some (some (.agg #[.int .i64 0, .int .i64 0, .int .i64 0, .slice none 0 0]), 4, 48) by kernel_rfl)
  exact ⟨i0, _, hi, hz0, hz1, hz2, rfl⟩, by decide⟩

/-- what stands in a slot -/
def IsSl (ok : Nat → Prop) (W : World) (v : Value) (s : Sl) : Prop :=
  (s.kind = 0 ∧ v = .nilIface) ∨ (s.kind = 1 ∧ s.data.length ≤ 4000 ∧ ∃ x, v = .iface 60 x ∧ IsBody W ok x s.data) ∨
    (s.kind = 2 ∧ v = .iface 57 (.agg #[])) ∨ (s.kind = 3 ∧ v = .iface 58 (.agg #[]))

theorem IsSl.move {ok ok' : Nat → Prop} {w w' : World} {v : Value} {s : Sl} (hk : Kept ok w w') (hok : ∀ b, b < w.heap.size → ok b → ok' b) (h : IsSl ok w v s) : IsSl ok' w' v s := by
  rcases h with h | ⟨h1, h2, x, h3, h4⟩ | h | h
  · exact .inl h
  · exact .inr (.inl ⟨h1, h2, x, h3, h4.move hk hok⟩)
  · exact .inr (.inr (.inl h))
  · exact .inr (.inr (.inr h))

/-- a unit in the variable B -/
structure UnI (B : Nat) (ok : Nat → Prop) (u : Un) (W : World) : Prop where
  slot : ∀ i, i < 64 → ∃ v, W.cell? ⟨B, i, none⟩ = some v ∧ IsSl ok W v (u.sl i)
  ep : W.cell? ⟨B, 64, none⟩ = some (.int .i64 u.ep)
  fr : W.cell? ⟨B, 65, none⟩ = some (.int .i64 u.fr)
  free : ∀ i, i < 66 → W.frozen? ⟨B, i, none⟩ = false
  frok : u.fr = -1 ∨ (0 ≤ u.fr ∧ u.fr < 64)
  not : ¬ ok B

theorem UnI.lt {B : Nat} {ok : Nat → Prop} {u : Un} {W : World} (h : UnI B ok u W) : B < W.heap.size := World.block_lt_of_cell? _ _ h.ep

/-- whatever leaves its blocks -/
theorem UnI.move {B : Nat} {ok ok' : Nat → Prop} {u : Un} {W W' : World} (h : UnI B ok u W) (hk : Kept ok W W') (hB : W'.heap[B]? = W.heap[B]?) (hok : ∀ b, b < W.heap.size → ok b → ok' b) (hn : ¬ ok' B) : UnI B ok' u W' := by
  refine ⟨fun i hi => ?_, (World.cell?_of_block (w := W) hB).trans h.ep, (World.cell?_of_block (w := W) hB).trans h.fr, fun i hi => (World.frozen?_of_block (w := W) hB).trans (h.free i hi), h.frok, hn⟩
  obtain ⟨v, h1, h2⟩ := h.slot i hi
  exact ⟨v, (World.cell?_of_block (w := W) hB).trans h1, h2.move hk hok⟩

theorem UnI.later {B : Nat} {ok : Nat → Prop} {u : Un} {W W' : World} (h : UnI B ok u W) (hb : Below W.heap.size W W') : UnI B ok u W' :=
  h.move (Kept.of_below hb) (hb.block B h.lt) (fun _ _ ho => ho) h.not

theorem kept_set {ok : Nat → Prop} {W : World} {B i : Nat} (hn : ¬ ok B) (x : Value) : Kept ok W (W.setCell ⟨B, i, none⟩ x) :=
  ⟨by simp, fun b _ ho => heap_setCell_other _ _ _ _ (fun e => hn (by have e' : b = B := e; rw [← e']; exact ho))⟩

/-- something is put into a slot -/
theorem UnI.put {B : Nat} {ok : Nat → Prop} {u : Un} {W : World} (h : UnI B ok u W) (a : Nat) (ha : a < 64) (s : Sl) (v : Value) (hv : IsSl ok W v s) : UnI B ok (u.put a s) (W.setCell ⟨B, a, none⟩ v) := by
  refine ⟨fun i hi => ?_, ?_, ?_, fun i hi => ?_, h.frok, h.not⟩
  · by_cases e : i = a
    · subst e
      obtain ⟨v0, h1, _⟩ := h.slot i hi
      refine ⟨v, World.cell?_setCell_same' _ _ _ (by rw [h1]; rfl), ?_⟩
      simp only [Un.put, if_true]
      exact hv.move (kept_set h.not v) (fun _ _ q => q)
    · obtain ⟨v0, h1, h2⟩ := h.slot i hi
      refine ⟨v0, ?_, ?_⟩
      · rw [World.cell?_setCell_other _ _ _ _ (by simp)]
        exact h1
      · simp only [Un.put, e, if_false]
        exact h2.move (kept_set h.not v) (fun _ _ q => q)
  · rw [World.cell?_setCell_other _ _ _ _ (by simp)]
    exact h.ep
  · rw [World.cell?_setCell_other _ _ _ _ (by simp)]
    exact h.fr
  · rw [World.frozen?_setCell]
    exact h.free i hi

theorem UnI.setEp {B : Nat} {ok : Nat → Prop} {u : Un} {W : World} (h : UnI B ok u W) (e : Int) : UnI B ok ⟨u.sl, e, u.fr⟩ (W.setCell ⟨B, 64, none⟩ (.int .i64 e)) := by
  refine ⟨fun i hi => ?_, ?_, ?_, fun i hi => ?_, h.frok, h.not⟩
  · obtain ⟨v0, h1, h2⟩ := h.slot i hi
    refine ⟨v0, ?_, h2.move (kept_set h.not _) (fun _ _ q => q)⟩
    rw [World.cell?_setCell_other _ _ _ _ (by simp)]
    exact h1
  · exact World.cell?_setCell_same' _ _ _ (by rw [h.ep]; rfl)
  · rw [World.cell?_setCell_other _ _ _ _ (by simp)]
    exact h.fr
  · rw [World.frozen?_setCell]
    exact h.free i hi

theorem UnI.setFr {B : Nat} {ok : Nat → Prop} {u : Un} {W : World} (h : UnI B ok u W) (e : Int) (he : e = -1 ∨ (0 ≤ e ∧ e < 64)) : UnI B ok ⟨u.sl, u.ep, e⟩ (W.setCell ⟨B, 65, none⟩ (.int .i64 e)) := by
  refine ⟨fun i hi => ?_, ?_, ?_, fun i hi => ?_, he, h.not⟩
  · obtain ⟨v0, h1, h2⟩ := h.slot i hi
    refine ⟨v0, ?_, h2.move (kept_set h.not _) (fun _ _ q => q)⟩
    rw [World.cell?_setCell_other _ _ _ _ (by simp)]
    exact h1
  · rw [World.cell?_setCell_other _ _ _ _ (by simp)]
    exact h.ep
  · exact World.cell?_setCell_same' _ _ _ (by rw [h.fr]; rfl)
  · rw [World.frozen?_setCell]
    exact h.free i hi

/-- a reply, its bytes in new blocks -/
def IsRp (w : World) (r : Rp) (e : Ending) (w' : World) : Prop :=
  ∃ a n c, e = .returned (.agg #[.int .i64 r.code, .bool r.junk, .slice a n c, .int .i64 r.tail]) ∧ kRp.rel (fun b => w.heap.size ≤ b) w' r [.int .i64 r.code, .bool r.junk, .slice a n c, .int .i64 r.tail]

/-- a reply, and what the unit is behind it -/
def StPost (B : Nat) (ok : Nat → Prop) (w : World) (x : Rp × Un) (e : Ending) (w' : World) : Prop :=
  IsRp w x.1 e w' ∧ UnI B ok x.2 w' ∧ w.grownBy w' (some B)

theorem isRp_bare (w w' : World) (c : Int) : IsRp w (rp c) (.returned (.agg #[.int .i64 c, .bool false, .slice none 0 0, .int .i64 0])) w' :=
  ⟨none, 0, 0, rfl, _, rfl, none, 0, rfl, Octs.nil _ _ _ (fun _ => rfl), fun h => absurd rfl h⟩

theorem below_grown {n : Nat} {w X Y : World} {row : Option Nat} (h : Below n w X) (hn : n ≤ X.heap.size) (hg : X.grownBy Y row) (hr : ∀ r, row = some r → n ≤ r) : Below n w Y :=
  ⟨hg.os.trans h.os, hg.tape.trans h.tape, hg.output.trans h.output, Nat.le_trans h.size hg.size, fun b hb => (hg.block b (by omega) (fun e => by have := hr b e.symm; omega)).trans (h.block b hb)⟩

theorem Rows.turned {α : Type} {size : Nat} {K : Kd α size} {ok ok2 : Nat → Prop} {W : World} {base : Nat} {E : TypeId} {v : Value} {l : List α} (h : Rows K ok W base E v l) (hok : ∀ b, b < W.heap.size → ok b → ok2 b) : Rows K ok2 W base E v l := by
  obtain ⟨css, h1, h2⟩ := h
  exact ⟨css, h1, All2.imp (fun _ _ hr => K.move (Kept.of_below (Below.refl _ _)) (fun b hb q => ⟨hok b hb q.1, q.2⟩) hr) h2⟩

theorem grown_below {B : Nat} {w w' : World} (h : Below w.heap.size w w') : w.grownBy w' (some B) := ⟨h.os, h.tape, h.output, h.size, fun b hb _ => h.block b hb⟩

theorem grown_set2 {B i : Nat} {w : World} (u : Value) : w.grownBy (w.setCell ⟨B, i, none⟩ u) (some B) :=
  ⟨rfl, rfl, rfl, by simp, fun b _ hne => heap_setCell_other _ _ _ _ (fun e => hne (by rw [e]))⟩

theorem grown_trans {B : Nat} {a b c : World} (h : a.grownBy b (some B)) (k : b.grownBy c (some B)) : a.grownBy c (some B) :=
  ⟨k.os.trans h.os, k.tape.trans h.tape, k.output.trans h.output, Nat.le_trans h.size k.size, fun x hx hne => (k.block x (Nat.lt_of_lt_of_le hx h.size) hne).trans (h.block x hx hne)⟩

theorem UnI.fresh {B : Nat} {ok : Nat → Prop} {u : Un} {w : World} (h : UnI B ok u w) {w' : World} (hg : w.grownBy w' (some B)) : w'.heap.size ≥ w.heap.size ∧ B < w'.heap.size := ⟨hg.size, Nat.lt_of_lt_of_le h.lt hg.size⟩

/-- a variable of four cells -/
structure Quad (W : World) (B : Nat) (p q r s : Value) : Prop where
  c0 : W.cell? ⟨B, 0, none⟩ = some p
  c1 : W.cell? ⟨B, 1, none⟩ = some q
  c2 : W.cell? ⟨B, 2, none⟩ = some r
  c3 : W.cell? ⟨B, 3, none⟩ = some s
  f0 : W.frozen? ⟨B, 0, none⟩ = false
  f1 : W.frozen? ⟨B, 1, none⟩ = false
  f2 : W.frozen? ⟨B, 2, none⟩ = false
  f3 : W.frozen? ⟨B, 3, none⟩ = false

theorem Quad.move {W W' : World} {B : Nat} {p q r s : Value} (h : Quad W B p q r s) (e : W'.heap[B]? = W.heap[B]?) : Quad W' B p q r s :=
  ⟨(World.cell?_of_block (w := W) e).trans h.c0, (World.cell?_of_block (w := W) e).trans h.c1, (World.cell?_of_block (w := W) e).trans h.c2, (World.cell?_of_block (w := W) e).trans h.c3,
   (World.frozen?_of_block (w := W) e).trans h.f0, (World.frozen?_of_block (w := W) e).trans h.f1, (World.frozen?_of_block (w := W) e).trans h.f2, (World.frozen?_of_block (w := W) e).trans h.f3⟩

theorem Quad.new (W : World) (p q r s : Value) (ty : TypeId) : Quad (W.alloc (.cells #[p, q, r, s] ty)) W.heap.size p q r s := ⟨by simp, by simp, by simp, by simp, by simp, by simp, by simp, by simp⟩

theorem Quad.lt {W : World} {B : Nat} {p q r s : Value} (h : Quad W B p q r s) : B < W.heap.size := World.block_lt_of_cell? _ _ h.c0

theorem Quad.later {W W' : World} {B : Nat} {p q r s : Value} (h : Quad W B p q r s) (hb : Below W.heap.size W W') : Quad W' B p q r s := h.move (hb.block B h.lt)

def set4 (W : World) (B : Nat) (x y z u : Value) : World := (((W.setCell ⟨B, 0, none⟩ x).setCell ⟨B, 1, none⟩ y).setCell ⟨B, 2, none⟩ z).setCell ⟨B, 3, none⟩ u

theorem heap_set4 {W : World} {B : Nat} (x y z u : Value) {b : Nat} (h : b ≠ B) : (set4 W B x y z u).heap[b]? = W.heap[b]? :=
  (heap_setCell_other _ _ _ _ h).trans ((heap_setCell_other _ _ _ _ h).trans ((heap_setCell_other _ _ _ _ h).trans (heap_setCell_other _ _ _ _ h)))

theorem below_set4 {n : Nat} {w W : World} {B : Nat} (h : Below n w W) (hn : n ≤ B) (x y z u : Value) : Below n w (set4 W B x y z u) :=
  (((h.setCell (p := ⟨B, 0, none⟩) hn x).setCell (p := ⟨B, 1, none⟩) hn y).setCell (p := ⟨B, 2, none⟩) hn z).setCell (p := ⟨B, 3, none⟩) hn u

theorem kept_set4 {ok : Nat → Prop} {W : World} {B : Nat} (hn : ¬ ok B) (x y z u : Value) : Kept ok W (set4 W B x y z u) :=
  ⟨by simp [set4], fun b _ ho => heap_set4 x y z u (fun e => hn (by rw [← e]; exact ho))⟩

theorem Quad.set {W : World} {B : Nat} {p q r s : Value} (h : Quad W B p q r s) (x y z u : Value) : Quad (set4 W B x y z u) B x y z u := by
  have h0 := h.c0
  have h1 := h.c1
  have h2 := h.c2
  have h3 := h.c3
  refine ⟨?_, ?_, ?_, ?_, ?_, ?_, ?_, ?_⟩
  · show World.cell? ((((W.setCell _ _).setCell _ _).setCell _ _).setCell _ _) _ = _
    rw [World.cell?_setCell_other _ _ _ _ (by simp), World.cell?_setCell_other _ _ _ _ (by simp), World.cell?_setCell_other _ _ _ _ (by simp)]
    exact World.cell?_setCell_same' _ _ _ (by rw [h0]; rfl)
  · show World.cell? ((((W.setCell _ _).setCell _ _).setCell _ _).setCell _ _) _ = _
    rw [World.cell?_setCell_other _ _ _ _ (by simp), World.cell?_setCell_other _ _ _ _ (by simp)]
    exact World.cell?_setCell_same' _ _ _ (by rw [World.cell?_setCell_other _ _ _ _ (by simp), h1]; rfl)
  · show World.cell? ((((W.setCell _ _).setCell _ _).setCell _ _).setCell _ _) _ = _
    rw [World.cell?_setCell_other _ _ _ _ (by simp)]
    exact World.cell?_setCell_same' _ _ _ (by rw [World.cell?_setCell_other _ _ _ _ (by simp), World.cell?_setCell_other _ _ _ _ (by simp), h2]; rfl)
  · exact World.cell?_setCell_same' _ _ _ (by rw [World.cell?_setCell_other _ _ _ _ (by simp), World.cell?_setCell_other _ _ _ _ (by simp), World.cell?_setCell_other _ _ _ _ (by simp), h3]; rfl)
  · simp only [set4, World.frozen?_setCell]
    exact h.f0
  · simp only [set4, World.frozen?_setCell]
    exact h.f1
  · simp only [set4, World.frozen?_setCell]
    exact h.f2
  · simp only [set4, World.frozen?_setCell]
    exact h.f3

theorem isRp_set {w W : World} {p : Option Addr} {q : Nat} {code tail : Int} {junk : Bool} {data : List Int} (ho : Octs W p q data) (hn : data ≠ [] → ∀ a, p = some a → w.heap.size + 1 ≤ a.block) (x y z u : Value) :
    IsRp w ⟨code, junk, data, tail⟩ (.returned (.agg #[.int .i64 code, .bool junk, .slice p data.length q, .int .i64 tail])) (set4 W w.heap.size x y z u) := by
  refine ⟨p, _, q, rfl, _, rfl, p, q, rfl, ?_, fun hx ad ha => Nat.le_of_succ_le (hn hx ad ha)⟩
  exact ho.move (ok := fun b => w.heap.size + 1 ≤ b) hn (kept_set4 (by omega) x y z u)

theorem isRp_at {w W : World} {R : Nat} (hR : w.heap.size ≤ R) {p : Option Addr} {q : Nat} {code tail : Int} {junk : Bool} {data : List Int} (ho : Octs W p q data) (hn : data ≠ [] → ∀ a, p = some a → R + 1 ≤ a.block) (x y z u : Value) :
    IsRp w ⟨code, junk, data, tail⟩ (.returned (.agg #[.int .i64 code, .bool junk, .slice p data.length q, .int .i64 tail])) (set4 W R x y z u) := by
  refine ⟨p, _, q, rfl, _, rfl, p, q, rfl, ?_, fun hx ad ha => Nat.le_trans hR (Nat.le_of_succ_le (hn hx ad ha))⟩
  exact ho.move (ok := fun b => R + 1 ≤ b) hn (kept_set4 (by omega) x y z u)

theorem ret4 {W : World} {B : Nat} {x y z u : Value} (h : Quad W B x y z u) : (W.cell? ⟨B, 0, none⟩ = some x ∧ W.cell? ⟨B, 1, none⟩ = some y) ∧ W.cell? ⟨B, 2, none⟩ = some z ∧ W.cell? ⟨B, 3, none⟩ = some u := ⟨⟨h.c0, h.c1⟩, h.c2, h.c3⟩

/-- a variable of the call's own is left out -/
theorem UnI.avoid {B C : Nat} {ok : Nat → Prop} {u : Un} {W : World} (h : UnI B ok u W) (hC : W.heap.size ≤ C) : UnI B (fun b => ok b ∧ b ≠ C) u W :=
  h.move (Kept.of_below (Below.refl _ _)) rfl (fun b hb ho => ⟨ho, by omega⟩) (fun e => h.not e.1)

/-- .. and turned -/
theorem UnI.off {B C : Nat} {ok : Nat → Prop} {u : Un} {W : World} (h : UnI B (fun b => ok b ∧ b ≠ C) u W) (hne : B ≠ C) (hn : ¬ ok B) (x y z v : Value) : UnI B ok u (set4 W C x y z v) :=
  h.move (kept_set4 (fun e => e.2 rfl) x y z v) (heap_set4 x y z v hne) (fun _ _ ho => ho.1) hn

theorem grown_out {B C : Nat} {w W : World} (h : w.grownBy W (some B)) (hC : w.heap.size ≤ C) (x y z v : Value) : w.grownBy (set4 W C x y z v) (some B) :=
  ⟨h.os, h.tape, h.output, by simpa [set4] using h.size, fun b hb hne => (heap_set4 x y z v (by omega)).trans (h.block b hb hne)⟩

end Go.Proofs.Ytfaejcdbjcklpaa
