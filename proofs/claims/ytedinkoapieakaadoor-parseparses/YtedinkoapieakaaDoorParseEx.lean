/- Expressions in memory: a leaf, one part, two parts; a call's own variable of an expression, or its result. -/
import Derived.Test.YtedinkoapieakaaDoorParseNeed
namespace Go.Proofs.YtedinkoapieakaaDoor
open Go.ChangeShapes Go.WideShapes Go.ChangeAt Go.RowKit

/-- an expression as a value: its cells -/
structure ED where
  op : Int
  vk : Int
  vi : Int
  vt : ByteArray
  tb : ByteArray
  nm : ByteArray
  ao : Option Addr
  n : Nat
  cap : Nat

abbrev exval (d : ED) : Value := .agg #[.int .i64 d.op, .int .i64 d.vk, .int .i64 d.vi, .string d.vt, .string d.tb, .string d.nm, .int .i64 0, .slice d.ao d.n d.cap]
def exCells (d : ED) : List Value := [.int .i64 d.op, .int .i64 d.vk, .int .i64 d.vi, .string d.vt, .string d.tb, .string d.nm, .int .i64 0, .slice d.ao d.n d.cap]
def Cell8 (w : World) (b off : Nat) (d : ED) : Prop := ∀ j u, (exCells d)[j]? = some u → w.cell? ⟨b, off + j, none⟩ = some u

/-- what an expression of parts bears beside them -/
def Bare (op : Int) (n : Nat) (d : ED) : Prop := d.op = op ∧ d.vk = 0 ∧ d.vi = 0 ∧ d.vt = str [] ∧ d.tb = str [] ∧ d.nm = str [] ∧ d.n = n

/-- the value d is this expression; its parts lie in blocks that are ok -/
def IsEx (ok : Nat → Prop) (w : World) : Ex → ED → Prop
  | .leaf op v tb nm, d => d.op = op ∧ d.vk = v.kind ∧ d.vi = v.int ∧ d.vt = str v.text ∧ d.tb = str tb ∧ d.nm = str nm ∧ d.n = 0
  | .un op a, d => Bare op 1 d ∧ ∃ b d1, d.ao = some ⟨b, 0, none⟩ ∧ ok b ∧ b < w.heap.size ∧ Cell8 w b 0 d1 ∧ IsEx ok w a d1
  | .bi op a a', d => Bare op 2 d ∧ ∃ b d1 d2, d.ao = some ⟨b, 0, none⟩ ∧ ok b ∧ b < w.heap.size ∧ Cell8 w b 0 d1 ∧ Cell8 w b 8 d2 ∧ IsEx ok w a d1 ∧ IsEx ok w a' d2

theorem IsEx.move {ok ok' : Nat → Prop} {w w' : World} (hs : w.heap.size ≤ w'.heap.size) (hb : ∀ b, ok b → b < w.heap.size → w'.heap[b]? = w.heap[b]?) (hok : ∀ b, ok b → b < w.heap.size → ok' b) :
    ∀ {e : Ex} {d : ED}, IsEx ok w e d → IsEx ok' w' e d := by
  have hc : ∀ b off d, ok b → b < w.heap.size → Cell8 w b off d → Cell8 w' b off d := fun b off d h1 h2 h3 j u hu => (World.cell?_of_block (w := w) (hb b h1 h2)).trans (h3 j u hu)
  intro e
  induction e with
  | leaf op v tb nm => exact fun h => h
  | un op a ih =>
    intro d ⟨h0, b, d1, h1, h2, h3, h4, h5⟩
    exact ⟨h0, b, d1, h1, hok b h2 h3, Nat.lt_of_lt_of_le h3 hs, hc _ _ _ h2 h3 h4, ih h5⟩
  | bi op a a' ih ih' =>
    intro d ⟨h0, b, d1, d2, h1, h2, h3, h4, h5, h6, h7⟩
    exact ⟨h0, b, d1, d2, h1, hok b h2 h3, Nat.lt_of_lt_of_le h3 hs, hc _ _ _ h2 h3 h4, hc _ _ _ h2 h3 h5, ih h6, ih' h7⟩

theorem IsEx.later {ok : Nat → Prop} {w w' : World} (hb : Below w.heap.size w w') {e : Ex} {d : ED} (h : IsEx ok w e d) : IsEx ok w' e d := h.move hb.size (fun b _ h => hb.block b h) (fun _ h _ => h)
theorem IsEx.alloc {ok : Nat → Prop} {w : World} {e : Ex} {d : ED} (h : IsEx ok w e d) (o : Obj) : IsEx ok (w.alloc o) e d := h.later ((Below.refl _ w).alloc (Nat.le_refl _) o)
theorem IsEx.weak {ok ok' : Nat → Prop} {w : World} {e : Ex} {d : ED} (h : IsEx ok w e d) (hk : ∀ b, ok b → b < w.heap.size → ok' b) : IsEx ok' w e d := h.move (Nat.le_refl _) (fun _ _ _ => rfl) hk
/-- while the reader goes on -/
theorem IsEx.keep {ok : Nat → Prop} {R : Nat} {w w' : World} {e : Ex} {d : ED} (h : IsEx ok w e d) (hk : Keeps R w w') (hR : ¬ ok R) : IsEx ok w' e d := h.move hk.size (fun b h1 h2 => hk.block b h2 (fun e => hR (e ▸ h1))) (fun _ h _ => h)
theorem IsEx.set {ok : Nat → Prop} {w : World} {e : Ex} {d : ED} (h : IsEx ok w e d) {p : Addr} (hp : ¬ ok p.block) (u : Value) : IsEx ok (w.setCell p u) e d :=
  h.move (by rw [setCell_size]; exact Nat.le_refl _) (fun b h1 _ => Below.heap_setCell _ _ _ _ (fun e => hp (e ▸ h1))) (fun _ h _ => h)

theorem cell8_new (w : World) (d : ED) (ty : TypeId) : Cell8 (w.alloc (.cells #[.int .i64 d.op, .int .i64 d.vk, .int .i64 d.vi, .string d.vt, .string d.tb, .string d.nm, .int .i64 0, .slice d.ao d.n d.cap] ty)) w.heap.size 0 d := by
  intro j u hu
  rw [Nat.zero_add]
  match j, hu with
  | 0, hu => cases hu; simp
  | 1, hu => cases hu; simp
  | 2, hu => cases hu; simp
  | 3, hu => cases hu; simp
  | 4, hu => cases hu; simp
  | 5, hu => cases hu; simp
  | 6, hu => cases hu; simp
  | 7, hu => cases hu; simp

/-- a variable of an expression, as it is laid: zero -/
abbrev zeroEx : Obj := .cells #[.int .i64 0, .int .i64 0, .int .i64 0, .string ⟨#[]⟩, .string ⟨#[]⟩, .string ⟨#[]⟩, .int .i64 0, .slice none 0 0] 35

/-- a block of eight cells that may be stored into -/
structure Var8 (W : World) (B : Nat) : Prop where
  k0 : ∃ u, W.cell? ⟨B, 0, none⟩ = some u
  k1 : ∃ u, W.cell? ⟨B, 1, none⟩ = some u
  k2 : ∃ u, W.cell? ⟨B, 2, none⟩ = some u
  k3 : ∃ u, W.cell? ⟨B, 3, none⟩ = some u
  k4 : ∃ u, W.cell? ⟨B, 4, none⟩ = some u
  k5 : ∃ u, W.cell? ⟨B, 5, none⟩ = some u
  k6 : ∃ u, W.cell? ⟨B, 6, none⟩ = some u
  k7 : ∃ u, W.cell? ⟨B, 7, none⟩ = some u

theorem stored8 {W : World} {B : Nat} (h : Var8 W B) (d : ED) : ∀ j u, (exCells d)[j]? = some u → ((((((((W.setCell ⟨B, 0, none⟩ (.int .i64 d.op)).setCell ⟨B, 1, none⟩ (.int .i64 d.vk)).setCell ⟨B, 2, none⟩ (.int .i64 d.vi)).setCell ⟨B, 3, none⟩ (.string d.vt)).setCell ⟨B, 4, none⟩ (.string d.tb)).setCell ⟨B, 5, none⟩ (.string d.nm)).setCell ⟨B, 6, none⟩ (.int .i64 0)).setCell ⟨B, 7, none⟩ (.slice d.ao d.n d.cap)).cell? ⟨B, j, none⟩ = some u := by
  obtain ⟨⟨u0, k0⟩, ⟨u1, k1⟩, ⟨u2, k2⟩, ⟨u3, k3⟩, ⟨u4, k4⟩, ⟨u5, k5⟩, ⟨u6, k6⟩, ⟨u7, k7⟩⟩ := h
  intro j u hu
  match j, hu with
  | 0, hu =>
    cases hu
    rw [World.cell?_setCell_other (h := by simp), World.cell?_setCell_other (h := by simp), World.cell?_setCell_other (h := by simp), World.cell?_setCell_other (h := by simp), World.cell?_setCell_other (h := by simp), World.cell?_setCell_other (h := by simp), World.cell?_setCell_other (h := by simp), World.cell?_setCell_same _ _ _ (u := u0) ?_]
    exact k0
  | 1, hu =>
    cases hu
    rw [World.cell?_setCell_other (h := by simp), World.cell?_setCell_other (h := by simp), World.cell?_setCell_other (h := by simp), World.cell?_setCell_other (h := by simp), World.cell?_setCell_other (h := by simp), World.cell?_setCell_other (h := by simp), World.cell?_setCell_same _ _ _ (u := u1) ?_]
    rw [World.cell?_setCell_other (h := by simp)]
    exact k1
  | 2, hu =>
    cases hu
    rw [World.cell?_setCell_other (h := by simp), World.cell?_setCell_other (h := by simp), World.cell?_setCell_other (h := by simp), World.cell?_setCell_other (h := by simp), World.cell?_setCell_other (h := by simp), World.cell?_setCell_same _ _ _ (u := u2) ?_]
    rw [World.cell?_setCell_other (h := by simp), World.cell?_setCell_other (h := by simp)]
    exact k2
  | 3, hu =>
    cases hu
    rw [World.cell?_setCell_other (h := by simp), World.cell?_setCell_other (h := by simp), World.cell?_setCell_other (h := by simp), World.cell?_setCell_other (h := by simp), World.cell?_setCell_same _ _ _ (u := u3) ?_]
    rw [World.cell?_setCell_other (h := by simp), World.cell?_setCell_other (h := by simp), World.cell?_setCell_other (h := by simp)]
    exact k3
  | 4, hu =>
    cases hu
    rw [World.cell?_setCell_other (h := by simp), World.cell?_setCell_other (h := by simp), World.cell?_setCell_other (h := by simp), World.cell?_setCell_same _ _ _ (u := u4) ?_]
    rw [World.cell?_setCell_other (h := by simp), World.cell?_setCell_other (h := by simp), World.cell?_setCell_other (h := by simp), World.cell?_setCell_other (h := by simp)]
    exact k4
  | 5, hu =>
    cases hu
    rw [World.cell?_setCell_other (h := by simp), World.cell?_setCell_other (h := by simp), World.cell?_setCell_same _ _ _ (u := u5) ?_]
    rw [World.cell?_setCell_other (h := by simp), World.cell?_setCell_other (h := by simp), World.cell?_setCell_other (h := by simp), World.cell?_setCell_other (h := by simp), World.cell?_setCell_other (h := by simp)]
    exact k5
  | 6, hu =>
    cases hu
    rw [World.cell?_setCell_other (h := by simp), World.cell?_setCell_same _ _ _ (u := u6) ?_]
    rw [World.cell?_setCell_other (h := by simp), World.cell?_setCell_other (h := by simp), World.cell?_setCell_other (h := by simp), World.cell?_setCell_other (h := by simp), World.cell?_setCell_other (h := by simp), World.cell?_setCell_other (h := by simp)]
    exact k6
  | 7, hu =>
    cases hu
    rw [World.cell?_setCell_same _ _ _ (u := u7) ?_]
    rw [World.cell?_setCell_other (h := by simp), World.cell?_setCell_other (h := by simp), World.cell?_setCell_other (h := by simp), World.cell?_setCell_other (h := by simp), World.cell?_setCell_other (h := by simp), World.cell?_setCell_other (h := by simp), World.cell?_setCell_other (h := by simp)]
    exact k7

/-- the eight cells of a call's own block, whatever has gone on since it was laid -/
theorem res_cells {c : RC} {w W : World} {s : St} (h : On c (w.alloc zeroEx) W s) (hR : c.R < w.heap.size) :
    (W.cell? ⟨w.heap.size, 0, none⟩ = some (.int .i64 0) ∧ W.cell? ⟨w.heap.size, 1, none⟩ = some (.int .i64 0) ∧ W.cell? ⟨w.heap.size, 2, none⟩ = some (.int .i64 0) ∧ W.cell? ⟨w.heap.size, 3, none⟩ = some (.string ⟨#[]⟩) ∧ W.cell? ⟨w.heap.size, 4, none⟩ = some (.string ⟨#[]⟩) ∧ W.cell? ⟨w.heap.size, 5, none⟩ = some (.string ⟨#[]⟩) ∧ W.cell? ⟨w.heap.size, 6, none⟩ = some (.int .i64 0) ∧ W.cell? ⟨w.heap.size, 7, none⟩ = some (.slice none 0 0)) ∧ ∀ i, W.frozen? ⟨w.heap.size, i, none⟩ = false := by
  have hl : w.heap.size < (w.alloc zeroEx).heap.size := by simp
  have hn : w.heap.size ≠ c.R := by omega
  have hc : ∀ i, W.cell? ⟨w.heap.size, i, none⟩ = (w.alloc zeroEx).cell? ⟨w.heap.size, i, none⟩ := fun i => h.cell (p := ⟨w.heap.size, i, none⟩) hl hn
  have hf : ∀ i, W.frozen? ⟨w.heap.size, i, none⟩ = (w.alloc zeroEx).frozen? ⟨w.heap.size, i, none⟩ := fun i => h.frozen (p := ⟨w.heap.size, i, none⟩) hl hn
  refine ⟨⟨?_, ?_, ?_, ?_, ?_, ?_, ?_, ?_⟩, fun i => (hf i).trans ?_⟩
  all_goals first | (rw [hc]; simp) | simp

/-- the end of a call that answers an expression -/
theorem res8 {c : RC} {w W : World} {s s0 : St} (h : On c (w.alloc zeroEx) W s) (hR : c.R < w.heap.size) (h0 : On c w w s0) {e : Ex} (d : ED) (hI : IsEx (fun b => w.heap.size + 1 ≤ b) W e d) :
    ∃ W3, ((((((((W.setCell ⟨w.heap.size, 0, none⟩ (.int .i64 d.op)).setCell ⟨w.heap.size, 1, none⟩ (.int .i64 d.vk)).setCell ⟨w.heap.size, 2, none⟩ (.int .i64 d.vi)).setCell ⟨w.heap.size, 3, none⟩ (.string d.vt)).setCell ⟨w.heap.size, 4, none⟩ (.string d.tb)).setCell ⟨w.heap.size, 5, none⟩ (.string d.nm)).setCell ⟨w.heap.size, 6, none⟩ (.int .i64 0)).setCell ⟨w.heap.size, 7, none⟩ (.slice d.ao d.n d.cap)) = W3 ∧ (W3.cell? ⟨w.heap.size, 0, none⟩ = some (.int .i64 d.op) ∧ W3.cell? ⟨w.heap.size, 1, none⟩ = some (.int .i64 d.vk) ∧ W3.cell? ⟨w.heap.size, 2, none⟩ = some (.int .i64 d.vi) ∧ W3.cell? ⟨w.heap.size, 3, none⟩ = some (.string d.vt) ∧ W3.cell? ⟨w.heap.size, 4, none⟩ = some (.string d.tb) ∧ W3.cell? ⟨w.heap.size, 5, none⟩ = some (.string d.nm) ∧ W3.cell? ⟨w.heap.size, 6, none⟩ = some (.int .i64 0) ∧ W3.cell? ⟨w.heap.size, 7, none⟩ = some (.slice d.ao d.n d.cap)) ∧ On c w W3 s ∧ IsEx (fun b => w.heap.size ≤ b) W3 e d := by
  obtain ⟨⟨k0, k1, k2, k3, k4, k5, k6, k7⟩, _⟩ := res_cells h hR
  have hr := stored8 (B := w.heap.size) ⟨⟨_, k0⟩, ⟨_, k1⟩, ⟨_, k2⟩, ⟨_, k3⟩, ⟨_, k4⟩, ⟨_, k5⟩, ⟨_, k6⟩, ⟨_, k7⟩⟩ d
  have hb : ∀ p : Addr, p.block = w.heap.size → w.heap.size ≤ p.block := fun p h => by omega
  have hw : On c w W s := (h0.alloc zeroEx).back h
  have hp : ∀ i, ¬ (fun b => w.heap.size + 1 ≤ b) (⟨w.heap.size, i, none⟩ : Addr).block := fun i => by simp
  refine ⟨_, rfl, ⟨hr 0 _ rfl, hr 1 _ rfl, hr 2 _ rfl, hr 3 _ rfl, hr 4 _ rfl, hr 5 _ rfl, hr 6 _ rfl, hr 7 _ rfl⟩, ?_, ?_⟩
  · exact ((((((((hw.setCell (Nat.le_refl _) _).setCell (Nat.le_refl _) _).setCell (Nat.le_refl _) _).setCell (Nat.le_refl _) _).setCell (Nat.le_refl _) _).setCell (Nat.le_refl _) _).setCell (Nat.le_refl _) _).setCell (Nat.le_refl _) _)
  · refine IsEx.weak (ok := fun b => w.heap.size + 1 ≤ b) ?_ (fun b h _ => by omega)
    exact (((((((hI.set (hp 0) _).set (hp 1) _).set (hp 2) _).set (hp 3) _).set (hp 4) _).set (hp 5) _).set (hp 6) _).set (hp 7) _

end Go.Proofs.YtedinkoapieakaaDoor
