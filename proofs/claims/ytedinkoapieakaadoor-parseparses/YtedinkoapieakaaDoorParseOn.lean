/- Package parse: the reader on its way (what it holds, what stays), one word that must stand, words that may: contracts, at every state. -/
import Derived.Test.YtedinkoapieakaaDoorParseWords
namespace Go.Proofs.YtedinkoapieakaaDoor
open Go.ChangeShapes Go.WideShapes Go.ChangeAt Go.RowKit

/-- the operators, as the program's table has them -/
def operCells : List Value := opList.flatMap fun p => [.string (str p.1), .int .i64 p.2]
def Opers (w : World) : Prop := w.rangeAt 5 0 operCells

theorem Opers.lt {w : World} (h : Opers w) : 5 < w.heap.size := World.block_lt_of_cell? (a := ⟨5, 0 + 0, none⟩) _ (h 0 _ rfl)
theorem Opers.later {w w' : World} (h : Opers w) (hb : Below w.heap.size w w') : Opers w' := fun j v hv => (hb.cell (p := ⟨5, 0 + j, none⟩) h.lt).trans (h j v hv)
theorem Opers.keep {R : Nat} {w w' : World} (h : Opers w) (hb : Keeps R w w') (hR : 5 ≠ R) : Opers w' := fun j v hv => (hb.cell (p := ⟨5, 0 + j, none⟩) h.lt hR).trans (h j v hv)

/-- which reader: its block, its tokens -/
structure RC where
  R : Nat
  ao : Option Addr
  cap : Nat
  ts : List Tok
  hl : ts.length ≤ 300

/-- the reader stands at s, and of what was there at w0 all is as it was but the reader -/
structure On (c : RC) (w0 w : World) (s : St) : Prop where
  rdr : Rdr c.R w c.ao c.cap c.ts s
  keeps : Keeps c.R w0 w
  oldR : c.R < w0.heap.size
  oldT : ∀ a, c.ao = some a → a.block < w0.heap.size
  op : Opers w0
  gR : 5 ≠ c.R

theorem On.lt {c : RC} {w0 w : World} {s : St} (h : On c w0 w s) : c.R < w.heap.size := h.rdr.lt
theorem On.ops {c : RC} {w0 w : World} {s : St} (h : On c w0 w s) : Opers w := h.op.keep h.keeps h.gR
theorem On.size {c : RC} {w0 w : World} {s : St} (h : On c w0 w s) : w0.heap.size ≤ w.heap.size := h.keeps.size
theorem On.here {c : RC} {w0 w : World} {s : St} (h : On c w0 w s) : On c w w s := ⟨h.rdr, .refl _ _, h.rdr.lt, fun a ha => Nat.lt_of_lt_of_le (h.oldT a ha) h.keeps.size, h.op.keep h.keeps h.gR, h.gR⟩
theorem On.back {c : RC} {w0 w w' : World} {s s' : St} (h : On c w0 w s) (k : On c w w' s') : On c w0 w' s' := ⟨k.rdr, h.keeps.trans k.keeps, h.oldR, h.oldT, h.op, h.gR⟩
theorem On.step {c : RC} {w0 w w' : World} {s s' : St} (h : On c w0 w s) (r : Rdr c.R w' c.ao c.cap c.ts s') (k : Keeps c.R w w') : On c w0 w' s' := ⟨r, h.keeps.trans k, h.oldR, h.oldT, h.op, h.gR⟩
theorem On.alloc {c : RC} {w0 w : World} {s : St} (h : On c w0 w s) (o : Obj) : On c w0 (w.alloc o) s := ⟨h.rdr.alloc o, h.keeps.alloc o, h.oldR, h.oldT, h.op, h.gR⟩
theorem On.later {c : RC} {w0 w w' : World} {s : St} (h : On c w0 w s) (hb : Below w.heap.size w w') : On c w0 w' s := ⟨h.rdr.later hb, h.keeps.trans (.of_below hb), h.oldR, h.oldT, h.op, h.gR⟩
theorem On.drewN {c : RC} {w0 w : World} {s : St} (h : On c w0 w s) (n : Nat) : On c w0 (w.drewN n) s := h.later (below_dN (Below.refl _ w) n)
theorem On.drew {c : RC} {w0 w : World} {s : St} (h : On c w0 w s) : On c w0 w.drew s := h.later (Below.refl _ w).drew
/-- a store into a block of the call's own -/
theorem On.setCell {c : RC} {w0 w : World} {s : St} (h : On c w0 w s) {p : Addr} (hp : w0.heap.size ≤ p.block) (u : Value) : On c w0 (w.setCell p u) s :=
  ⟨h.rdr.other (by have := h.oldR; omega) (fun a ha => by have := h.oldT a ha; omega) u, h.keeps.setCell (.inr hp) u, h.oldR, h.oldT, h.op, h.gR⟩
/-- the store that refuses -/
theorem On.stop {c : RC} {w0 w : World} {s : St} (h : On c w0 w s) : On c w0 (w.setCell ⟨c.R, 2, none⟩ (.bool true)) s.stop := ⟨h.rdr.stop, h.keeps.setCell (.inl rfl) _, h.oldR, h.oldT, h.op, h.gR⟩
/-- the store that counts on -/
theorem On.adv {c : RC} {w0 w : World} {s : St} (h : On c w0 w s) (hn : s.next.kind ≠ 0) {k : Nat} (hk : c.ts.length - s.rest.length = k) : On c w0 (w.setCell ⟨c.R, 1, none⟩ (.int .i64 ((k : Int) + 1))) s.adv := ⟨h.rdr.adv hn hk, h.keeps.setCell (.inl rfl) _, h.oldR, h.oldT, h.op, h.gR⟩
/-- cells of blocks that are not the reader's stay -/
theorem On.cell {c : RC} {w0 w : World} {s : St} (h : On c w0 w s) {p : Addr} (hp : p.block < w0.heap.size) (hR : p.block ≠ c.R) : w.cell? p = w0.cell? p := h.keeps.cell hp hR
theorem On.frozen {c : RC} {w0 w : World} {s : St} (h : On c w0 w s) {p : Addr} (hp : p.block < w0.heap.size) (hR : p.block ≠ c.R) : w.frozen? p = w0.frozen? p := h.keeps.frozen hp hR

theorem anyOf_on {c : RC} {w0 w : World} {s : St} (h : On c w0 w s) {wo : Option Addr} {wc : Nat} {ws : List (List UInt8)} (hw : Wds w wo ws) :
    Calls Tryd.prog 66 #[.pointer (some ⟨c.R, 0, none⟩), .slice wo ws.length wc] w fun e w' => e = .returned (.string (str (anyOf ws s).1)) ∧ Hid (On c w0 w' (anyOf ws s).2) :=
  (anyOf_any h.rdr c.hl hw).mono fun _ _ ⟨h1, h2, h3⟩ => ⟨h1, h.step h2 h3⟩

theorem refuse_on {c : RC} {w0 w : World} {s : St} (h : On c w0 w s) :
    Calls Tryd.prog 49 #[.pointer (some ⟨c.R, 0, none⟩)] w fun e w' => e = .returned (.tuple #[]) ∧ Hid (On c w0 w' s.stop) :=
  (refuse_any h.rdr).mono fun _ _ ⟨h1, h2, h3⟩ => ⟨h1, h.step h2 h3⟩

theorem next_on {c : RC} {w0 w : World} {s : St} (h : On c w0 w s) :
    Calls Tryd.prog 93 #[.pointer (some ⟨c.R, 0, none⟩)] w fun e w' => e = .returned (.agg #[.int .i64 s.next.kind, .int .i64 s.next.int, .string (str s.next.text)]) ∧ Hid (On c w0 w' s) :=
  (next_any h.rdr c.hl).mono fun _ _ ⟨h1, h2⟩ => ⟨h1, h.later h2⟩

theorem empty_list {u : List UInt8} (h : u ≠ []) : (str u).toList.isEmpty = false ∧ ((str u).toList == []) = false ∧ ¬ (str u).toList = [] := by
  have e : (str u).toList = u := by rw [bytes_to_list, bts_str]
  rw [e]
  cases u with
  | nil => exact absurd rfl h
  | cons a l => exact ⟨rfl, rfl, by simp⟩

set_option maxRecDepth 100000 in
set_option maxHeartbeats 4000000 in
theorem oneOf_on {c : RC} {w0 w : World} {s : St} (h : On c w0 w s) {wo : Option Addr} {wc : Nat} {ws : List (List UInt8)} (hw : Wds w wo ws) :
    Calls Tryd.prog 43 #[.pointer (some ⟨c.R, 0, none⟩), .slice wo ws.length wc] w fun e w' => e = .returned (.string (str (oneOf ws s).1)) ∧ Hid (On c w0 w' (oneOf ws s).2) := by
  have cA := anyOf_on (wc := wc) h hw
  generalize ws.length = n at cA ⊢
  clear h hw
  unfold oneOf
  generalize anyOf ws s = p at cA ⊢
  obtain ⟨u, s1⟩ := p
  by_cases hu : u = []
  · subst hu
    rw [if_pos rfl]
    simp only at cA ⊢
    have e0 : (str []).toList = [] := by rw [bytes_to_list, bts_str]
    have cR : Hid (∀ W, Hid (On c w0 W s1) → Calls Tryd.prog 49 #[.pointer (some ⟨c.R, 0, none⟩)] W fun e w' => e = .returned (.tuple #[]) ∧ Hid (On c w0 w' s1.stop)) := fun W h => refuse_on h.out
    go_enter Tryd.func43, Tryd.ntmps43
    go_wp2_with (first
      | (go_at_call 66; refine cA.mono ?_; rintro e w1 ⟨rfl, HB⟩)
      | (go_at_call 49; refine (cR.out _ HB).mono ?_; rintro e w2 ⟨rfl, HB2⟩))
    go_ret
    exact ⟨rfl, HB2⟩
  · rw [if_neg hu]
    simp only at cA ⊢
    obtain ⟨e0, e1, e2⟩ := empty_list hu
    go_enter Tryd.func43, Tryd.ntmps43
    go_wp2_with (go_at_call 66; refine cA.mono ?_; rintro e w1 ⟨rfl, HB⟩)
    go_ret
    exact ⟨rfl, HB⟩

end Go.Proofs.YtedinkoapieakaaDoor
