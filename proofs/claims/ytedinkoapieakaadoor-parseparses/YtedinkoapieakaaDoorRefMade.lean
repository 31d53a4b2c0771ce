/- Which words are kept, as the document itself reckons it. -/
import Derived.Test.YtedinkoapieakaaDoorParseKept
import Derived.Test.YtedinkoapieakaaDoorParseLeft
import Derived.Test.YtedinkoapieakaaDoorParseMore
import Derived.Deep.RegionHeld
namespace Go.Proofs.YtedinkoapieakaaDoor
open Go.ChangeShapes Go.WideShapes Go.ChangeAt Go.RowKit

set_option maxRecDepth 100000 in
set_option maxHeartbeats 8000000 in
theorem KeptWord_any (u : List UInt8) (w : World) :
    Calls Tryd.prog 85 #[.string (str u)] w fun e w' => e = .returned (.bool (kept u)) ∧ w = w' := by
  cases hk : kept u with
  | true =>
    have h : u ∈ keptList := List.contains_iff_mem.1 hk
    clear hk
    simp only [keptList, List.mem_cons, List.not_mem_nil, or_false] at h
    rcases h with rfl | rfl | rfl | rfl | rfl | rfl | rfl | rfl | rfl | rfl | rfl | rfl | rfl | rfl | rfl | rfl | rfl | rfl | rfl | rfl | rfl | rfl | rfl | rfl | rfl | rfl | rfl | rfl | rfl | rfl | rfl | rfl | rfl | rfl | rfl
    · show Calls Tryd.prog 85 #[.string ⟨#[97, 110, 100]⟩] w _
      go_enter Tryd.func85, Tryd.ntmps85
      go_wp2
      go_ret
      exact ⟨rfl, rfl⟩
    · show Calls Tryd.prog 85 #[.string ⟨#[98, 121]⟩] w _
      go_enter Tryd.func85, Tryd.ntmps85
      go_wp2
      go_ret
      exact ⟨rfl, rfl⟩
    · show Calls Tryd.prog 85 #[.string ⟨#[99, 111, 117, 110, 116]⟩] w _
      go_enter Tryd.func85, Tryd.ntmps85
      go_wp2
      go_ret
      exact ⟨rfl, rfl⟩
    · show Calls Tryd.prog 85 #[.string ⟨#[99, 114, 101, 97, 116, 101]⟩] w _
      go_enter Tryd.func85, Tryd.ntmps85
      go_wp2
      go_ret
      exact ⟨rfl, rfl⟩
    · show Calls Tryd.prog 85 #[.string ⟨#[100, 101, 108, 101, 116, 101]⟩] w _
      go_enter Tryd.func85, Tryd.ntmps85
      go_wp2
      go_ret
      exact ⟨rfl, rfl⟩
    · show Calls Tryd.prog 85 #[.string ⟨#[100, 101, 115, 99]⟩] w _
      go_enter Tryd.func85, Tryd.ntmps85
      go_wp2
      go_ret
      exact ⟨rfl, rfl⟩
    · show Calls Tryd.prog 85 #[.string ⟨#[102, 97, 108, 115, 101]⟩] w _
      go_enter Tryd.func85, Tryd.ntmps85
      go_wp2
      go_ret
      exact ⟨rfl, rfl⟩
    · show Calls Tryd.prog 85 #[.string ⟨#[102, 114, 111, 109]⟩] w _
      go_enter Tryd.func85, Tryd.ntmps85
      go_wp2
      go_ret
      exact ⟨rfl, rfl⟩
    · show Calls Tryd.prog 85 #[.string ⟨#[103, 114, 111, 117, 112]⟩] w _
      go_enter Tryd.func85, Tryd.ntmps85
      go_wp2
      go_ret
      exact ⟨rfl, rfl⟩
    · show Calls Tryd.prog 85 #[.string ⟨#[105, 110, 100, 101, 120]⟩] w _
      go_enter Tryd.func85, Tryd.ntmps85
      go_wp2
      go_ret
      exact ⟨rfl, rfl⟩
    · show Calls Tryd.prog 85 #[.string ⟨#[105, 110, 115, 101, 114, 116]⟩] w _
      go_enter Tryd.func85, Tryd.ntmps85
      go_wp2
      go_ret
      exact ⟨rfl, rfl⟩
    · show Calls Tryd.prog 85 #[.string ⟨#[105, 110, 116]⟩] w _
      go_enter Tryd.func85, Tryd.ntmps85
      go_wp2
      go_ret
      exact ⟨rfl, rfl⟩
    · show Calls Tryd.prog 85 #[.string ⟨#[105, 110, 116, 111]⟩] w _
      go_enter Tryd.func85, Tryd.ntmps85
      go_wp2
      go_ret
      exact ⟨rfl, rfl⟩
    · show Calls Tryd.prog 85 #[.string ⟨#[105, 115]⟩] w _
      go_enter Tryd.func85, Tryd.ntmps85
      go_wp2
      go_ret
      exact ⟨rfl, rfl⟩
    · show Calls Tryd.prog 85 #[.string ⟨#[106, 111, 105, 110]⟩] w _
      go_enter Tryd.func85, Tryd.ntmps85
      go_wp2
      go_ret
      exact ⟨rfl, rfl⟩
    · show Calls Tryd.prog 85 #[.string ⟨#[107, 101, 121]⟩] w _
      go_enter Tryd.func85, Tryd.ntmps85
      go_wp2
      go_ret
      exact ⟨rfl, rfl⟩
    · show Calls Tryd.prog 85 #[.string ⟨#[108, 105, 109, 105, 116]⟩] w _
      go_enter Tryd.func85, Tryd.ntmps85
      go_wp2
      go_ret
      exact ⟨rfl, rfl⟩
    · show Calls Tryd.prog 85 #[.string ⟨#[109, 97, 120]⟩] w _
      go_enter Tryd.func85, Tryd.ntmps85
      go_wp2
      go_ret
      exact ⟨rfl, rfl⟩
    · show Calls Tryd.prog 85 #[.string ⟨#[109, 105, 110]⟩] w _
      go_enter Tryd.func85, Tryd.ntmps85
      go_wp2
      go_ret
      exact ⟨rfl, rfl⟩
    · show Calls Tryd.prog 85 #[.string ⟨#[110, 111, 116]⟩] w _
      go_enter Tryd.func85, Tryd.ntmps85
      go_wp2
      go_ret
      exact ⟨rfl, rfl⟩
    · show Calls Tryd.prog 85 #[.string ⟨#[110, 117, 108, 108]⟩] w _
      go_enter Tryd.func85, Tryd.ntmps85
      go_wp2
      go_ret
      exact ⟨rfl, rfl⟩
    · show Calls Tryd.prog 85 #[.string ⟨#[111, 110]⟩] w _
      go_enter Tryd.func85, Tryd.ntmps85
      go_wp2
      go_ret
      exact ⟨rfl, rfl⟩
    · show Calls Tryd.prog 85 #[.string ⟨#[111, 114]⟩] w _
      go_enter Tryd.func85, Tryd.ntmps85
      go_wp2
      go_ret
      exact ⟨rfl, rfl⟩
    · show Calls Tryd.prog 85 #[.string ⟨#[111, 114, 100, 101, 114]⟩] w _
      go_enter Tryd.func85, Tryd.ntmps85
      go_wp2
      go_ret
      exact ⟨rfl, rfl⟩
    · show Calls Tryd.prog 85 #[.string ⟨#[112, 114, 105, 109, 97, 114, 121]⟩] w _
      go_enter Tryd.func85, Tryd.ntmps85
      go_wp2
      go_ret
      exact ⟨rfl, rfl⟩
    · show Calls Tryd.prog 85 #[.string ⟨#[115, 101, 108, 101, 99, 116]⟩] w _
      go_enter Tryd.func85, Tryd.ntmps85
      go_wp2
      go_ret
      exact ⟨rfl, rfl⟩
    · show Calls Tryd.prog 85 #[.string ⟨#[115, 101, 116]⟩] w _
      go_enter Tryd.func85, Tryd.ntmps85
      go_wp2
      go_ret
      exact ⟨rfl, rfl⟩
    · show Calls Tryd.prog 85 #[.string ⟨#[115, 117, 109]⟩] w _
      go_enter Tryd.func85, Tryd.ntmps85
      go_wp2
      go_ret
      exact ⟨rfl, rfl⟩
    · show Calls Tryd.prog 85 #[.string ⟨#[116, 97, 98, 108, 101]⟩] w _
      go_enter Tryd.func85, Tryd.ntmps85
      go_wp2
      go_ret
      exact ⟨rfl, rfl⟩
    · show Calls Tryd.prog 85 #[.string ⟨#[116, 101, 120, 116]⟩] w _
      go_enter Tryd.func85, Tryd.ntmps85
      go_wp2
      go_ret
      exact ⟨rfl, rfl⟩
    · show Calls Tryd.prog 85 #[.string ⟨#[116, 114, 117, 101]⟩] w _
      go_enter Tryd.func85, Tryd.ntmps85
      go_wp2
      go_ret
      exact ⟨rfl, rfl⟩
    · show Calls Tryd.prog 85 #[.string ⟨#[116, 114, 117, 116, 104]⟩] w _
      go_enter Tryd.func85, Tryd.ntmps85
      go_wp2
      go_ret
      exact ⟨rfl, rfl⟩
    · show Calls Tryd.prog 85 #[.string ⟨#[117, 112, 100, 97, 116, 101]⟩] w _
      go_enter Tryd.func85, Tryd.ntmps85
      go_wp2
      go_ret
      exact ⟨rfl, rfl⟩
    · show Calls Tryd.prog 85 #[.string ⟨#[118, 97, 108, 117, 101, 115]⟩] w _
      go_enter Tryd.func85, Tryd.ntmps85
      go_wp2
      go_ret
      exact ⟨rfl, rfl⟩
    · show Calls Tryd.prog 85 #[.string ⟨#[119, 104, 101, 114, 101]⟩] w _
      go_enter Tryd.func85, Tryd.ntmps85
      go_wp2
      go_ret
      exact ⟨rfl, rfl⟩
  | false =>
    have n0 := list_lit (not_kept hk (v := [97, 110, 100]) (by decide))
    have n1 := list_lit (not_kept hk (v := [98, 121]) (by decide))
    have n2 := list_lit (not_kept hk (v := [99, 111, 117, 110, 116]) (by decide))
    have n3 := list_lit (not_kept hk (v := [99, 114, 101, 97, 116, 101]) (by decide))
    have n4 := list_lit (not_kept hk (v := [100, 101, 108, 101, 116, 101]) (by decide))
    have n5 := list_lit (not_kept hk (v := [100, 101, 115, 99]) (by decide))
    have n6 := list_lit (not_kept hk (v := [102, 97, 108, 115, 101]) (by decide))
    have n7 := list_lit (not_kept hk (v := [102, 114, 111, 109]) (by decide))
    have n8 := list_lit (not_kept hk (v := [103, 114, 111, 117, 112]) (by decide))
    have n9 := list_lit (not_kept hk (v := [105, 110, 100, 101, 120]) (by decide))
    have n10 := list_lit (not_kept hk (v := [105, 110, 115, 101, 114, 116]) (by decide))
    have n11 := list_lit (not_kept hk (v := [105, 110, 116]) (by decide))
    have n12 := list_lit (not_kept hk (v := [105, 110, 116, 111]) (by decide))
    have n13 := list_lit (not_kept hk (v := [105, 115]) (by decide))
    have n14 := list_lit (not_kept hk (v := [106, 111, 105, 110]) (by decide))
    have n15 := list_lit (not_kept hk (v := [107, 101, 121]) (by decide))
    have n16 := list_lit (not_kept hk (v := [108, 105, 109, 105, 116]) (by decide))
    have n17 := list_lit (not_kept hk (v := [109, 97, 120]) (by decide))
    have n18 := list_lit (not_kept hk (v := [109, 105, 110]) (by decide))
    have n19 := list_lit (not_kept hk (v := [110, 111, 116]) (by decide))
    have n20 := list_lit (not_kept hk (v := [110, 117, 108, 108]) (by decide))
    have n21 := list_lit (not_kept hk (v := [111, 110]) (by decide))
    have n22 := list_lit (not_kept hk (v := [111, 114]) (by decide))
    have n23 := list_lit (not_kept hk (v := [111, 114, 100, 101, 114]) (by decide))
    have n24 := list_lit (not_kept hk (v := [112, 114, 105, 109, 97, 114, 121]) (by decide))
    have n25 := list_lit (not_kept hk (v := [115, 101, 108, 101, 99, 116]) (by decide))
    have n26 := list_lit (not_kept hk (v := [115, 101, 116]) (by decide))
    have n27 := list_lit (not_kept hk (v := [115, 117, 109]) (by decide))
    have n28 := list_lit (not_kept hk (v := [116, 97, 98, 108, 101]) (by decide))
    have n29 := list_lit (not_kept hk (v := [116, 101, 120, 116]) (by decide))
    have n30 := list_lit (not_kept hk (v := [116, 114, 117, 101]) (by decide))
    have n31 := list_lit (not_kept hk (v := [116, 114, 117, 116, 104]) (by decide))
    have n32 := list_lit (not_kept hk (v := [117, 112, 100, 97, 116, 101]) (by decide))
    have n33 := list_lit (not_kept hk (v := [118, 97, 108, 117, 101, 115]) (by decide))
    have n34 := list_lit (not_kept hk (v := [119, 104, 101, 114, 101]) (by decide))
    clear hk
    go_enter Tryd.func85, Tryd.ntmps85
    go_wp2
    go_ret
    exact ⟨rfl, rfl⟩

end Go.Proofs.YtedinkoapieakaaDoor

/- The reader of the document's own parser in memory, on its way: what it holds, what stays. -/
namespace Go.Proofs.YtedinkoapieakaaDoor
open Go.ChangeShapes Go.WideShapes Go.ChangeAt Go.RowKit

/-- where it stands: a place, or -1 where nothing fits any more; then it says where that was -/
def atv (ts : List Tok) (s : St) : Int := if s.ref then -1 else ((ts.length - s.rest.length : Nat) : Int)
def stv (ts : List Tok) (s : St) : Int := if s.ref then ((ts.length - s.rest.length : Nat) : Int) else 0

structure Rdf (R : Nat) (w : World) (ao : Option Addr) (cap : Nat) (ts : List Tok) (s : St) : Prop where
  lt : R < w.heap.size
  tok : w.cell? ⟨R, 0, none⟩ = some (.slice ao ts.length cap)
  at_ : w.cell? ⟨R, 1, none⟩ = some (.int .i64 (atv ts s))
  stp : w.cell? ⟨R, 2, none⟩ = some (.int .i64 (stv ts s))
  fz : ∀ i, w.frozen? ⟨R, i, none⟩ = false
  suf : ∃ pre, ts = pre ++ s.rest
  toks : Toks w ao cap ts
  apart : ∀ a, ao = some a → a.block ≠ R

theorem stop_ref {s : St} (h : s.ref = true) : s.stop = s := by cases s; simp only at h; subst h; rfl

theorem Rdf.later {R : Nat} {w w' : World} {ao : Option Addr} {cap : Nat} {ts : List Tok} {s : St} (h : Rdf R w ao cap ts s) (hb : Below w.heap.size w w') : Rdf R w' ao cap ts s :=
  ⟨Nat.lt_of_lt_of_le h.lt hb.size, (hb.cell h.lt).trans h.tok, (hb.cell h.lt).trans h.at_, (hb.cell h.lt).trans h.stp, fun i => (hb.frozen h.lt).trans (h.fz i), h.suf, h.toks.later hb, h.apart⟩
theorem Rdf.alloc {R : Nat} {w : World} {ao : Option Addr} {cap : Nat} {ts : List Tok} {s : St} (h : Rdf R w ao cap ts s) (o : Obj) : Rdf R (w.alloc o) ao cap ts s := h.later ((Below.refl _ w).alloc (Nat.le_refl _) o)

/-- a store into another block -/
theorem Rdf.other {R : Nat} {w : World} {ao : Option Addr} {cap : Nat} {ts : List Tok} {s : St} (h : Rdf R w ao cap ts s) {p : Addr} (hp : p.block ≠ R) (ht : ∀ a, ao = some a → a.block ≠ p.block) (u : Value) : Rdf R (w.setCell p u) ao cap ts s := by
  have hk : ∀ k, k ≠ p.block → (w.setCell p u).heap[k]? = w.heap[k]? := fun k hk => Below.heap_setCell _ _ _ _ hk
  have hs : (w.setCell p u).heap.size = w.heap.size := by simp [World.setCell]
  have hK : Keeps p.block w (w.setCell p u) := ⟨rfl, rfl, rfl, by omega, fun k _ h => hk k h⟩
  exact ⟨by rw [hs]; exact h.lt, (hK.cell h.lt (Ne.symm hp)).trans h.tok, (hK.cell h.lt (Ne.symm hp)).trans h.at_, (hK.cell h.lt (Ne.symm hp)).trans h.stp, fun i => (hK.frozen h.lt (Ne.symm hp)).trans (h.fz i), h.suf, h.toks.keep hK ht, h.apart⟩

theorem Rdf.len_le {R : Nat} {w : World} {ao : Option Addr} {cap : Nat} {ts : List Tok} {s : St} (h : Rdf R w ao cap ts s) : s.rest.length ≤ ts.length := by
  obtain ⟨pre, h⟩ := h.suf
  rw [h]
  simp

/-- nothing fits any more: both stores -/
theorem Rdf.stop {R : Nat} {w : World} {ao : Option Addr} {cap : Nat} {ts : List Tok} {s : St} (h : Rdf R w ao cap ts s) {k : Nat} (hk : ts.length - s.rest.length = k) : Rdf R ((w.setCell ⟨R, 2, none⟩ (.int .i64 (k : Int))).setCell ⟨R, 1, none⟩ (.int .i64 (-1))) ao cap ts s.stop := by
  have hK : Keeps R w ((w.setCell ⟨R, 2, none⟩ (.int .i64 (k : Int))).setCell ⟨R, 1, none⟩ (.int .i64 (-1))) := ((Keeps.refl R w).setCell (.inl rfl) _).setCell (.inl rfl) _
  refine ⟨by rw [setCell_size, setCell_size]; exact h.lt, by rw [World.cell?_setCell_other (h := by simp), World.cell?_setCell_other (h := by simp)]; exact h.tok, ?_, ?_,
    fun i => by rw [World.frozen?_setCell, World.frozen?_setCell]; exact h.fz i, h.suf, h.toks.keep hK h.apart, h.apart⟩
  · exact World.cell?_setCell_same _ _ _ (u := .int .i64 (atv ts s)) (by rw [World.cell?_setCell_other (h := by simp)]; exact h.at_)
  · rw [World.cell?_setCell_other (h := by simp)]
    have e : stv ts s.stop = (k : Int) := by rw [← hk]; rfl
    rw [e]
    exact World.cell?_setCell_same _ _ _ h.stp

/-- a token was read -/
theorem Rdf.adv {R : Nat} {w : World} {ao : Option Addr} {cap : Nat} {ts : List Tok} {s : St} (h : Rdf R w ao cap ts s) (hn : s.next.kind ≠ 0) {k : Nat} (hkk : ts.length - s.rest.length = k) :
    Rdf R (w.setCell ⟨R, 1, none⟩ (.int .i64 ((k : Int) + 1))) ao cap ts s.adv := by
  obtain ⟨hr, t, r, hs, _⟩ := next_live hn
  obtain ⟨pre, hp⟩ := h.suf
  have hk : Keeps R w (w.setCell ⟨R, 1, none⟩ (.int .i64 ((k : Int) + 1))) := (Keeps.refl R w).setCell (.inl rfl) _
  have hlen : atv ts s.adv = (k : Int) + 1 := by
    have h1 := congrArg List.length hp
    simp only [List.length_append, hs, List.length_cons] at h1
    simp only [atv, St.adv, hs, List.tail_cons, hr, Bool.false_eq_true, if_false]
    rw [hs, List.length_cons] at hkk
    omega
  have hst : stv ts s.adv = stv ts s := by simp [stv, St.adv, hr]
  exact ⟨by rw [setCell_size]; exact h.lt, by rw [World.cell?_setCell_other (h := by simp)]; exact h.tok, by rw [hlen]; exact World.cell?_setCell_same _ _ _ h.at_, by rw [World.cell?_setCell_other (h := by simp), hst]; exact h.stp,
    fun i => by rw [World.frozen?_setCell]; exact h.fz i, ⟨pre ++ [t], by rw [hp]; simp [St.adv, hs]⟩, h.toks.keep hk h.apart, h.apart⟩

/-- the reader stands at s, and of what was there at w0 all is as it was but the reader -/
structure Onr (c : RC) (w0 w : World) (s : St) : Prop where
  rdr : Rdf c.R w c.ao c.cap c.ts s
  keeps : Keeps c.R w0 w
  oldR : c.R < w0.heap.size
  oldT : ∀ a, c.ao = some a → a.block < w0.heap.size

theorem Onr.lt {c : RC} {w0 w : World} {s : St} (h : Onr c w0 w s) : c.R < w.heap.size := h.rdr.lt
theorem Onr.size {c : RC} {w0 w : World} {s : St} (h : Onr c w0 w s) : w0.heap.size ≤ w.heap.size := h.keeps.size
theorem Onr.here {c : RC} {w0 w : World} {s : St} (h : Onr c w0 w s) : Onr c w w s := ⟨h.rdr, .refl _ _, h.rdr.lt, fun a ha => Nat.lt_of_lt_of_le (h.oldT a ha) h.keeps.size⟩
theorem Onr.back {c : RC} {w0 w w' : World} {s s' : St} (h : Onr c w0 w s) (k : Onr c w w' s') : Onr c w0 w' s' := ⟨k.rdr, h.keeps.trans k.keeps, h.oldR, h.oldT⟩
theorem Onr.step {c : RC} {w0 w w' : World} {s s' : St} (h : Onr c w0 w s) (r : Rdf c.R w' c.ao c.cap c.ts s') (k : Keeps c.R w w') : Onr c w0 w' s' := ⟨r, h.keeps.trans k, h.oldR, h.oldT⟩
theorem Onr.later {c : RC} {w0 w w' : World} {s : St} (h : Onr c w0 w s) (hb : Below w.heap.size w w') : Onr c w0 w' s := ⟨h.rdr.later hb, h.keeps.trans (.of_below hb), h.oldR, h.oldT⟩
theorem Onr.alloc {c : RC} {w0 w : World} {s : St} (h : Onr c w0 w s) (o : Obj) : Onr c w0 (w.alloc o) s := h.later ((Below.refl _ w).alloc (Nat.le_refl _) o)
theorem Onr.drewN {c : RC} {w0 w : World} {s : St} (h : Onr c w0 w s) (n : Nat) : Onr c w0 (w.drewN n) s := h.later (below_dN (Below.refl _ w) n)
theorem Onr.drew {c : RC} {w0 w : World} {s : St} (h : Onr c w0 w s) : Onr c w0 w.drew s := h.later (Below.refl _ w).drew
theorem Onr.setCell {c : RC} {w0 w : World} {s : St} (h : Onr c w0 w s) {p : Addr} (hp : w0.heap.size ≤ p.block) (u : Value) : Onr c w0 (w.setCell p u) s :=
  ⟨h.rdr.other (by have := h.oldR; omega) (fun a ha => by have := h.oldT a ha; omega) u, h.keeps.setCell (.inr hp) u, h.oldR, h.oldT⟩
theorem Onr.cell {c : RC} {w0 w : World} {s : St} (h : Onr c w0 w s) {p : Addr} (hp : p.block < w0.heap.size) (hR : p.block ≠ c.R) : w.cell? p = w0.cell? p := h.keeps.cell hp hR
theorem Onr.frozen {c : RC} {w0 w : World} {s : St} (h : Onr c w0 w s) {p : Addr} (hp : p.block < w0.heap.size) (hR : p.block ≠ c.R) : w.frozen? p = w0.frozen? p := h.keeps.frozen hp hR

/-- the count, where something still fits -/
theorem Onr.live {c : RC} {w0 w : World} {s : St} (h : Onr c w0 w s) (hr : s.ref = false) : ∃ k : Nat, k ≤ c.ts.length ∧ c.ts.length ≤ 300 ∧ c.ts.length - s.rest.length = k ∧ w.cell? ⟨c.R, 1, none⟩ = some (.int .i64 (k : Int)) := by
  refine ⟨c.ts.length - s.rest.length, by omega, c.hl, rfl, ?_⟩
  have := h.rdr.at_
  simp only [atv, hr, Bool.false_eq_true, if_false] at this
  exact this
theorem Onr.dead {c : RC} {w0 w : World} {s : St} (h : Onr c w0 w s) (hr : s.ref = true) : w.cell? ⟨c.R, 1, none⟩ = some (.int .i64 (-1)) := by
  have := h.rdr.at_
  simp only [atv, hr, if_true] at this
  exact this

/-- the next token, in memory -/
theorem Onr.here_tok {c : RC} {w0 w : World} {s : St} (h : Onr c w0 w s) (hr : s.ref = false) {k : Nat} (hk : c.ts.length - s.rest.length = k) (hn : k < c.ts.length) :
    ∃ b off, c.ao = some ⟨b, off, none⟩ ∧ b < w.heap.size ∧ w.cell? ⟨b, off + k * 3, none⟩ = some (.int .i64 s.next.kind) ∧ w.cell? ⟨b, off + k * 3 + 1, none⟩ = some (.int .i64 s.next.int) ∧ w.cell? ⟨b, off + k * 3 + 2, none⟩ = some (.string (str s.next.text)) := by
  obtain ⟨pre, hp⟩ := h.rdr.suf
  have hpl : pre.length = k := by rw [← hk, hp]; simp
  subst hpl
  have e := next_at hp hr hn
  rcases h.rdr.toks.2.2 with h0 | ⟨b, off, h1, h2, h3⟩
  · rw [h0] at hn; cases hn
  · obtain ⟨k0, k1, k2⟩ := h3 pre.length hn
    rw [← e] at k0 k1 k2
    exact ⟨b, off, h1, h2, k0, k1, k2⟩

theorem next_end {c : RC} {w0 w : World} {s : St} (h : Onr c w0 w s) {k : Nat} (hk : c.ts.length - s.rest.length = k) (hn : ¬ k < c.ts.length) : s.next = zeroTok := by
  have h1 := h.rdr.len_le
  have : s.rest = [] := List.length_eq_zero_iff.1 (by omega)
  simp [St.next, this]

/-! ### contracts -/

set_option maxHeartbeats 2000000 in
theorem fail_on {c : RC} {w0 w : World} {s : St} (h : Onr c w0 w s) :
    Calls Tryd.prog 19 #[.pointer (some ⟨c.R, 0, none⟩)] w fun e w' => e = .returned (.tuple #[]) ∧ c.R < w'.heap.size ∧ Hid (Onr c w0 w' s.stop) := by
  have hR := h.lt
  cases hr : s.ref with
  | true =>
    have c1 := h.dead hr
    have HH : Hid (Onr c w0 w s.stop) := by rw [stop_ref hr]; exact h
    clear h
    go_enter Tryd.func19, Tryd.ntmps19
    go_wp2
    go_end0
    exact ⟨rfl, hR, HH⟩
  | false =>
    obtain ⟨k, hk, hl, hkk, c1⟩ := h.live hr
    have f1 := h.rdr.fz 1
    have f2 := h.rdr.fz 2
    have c2 := h.rdr.stp
    have HH : Hid (Onr c w0 ((w.setCell ⟨c.R, 2, none⟩ (.int .i64 (k : Int))).setCell ⟨c.R, 1, none⟩ (.int .i64 (-1))) s.stop) := h.step (h.rdr.stop hkk) (Keeps.setCell (p := ⟨c.R, 1, none⟩) (Keeps.setCell (p := ⟨c.R, 2, none⟩) (Keeps.refl _ w) (.inl rfl) _) (.inl rfl) _)
    have hk0 : (0 : Int) ≤ (k : Int) := by omega
    clear h hkk
    go_enter Tryd.func19, Tryd.ntmps19
    go_wp2
    go_end0
    exact ⟨rfl, HH.out.lt, HH⟩

theorem isOne_one (v : List UInt8) (t : Tok) : isOne [v] t = ((decide (t.kind = 1) && decide (t.text = v)) || (decide (t.kind = 4) && decide (t.text = v))) := by
  have e : [v].contains t.text = decide (t.text = v) := by
    rw [Bool.eq_iff_iff, List.contains_iff_mem, List.mem_singleton, decide_eq_true_eq]
  unfold isOne
  rw [e]
  cases decide (t.kind = 1) <;> cases decide (t.kind = 4) <;> cases decide (t.text = v) <;> rfl

theorem str_beq (u v : List UInt8) : ((str u).toList == (str v).toList) = decide (u = v) := by
  rw [bytes_to_list, bytes_to_list, bts_str, bts_str, Bool.eq_iff_iff, beq_iff_eq, decide_eq_true_eq]

end Go.Proofs.YtedinkoapieakaaDoor

/- The plain reader's rules, word by word, as the document's own parser asks for them. No model here. -/
namespace Go.Proofs.YtedinkoapieakaaDoor

theorem isOne_text {v : List UInt8} {t : Tok} (h : isOne [v] t = true) : t.text = v := by
  unfold isOne at h
  rw [Bool.and_eq_true, List.contains_iff_mem, List.mem_singleton] at h
  exact h.2
theorem isOne_mem {ws : List (List UInt8)} {v : List UInt8} {t : Tok} (hv : v ∈ ws) (h : isOne [v] t = true) : isOne ws t = true := by
  have e := isOne_text h
  unfold isOne at h ⊢
  rw [Bool.and_eq_true] at h ⊢
  exact ⟨h.1, by rw [List.contains_iff_mem, e]; exact hv⟩
theorem isOne_none {ws : List (List UInt8)} {t : Tok} (h : ∀ v ∈ ws, isOne [v] t = false) : isOne ws t = false := by
  cases hb : isOne ws t with
  | false => rfl
  | true =>
    have h1 := hb
    unfold isOne at hb
    rw [Bool.and_eq_true, List.contains_iff_mem] at hb
    have h2 := h _ hb.2
    unfold isOne at h2
    rw [Bool.and_eq_false_iff] at h2
    rcases h2 with h2 | h2
    · rw [hb.1] at h2; cases h2
    · rw [List.contains_iff_mem.2 (List.mem_singleton.2 rfl)] at h2; cases h2
theorem isOne_other {v u : List UInt8} {t : Tok} (h : isOne [v] t = true) (hne : u ≠ v) : isOne [u] t = false := by
  cases hb : isOne [u] t with
  | false => rfl
  | true => exact absurd ((isOne_text hb).symm.trans (isOne_text h)) hne
theorem isOne_zero (v : List UInt8) : isOne [v] zeroTok = false := by simp [isOne, zeroTok]

theorem any_yes {ws : List (List UInt8)} {v : List UInt8} {s : St} (hv : v ∈ ws) (h : isOne [v] s.next = true) : anyOf ws s = (v, s.adv) := by
  rw [anyOf_yes (isOne_mem hv h), isOne_text h]
theorem any_no {ws : List (List UInt8)} {s : St} (h : ∀ v ∈ ws, isOne [v] s.next = false) : anyOf ws s = ([], s) := anyOf_no (isOne_none h)

theorem may_yes {v : List UInt8} {b : List (List UInt8)} {s : St} (hv : v ≠ []) (h : isOne [v] s.next = true) : mayBe v b s = (true, needs b s.adv) := by
  unfold mayBe
  rw [any_yes (List.mem_singleton.2 rfl) h, if_neg hv]
theorem may_no {v : List UInt8} {b : List (List UInt8)} {s : St} (h : isOne [v] s.next = false) : mayBe v b s = (false, s) := by
  unfold mayBe
  rw [anyOf_no h, if_pos rfl]
theorem needs_yes {v : List UInt8} {s : St} (hv : v ≠ []) (h : isOne [v] s.next = true) : needs [v] s = s.adv := by
  simp only [needs, oneOf, any_yes (List.mem_singleton.2 rfl) h, if_neg hv]
theorem needs_no {v : List UInt8} {s : St} (h : isOne [v] s.next = false) : needs [v] s = s.stop := by
  simp only [needs, oneOf, anyOf_no h, if_true]

theorem left_no {P : St → Ex × St} {signs : List (List UInt8)} {a : Ex} {s : St} (h : ∀ v ∈ signs, isOne [v] s.next = false) : leftLoop P signs (s.len + 1) a s = (a, s) := by
  have e := any_no h
  have := leftLoop_end (part := P) (signs := signs) (e := a) (s := s) (by rw [e]; exact opOf_nil)
  rw [this, e]
theorem left_yes {P : St → Ex × St} (hp : Shrinks P) {signs : List (List UInt8)} {v : List UInt8} {a : Ex} {s : St} (hv : v ∈ signs) (h : isOne [v] s.next = true) (ho : opOf v ≠ 0) :
    leftLoop P signs (s.len + 1) a s = leftLoop P signs ((P s.adv).2.len + 1) (.bi (opOf v) a (P s.adv).1) (P s.adv).2 := by
  have e := any_yes hv h
  have := leftLoop_on (part := P) hp (signs := signs) (e := a) (s := s) (by rw [e]; exact ho)
  rw [this, e]

theorem test_is {sm : St → Ex × St} {a : Ex} {s : St} (h : isOne [[105, 115]] s.next = true) : testOn sm a s = if isOne [[110, 111, 116]] s.adv.next then (.un 7 a, needs [[110, 117, 108, 108]] s.adv.adv) else (.un 6 a, needs [[110, 117, 108, 108]] s.adv) := by
  have e : anyOf cmpSigns s = ([], s) := any_no fun v hv => isOne_other h (by intro hx; subst hx; revert hv; decide)
  have e1 : mayBe [105, 115] [] s = (true, s.adv) := may_yes (b := []) (by decide) h
  unfold testOn isP
  simp only [e, opOf_nil, if_true, e1]
  cases hn : isOne [[110, 111, 116]] s.adv.next with
  | true =>
    have e2 : mayBe [110, 111, 116] [[110, 117, 108, 108]] s.adv = (true, needs [[110, 117, 108, 108]] s.adv.adv) := may_yes (by decide) hn
    simp only [e2, if_true]
  | false =>
    have e2 : mayBe [110, 111, 116] [[110, 117, 108, 108]] s.adv = (false, s.adv) := may_no hn
    simp only [e2, Bool.false_eq_true, if_false]
theorem test_cmp {sm : St → Ex × St} {a : Ex} {s : St} {v : List UInt8} (hv : v ∈ cmpSigns) (h : isOne [v] s.next = true) : testOn sm a s = (.bi (opOf v) a (sm s.adv).1, (sm s.adv).2) := by
  unfold testOn
  rw [any_yes hv h, if_neg]
  exact (by decide : ∀ v ∈ cmpSigns, opOf v ≠ 0) v hv
theorem test_no {sm : St → Ex × St} {a : Ex} {s : St} (h1 : isOne [[105, 115]] s.next = false) (h : ∀ v ∈ cmpSigns, isOne [v] s.next = false) : testOn sm a s = (a, s) := by
  unfold testOn isP
  rw [any_no h]
  simp only [opOf_nil, if_true]
  rw [may_no h1]
  simp

theorem oneP_word {ex : St → Ex × St} {s : St} {v : List UInt8} (hv : v ∈ oneWords) (h : isOne [v] s.next = true) : oneP ex s = wordP ex v s.adv := by
  have hk : s.next.kind = 1 ∨ s.next.kind = 4 := by
    unfold isOne at h
    rw [Bool.and_eq_true, Bool.or_eq_true, decide_eq_true_eq, decide_eq_true_eq] at h
    exact h.1
  unfold oneP
  rw [if_neg (by omega), if_neg (by omega), any_yes hv h]
theorem oneP_col {ex : St → Ex × St} {s : St} (h2 : ¬ s.next.kind = 2) (h3 : ¬ s.next.kind = 3) (h : ∀ v ∈ oneWords, isOne [v] s.next = false) : oneP ex s = columnOfP s := by
  unfold oneP
  rw [if_neg h2, if_neg h3, any_no h]
  rfl

end Go.Proofs.YtedinkoapieakaaDoor

/- The document's own parser: the next word, a name, a number: contracts, at every state. -/
namespace Go.Proofs.YtedinkoapieakaaDoor
open Go.ChangeShapes Go.WideShapes Go.ChangeAt Go.RowKit

set_option maxRecDepth 100000 in
set_option maxHeartbeats 4000000 in
theorem sees_on {c : RC} {w0 w : World} {s : St} (v : List UInt8) (h : Onr c w0 w s) :
    Calls Tryd.prog 83 #[.pointer (some ⟨c.R, 0, none⟩), .string (str v)] w fun e w' => e = .returned (.bool (isOne [v] s.next)) ∧ c.R < w'.heap.size ∧ Hid (Onr c w0 w' s) := by
  have hR := h.lt
  have c0 := h.rdr.tok
  have HH := hide h
  cases hr : s.ref with
  | true =>
    have c1 := h.dead hr
    have e0 : s.next = zeroTok := by simp [St.next, hr]
    rw [e0, isOne_zero]
    clear h
    go_enter Tryd.func83, Tryd.ntmps83
    go_wp2
    go_quiet (fail)
    go_wp2
    go_ret
    exact ⟨rfl, hR, HH.out.drewN _⟩
  | false =>
    obtain ⟨k, hk, hl, hkk, c1⟩ := h.live hr
    have hk0 : ¬ (k : Int) < 0 := by omega
    by_cases hn : k < c.ts.length
    · obtain ⟨b, off, hao, hbw, k0, k1, k2⟩ := h.here_tok hr hkk hn
      rw [hao] at c0
      rw [isOne_one]
      generalize s.next = t at k0 k1 k2 ⊢
      generalize c.ts.length = n at c0 hn hk hl
      have hn1 : (k : Int) < (n : Int) := by omega
      have hn2 : ¬ (n : Int) ≤ (k : Int) := by omega
      have hs := str_beq t.text v
      generalize decide (t.text = v) = bb at hs ⊢
      clear h hkk hao
      by_cases h1 : t.kind = 1
      · rw [h1] at k0 ⊢
        cases bb with
        | true =>
          go_enter Tryd.func83, Tryd.ntmps83
          go_wp2
          go_quiet (fail)
          have HW := hide (HH.out.drewN nq)
          have c0 : (w.drewN nq).cell? ⟨c.R, 0, none⟩ = _ := c0
          have c1 : (w.drewN nq).cell? ⟨c.R, 1, none⟩ = _ := c1
          have k0 : (w.drewN nq).cell? ⟨b, off + k * 3, none⟩ = _ := k0
          have k1 : (w.drewN nq).cell? ⟨b, off + k * 3 + 1, none⟩ = _ := k1
          have k2 : (w.drewN nq).cell? ⟨b, off + k * 3 + 2, none⟩ = _ := k2
          have hR : c.R < (w.drewN nq).heap.size := hR
          have hbw : b < (w.drewN nq).heap.size := hbw
          generalize w.drewN nq = W at c0 c1 k0 k1 k2 hR hbw HW ⊢
          go_wp2_with (go_region)
          all_goals
            go_ret
            refine ⟨rfl, by simp; omega, ?_⟩
            exact (HW.out.drew).alloc _
        | false =>
          go_enter Tryd.func83, Tryd.ntmps83
          go_wp2
          go_quiet (fail)
          have HW := hide (HH.out.drewN nq)
          have c0 : (w.drewN nq).cell? ⟨c.R, 0, none⟩ = _ := c0
          have c1 : (w.drewN nq).cell? ⟨c.R, 1, none⟩ = _ := c1
          have k0 : (w.drewN nq).cell? ⟨b, off + k * 3, none⟩ = _ := k0
          have k1 : (w.drewN nq).cell? ⟨b, off + k * 3 + 1, none⟩ = _ := k1
          have k2 : (w.drewN nq).cell? ⟨b, off + k * 3 + 2, none⟩ = _ := k2
          have hR : c.R < (w.drewN nq).heap.size := hR
          have hbw : b < (w.drewN nq).heap.size := hbw
          generalize w.drewN nq = W at c0 c1 k0 k1 k2 hR hbw HW ⊢
          go_wp2_with (go_region)
          all_goals
            go_ret
            refine ⟨rfl, by simp; omega, ?_⟩
            exact (HW.out.drew).alloc _
      · by_cases h4 : t.kind = 4
        · rw [h4] at k0 ⊢
          cases bb with
          | true =>
            go_enter Tryd.func83, Tryd.ntmps83
            go_wp2
            go_quiet (fail)
            have HW := hide (HH.out.drewN nq)
            have c0 : (w.drewN nq).cell? ⟨c.R, 0, none⟩ = _ := c0
            have c1 : (w.drewN nq).cell? ⟨c.R, 1, none⟩ = _ := c1
            have k0 : (w.drewN nq).cell? ⟨b, off + k * 3, none⟩ = _ := k0
            have k1 : (w.drewN nq).cell? ⟨b, off + k * 3 + 1, none⟩ = _ := k1
            have k2 : (w.drewN nq).cell? ⟨b, off + k * 3 + 2, none⟩ = _ := k2
            have hR : c.R < (w.drewN nq).heap.size := hR
            have hbw : b < (w.drewN nq).heap.size := hbw
            generalize w.drewN nq = W at c0 c1 k0 k1 k2 hR hbw HW ⊢
            go_wp2_with (go_region)
            all_goals
              go_ret
              refine ⟨rfl, by simp; omega, ?_⟩
              exact (HW.out.drew).alloc _
          | false =>
            go_enter Tryd.func83, Tryd.ntmps83
            go_wp2
            go_quiet (fail)
            have HW := hide (HH.out.drewN nq)
            have c0 : (w.drewN nq).cell? ⟨c.R, 0, none⟩ = _ := c0
            have c1 : (w.drewN nq).cell? ⟨c.R, 1, none⟩ = _ := c1
            have k0 : (w.drewN nq).cell? ⟨b, off + k * 3, none⟩ = _ := k0
            have k1 : (w.drewN nq).cell? ⟨b, off + k * 3 + 1, none⟩ = _ := k1
            have k2 : (w.drewN nq).cell? ⟨b, off + k * 3 + 2, none⟩ = _ := k2
            have hR : c.R < (w.drewN nq).heap.size := hR
            have hbw : b < (w.drewN nq).heap.size := hbw
            generalize w.drewN nq = W at c0 c1 k0 k1 k2 hR hbw HW ⊢
            go_wp2_with (go_region)
            all_goals
              go_ret
              refine ⟨rfl, by simp; omega, ?_⟩
              exact (HW.out.drew).alloc _
        · have h1b : (t.kind == 1) = false := beq_eq_false_iff_ne.2 h1
          have h4b : (t.kind == 4) = false := beq_eq_false_iff_ne.2 h4
          have HF : Hid ((decide (t.kind = 1) && bb || decide (t.kind = 4) && bb) = false) := by simp [Hid, h1, h4]
          rw [HF.out]
          clear HF h1 h4
          go_enter Tryd.func83, Tryd.ntmps83
          go_wp2
          go_quiet (fail)
          have HW := hide (HH.out.drewN nq)
          have c0 : (w.drewN nq).cell? ⟨c.R, 0, none⟩ = _ := c0
          have c1 : (w.drewN nq).cell? ⟨c.R, 1, none⟩ = _ := c1
          have k0 : (w.drewN nq).cell? ⟨b, off + k * 3, none⟩ = _ := k0
          have k1 : (w.drewN nq).cell? ⟨b, off + k * 3 + 1, none⟩ = _ := k1
          have k2 : (w.drewN nq).cell? ⟨b, off + k * 3 + 2, none⟩ = _ := k2
          have hR : c.R < (w.drewN nq).heap.size := hR
          have hbw : b < (w.drewN nq).heap.size := hbw
          generalize w.drewN nq = W at c0 c1 k0 k1 k2 hR hbw HW ⊢
          go_wp2_with (go_region)
          all_goals
            go_ret
            refine ⟨rfl, by simp; omega, ?_⟩
            exact (HW.out.drew).alloc _
    · have e0 := next_end h hkk hn
      rw [e0, isOne_zero]
      generalize c.ts.length = n at c0 hn hk hl
      have hn2 : (n : Int) ≤ (k : Int) := by omega
      clear h hkk
      go_enter Tryd.func83, Tryd.ntmps83
      go_wp2
      go_quiet (fail)
      go_wp2
      go_ret
      exact ⟨rfl, hR, HH.out.drewN _⟩

theorem Onr.count {c : RC} {w0 w : World} {s : St} (h : Onr c w0 w s) (hn : s.next.kind ≠ 0) : ∃ k : Nat, k ≤ 300 ∧ w.cell? ⟨c.R, 1, none⟩ = some (.int .i64 (k : Int)) ∧ w.frozen? ⟨c.R, 1, none⟩ = false ∧ c.R < w.heap.size ∧
    Hid (Onr c w0 (w.setCell ⟨c.R, 1, none⟩ (.int .i64 ((k : Int) + 1))) s.adv) := by
  obtain ⟨k, h1, h2, h3, h4⟩ := h.live (next_live hn).1
  exact ⟨k, by omega, h4, h.rdr.fz 1, h.lt, h.step (h.rdr.adv hn h3) (Keeps.setCell (p := ⟨c.R, 1, none⟩) (Keeps.refl _ w) (.inl rfl) _)⟩

set_option maxRecDepth 100000 in
set_option maxHeartbeats 4000000 in
theorem takes_on {c : RC} {w0 w : World} {s : St} (v : List UInt8) (hv : v ≠ []) (h : Onr c w0 w s) :
    Calls Tryd.prog 50 #[.pointer (some ⟨c.R, 0, none⟩), .string (str v)] w fun e w' => e = .returned (.bool (mayBe v [] s).1) ∧ c.R < w'.heap.size ∧ Hid (Onr c w0 w' (mayBe v [] s).2) := by
  have cS := sees_on v h
  generalize str v = z at cS ⊢
  cases hb : isOne [v] s.next with
  | false =>
    rw [may_no hb]
    rw [hb] at cS
    clear h
    go_enter Tryd.func50, Tryd.ntmps50
    go_wp2_with (go_at_call 83; refine cS.mono ?_; rintro e w1 ⟨rfl, hR1, HB⟩)
    go_ret
    exact ⟨rfl, hR1, HB⟩
  | true =>
    rw [may_yes hv hb]
    rw [hb] at cS
    have HC : Hid (∀ W, Hid (Onr c w0 W s) → ∃ k : Nat, k ≤ 300 ∧ W.cell? ⟨c.R, 1, none⟩ = some (.int .i64 (k : Int)) ∧ W.frozen? ⟨c.R, 1, none⟩ = false ∧ c.R < W.heap.size ∧ Hid (Onr c w0 (W.setCell ⟨c.R, 1, none⟩ (.int .i64 ((k : Int) + 1))) s.adv)) := fun W h => h.out.count (isOne_kind hb)
    clear h hb
    go_enter Tryd.func50, Tryd.ntmps50
    go_wp2_with (go_at_call 83; refine cS.mono ?_; rintro e w1 ⟨rfl, hR1, HB⟩; obtain ⟨k, hk, c1, f1, hR2, HA⟩ := HC.out _ HB)
    go_ret
    exact ⟨rfl, HA.out.lt, HA⟩

set_option maxRecDepth 100000 in
set_option maxHeartbeats 4000000 in
theorem needs_one {c : RC} {w0 w : World} {s : St} (v : List UInt8) (hv : v ≠ []) (h : Onr c w0 w s) :
    Calls Tryd.prog 52 #[.pointer (some ⟨c.R, 0, none⟩), .string (str v)] w fun e w' => e = .returned (.tuple #[]) ∧ c.R < w'.heap.size ∧ Hid (Onr c w0 w' (needs [v] s)) := by
  have cT := takes_on v hv h
  generalize str v = z at cT ⊢
  cases hb : isOne [v] s.next with
  | false =>
    rw [needs_no hb]
    rw [may_no hb] at cT
    have cF : Hid (∀ W, Hid (Onr c w0 W s) → Calls Tryd.prog 19 #[.pointer (some ⟨c.R, 0, none⟩)] W fun e w' => e = .returned (.tuple #[]) ∧ c.R < w'.heap.size ∧ Hid (Onr c w0 w' s.stop)) := fun W h => fail_on h.out
    clear h hb
    go_enter Tryd.func52, Tryd.ntmps52
    go_wp2_with (first
      | (go_at_call 50; refine cT.mono ?_; rintro e w1 ⟨rfl, hR1, HB⟩)
      | (go_at_call 19; refine (cF.out _ HB).mono ?_; rintro e w2 ⟨rfl, hR2, HB2⟩))
    go_end0
    exact ⟨rfl, hR2, HB2⟩
  | true =>
    rw [needs_yes hv hb]
    rw [may_yes hv hb] at cT
    clear h hb
    go_enter Tryd.func52, Tryd.ntmps52
    go_wp2_with (go_at_call 50; refine cT.mono ?_; rintro e w1 ⟨rfl, hR1, HB⟩)
    go_end0
    exact ⟨rfl, hR1, HB⟩

end Go.Proofs.YtedinkoapieakaaDoor

/- The document's own parser: a name, a number: contracts, at every state. -/
namespace Go.Proofs.YtedinkoapieakaaDoor
open Go.ChangeShapes Go.WideShapes Go.ChangeAt Go.RowKit

/-- a count that was read, one on, and what was read -/
theorem Onr.counted {c : RC} {w0 w : World} {s : St} (h : Onr c w0 w s) {k : Nat} (hk : c.ts.length - s.rest.length = k) (hn : k < c.ts.length) (hr : s.ref = false) (h9 : s.next.kind ≠ 0) :
    ∃ W2 b off, w.setCell ⟨c.R, 1, none⟩ (.int .i64 ((k : Int) + 1)) = W2 ∧ c.ao = some ⟨b, off, none⟩ ∧ W2.cell? ⟨c.R, 0, none⟩ = some (.slice (some ⟨b, off, none⟩) c.ts.length c.cap) ∧ W2.cell? ⟨c.R, 1, none⟩ = some (.int .i64 ((k : Int) + 1)) ∧
      W2.cell? ⟨b, off + k * 3, none⟩ = some (.int .i64 s.next.kind) ∧ W2.cell? ⟨b, off + k * 3 + 1, none⟩ = some (.int .i64 s.next.int) ∧ W2.cell? ⟨b, off + k * 3 + 2, none⟩ = some (.string (str s.next.text)) ∧ c.R < W2.heap.size ∧ Hid (Onr c w0 W2 s.adv) := by
  obtain ⟨b, off, hao, hbw, k0, k1, k2⟩ := h.here_tok hr hk hn
  have hbR : b ≠ c.R := h.rdr.apart _ hao
  have c0 := h.rdr.tok
  rw [hao] at c0
  obtain ⟨k', _, _, hkk', c1⟩ := h.live hr
  obtain rfl : k = k' := hk.symm.trans hkk'
  have HA := h.step (h.rdr.adv h9 hk) (Keeps.setCell (p := ⟨c.R, 1, none⟩) (Keeps.refl _ w) (.inl rfl) _)
  exact ⟨_, b, off, rfl, hao, by rw [World.cell?_setCell_other (h := by simp)]; exact c0, World.cell?_setCell_same _ _ _ c1, by rw [World.cell?_setCell_far (h := by simp only; exact Ne.symm hbR)]; exact k0, by rw [World.cell?_setCell_far (h := by simp only; exact Ne.symm hbR)]; exact k1, by rw [World.cell?_setCell_far (h := by simp only; exact Ne.symm hbR)]; exact k2, HA.lt, HA⟩

set_option maxRecDepth 100000 in
set_option maxHeartbeats 4000000 in
theorem nameHere_on {c : RC} {w0 w : World} {s : St} (h : Onr c w0 w s) :
    Calls Tryd.prog 53 #[.pointer (some ⟨c.R, 0, none⟩)] w fun e w' => e = .returned (.string (str (nameP s).1)) ∧ c.R < w'.heap.size ∧ Hid (Onr c w0 w' (nameP s).2) := by
  have hR := h.lt
  have c0 := h.rdr.tok
  have HH := hide h
  have cF : Hid (∀ W, Hid (Onr c w0 W s) → Calls Tryd.prog 19 #[.pointer (some ⟨c.R, 0, none⟩)] W fun e w' => e = .returned (.tuple #[]) ∧ c.R < w'.heap.size ∧ Hid (Onr c w0 w' s.stop)) := fun W h => fail_on h.out
  unfold nameP
  cases hr : s.ref with
  | true =>
    have c1 := h.dead hr
    have e0 : s.next = zeroTok := by simp [St.next, hr]
    rw [e0, if_neg (by decide), stop_ref hr]
    clear h cF
    go_enter Tryd.func53, Tryd.ntmps53
    go_wp2
    go_ret
    exact ⟨rfl, hR, HH⟩
  | false =>
    obtain ⟨k, hk, hl, hkk, c1⟩ := h.live hr
    have hk0 : ¬ (k : Int) < 0 := by omega
    by_cases hn : k < c.ts.length
    · obtain ⟨b, off, hao, hbw, k0, k1, k2⟩ := h.here_tok hr hkk hn
      rw [hao] at c0
      by_cases h1 : s.next.kind = 1
      · have cK : ∀ W, Calls Tryd.prog 85 #[.string (str s.next.text)] W fun e w' => e = .returned (.bool (kept s.next.text)) ∧ w' = W := fun W => (KeptWord_any _ W).mono fun _ _ h => ⟨h.1, h.2.symm⟩
        cases hkp : kept s.next.text with
        | true =>
          rw [if_neg (by simp [isName, hkp])]
          rw [hkp] at cK
          rw [h1] at k0
          generalize s.next.text = tx at k2 cK
          generalize s.next.int = ti at k1
          generalize c.ts.length = n at c0 hn hk hl
          have hn1 : (k : Int) < (n : Int) := by omega
          clear h hkk hao hkp
          go_enter Tryd.func53, Tryd.ntmps53
          go_wp2
          go_quiet (first | (go_at_call 85; (with_reducible refine Calls.quiet_of_same (cK _))))
          have HW := hide (HH.out.drewN nq)
          go_wp2_with (go_at_call 19; refine (cF.out _ HW).mono ?_; rintro e w2 ⟨rfl, hR2, HB2⟩)
          go_ret
          exact ⟨rfl, hR2, HB2⟩
        | false =>
          rw [if_pos (by simp [isName, hkp, h1])]
          rw [hkp] at cK
          have HC := hide (fun n => (h.drewN n).counted hkk hn hr (by rw [h1]; decide))
          rw [h1] at k0
          generalize s.next.text = tx at k2 cK HC ⊢
          generalize s.next.int = ti at k1 HC
          have f1 := h.rdr.fz 1
          have hao2 := HH.out.rdr.apart
          generalize c.ts.length = n at c0 hn hk hl HC
          have hn1 : (k : Int) < (n : Int) := by omega
          clear h hkk hkp cF
          go_enter Tryd.func53, Tryd.ntmps53
          go_wp2
          go_quiet (first | (go_at_call 85; (with_reducible refine Calls.quiet_of_same (cK _))))
          obtain ⟨W2, b2, off2, e2, hao3, q0, q1, _, _, q4, hR2, HA⟩ := HC.out nq
          have HE2 := hide e2
          clear e2 cK k0 k1 k2
          go_wp2
          rw [HE2.out]
          go_quiet (fail)
          go_wp2
          go_ret
          exact ⟨rfl, hR2, HA.out.drewN _⟩
      · rw [if_neg (by simp [isName, h1])]
        have h1b : (s.next.kind == 1) = false := beq_eq_false_iff_ne.2 h1
        generalize s.next.kind = tk at k0 h1b
        generalize s.next.text = tx at k2
        generalize s.next.int = ti at k1
        generalize c.ts.length = n at c0 hn hk hl
        have hn1 : (k : Int) < (n : Int) := by omega
        clear h hkk hao h1
        go_enter Tryd.func53, Tryd.ntmps53
        go_wp2
        go_quiet (fail)
        have HW := hide (HH.out.drewN nq)
        go_wp2_with (go_at_call 19; refine (cF.out _ HW).mono ?_; rintro e w2 ⟨rfl, hR2, HB2⟩)
        go_ret
        exact ⟨rfl, hR2, HB2⟩
    · have e0 := next_end h hkk hn
      rw [e0, if_neg (by decide)]
      generalize c.ts.length = n at c0 hn hk hl
      have hn1 : ¬ (k : Int) < (n : Int) := by omega
      clear h hkk
      go_enter Tryd.func53, Tryd.ntmps53
      go_wp2
      go_quiet (fail)
      have HW := hide (HH.out.drewN nq)
      go_wp2_with (go_at_call 19; refine (cF.out _ HW).mono ?_; rintro e w2 ⟨rfl, hR2, HB2⟩)
      go_ret
      exact ⟨rfl, hR2, HB2⟩

set_option maxRecDepth 100000 in
set_option maxHeartbeats 4000000 in
theorem numberHere_on {c : RC} {w0 w : World} {s : St} (h : Onr c w0 w s) :
    Calls Tryd.prog 89 #[.pointer (some ⟨c.R, 0, none⟩)] w fun e w' => e = .returned (.int .i64 (numberP s).1) ∧ c.R < w'.heap.size ∧ Hid (Onr c w0 w' (numberP s).2) := by
  have hR := h.lt
  have c0 := h.rdr.tok
  have HH := hide h
  have cF : Hid (∀ W, Hid (Onr c w0 W s) → Calls Tryd.prog 19 #[.pointer (some ⟨c.R, 0, none⟩)] W fun e w' => e = .returned (.tuple #[]) ∧ c.R < w'.heap.size ∧ Hid (Onr c w0 w' s.stop)) := fun W h => fail_on h.out
  unfold numberP
  cases hr : s.ref with
  | true =>
    have c1 := h.dead hr
    have e0 : s.next = zeroTok := by simp [St.next, hr]
    rw [e0, if_neg (by decide), stop_ref hr]
    clear h cF
    go_enter Tryd.func89, Tryd.ntmps89
    go_wp2
    go_ret
    exact ⟨rfl, hR, HH⟩
  | false =>
    obtain ⟨k, hk, hl, hkk, c1⟩ := h.live hr
    have hk0 : ¬ (k : Int) < 0 := by omega
    by_cases hn : k < c.ts.length
    · obtain ⟨b, off, hao, hbw, k0, k1, k2⟩ := h.here_tok hr hkk hn
      rw [hao] at c0
      by_cases h1 : s.next.kind = 2
      · rw [if_pos h1]
        have HC := hide (fun n => (h.drewN n).counted hkk hn hr (by rw [h1]; decide))
        rw [h1] at k0
        generalize s.next.text = tx at k2 HC
        generalize s.next.int = ti at k1 HC ⊢
        have f1 := h.rdr.fz 1
        have hao2 := HH.out.rdr.apart
        generalize c.ts.length = n at c0 hn hk hl HC
        have hn1 : (k : Int) < (n : Int) := by omega
        clear h hkk cF
        go_enter Tryd.func89, Tryd.ntmps89
        go_wp2
        go_quiet (fail)
        obtain ⟨W2, b2, off2, e2, hao3, q0, q1, _, q3, _, hR2, HA⟩ := HC.out nq
        have HE2 := hide e2
        clear e2 k0 k1 k2
        go_wp2
        rw [HE2.out]
        go_quiet (fail)
        go_wp2
        go_ret
        exact ⟨rfl, hR2, HA.out.drewN _⟩
      · rw [if_neg h1]
        have h1b : (s.next.kind == 2) = false := beq_eq_false_iff_ne.2 h1
        generalize s.next.kind = tk at k0 h1b
        generalize s.next.text = tx at k2
        generalize s.next.int = ti at k1
        generalize c.ts.length = n at c0 hn hk hl
        have hn1 : (k : Int) < (n : Int) := by omega
        clear h hkk hao h1
        go_enter Tryd.func89, Tryd.ntmps89
        go_wp2
        go_quiet (fail)
        have HW := hide (HH.out.drewN nq)
        go_wp2_with (go_at_call 19; refine (cF.out _ HW).mono ?_; rintro e w2 ⟨rfl, hR2, HB2⟩)
        go_ret
        exact ⟨rfl, hR2, HB2⟩
    · have e0 := next_end h hkk hn
      rw [e0, if_neg (by decide)]
      generalize c.ts.length = n at c0 hn hk hl
      have hn1 : ¬ (k : Int) < (n : Int) := by omega
      clear h hkk
      go_enter Tryd.func89, Tryd.ntmps89
      go_wp2
      go_quiet (fail)
      have HW := hide (HH.out.drewN nq)
      go_wp2_with (go_at_call 19; refine (cF.out _ HW).mono ?_; rintro e w2 ⟨rfl, hR2, HB2⟩)
      go_ret
      exact ⟨rfl, hR2, HB2⟩

/-! ### with whatever else is known carried along -/

theorem takesk {c : RC} (v : List UInt8) (z : ByteArray) (hz : z = str v) (hv : v ≠ []) {K : World → Prop} (hK : KeptBy c K) {w0 W : World} {s : St} (h : Hid (Onr c w0 W s ∧ K W)) :
    Calls Tryd.prog 50 #[.pointer (some ⟨c.R, 0, none⟩), .string z] W fun e w' => e = .returned (.bool (mayBe v [] s).1) ∧ c.R < w'.heap.size ∧ Hid (Onr c w0 w' (mayBe v [] s).2 ∧ K w') := by
  subst hz
  exact (takes_on v hv h.out.1.here).mono fun _ _ ⟨h1, h2, h3⟩ => ⟨h1, h2, h.out.1.back h3.out, hK _ _ h3.out.keeps h.out.2⟩
theorem needsk {c : RC} (v : List UInt8) (z : ByteArray) (hz : z = str v) (hv : v ≠ []) {K : World → Prop} (hK : KeptBy c K) {w0 W : World} {s : St} (h : Hid (Onr c w0 W s ∧ K W)) :
    Calls Tryd.prog 52 #[.pointer (some ⟨c.R, 0, none⟩), .string z] W fun e w' => e = .returned (.tuple #[]) ∧ c.R < w'.heap.size ∧ Hid (Onr c w0 w' (needs [v] s) ∧ K w') := by
  subst hz
  exact (needs_one v hv h.out.1.here).mono fun _ _ ⟨h1, h2, h3⟩ => ⟨h1, h2, h.out.1.back h3.out, hK _ _ h3.out.keeps h.out.2⟩
theorem nameHerek {c : RC} {K : World → Prop} (hK : KeptBy c K) {w0 W : World} {s : St} (h : Hid (Onr c w0 W s ∧ K W)) :
    Calls Tryd.prog 53 #[.pointer (some ⟨c.R, 0, none⟩)] W fun e w' => e = .returned (.string (str (nameP s).1)) ∧ c.R < w'.heap.size ∧ Hid (Onr c w0 w' (nameP s).2 ∧ K w') :=
  (nameHere_on h.out.1.here).mono fun _ _ ⟨h1, h2, h3⟩ => ⟨h1, h2, h.out.1.back h3.out, hK _ _ h3.out.keeps h.out.2⟩
theorem numberHerek {c : RC} {K : World → Prop} (hK : KeptBy c K) {w0 W : World} {s : St} (h : Hid (Onr c w0 W s ∧ K W)) :
    Calls Tryd.prog 89 #[.pointer (some ⟨c.R, 0, none⟩)] W fun e w' => e = .returned (.int .i64 (numberP s).1) ∧ c.R < w'.heap.size ∧ Hid (Onr c w0 w' (numberP s).2 ∧ K w') :=
  (numberHere_on h.out.1.here).mono fun _ _ ⟨h1, h2, h3⟩ => ⟨h1, h2, h.out.1.back h3.out, hK _ _ h3.out.keeps h.out.2⟩

end Go.Proofs.YtedinkoapieakaaDoor

/- The document's own parser: expressions that are made of parts: contracts, at every state. -/
namespace Go.Proofs.YtedinkoapieakaaDoor
open Go.ChangeShapes Go.WideShapes Go.ChangeAt Go.RowKit

theorem cell16_new (W : World) (d d2 : ED) (ty : TypeId) : Cell8 (W.alloc (.cells #[.int .i64 d.op, .int .i64 d.vk, .int .i64 d.vi, .string d.vt, .string d.tb, .string d.nm, .int .i64 0, .slice d.ao d.n d.cap, .int .i64 d2.op, .int .i64 d2.vk, .int .i64 d2.vi, .string d2.vt, .string d2.tb, .string d2.nm, .int .i64 0, .slice d2.ao d2.n d2.cap] ty)) W.heap.size 0 d ∧ Cell8 (W.alloc (.cells #[.int .i64 d.op, .int .i64 d.vk, .int .i64 d.vi, .string d.vt, .string d.tb, .string d.nm, .int .i64 0, .slice d.ao d.n d.cap, .int .i64 d2.op, .int .i64 d2.vk, .int .i64 d2.vi, .string d2.vt, .string d2.tb, .string d2.nm, .int .i64 0, .slice d2.ao d2.n d2.cap] ty)) W.heap.size 8 d2 := by
  have hc : ∀ j u, (exCells d ++ exCells d2)[j]? = some u → (W.alloc (.cells #[.int .i64 d.op, .int .i64 d.vk, .int .i64 d.vi, .string d.vt, .string d.tb, .string d.nm, .int .i64 0, .slice d.ao d.n d.cap, .int .i64 d2.op, .int .i64 d2.vk, .int .i64 d2.vi, .string d2.vt, .string d2.tb, .string d2.nm, .int .i64 0, .slice d2.ao d2.n d2.cap] ty)).cell? ⟨W.heap.size, j, none⟩ = some u := by
    intro j u hu
    match j, hu with
    | 0, hu => cases hu; simp
    | 1, hu => cases hu; simp
    | 2, hu => cases hu; simp
    | 3, hu => cases hu; simp
    | 4, hu => cases hu; simp
    | 5, hu => cases hu; simp
    | 6, hu => cases hu; simp
    | 7, hu => cases hu; simp
    | 8, hu => cases hu; simp
    | 9, hu => cases hu; simp
    | 10, hu => cases hu; simp
    | 11, hu => cases hu; simp
    | 12, hu => cases hu; simp
    | 13, hu => cases hu; simp
    | 14, hu => cases hu; simp
    | 15, hu => cases hu; simp
  refine ⟨fun j u hu => ?_, fun j u hu => ?_⟩
  · rw [Nat.zero_add]
    refine hc j u ?_
    rw [List.getElem?_append_left (List.getElem?_eq_some_iff.1 hu).1]
    exact hu
  · refine hc (8 + j) u ?_
    rw [List.getElem?_append_right (by show 8 ≤ 8 + j; omega)]
    show (exCells d2)[8 + j - 8]? = some u
    rw [Nat.add_sub_cancel_left]
    exact hu

set_option maxRecDepth 100000 in
set_option maxHeartbeats 4000000 in
theorem joined_any (op : Int) (d d2 : ED) (w : World) :
    Calls Tryd.prog 87 #[.int .i64 op, exval d, exval d2] w fun e w' => ∃ B, e = .returned (.agg #[.int .i64 op, .int .i64 0, .int .i64 0, .string ⟨#[]⟩, .string ⟨#[]⟩, .string ⟨#[]⟩, .int .i64 0, .slice (some ⟨B, 0, none⟩) 2 2]) ∧ Below w.heap.size w w' ∧ w.heap.size ≤ B ∧ B < w'.heap.size ∧ Cell8 w' B 0 d ∧ Cell8 w' B 8 d2 := by
  go_enter Tryd.func87, Tryd.ntmps87
  go_wp2
  refine bodyPost_ret (v := .agg #[.int .i64 op, .int .i64 0, .int .i64 0, .string ⟨#[]⟩, .string ⟨#[]⟩, .string ⟨#[]⟩, .int .i64 0, .slice (some ⟨w.heap.size + 1 + 1 + 1, 0, none⟩) 2 2]) (by simp [results, Tryd.results87, go_sem, asAddr]) rfl ⟨_, rfl, ?_, ?_, ?_, ?_⟩
  · exact ((((Below.refl _ w).alloc (Nat.le_refl _) _).alloc (by simp) _).alloc (by simp; omega) _).alloc (by simp; omega) _
  · omega
  · simp
  · obtain ⟨W, hW⟩ : ∃ W : World, W = ((w.alloc (.cells #[.int .i64 d.op, .int .i64 d.vk, .int .i64 d.vi, .string d.vt, .string d.tb, .string d.nm, .int .i64 0, .slice d.ao d.n d.cap] 35)).alloc (.cells #[.int .i64 d2.op, .int .i64 d2.vk, .int .i64 d2.vi, .string d2.vt, .string d2.tb, .string d2.nm, .int .i64 0, .slice d2.ao d2.n d2.cap] 35)).alloc (.cells #[.int .i64 op, .int .i64 0, .int .i64 0, .string ⟨#[]⟩, .string ⟨#[]⟩, .string ⟨#[]⟩, .int .i64 0, .slice (some ⟨w.heap.size + 1 + 1 + 1, 0, none⟩) 2 2] 35) := ⟨_, rfl⟩
    have hs : w.heap.size + 1 + 1 + 1 = W.heap.size := by rw [hW]; simp
    rw [← hW, hs]
    exact cell16_new W d d2 _

set_option maxRecDepth 100000 in
set_option maxHeartbeats 4000000 in
theorem alone_any (op : Int) (d : ED) (w : World) :
    Calls Tryd.prog 115 #[.int .i64 op, exval d] w fun e w' => ∃ B, e = .returned (.agg #[.int .i64 op, .int .i64 0, .int .i64 0, .string ⟨#[]⟩, .string ⟨#[]⟩, .string ⟨#[]⟩, .int .i64 0, .slice (some ⟨B, 0, none⟩) 1 1]) ∧ Below w.heap.size w w' ∧ w.heap.size ≤ B ∧ B < w'.heap.size ∧ Cell8 w' B 0 d := by
  go_enter Tryd.func115, Tryd.ntmps115
  go_wp2
  refine bodyPost_ret (v := .agg #[.int .i64 op, .int .i64 0, .int .i64 0, .string ⟨#[]⟩, .string ⟨#[]⟩, .string ⟨#[]⟩, .int .i64 0, .slice (some ⟨w.heap.size + 1 + 1, 0, none⟩) 1 1]) (by simp [results, Tryd.results115, go_sem, asAddr]) rfl ⟨_, rfl, ?_, ?_, ?_, ?_⟩
  · exact (((Below.refl _ w).alloc (Nat.le_refl _) _).alloc (by simp) _).alloc (by simp; omega) _
  · omega
  · simp
  · obtain ⟨W, hW⟩ : ∃ W : World, W = (w.alloc (.cells #[.int .i64 d.op, .int .i64 d.vk, .int .i64 d.vi, .string d.vt, .string d.tb, .string d.nm, .int .i64 0, .slice d.ao d.n d.cap] 35)).alloc (.cells #[.int .i64 op, .int .i64 0, .int .i64 0, .string ⟨#[]⟩, .string ⟨#[]⟩, .string ⟨#[]⟩, .int .i64 0, .slice (some ⟨w.heap.size + 1 + 1, 0, none⟩) 1 1] 35) := ⟨_, rfl⟩
    have hs : w.heap.size + 1 + 1 = W.heap.size := by rw [hW]; simp
    rw [← hW, hs]
    exact cell8_new W d _

/-- two parts, one part: an expression -/
theorem joined2 (op : Int) {ok : Nat → Prop} {a a' : Ex} {d d2 : ED} {W : World} (hok : ∀ b, W.heap.size ≤ b → ok b) (h1 : IsEx ok W a d) (h2 : IsEx ok W a' d2) :
    Calls Tryd.prog 87 #[.int .i64 op, exval d, exval d2] W fun e w' => ∃ d3 : ED, e = .returned (exval d3) ∧ Below W.heap.size W w' ∧ IsEx ok w' (.bi op a a') d3 :=
  (joined_any op d d2 W).mono fun _ _ ⟨B, h, hb, hB1, hB2, hc1, hc2⟩ => ⟨⟨op, 0, 0, ⟨#[]⟩, ⟨#[]⟩, ⟨#[]⟩, some ⟨B, 0, none⟩, 2, 2⟩, h, hb, ⟨rfl, rfl, rfl, rfl, rfl, rfl, rfl⟩, B, d, d2, rfl, hok B hB1, hB2, hc1, hc2, h1.later hb, h2.later hb⟩
theorem alone1 (op : Int) {ok : Nat → Prop} {a : Ex} {d : ED} {W : World} (hok : ∀ b, W.heap.size ≤ b → ok b) (h1 : IsEx ok W a d) :
    Calls Tryd.prog 115 #[.int .i64 op, exval d] W fun e w' => ∃ d3 : ED, e = .returned (exval d3) ∧ Below W.heap.size W w' ∧ IsEx ok w' (.un op a) d3 :=
  (alone_any op d W).mono fun _ _ ⟨B, h, hb, hB1, hB2, hc1⟩ => ⟨⟨op, 0, 0, ⟨#[]⟩, ⟨#[]⟩, ⟨#[]⟩, some ⟨B, 0, none⟩, 1, 1⟩, h, hb, ⟨rfl, rfl, rfl, rfl, rfl, rfl, rfl⟩, B, d, rfl, hok B hB1, hB2, hc1, h1.later hb⟩

/-- what a reader of expressions answers -/
def Partr (f : Nat) (c : RC) (P : St → Ex × St) (k : Nat) : Prop := ∀ (w : World) (s : St), s.len < k → Onr c w w s →
  Calls Tryd.prog f #[.pointer (some ⟨c.R, 0, none⟩)] w fun e w' => ∃ d : ED, e = .returned (exval d) ∧ Onr c w w' (P s).2 ∧ IsEx (fun b => w.heap.size ≤ b) w' (P s).1 d

theorem Partr.callk {f : Nat} {c : RC} {P : St → Ex × St} {k : Nat} (h : Partr f c P k) {K : World → Prop} (hK : KeptBy c K) {w0 W : World} {s : St} (hs : s.len < k) {lo : Nat} (hlo : lo ≤ w0.heap.size) (hO : Hid (Onr c w0 W s ∧ K W)) :
    Calls Tryd.prog f #[.pointer (some ⟨c.R, 0, none⟩)] W fun e w' => ∃ d : ED, e = .returned (exval d) ∧ c.R < w'.heap.size ∧ Hid (Onr c w0 w' (P s).2 ∧ IsEx (fun b => lo ≤ b) w' (P s).1 d ∧ K w') :=
  (h W s hs hO.out.1.here).mono fun e w' ⟨d, h1, h2, h3⟩ => ⟨d, h1, h2.lt, hO.out.1.back h2, h3.weak (fun b hb _ => by have := hO.out.1.size; omega), hK _ _ h2.keeps hO.out.2⟩

/-- the eight cells of a call's own block, whatever has gone on since it was laid -/
theorem resr_cells {c : RC} {w W : World} {s : St} (h : Onr c (w.alloc zeroEx) W s) (hR : c.R < w.heap.size) :
    (W.cell? ⟨w.heap.size, 0, none⟩ = some (.int .i64 0) ∧ W.cell? ⟨w.heap.size, 1, none⟩ = some (.int .i64 0) ∧ W.cell? ⟨w.heap.size, 2, none⟩ = some (.int .i64 0) ∧ W.cell? ⟨w.heap.size, 3, none⟩ = some (.string ⟨#[]⟩) ∧ W.cell? ⟨w.heap.size, 4, none⟩ = some (.string ⟨#[]⟩) ∧ W.cell? ⟨w.heap.size, 5, none⟩ = some (.string ⟨#[]⟩) ∧ W.cell? ⟨w.heap.size, 6, none⟩ = some (.int .i64 0) ∧ W.cell? ⟨w.heap.size, 7, none⟩ = some (.slice none 0 0)) ∧ ∀ i, W.frozen? ⟨w.heap.size, i, none⟩ = false := by
  have hl : w.heap.size < (w.alloc zeroEx).heap.size := by simp
  have hn : w.heap.size ≠ c.R := by omega
  have hc : ∀ i, W.cell? ⟨w.heap.size, i, none⟩ = (w.alloc zeroEx).cell? ⟨w.heap.size, i, none⟩ := fun i => h.cell (p := ⟨w.heap.size, i, none⟩) hl hn
  have hf : ∀ i, W.frozen? ⟨w.heap.size, i, none⟩ = (w.alloc zeroEx).frozen? ⟨w.heap.size, i, none⟩ := fun i => h.frozen (p := ⟨w.heap.size, i, none⟩) hl hn
  refine ⟨⟨?_, ?_, ?_, ?_, ?_, ?_, ?_, ?_⟩, fun i => (hf i).trans ?_⟩
  all_goals first | (rw [hc]; simp) | simp

/-- the end of a call that answers an expression -/
theorem resr8 {c : RC} {w W : World} {s s0 : St} (h : Onr c (w.alloc zeroEx) W s) (hR : c.R < w.heap.size) (h0 : Onr c w w s0) {e : Ex} (d : ED) (hI : IsEx (fun b => w.heap.size + 1 ≤ b) W e d) :
    ∃ W3, ((((((((W.setCell ⟨w.heap.size, 0, none⟩ (.int .i64 d.op)).setCell ⟨w.heap.size, 1, none⟩ (.int .i64 d.vk)).setCell ⟨w.heap.size, 2, none⟩ (.int .i64 d.vi)).setCell ⟨w.heap.size, 3, none⟩ (.string d.vt)).setCell ⟨w.heap.size, 4, none⟩ (.string d.tb)).setCell ⟨w.heap.size, 5, none⟩ (.string d.nm)).setCell ⟨w.heap.size, 6, none⟩ (.int .i64 0)).setCell ⟨w.heap.size, 7, none⟩ (.slice d.ao d.n d.cap)) = W3 ∧ (W3.cell? ⟨w.heap.size, 0, none⟩ = some (.int .i64 d.op) ∧ W3.cell? ⟨w.heap.size, 1, none⟩ = some (.int .i64 d.vk) ∧ W3.cell? ⟨w.heap.size, 2, none⟩ = some (.int .i64 d.vi) ∧ W3.cell? ⟨w.heap.size, 3, none⟩ = some (.string d.vt) ∧ W3.cell? ⟨w.heap.size, 4, none⟩ = some (.string d.tb) ∧ W3.cell? ⟨w.heap.size, 5, none⟩ = some (.string d.nm) ∧ W3.cell? ⟨w.heap.size, 6, none⟩ = some (.int .i64 0) ∧ W3.cell? ⟨w.heap.size, 7, none⟩ = some (.slice d.ao d.n d.cap)) ∧ Onr c w W3 s ∧ IsEx (fun b => w.heap.size ≤ b) W3 e d := by
  obtain ⟨⟨k0, k1, k2, k3, k4, k5, k6, k7⟩, _⟩ := resr_cells h hR
  have hr := stored8 (B := w.heap.size) ⟨⟨_, k0⟩, ⟨_, k1⟩, ⟨_, k2⟩, ⟨_, k3⟩, ⟨_, k4⟩, ⟨_, k5⟩, ⟨_, k6⟩, ⟨_, k7⟩⟩ d
  have hb : ∀ p : Addr, p.block = w.heap.size → w.heap.size ≤ p.block := fun p h => by omega
  have hw : Onr c w W s := (h0.alloc zeroEx).back h
  have hp : ∀ i, ¬ (fun b => w.heap.size + 1 ≤ b) (⟨w.heap.size, i, none⟩ : Addr).block := fun i => by simp
  refine ⟨_, rfl, ⟨hr 0 _ rfl, hr 1 _ rfl, hr 2 _ rfl, hr 3 _ rfl, hr 4 _ rfl, hr 5 _ rfl, hr 6 _ rfl, hr 7 _ rfl⟩, ?_, ?_⟩
  · exact ((((((((hw.setCell (Nat.le_refl _) _).setCell (Nat.le_refl _) _).setCell (Nat.le_refl _) _).setCell (Nat.le_refl _) _).setCell (Nat.le_refl _) _).setCell (Nat.le_refl _) _).setCell (Nat.le_refl _) _).setCell (Nat.le_refl _) _)
  · refine IsEx.weak (ok := fun b => w.heap.size + 1 ≤ b) ?_ (fun b h _ => by omega)
    exact (((((((hI.set (hp 0) _).set (hp 1) _).set (hp 2) _).set (hp 3) _).set (hp 4) _).set (hp 5) _).set (hp 6) _).set (hp 7) _


/-- how many tokens can still be read, as memory has it -/
def lenOfr (c : RC) (w : World) : Nat := match w.cell? ⟨c.R, 1, none⟩ with
  | some (.int _ k) => if k < 0 then 0 else c.ts.length - k.toNat
  | _ => 0

theorem Onr.lenOf {c : RC} {w0 w : World} {s : St} (h : Onr c w0 w s) : lenOfr c w = s.len := by
  have h1 := h.rdr.len_le
  unfold lenOfr St.len
  rw [h.rdr.at_]
  unfold atv
  cases s.ref with
  | true => rfl
  | false =>
    simp only [Bool.false_eq_true, if_false, Int.toNat_natCast]
    rw [if_neg (by omega)]
    omega

/-- a store into a variable of the call's own -/
theorem varr8 {W : World} {B : Nat} {d0 : ED} (h : VarEx W B d0) (d : ED) : ∃ W8, ((((((((W.setCell ⟨B, 0, none⟩ (.int .i64 d.op)).setCell ⟨B, 1, none⟩ (.int .i64 d.vk)).setCell ⟨B, 2, none⟩ (.int .i64 d.vi)).setCell ⟨B, 3, none⟩ (.string d.vt)).setCell ⟨B, 4, none⟩ (.string d.tb)).setCell ⟨B, 5, none⟩ (.string d.nm)).setCell ⟨B, 6, none⟩ (.int .i64 0)).setCell ⟨B, 7, none⟩ (.slice d.ao d.n d.cap)) = W8 ∧ VarEx W8 B d ∧ Keeps B W W8 ∧ ∀ c w0 s, Onr c w0 W s → w0.heap.size ≤ B → Onr c w0 W8 s := by
  obtain ⟨W8, e8, hv, hk, _⟩ := var8 h d
  refine ⟨W8, e8, hv, hk, fun c w0 s hO hB => ?_⟩
  rw [← e8]
  exact ((((((((hO.setCell hB _).setCell hB _).setCell hB _).setCell hB _).setCell hB _).setCell hB _).setCell hB _).setCell hB _)

/-- a body on its way: the reader, the expression so far and its variable -/
structure LR (c : RC) (w : World) (T : Nat) (W : World) (a : Ex) (d : ED) (s : St) : Prop where
  on : Onr c (w.alloc zeroEx) W s
  ex : IsEx (fun b => w.heap.size + 1 ≤ b ∧ b ≠ T) W a d
  var : VarEx W T d
  lo : w.heap.size + 1 ≤ T
  hR : c.R < w.heap.size

theorem LR.go {c : RC} {w : World} {T : Nat} {W W' : World} {a : Ex} {d : ED} {s s' : St} (h : LR c w T W a d s) (k : Onr c W W' s') : LR c w T W' a d s' :=
  ⟨h.on.back k, h.ex.keep k.keeps (by intro e; have := e.1; have := h.hR; omega), h.var.move k.keeps (by have := h.lo; have := h.hR; omega), h.lo, h.hR⟩
theorem LR.drew {c : RC} {w : World} {T : Nat} {W : World} {a : Ex} {d : ED} {s : St} (h : LR c w T W a d s) : LR c w T W.drew a d s := h.go h.on.here.drew
theorem LR.new {c : RC} {w W : World} {a : Ex} {d : ED} {s : St} (h : Onr c (w.alloc zeroEx) W s) (hI : IsEx (fun b => w.heap.size + 1 ≤ b) W a d) (hR : c.R < w.heap.size) :
    LR c w W.heap.size (W.alloc (.cells #[.int .i64 d.op, .int .i64 d.vk, .int .i64 d.vi, .string d.vt, .string d.tb, .string d.nm, .int .i64 0, .slice d.ao d.n d.cap] 35)) a d s :=
  ⟨h.alloc _, (hI.weak (ok' := fun b => w.heap.size + 1 ≤ b ∧ b ≠ W.heap.size) (fun b hb hlt => ⟨hb, by omega⟩)).alloc _, VarEx.new W d _, by have := h.size; simp at this; omega, hR⟩

theorem LR.takes {c : RC} {w : World} {T : Nat} (v : List UInt8) (z : ByteArray) (hz : z = str v) (hv : v ≠ []) {W : World} {a : Ex} {d : ED} {s : St} (h : Hid (LR c w T W a d s)) :
    Calls Tryd.prog 50 #[.pointer (some ⟨c.R, 0, none⟩), .string z] W fun e w' => e = .returned (.bool (mayBe v [] s).1) ∧ c.R < w'.heap.size ∧ Hid (LR c w T w' a d (mayBe v [] s).2) := by
  subst hz
  exact (takes_on v hv h.out.on.here).mono fun _ _ ⟨h1, h2, h3⟩ => ⟨h1, h2, h.out.go h3.out⟩
theorem LR.needs {c : RC} {w : World} {T : Nat} (v : List UInt8) (z : ByteArray) (hz : z = str v) (hv : v ≠ []) {W : World} {a : Ex} {d : ED} {s : St} (h : Hid (LR c w T W a d s)) :
    Calls Tryd.prog 52 #[.pointer (some ⟨c.R, 0, none⟩), .string z] W fun e w' => e = .returned (.tuple #[]) ∧ c.R < w'.heap.size ∧ Hid (LR c w T w' a d (needs [v] s)) := by
  subst hz
  exact (needs_one v hv h.out.on.here).mono fun _ _ ⟨h1, h2, h3⟩ => ⟨h1, h2, h.out.go h3.out⟩

/-- the next part -/
theorem LR.part {c : RC} {w : World} {T : Nat} {k g : Nat} {P : St → Ex × St} (hp : Partr g c P k) {W : World} {a : Ex} {d : ED} {s : St} (hs : s.len < k) (h : Hid (LR c w T W a d s)) :
    Calls Tryd.prog g #[.pointer (some ⟨c.R, 0, none⟩)] W fun e w' => ∃ d2 : ED, e = .returned (exval d2) ∧ c.R < w'.heap.size ∧ Hid (LR c w T w' a d (P s).2 ∧ IsEx (fun b => w.heap.size + 1 ≤ b ∧ b ≠ T) w' (P s).1 d2) :=
  (hp W s hs h.out.on.here).mono fun e w' ⟨d2, h1, h2, h3⟩ => ⟨d2, h1, h2.lt, h.out.go h2, h3.weak fun b hb _ => by
    have h4 := h.out.on.size
    have h5 := h.out.var.1
    simp at h4
    exact ⟨by omega, by omega⟩⟩

/-- the two together -/
theorem LR.made {c : RC} {w : World} {T : Nat} {W : World} {a a' : Ex} {d d2 : ED} {s : St} (op : Int) (h : Hid (LR c w T W a d s ∧ IsEx (fun b => w.heap.size + 1 ≤ b ∧ b ≠ T) W a' d2)) :
    Calls Tryd.prog 87 #[.int .i64 op, exval d, exval d2] W fun e w' => ∃ d3 : ED, e = .returned (exval d3) ∧ c.R < w'.heap.size ∧ Hid (LR c w T w' a d s ∧ IsEx (fun b => w.heap.size + 1 ≤ b ∧ b ≠ T) w' (.bi op a a') d3) := by
  have h4 := h.out.1.on.size
  have h5 := h.out.1.var.1
  simp at h4
  exact (joined2 op (fun b hb => ⟨by omega, by omega⟩) h.out.1.ex h.out.2).mono fun e w' ⟨d3, h1, h2, h3⟩ => ⟨d3, h1, (h.out.1.on.here.later h2).lt, h.out.1.go (h.out.1.on.here.later h2), h3⟩
theorem LR.made1 {c : RC} {w : World} {T : Nat} {W : World} {a : Ex} {d : ED} {s : St} (op : Int) (h : Hid (LR c w T W a d s)) :
    Calls Tryd.prog 115 #[.int .i64 op, exval d] W fun e w' => ∃ d3 : ED, e = .returned (exval d3) ∧ c.R < w'.heap.size ∧ Hid (LR c w T w' a d s ∧ IsEx (fun b => w.heap.size + 1 ≤ b ∧ b ≠ T) w' (.un op a) d3) := by
  have h4 := h.out.on.size
  have h5 := h.out.var.1
  simp at h4
  exact (alone1 op (fun b hb => ⟨by omega, by omega⟩) h.out.ex).mono fun e w' ⟨d3, h1, h2, h3⟩ => ⟨d3, h1, (h.out.on.here.later h2).lt, h.out.go (h.out.on.here.later h2), h3⟩

/-- stored into the variable -/
theorem LR.stored {c : RC} {w : World} {T : Nat} {W : World} {a a' : Ex} {d0 d : ED} {s : St} (h : LR c w T W a d0 s) (h' : IsEx (fun b => w.heap.size + 1 ≤ b ∧ b ≠ T) W a' d) :
    ∃ W8, ((((((((W.setCell ⟨T, 0, none⟩ (.int .i64 d.op)).setCell ⟨T, 1, none⟩ (.int .i64 d.vk)).setCell ⟨T, 2, none⟩ (.int .i64 d.vi)).setCell ⟨T, 3, none⟩ (.string d.vt)).setCell ⟨T, 4, none⟩ (.string d.tb)).setCell ⟨T, 5, none⟩ (.string d.nm)).setCell ⟨T, 6, none⟩ (.int .i64 0)).setCell ⟨T, 7, none⟩ (.slice d.ao d.n d.cap)) = W8 ∧ LR c w T W8 a' d s := by
  obtain ⟨W8, e8, hv, hk, hO⟩ := varr8 h.var d
  have h0 := h.lo
  exact ⟨W8, e8, hO _ _ _ h.on (by simp; omega), h'.keep hk (by intro e; exact e.2 rfl), hv, h.lo, h.hR⟩

end Go.Proofs.YtedinkoapieakaaDoor
