/- Package parse: the token that is read next, refusing, what is left: contracts, at every state of the reader. -/
import Derived.Test.YtedinkoapieakaaDoorParseMem
import Derived.Deep.RegionWith
import Derived.Deep.QuietTactic
import Derived.BigQuiet
namespace Go.Proofs.YtedinkoapieakaaDoor
open Go.ChangeShapes Go.WideShapes Go.ChangeAt Go.RowKit

theorem hide {p : Prop} (h : p) : Hid p := h

/-- a token as a value -/
abbrev tokval (t : Tok) : Value := .agg #[.int .i64 t.kind, .int .i64 t.int, .string (str t.text)]

theorem below_dN {B : Nat} {a w : World} (h : Below B a w) (n : Nat) : Below B a (w.drewN n) := ⟨h.os, h.tape, h.output, h.size, h.block⟩

theorem next_at {ts pre : List Tok} {s : St} (h : ts = pre ++ s.rest) (hr : s.ref = false) (hn : pre.length < ts.length) : s.next = ts[pre.length] := by
  obtain ⟨r, hl⟩ : ∃ r, s.rest = r := ⟨_, rfl⟩
  rw [hl] at h
  subst h
  cases r with
  | nil => simp at hn
  | cons t r => simp [St.next, hr, hl]

set_option maxRecDepth 100000 in
set_option maxHeartbeats 4000000 in
theorem next_any {R : Nat} {w : World} {ao : Option Addr} {cap : Nat} {ts : List Tok} {s : St} (h : Rdr R w ao cap ts s) (_ : ts.length ≤ 300) :
    Calls Tryd.prog 93 #[.pointer (some ⟨R, 0, none⟩)] w fun e w' => e = .returned (tokval s.next) ∧ Below w.heap.size w w' := by
  obtain ⟨pre, hp⟩ := h.suf
  have hR := h.lt
  have c0 := h.tok
  have c1 := h.at_
  have c2 := h.ref
  have hlen : ts.length - s.rest.length = pre.length := by rw [hp]; simp
  rw [hlen] at c1
  have HT := hide h.toks
  have HP := hide hp
  have hpl : pre.length ≤ ts.length := by rw [hp]; simp
  clear h hp hlen
  cases hr : s.ref with
  | true =>
    rw [hr] at c2
    have e0 : s.next = zeroTok := by simp [St.next, hr]
    rw [e0]
    go_enter Tryd.func93, Tryd.ntmps93
    go_wp2
    go_quiet (fail)
    go_wp2
    refine bodyPost_ret (v := tokval zeroTok) (by simp [results, Tryd.results93, go_sem, asAddr, zeroTok, str]) rfl ⟨rfl, ?_⟩
    exact (((below_dN ((Below.refl _ w).alloc (Nat.le_refl _) _) _).setCell (Nat.le_refl _) _).setCell (Nat.le_refl _) _).setCell (Nat.le_refl _) _
  | false =>
    rw [hr] at c2
    by_cases hn : pre.length < ts.length
    · have e0 := next_at HP.out hr hn
      rw [e0]
      obtain ⟨b, off, rfl, hbw, hcell⟩ : ∃ b off, ao = some ⟨b, off, none⟩ ∧ b < w.heap.size ∧ ∀ i (hi : i < ts.length), w.cell? ⟨b, off + i * 3, none⟩ = some (.int .i64 ts[i].kind) ∧ w.cell? ⟨b, off + i * 3 + 1, none⟩ = some (.int .i64 ts[i].int) ∧ w.cell? ⟨b, off + i * 3 + 2, none⟩ = some (.string (str ts[i].text)) := by
        rcases HT.out.2.2 with h | h
        · rw [h] at hn
          cases hn
        · exact h
      obtain ⟨k0, k1, k2⟩ := hcell pre.length hn
      generalize ts[pre.length] = t at k0 k1 k2 ⊢
      clear hcell e0 HT HP
      generalize ts.length = n at c0 hn hpl
      generalize pre.length = k at c1 hn hpl k0 k1 k2
      have hn1 : (k : Int) < (n : Int) := by omega
      have hn2 : ¬ (k : Int) = (n : Int) := by omega
      have hn3 : ((k : Int) == (n : Int)) = false := by simpa using hn2
      clear hpl
      go_enter Tryd.func93, Tryd.ntmps93
      go_wp2
      go_quiet (fail)
      go_wp2_with (go_region)
      all_goals
        refine bodyPost_ret (v := tokval t) (by simp [results, Tryd.results93, go_sem, asAddr]) rfl ⟨rfl, ?_⟩
        exact (((below_dN ((Below.refl _ w).alloc (Nat.le_refl _) _) _).setCell (Nat.le_refl _) _).setCell (Nat.le_refl _) _).setCell (Nat.le_refl _) _
    · have e0 : s.next = zeroTok := by
        have : s.rest = [] := by
          have := HP.out
          have h2 := congrArg List.length this
          simp at h2
          exact List.length_eq_zero_iff.1 (by omega)
        simp [St.next, this]
      rw [e0]
      obtain ⟨n, hn0⟩ : ∃ n, ts.length = n := ⟨_, rfl⟩
      have hk : pre.length = n := by omega
      rw [hn0] at c0
      rw [hk] at c1
      clear HT HP hn hpl hn0 hk
      go_enter Tryd.func93, Tryd.ntmps93
      go_wp2
      go_quiet (fail)
      go_wp2
      refine bodyPost_ret (v := tokval zeroTok) (by simp [results, Tryd.results93, go_sem, asAddr, zeroTok, str]) rfl ⟨rfl, ?_⟩
      exact (((below_dN ((Below.refl _ w).alloc (Nat.le_refl _) _) _).setCell (Nat.le_refl _) _).setCell (Nat.le_refl _) _).setCell (Nat.le_refl _) _

end Go.Proofs.YtedinkoapieakaaDoor
