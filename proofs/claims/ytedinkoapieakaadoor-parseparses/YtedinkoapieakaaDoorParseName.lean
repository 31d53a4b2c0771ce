/- Package parse: a name, a number, what an operator is, an expression of parts, a constant: contracts, at every state. -/
import Derived.Test.YtedinkoapieakaaDoorParseEx
namespace Go.Proofs.YtedinkoapieakaaDoor
open Go.ChangeShapes Go.WideShapes Go.ChangeAt Go.RowKit

/-- a token was read: what the count becomes, and that it is so -/
theorem On.count {c : RC} {w0 w : World} {s : St} (h : On c w0 w s) (hn : s.next.kind ≠ 0) : ∃ k : Nat, k ≤ 300 ∧ w.cell? ⟨c.R, 1, none⟩ = some (.int .i64 (k : Int)) ∧ w.frozen? ⟨c.R, 1, none⟩ = false ∧ c.R < w.heap.size ∧
    Hid (On c w0 (w.setCell ⟨c.R, 1, none⟩ (.int .i64 ((k : Int) + 1))) s.adv) :=
  ⟨c.ts.length - s.rest.length, by have := c.hl; omega, h.rdr.at_, h.rdr.fz 1, h.lt, h.adv hn rfl⟩

set_option maxRecDepth 100000 in
set_option maxHeartbeats 4000000 in
theorem name_on (c : RC) {w0 W : World} {s : St} (h : Hid (On c w0 W s)) :
    Calls Tryd.prog 70 #[.pointer (some ⟨c.R, 0, none⟩)] W fun e w' => e = .returned (.string (str (nameP s).1)) ∧ c.R < w'.heap.size ∧ Hid (On c w0 w' (nameP s).2) := by
  have cN := next_on h.out
  have cI := isName_any s.next
  have HC : Hid (∀ W1, Hid (On c w0 W1 s) → isName s.next = true → ∃ k : Nat, k ≤ 300 ∧ W1.cell? ⟨c.R, 1, none⟩ = some (.int .i64 (k : Int)) ∧ W1.frozen? ⟨c.R, 1, none⟩ = false ∧ c.R < W1.heap.size ∧ Hid (On c w0 (W1.setCell ⟨c.R, 1, none⟩ (.int .i64 ((k : Int) + 1))) s.adv)) :=
    fun W1 h1 hn => h1.out.count (by simp [isName] at hn; rw [hn.1]; decide)
  have HR : Hid (∀ W1, Hid (On c w0 W1 s) → Calls Tryd.prog 49 #[.pointer (some ⟨c.R, 0, none⟩)] W1 fun e w' => e = .returned (.tuple #[]) ∧ Hid (On c w0 w' s.stop)) := fun W1 h1 => refuse_on h1.out
  unfold nameP
  generalize s.next = t at cN cI HC
  cases hn : isName t with
  | true =>
    rw [hn] at cI
    have HC2 := fun W1 h1 => HC.out W1 h1 hn
    have HC3 := hide HC2
    clear HC HC2 HR
    simp only [if_true]
    go_enter Tryd.func70, Tryd.ntmps70
    go_wp2_with (first
      | (go_at_call 93; refine cN.mono ?_; rintro e w1 ⟨rfl, HB⟩)
      | (go_at_call 99; refine (cI _).mono ?_; rintro e w2 ⟨rfl, hb2⟩; have HB2 : Hid (On c w0 w2 s) := (HB.out.alloc _).later hb2; obtain ⟨k, hk, c1, f1, hR1, HA⟩ := HC3.out _ HB2; have c2 : w2.cell? ⟨w1.heap.size, 2, none⟩ = some (.string (str t.text)) := (hb2.cell (p := ⟨w1.heap.size, 2, none⟩) (by simp)).trans (by simp)))
    go_ret
    exact ⟨rfl, by have := HA.out.lt; exact this, HA⟩
  | false =>
    rw [hn] at cI
    simp only [Bool.false_eq_true, if_false]
    clear HC
    go_enter Tryd.func70, Tryd.ntmps70
    go_wp2_with (first
      | (go_at_call 93; refine cN.mono ?_; rintro e w1 ⟨rfl, HB⟩)
      | (go_at_call 99; refine (cI _).mono ?_; rintro e w2 ⟨rfl, hb2⟩; have HB2 : Hid (On c w0 w2 s) := (HB.out.alloc _).later hb2)
      | (go_at_call 49; refine (HR.out _ HB2).mono ?_; rintro e w3 ⟨rfl, HB3⟩))
    go_ret
    exact ⟨rfl, HB3.out.lt, HB3⟩

set_option maxRecDepth 100000 in
set_option maxHeartbeats 4000000 in
theorem number_on (c : RC) {w0 W : World} {s : St} (h : Hid (On c w0 W s)) :
    Calls Tryd.prog 82 #[.pointer (some ⟨c.R, 0, none⟩)] W fun e w' => e = .returned (.int .i64 (numberP s).1) ∧ c.R < w'.heap.size ∧ Hid (On c w0 w' (numberP s).2) := by
  have cN := next_on h.out
  have HC : Hid (∀ W1, Hid (On c w0 W1 s) → s.next.kind = 2 → ∃ k : Nat, k ≤ 300 ∧ W1.cell? ⟨c.R, 1, none⟩ = some (.int .i64 (k : Int)) ∧ W1.frozen? ⟨c.R, 1, none⟩ = false ∧ c.R < W1.heap.size ∧ Hid (On c w0 (W1.setCell ⟨c.R, 1, none⟩ (.int .i64 ((k : Int) + 1))) s.adv)) :=
    fun W1 h1 hn => h1.out.count (by rw [hn]; decide)
  have HR : Hid (∀ W1, Hid (On c w0 W1 s) → Calls Tryd.prog 49 #[.pointer (some ⟨c.R, 0, none⟩)] W1 fun e w' => e = .returned (.tuple #[]) ∧ Hid (On c w0 w' s.stop)) := fun W1 h1 => refuse_on h1.out
  unfold numberP
  generalize s.next = t at cN HC
  by_cases hn : t.kind = 2
  · have HC3 := hide (fun W1 h1 => HC.out W1 h1 hn)
    rw [hn] at cN
    rw [if_pos hn]
    clear HC HR hn
    go_enter Tryd.func82, Tryd.ntmps82
    go_wp2_with (go_at_call 93; refine cN.mono ?_; rintro e w1 ⟨rfl, HB⟩; obtain ⟨k, hk, c1, f1, hR1, HA⟩ := HC3.out _ HB)
    go_ret
    exact ⟨rfl, (HA.out.alloc _).lt, HA.out.alloc _⟩
  · rw [if_neg hn]
    have hn2 : (t.kind == 2) = false := beq_eq_false_iff_ne.2 hn
    have HR2 : Hid (∀ W1 o, Hid (On c w0 W1 s) → Calls Tryd.prog 49 #[.pointer (some ⟨c.R, 0, none⟩)] (W1.alloc o) fun e w' => e = .returned (.tuple #[]) ∧ Hid (On c w0 w' s.stop)) := fun W1 o h1 => HR.out _ (h1.out.alloc o)
    clear HC HR
    go_enter Tryd.func82, Tryd.ntmps82
    go_wp2_with (first
      | (go_at_call 93; refine cN.mono ?_; rintro e w1 ⟨rfl, HB⟩)
      | (go_at_call 49; refine (HR2.out _ _ HB).mono ?_; rintro e w3 ⟨rfl, HB3⟩))
    go_ret
    exact ⟨rfl, HB3.out.lt, HB3⟩

theorem opIn_none {l : List (List UInt8 × Int)} {u : List UInt8} (h : ∀ p ∈ l, p.1 ≠ u) : opIn l u = 0 := by
  induction l with
  | nil => rfl
  | cons p l ih =>
    simp only [opIn]
    rw [if_neg (h p List.mem_cons_self)]
    exact ih fun q hq => h q (List.mem_cons_of_mem _ hq)

set_option maxRecDepth 100000 in
set_option maxHeartbeats 4000000 in
theorem opOf_any (u : List UInt8) (w : World) (tab : Opers w) :
    Calls Tryd.prog 112 #[.string (str u)] w fun e w' => e = .returned (.int .i64 (opOf u)) ∧ Below w.heap.size w w' := by
  have hidx : ∀ (k : Nat), k < 13 → ∀ w, (Instr.index 125 (.agg operCells.toArray) (.int .i64 (k : Int))).run Tryd.prog w = .ok (.agg #[.string (str (opList.getD k ([], 0)).1), .int .i64 (opList.getD k ([], 0)).2]) w := by
    intro k hk w
    rcases (show k = 0 ∨ k = 1 ∨ k = 2 ∨ k = 3 ∨ k = 4 ∨ k = 5 ∨ k = 6 ∨ k = 7 ∨ k = 8 ∨ k = 9 ∨ k = 10 ∨ k = 11 ∨ k = 12 by omega) with rfl | rfl | rfl | rfl | rfl | rfl | rfl | rfl | rfl | rfl | rfl | rfl | rfl <;> kernel_rfl
  obtain ⟨A, hA⟩ : ∃ A, A = operCells := ⟨_, rfl⟩
  have hl : A.length = 26 := by rw [hA]; rfl
  have tab' : w.rangeAt 5 0 A := by rw [hA]; exact tab
  rw [← hA] at hidx
  clear hA
  obtain ⟨N, hN⟩ : ∃ N, opOf u = N := ⟨_, rfl⟩
  rw [hN]
  go_enter Tryd.func112, Tryd.ntmps112
  go_wp2_with (refine wpList_load_mid rfl _ _ rfl 5 0 rfl A _ tab' Tryd.underlying125 rfl (by rw [hl]; kernel_rfl) ?_)
  go_loopw [6] (fun x wr => ∃ k : Nat, k ≤ 13 ∧ x = .int .i64 (k : Int) ∧ Hid (Below w.heap.size w wr) ∧ Hid (opIn (opList.drop k) u = N)) (fun x _ => 13 - (intOf x).toNat)
  case atStart => exact ⟨0, by omega, rfl, Below.refl _ _, hN⟩
  case round =>
    obtain ⟨k, hk, rfl, HB, HR⟩ := hrel
    by_cases hlt : k < 13
    · have hlt2 : (k : Int) < 13 := by omega
      have hi := hidx k hlt
      have hd : opList.drop k = opList.getD k ([], 0) :: opList.drop (k + 1) := by
        have : k < opList.length := hlt
        rw [List.drop_eq_getElem_cons this, List.getD_eq_getElem?_getD, List.getElem?_eq_getElem this]
        rfl
      have R := HR.out
      rw [hd, opIn] at R
      obtain ⟨m, hm⟩ : ∃ m, opList.getD k ([], 0) = m := ⟨_, rfl⟩
      rw [hm] at R hi
      clear hd hm hidx
      by_cases he : m.1 = u
      · rw [if_pos he] at R
        rw [he, R] at hi
        clear he R
        go_wp2
        go_ret
        exact ⟨rfl, HB.out.alloc HB.out.size _⟩
      · rw [if_neg he] at R
        have hne := list_ne he
        have HR2 := hide R
        clear R he
        go_wp2
        go_roundw
        case rel => exact ⟨k + 1, by omega, by go_num, HB.out.alloc HB.out.size _, HR2⟩
        case measure => simp [intOf]; omega
    · have R := HR.out
      rw [List.drop_eq_nil_of_le (by show 13 ≤ k; omega)] at R
      have hlt2 : ¬ (k : Int) < 13 := by omega
      clear hidx
      have HN0 : Hid (N = 0) := R.symm
      clear R
      go_wp2
      go_ret
      rw [HN0.out]
      exact ⟨rfl, HB.out⟩

end Go.Proofs.YtedinkoapieakaaDoor
