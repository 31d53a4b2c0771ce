/- What split comes to: a node as it is, or as two. -/
import Derived.Test.YtcegkgobkpakiaaTrHalfN
namespace Go.Proofs.Ytcegkgobkpakiaa
open Go.ChangeShapes Go.WideShapes Go.ChangeAt Go.RowKit

theorem halvesL_len {α : Type} (l : List α) : (halvesL l).length ≤ 2 := by
  unfold halvesL
  split <;> simp


set_option maxHeartbeats 4000000 in
theorem split_leaf (ok : Nat → Prop) (l : List Ent) (hl : l.length ≤ 5) (a b : Option Addr) (c d : Nat) (w : World) (hok : Fresh ok w) (he : Lies kEnt ok w a c l) (hp : Ples a c) :
    Calls Try.prog 36 #[.agg #[.slice a l.length c, .slice b 0 d]] w fun e w' => ∃ a' c', e = .returned (.slice a' (halvesL l).length c') ∧ Lies kLeaf ok w' a' c' (halvesL l) ∧ Ples a' c' ∧ Below w.heap.size w w' := by
  have cI : Hid (∀ W : World, Below w.heap.size w W → Calls Try.prog 33 #[.agg #[.slice a l.length c, .slice b 0 d]] W fun e w' => e = .returned (.bool true) ∧ Hid (Below w.heap.size w w') ∧ Hid (Below W.heap.size W w')) := fun W hW => by
    refine (isLeaf_any _ _ _ _ _ _ W).mono ?_
    rintro e w' ⟨rfl, h⟩
    exact ⟨by simp, hW.trans (h.mono hW.size), h⟩
  have cH : Hid (∀ W : World, Below w.heap.size w W → Calls Try.prog 46 #[.slice a l.length c] W fun e w' => ∃ a c, e = .returned (.slice a (halvesL l).length c) ∧ Hid (Lies (kRow kEnt) ok w' a c (halvesL l)) ∧ Hid (Below w.heap.size w w')) := fun W hW => by
    refine (halvesE_any kEnt ok l hl a c W (hok.later hW.size) (he.later hW) hp).mono ?_
    rintro e w' ⟨a1, c1, rfl, h1, h2⟩
    exact ⟨a1, c1, rfl, h1, hW.trans (h2.mono hW.size)⟩
  have HF : Hid (Fresh ok w) := hok
  have HL := halvesL_len l
  generalize halvesL l = ls at cH HL ⊢
  have hb0 : Below w.heap.size w (w.alloc (.cells #[.slice a l.length c, .slice b 0 d] 53)) := (Below.refl _ w).alloc (Nat.le_refl _) _
  generalize l.length = n at cI cH hb0 ⊢
  obtain ⟨m, hm⟩ : ∃ m, m = ls.length := ⟨_, rfl⟩
  rw [← hm] at cH HL ⊢
  have HM : Hid (m = ls.length) := hm
  clear he hok hl hm
  go_enter Try.func36, Try.ntmps36
  go_wp2_with (first
    | (go_at_call 33; (with_reducible refine (cI.out _ hb0).mono ?_); rintro e w1 ⟨rfl, b1, b1'⟩; have q0 : w1.cell? ⟨w.heap.size, 0, none⟩ = some (.slice a n c) := (b1'.out.cell (p := ⟨w.heap.size, 0, none⟩) (by simp)).trans (by simp))
    | (go_at_call 46; (with_reducible refine (cH.out _ b1.out).mono ?_); rintro e w2 ⟨a2, c2, rfl, h2, b2⟩))
  go_loopw [3, 14] (fun s i wr => ∃ (k : Nat) (a : Option Addr) (c : Nat), k ≤ m ∧ i = .int .i64 k ∧ s = .slice a k c ∧ Hid (Rows kLeaf ok wr w2.heap.size 53 (.slice a k c) (ls.take k) ∧ Below w2.heap.size w2 wr)) (fun _ i _ => m - (intOf i).toNat)
  case atStart => exact ⟨0, none, 0, Nat.zero_le _, rfl, rfl, by simpa using Rows.nil _ _ _ _ _, Below.refl _ _⟩
  case round =>
    obtain ⟨k, a3, c3, hk, rfl, rfl, HR⟩ := hrel
    by_cases hlt : k < m
    · have hx : k < ls.length := by rw [← HM.out]; exact hlt
      obtain ⟨b4, off, rfl, hb, _, cs, ⟨a5, c5, rfl, hL, hP⟩, hc⟩ := h2.out.at hx
      have hc0 : wr.cell? ⟨b4, off + k, none⟩ = some (.slice a5 (ls[k]).length c5) := by
        have := hc 0 _ rfl
        exact (HR.out.2.cell (p := ⟨b4, off + k, none⟩) hb).trans (by simpa using this)
      have HX : Hid ((kLeaf).rel (fun b => ok b ∧ Value.ownBlock (.slice a3 k c3) ≠ some b) wr ls[k] [.slice a5 (ls[k]).length c5, .slice none 0 0]) := by
        refine ⟨a5, c5, none, 0, rfl, ?_, hP, Lies.nil _ _ _ (fun _ => rfl), Ples.none⟩
        refine hL.move (Kept.of_below HR.out.2) (fun b hb ho => ⟨ho, fun e => ?_⟩)
        have := (rows_lt HR.out.1 b e).1
        omega
      have HS : Hid (ls.take (k + 1) = ls.take k ++ [ls[k]] ∧ (ls.take k).length = k) := ⟨List.take_succ_eq_append_getElem hx, by rw [List.length_take]; omega⟩
      have HFr : Hid (Fresh ok wr) := HF.out.later (Nat.le_trans b2.out.size HR.out.2.size)
      generalize (ls[k]).length = q at hc0 HX
      clear hL hc
      go_wp2_with (at_builtin; refine wpList_append_one eltN rfl (.tmp 18) (.tmp 21) rfl w2.heap.size (.slice a3 k c3) (ls.take k) rfl HR.out.1 ls[k] [.slice a5 q c5, .slice none 0 0] _ _ rfl rfl HX.out HFr.out (by rw [HS.out.2]; omega) (by decide) HR.out.2.size ?_; intro v' w3 hR3 hg3 hat3)
      rw [← HS.out.1] at hR3
      obtain ⟨a6, c6, e6⟩ := rows_form hR3
      rw [List.length_take, Nat.min_eq_left (by omega)] at e6
      subst e6
      go_wp2
      go_roundw
      case rel =>
        refine ⟨k + 1, a6, c6, by omega, by go_num, rfl, hR3, ?_⟩
        exact HR.out.2.grown hg3 HR.out.2.size (fun g e => (rows_lt HR.out.1 g e).1)
      case measure => simp [intOf]; omega
    · have hkm : k = m := by omega
      subst hkm
      have hR := HR.out.1
      rw [List.take_of_length_le (by rw [← HM.out]; exact Nat.le_refl _)] at hR
      obtain ⟨-, h7, h8, -⟩ := rows_lies hR (fun b hb => HF.out b (Nat.le_trans b2.out.size hb))
      have H9 : Hid (Lies kLeaf ok wr a3 c3 ls ∧ Ples a3 c3 ∧ Below w.heap.size w wr) := ⟨h7, h8, b2.out.trans (HR.out.2.mono b2.out.size)⟩
      clear hR h7 h8 HR hlt
      go_wp2
      go_ret
      exact ⟨a3, c3, rfl, H9.out⟩

set_option maxHeartbeats 4000000 in
theorem split_inner {α : Type} (K : Kd α 2) (ok : Nat → Prop) (l : List α) (hl : l.length ≤ 5) (hne : l ≠ []) (a b : Option Addr) (c d : Nat) (w : World) (hok : Fresh ok w) (he : Lies K ok w b d l) (hp : Ples b d) :
    Calls Try.prog 36 #[.agg #[.slice a 0 c, .slice b l.length d]] w fun e w' => ∃ a' c', e = .returned (.slice a' (halvesL l).length c') ∧ Lies (kInner K) ok w' a' c' (halvesL l) ∧ Ples a' c' ∧ Below w.heap.size w w' := by
  have cI : Hid (∀ W : World, Below w.heap.size w W → Calls Try.prog 33 #[.agg #[.slice a 0 c, .slice b l.length d]] W fun e w' => e = .returned (.bool false) ∧ Hid (Below w.heap.size w w') ∧ Hid (Below W.heap.size W w')) := fun W hW => by
    refine (isLeaf_any _ _ _ _ _ _ W).mono ?_
    rintro e w' ⟨rfl, h⟩
    exact ⟨by simp [hne], hW.trans (h.mono hW.size), h⟩
  have cH : Hid (∀ W : World, Below w.heap.size w W → Calls Try.prog 47 #[.slice b l.length d] W fun e w' => ∃ a c, e = .returned (.slice a (halvesL l).length c) ∧ Hid (Lies (kRow K) ok w' a c (halvesL l)) ∧ Hid (Below w.heap.size w w')) := fun W hW => by
    refine (halvesN_any K ok l hl b d W (hok.later hW.size) (he.later hW) hp).mono ?_
    rintro e w' ⟨a1, c1, rfl, h1, h2⟩
    exact ⟨a1, c1, rfl, h1, hW.trans (h2.mono hW.size)⟩
  have HF : Hid (Fresh ok w) := hok
  have HL := halvesL_len l
  generalize halvesL l = ls at cH HL ⊢
  clear hne
  have hb0 : Below w.heap.size w (w.alloc (.cells #[.slice a 0 c, .slice b l.length d] 53)) := (Below.refl _ w).alloc (Nat.le_refl _) _
  generalize l.length = n at cI cH hb0 ⊢
  obtain ⟨m, hm⟩ : ∃ m, m = ls.length := ⟨_, rfl⟩
  rw [← hm] at cH HL ⊢
  have HM : Hid (m = ls.length) := hm
  clear he hok hl hm
  go_enter Try.func36, Try.ntmps36
  go_wp2_with (first
    | (go_at_call 33; (with_reducible refine (cI.out _ hb0).mono ?_); rintro e w1 ⟨rfl, b1, b1'⟩; have q0 : w1.cell? ⟨w.heap.size, 1, none⟩ = some (.slice b n d) := (b1'.out.cell (p := ⟨w.heap.size, 1, none⟩) (by simp)).trans (by simp))
    | (go_at_call 47; (with_reducible refine (cH.out _ b1.out).mono ?_); rintro e w2 ⟨a2, c2, rfl, h2, b2⟩))
  go_loopw [3, 29] (fun s i wr => ∃ (k : Nat) (a : Option Addr) (c : Nat), k ≤ m ∧ i = .int .i64 k ∧ s = .slice a k c ∧ Hid (Rows (kInner K) ok wr w2.heap.size 53 (.slice a k c) (ls.take k) ∧ Below w2.heap.size w2 wr)) (fun _ i _ => m - (intOf i).toNat)
  case atStart => exact ⟨0, none, 0, Nat.zero_le _, rfl, rfl, by simpa using Rows.nil _ _ _ _ _, Below.refl _ _⟩
  case round =>
    obtain ⟨k, a3, c3, hk, rfl, rfl, HR⟩ := hrel
    by_cases hlt : k < m
    · have hx : k < ls.length := by rw [← HM.out]; exact hlt
      obtain ⟨b4, off, rfl, hb, _, cs, ⟨a5, c5, rfl, hL, hP⟩, hc⟩ := h2.out.at hx
      have hc0 : wr.cell? ⟨b4, off + k, none⟩ = some (.slice a5 (ls[k]).length c5) := by
        have := hc 0 _ rfl
        exact (HR.out.2.cell (p := ⟨b4, off + k, none⟩) hb).trans (by simpa using this)
      have HX : Hid (((kInner K)).rel (fun b => ok b ∧ Value.ownBlock (.slice a3 k c3) ≠ some b) wr ls[k] [.slice none 0 0, .slice a5 (ls[k]).length c5]) := by
        refine ⟨none, 0, a5, c5, rfl, Lies.nil _ _ _ (fun _ => rfl), Ples.none, ?_, hP⟩
        refine hL.move (Kept.of_below HR.out.2) (fun b hb ho => ⟨ho, fun e => ?_⟩)
        have := (rows_lt HR.out.1 b e).1
        omega
      have HS : Hid (ls.take (k + 1) = ls.take k ++ [ls[k]] ∧ (ls.take k).length = k) := ⟨List.take_succ_eq_append_getElem hx, by rw [List.length_take]; omega⟩
      have HFr : Hid (Fresh ok wr) := HF.out.later (Nat.le_trans b2.out.size HR.out.2.size)
      generalize (ls[k]).length = q at hc0 HX
      clear hL hc
      go_wp2_with (at_builtin; refine wpList_append_one eltN rfl (.tmp 33) (.tmp 36) rfl w2.heap.size (.slice a3 k c3) (ls.take k) rfl HR.out.1 ls[k] [.slice none 0 0, .slice a5 q c5] _ _ rfl rfl HX.out HFr.out (by rw [HS.out.2]; omega) (by decide) HR.out.2.size ?_; intro v' w3 hR3 hg3 hat3)
      rw [← HS.out.1] at hR3
      obtain ⟨a6, c6, e6⟩ := rows_form hR3
      rw [List.length_take, Nat.min_eq_left (by omega)] at e6
      subst e6
      go_wp2
      go_roundw
      case rel =>
        refine ⟨k + 1, a6, c6, by omega, by go_num, rfl, hR3, ?_⟩
        exact HR.out.2.grown hg3 HR.out.2.size (fun g e => (rows_lt HR.out.1 g e).1)
      case measure => simp [intOf]; omega
    · have hkm : k = m := by omega
      subst hkm
      have hR := HR.out.1
      rw [List.take_of_length_le (by rw [← HM.out]; exact Nat.le_refl _)] at hR
      obtain ⟨-, h7, h8, -⟩ := rows_lies hR (fun b hb => HF.out b (Nat.le_trans b2.out.size hb))
      have H9 : Hid (Lies (kInner K) ok wr a3 c3 ls ∧ Ples a3 c3 ∧ Below w.heap.size w wr) := ⟨h7, h8, b2.out.trans (HR.out.2.mono b2.out.size)⟩
      clear hR h7 h8 HR hlt
      go_wp2
      go_ret
      exact ⟨a3, c3, rfl, H9.out⟩

end Go.Proofs.Ytcegkgobkpakiaa
