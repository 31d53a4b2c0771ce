/- A letter is sent. -/
import Derived.Test.YtppcikfhhmiipaaBlSmall
import Derived.Deep.RegionLaw
namespace Go.Proofs.Ytppcikfhhmiipaa
open Go.ChangeShapes Go.WideShapes Go.ChangeAt Go.RowKit Go.Maps

/-- the letter lies behind the others -/
theorem sent_post {B V M : Nat} {tg : Nat → Int} {ad : Int → Nat} {f : Value} {b : Bl} {w W w' : World} {l : Lt} {f' : Value} (h : BlI B V M tg ad f b w) (hW : Below w.heap.size w W) (hr : Rows kLt (fun _ => True) w' 0 78 f' (b.ls ++ [l])) (hg : W.grownBy w' f.ownBlock) (hf : f'.ownBlock = f.ownBlock ∨ f'.ownBlock = some W.heap.size) (hlt : b.ls.length < 200) :
    BlPost B V M tg w (b.send l) (w'.setCell ⟨B, 2, none⟩ f') := by
  have h1 := h.later hW
  obtain ⟨tg', h2, h3⟩ := h1.sent hr hg (by
    rcases hf with hf | hf
    · exact .inl hf
    · obtain ⟨css, q1, q2⟩ := hr
      exact .inr ⟨_, Nat.le_refl _, (own_lt' q1 _ hf).2, hf⟩)
  refine ⟨tg', ad, f', ?_, (Trn.of_below hW).trans h3⟩
  rw [show b.send l = { b with ls := b.ls ++ [l] } from if_pos hlt]
  exact h2

theorem keep_row {V w : World} {o : Obj} {row : Option Nat} (h : ((V.alloc o).drew).grownBy w row) (x : Nat) (hx : x < V.heap.size) (hne : row ≠ some x) : w.heap[x]? = V.heap[x]? := by
  have h1 := h.block x (by show x < (V.alloc o).heap.size; rw [alloc_size]; omega) (fun e => hne e.symm)
  exact h1.trans (((Below.refl V.heap.size V).alloc (Nat.le_refl _) o).drew.block x hx)

set_option maxRecDepth 20000 in
set_option maxHeartbeats 1000000 in
theorem send_any (B V M : Nat) (tg : Nat → Int) (ad : Int → Nat) (f : Value) (b : Bl) (l : Lt) (w : World) (h : BlI B V M tg ad f b w) (hm : b.ls.length ≤ 200) :
    Calls Try.prog 27 #[.pointer (some ⟨B, 0, none⟩), ltV l] w fun e w' => e = .returned (.tuple #[]) ∧ BlPost B V M tg w (b.send l) w' := by
  obtain ⟨a, c, rfl⟩ := h.form
  obtain ⟨c2, f2⟩ := h.top 2 _ rfl
  simp only [Nat.zero_add] at c2 f2
  have hBl := h.ltB
  have H := put_by h
  clear h
  unfold ltV
  by_cases hlt : b.ls.length < 200
  · have hlt2 : (b.ls.length : Int) < 200 := by omega
    have HL := put_by hlt
    obtain ⟨m, hmm⟩ : ∃ m, m = b.ls.length := ⟨_, rfl⟩
    have HM := put_by hmm
    rw [← hmm] at c2 hlt2 H
    clear hm hlt hmm
    obtain ⟨l1, l2, l3, l4, l5, l6⟩ := l
    go_enter Try.func27, Try.ntmps27
    go_upto_region 2 with (fail)
    have hbe : Below w.heap.size w (w.alloc (.cells #[.int .i64 l1, .int .i64 l2, .int .i64 l3, .int .i64 l4, .int .i64 l5, .bool l6] 78)) := (Below.refl _ w).alloc (Nat.le_refl _) _
    have h1 := H.out.later hbe
    have hsz : (w.alloc (.cells #[.int .i64 l1, .int .i64 l2, .int .i64 l3, .int .i64 l4, .int .i64 l5, .bool l6] 78)).heap.size = w.heap.size + 1 := alloc_size _ _
    have hcs := Cs.new w (ltC ⟨l1, l2, l3, l4, l5, l6⟩) #[.int .i64 l1, .int .i64 l2, .int .i64 l3, .int .i64 l4, .int .i64 l5, .bool l6] rfl 78
    have c2 := (h1.top 2 _ rfl).1
    have f2 := (h1.top 2 _ rfl).2
    simp only [Nat.zero_add] at c2 f2
    generalize w.alloc (.cells #[.int .i64 l1, .int .i64 l2, .int .i64 l3, .int .i64 l4, .int .i64 l5, .bool l6] 78) = V1 at *
    obtain ⟨q0, -⟩ := hcs 0 _ rfl
    obtain ⟨q1, -⟩ := hcs 1 _ rfl
    obtain ⟨q2, -⟩ := hcs 2 _ rfl
    obtain ⟨q3, -⟩ := hcs 3 _ rfl
    obtain ⟨q4, -⟩ := hcs 4 _ rfl
    obtain ⟨q5, -⟩ := hcs 5 _ rfl
    simp only [Nat.zero_add] at q0 q1 q2 q3 q4 q5
    have hBV := h1.ltB
    have HSZ := put_by hsz
    have HB := put_by hbe
    have H1 := put_by h1
    have HLI : Hid (Lies kLt (fun b => True ∧ (Value.slice a m c).ownBlock ≠ some b) (V1.alloc (.cells #[.int .i64 l1, .int .i64 l2, .int .i64 l3, .int .i64 l4, .int .i64 l5, .bool l6] 78)) (some ⟨V1.heap.size, 0, none⟩) 1 [⟨l1, l2, l3, l4, l5, l6⟩]) := put_by (lies_one _ rfl _ rfl ⟨trivial, fun e => by have := h1.ltF e; omega⟩)
    rw [hsz] at HLI
    have HOFF : Hid (∀ x, x < V1.heap.size → tg x ≠ -4 → (Value.slice a m c).ownBlock ≠ some x) := put_by fun x _ hx e => hx (h1.tf x e)
    have HCS := put_by hcs
    have HTG : Hid (tg w.heap.size = 0 ∧ tg B = -1) := put_by ⟨H.out.out _ (Nat.le_refl _), h1.tB⟩
    have hn1 : ¬ B = w.heap.size := by omega
    have hn2 : ¬ w.heap.size = B := by omega
    clear hbe h1 hsz hcs
    go_region_law (first
      | (refine wp_of_list rfl (by rintro ⟨_, _, hh⟩; cases hh.1) (wpList_append_rows (ok := fun _ => True) (ok2 := fun b => True ∧ (Value.slice a m c).ownBlock ≠ some b) eltLt rfl (.tmp 14) (.tmp 16) rfl 0 (.slice a m c) b.ls rfl (H1.out.later (((Below.refl _ _).alloc (Nat.le_refl _) _).drew)).ls _ _ 1 [⟨l1, l2, l3, l4, l5, l6⟩] (by rw [← HSZ.out]; rfl) rfl (HLI.out.later (Below.refl _ _).drew) (fun _ _ _ _ => trivial) (fun _ _ hb => hb.2) (by have := HL.out; omega) (by decide) (Nat.zero_le _) (fun v4 w4 r1 r2 r3 => ?_)); have HN := put_by (HCS.out.move (keep_row r2 _ (by have := HSZ.out; omega) (HOFF.out _ (by have := HSZ.out; omega) (by rw [HTG.out.1]; decide)))); have HTOP := put_by ((H1.out.top).move (keep_row r2 _ hBV (HOFF.out _ hBV (by rw [HTG.out.2]; decide)))); obtain ⟨q0, -⟩ := HN.out 0 _ rfl; obtain ⟨q1, -⟩ := HN.out 1 _ rfl; obtain ⟨q2, -⟩ := HN.out 2 _ rfl; obtain ⟨q3, -⟩ := HN.out 3 _ rfl; obtain ⟨q4, -⟩ := HN.out 4 _ rfl; obtain ⟨q5, -⟩ := HN.out 5 _ rfl; obtain ⟨c2, f2⟩ := HTOP.out 2 _ rfl; simp only [Nat.zero_add] at q0 q1 q2 q3 q4 q5 c2 f2; have HR := put_by (And.intro r1 (And.intro r2 r3)); clear r1 r2 r3; obtain ⟨a4, k4, e4⟩ := rows_form HR.out.1; rw [List.length_append, List.length_singleton, ← HM.out] at e4; subst e4; refine list_end ?_))
    all_goals
      go_wp2
      exact bodyPost_end (v := .tuple #[]) (by simp [results, Try.results27, go_sem]) rfl ⟨rfl, sent_post H.out (HB.out.trans ((((Below.refl _ _).alloc (Nat.le_refl _) _).drew).mono HB.out.size)) HR.out.1 HR.out.2.1 HR.out.2.2 HL.out⟩
  · have hlt2 : ¬ (b.ls.length : Int) < 200 := by omega
    have HE := put_by (show b.send l = b from if_neg hlt)
    clear hm hlt
    generalize b.ls.length = m at *
    go_enter Try.func27, Try.ntmps27
    go_wp2
    exact bodyPost_end (v := .tuple #[]) (by simp [results, Try.results27, go_sem]) rfl ⟨rfl, by rw [HE.out]; exact (H.out.later ((Below.refl _ _).alloc (Nat.le_refl _) _)).post (Trn.of_below ((Below.refl _ _).alloc (Nat.le_refl _) _))⟩

end Go.Proofs.Ytppcikfhhmiipaa
