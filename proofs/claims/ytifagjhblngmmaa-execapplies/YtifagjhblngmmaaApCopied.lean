/- Copies of entries. -/
import Derived.Test.YtifagjhblngmmaaApBase
namespace Go.Proofs.Ytifagjhblngmmaa
open Go.ChangeShapes Go.WideShapes Go.ChangeAt Go.RowKit

set_option maxHeartbeats 1000000 in
theorem copiedBytes_any (ao : Option Addr) (cap : Nat) (xs : List Int) (w : World) (he : Octs w ao cap xs) :
    Calls Try.prog 19 #[.slice ao xs.length cap] w fun e w' => ∃ ao' cap', e = .returned (.slice ao' xs.length cap') ∧ Octs w' ao' cap' xs ∧ (∀ a, ao' = some a → w.heap.size ≤ a.block) ∧ Below w.heap.size w w' := by
  have hb := he.2.2.2.1
  have hl := he.2.1
  obtain ⟨n, hn⟩ : ∃ n, n = xs.length := ⟨_, rfl⟩
  rw [← hn] at hl ⊢
  have HN : Hid (n = xs.length) := hn
  clear hn
  go_enter Try.func19, Try.ntmps19
  go_wp2_with (at_builtin; refine wpList_append_oct rfl (.const (.slice none 0 0)) (.tmp 3) rfl w.heap.size (.slice none 0 0) 0 [] rfl (World.ownsRow_nil _ _ _ _) ao cap n xs rfl HN.out he (by omega) (Nat.le_refl _) ?_; intro v' w' hown hg)
  rw [Nat.zero_add, List.nil_append] at hown
  obtain ⟨ao', cap', rfl, ho⟩ := own_octs HN.out rfl (by rw [← HN.out]; exact hl) hb hown
  have hnew := own_new hown
  rw [← HN.out]
  go_wp2
  go_ret
  exact ⟨_, _, rfl, ho, hnew, (Below.refl _ w).grown hg (Nat.le_refl _) (fun g h => by cases h)⟩

/-- a round's own variable, the row so far, and all that was there -/
structure CpI (w wr : World) (v : Value) (m : List Ent) (ku vu : Value) (W : World) : Prop where
  two : Two W wr.heap.size ku vu
  rows : Rows kEnt (fun _ => True) W w.heap.size 40 v m
  below : Below w.heap.size w W
  size : wr.heap.size < W.heap.size
  own : ∀ g, v.ownBlock = some g → g < wr.heap.size

theorem CpI.later {w wr W W' : World} {v : Value} {m : List Ent} {ku vu : Value} (h : CpI w wr v m ku vu W) (hb : Below W.heap.size W W') : CpI w wr v m ku vu W' :=
  ⟨h.two.later hb, h.rows.later hb, h.below.trans (hb.mono h.below.size), Nat.lt_of_lt_of_le h.size hb.size, h.own⟩

/-- behind one more -/
theorem CpI.more {w wr W W5 : World} {v : Value} {m : List Ent} {ku vu : Value} (h : CpI w wr v m ku vu W) (hg : W.grownBy W5 v.ownBlock) : Two W5 wr.heap.size ku vu ∧ Below w.heap.size w W5 := by
  have e : W5.heap[wr.heap.size]? = W.heap[wr.heap.size]? := hg.block _ h.size (fun e => by have := h.own _ e.symm; omega)
  refine ⟨⟨(World.cell?_of_block e).trans h.two.c0, (World.cell?_of_block e).trans h.two.c1, (World.frozen?_of_block e).trans h.two.f0, (World.frozen?_of_block e).trans h.two.f1⟩, below_grown h.below h.below.size hg (fun r hr => (rows_lt h.rows r hr).1)⟩

/-- a row that has grown is a slice -/
theorem rows_slice {w : World} {base : Nat} {v : Value} {l : List Ent} (h : Rows kEnt (fun _ => True) w base 40 v l) : ∃ (a : Option Addr) (n c : Nat), v = .slice a n c := by
  obtain ⟨a, c, e⟩ := rows_form h
  exact ⟨a, _, c, e⟩

/-- what copying comes to -/
def CpPost (l : List Ent) (w : World) (e : Ending) (w' : World) : Prop := ∃ (a : Option Addr) (n c : Nat), e = .returned (.slice a n c) ∧ n = l.length ∧ Lies kEnt (fun _ => True) w' a c l ∧ Below w.heap.size w w'

set_option maxRecDepth 100000 in
set_option maxHeartbeats 8000000 in
theorem ecopied_any (ok : Nat → Prop) (l : List Ent) (hfew : l.length ≤ 90000) (la : Option Addr) (lc : Nat) (w : World) (hL : Lies kEnt ok w la lc l) :
    Calls Try.prog 9 #[.slice la l.length lc] w fun e w' => CpPost l w e w' := by
  generalize hpost : (fun e w' => CpPost l w e w') = R
  have HO : Hid (∀ w', ¬ R .outgrown w') := fun w' hh => by
    rw [← hpost] at hh
    obtain ⟨a, n, c, h, -⟩ := hh
    cases h
  have HP : Hid (∀ e w', CpPost l w e w' → R e w') := fun e w' h => by rw [← hpost]; exact h
  clear hpost
  obtain ⟨n, hn⟩ : ∃ n, n = l.length := ⟨_, rfl⟩
  rw [← hn]
  have HL := put_by hL
  have HN := put_by hn
  have hn9 : n ≤ 90000 := by omega
  clear hL hn hfew
  go_enter Try.func9, Try.ntmps9
  go_wp2
  go_loopw [3, 8] (fun s i wr => ∃ (k : Nat) (a : Option Addr) (m c : Nat), k ≤ n ∧ i = .int .i64 k ∧ s = .slice a m c ∧ Hid (Rows kEnt (fun _ => True) wr w.heap.size 40 (.slice a m c) (l.take k) ∧ Below w.heap.size w wr)) (fun _ i _ => n - (intOf i).toNat)
  case atStart => exact ⟨0, none, 0, 0, Nat.zero_le _, rfl, rfl, Rows.nil _ _ _ _ _, Below.refl _ _⟩
  case round =>
    obtain ⟨k, a, m, c, hk, rfl, rfl, HR⟩ := hrel
    rename World => wr
    by_cases hlt : k < n
    · have hx : k < l.length := by rw [← HN.out]; exact hlt
      obtain ⟨b4, off, rfl, hb, _, cs, ⟨u, v, rfl, hu, hw⟩, hc⟩ := HL.out.at hx
      obtain ⟨xa, xc, rfl, hxo, -⟩ := id hu
      obtain ⟨ya, yc, rfl, hyo, -⟩ := id hw
      have d0 : wr.cell? ⟨b4, off + k * 2, none⟩ = some (.slice xa (l[k]).1.length xc) := (HR.out.2.cell (p := ⟨b4, off + k * 2, none⟩) hb).trans (by simpa using hc 0 _ rfl)
      have d1 : wr.cell? ⟨b4, off + k * 2 + 1, none⟩ = some (.slice ya (l[k]).2.length yc) := (HR.out.2.cell (p := ⟨b4, off + k * 2 + 1, none⟩) hb).trans (hc 1 _ rfl)
      have HS : Hid (l.take (k + 1) = l.take k ++ [l[k]]) := List.take_succ_eq_append_getElem hx
      have H0 : Hid (CpI w wr (.slice a m c) (l.take k) (.slice xa (l[k]).1.length xc) (.slice ya (l[k]).2.length yc) (wr.alloc (.cells #[.slice xa (l[k]).1.length xc, .slice ya (l[k]).2.length yc] 40))) := by
        have hba := (Below.refl _ wr).alloc (Nat.le_refl _) (.cells #[.slice xa (l[k]).1.length xc, .slice ya (l[k]).2.length yc] 40)
        exact ⟨Two.new _ _ _ _, HR.out.1.later hba, HR.out.2.trans (hba.mono HR.out.2.size), by simp, fun g e => (rows_lt HR.out.1 g e).2⟩
      have c1 : Hid (∀ W, CpI w wr (.slice a m c) (l.take k) (.slice xa (l[k]).1.length xc) (.slice ya (l[k]).2.length yc) W → Calls Try.prog 19 #[.slice xa (l[k]).1.length xc] W fun e w' => ∃ (a1 : Option Addr) (n1 q1 : Nat), e = .returned (.slice a1 n1 q1) ∧ Hid (CpI w wr (.slice a m c) (l.take k) (.slice xa (l[k]).1.length xc) (.slice ya (l[k]).2.length yc) w' ∧ IsBody w' (fun b => True ∧ (Value.slice a m c).ownBlock ≠ some b) (.slice a1 n1 q1) (l[k]).1)) := fun W hW => by
        refine (copiedBytes_any xa xc (l[k]).1 W (hxo.later hW.below)).mono ?_
        rintro e w' ⟨a1, q1, rfl, r1, r2, r3⟩
        exact ⟨a1, _, q1, rfl, hW.later r3, a1, q1, rfl, r1, fun _ ad hd => ⟨trivial, fun e => by have := r2 ad hd; have := hW.own _ e; have := hW.size; omega⟩⟩
      have c2 : Hid (∀ (W : World) (a1 : Option Addr) (n1 q1 : Nat), (CpI w wr (.slice a m c) (l.take k) (.slice xa (l[k]).1.length xc) (.slice ya (l[k]).2.length yc) W ∧ IsBody W (fun b => True ∧ (Value.slice a m c).ownBlock ≠ some b) (.slice a1 n1 q1) (l[k]).1) → Calls Try.prog 19 #[.slice ya (l[k]).2.length yc] W fun e w' => ∃ (a2 : Option Addr) (n2 q2 : Nat), e = .returned (.slice a2 n2 q2) ∧ Hid (CpI w wr (.slice a m c) (l.take k) (.slice xa (l[k]).1.length xc) (.slice ya (l[k]).2.length yc) w' ∧ kEnt.rel (fun b => True ∧ (Value.slice a m c).ownBlock ≠ some b) w' l[k] [.slice a1 n1 q1, .slice a2 n2 q2])) := fun W a1 n1 q1 ⟨hW, hb1⟩ => by
        refine (copiedBytes_any ya yc (l[k]).2 W (hyo.later hW.below)).mono ?_
        rintro e w' ⟨a2, q2, rfl, r1, r2, r3⟩
        exact ⟨a2, _, q2, rfl, hW.later r3, _, _, rfl, hb1.later r3, a2, q2, rfl, r1, fun _ ad hd => ⟨trivial, fun e => by have := r2 ad hd; have := hW.own _ e; have := hW.size; omega⟩⟩
      have hkl : (l.take k).length ≤ 90000 := by rw [List.length_take]; omega
      have HKL := put_by hkl
      have ik : (k : Int) < (n : Int) := by omega
      clear hc hu hw hxo hyo hkl HR
      generalize (l[k]).1.length = i1 at d0 c1 c2 H0
      generalize (l[k]).2.length = i2 at d1 c1 c2 H0
      go_upto_region 5 with (fail)
      generalize wr.alloc (.cells #[.slice xa i1 xc, .slice ya i2 yc] 40) = W0 at H0 ⊢
      have HD := put_by (H0.out.later (Below.refl _ _).drew)
      obtain ⟨⟨k0, k1, -, -⟩, -, -, -, -⟩ := id H0.out
      go_region_held3 (fun V => V.cell? ⟨wr.heap.size, 0, none⟩ = some (.slice xa i1 xc) ∧ V.cell? ⟨wr.heap.size, 1, none⟩ = some (.slice ya i2 yc)) (go_keep) (first
        | (go_at_call 19; (with_reducible refine (c1.out _ HD.out).mono ?_); clear c1; rintro e w1 ⟨a1, n1, q1, rfl, H1⟩; obtain ⟨⟨j0, j1, -, -⟩, -, -, -, -⟩ := id H1.out.1)
        | (go_at_call 19; (with_reducible refine (c2.out _ _ _ _ H1.out).mono ?_); clear c2; rintro e w2 ⟨a2, n2, q2, rfl, H2⟩; obtain ⟨⟨l0, l1, -, -⟩, -, -, -, -⟩ := id H2.out.1)
        | (rw [if_pos (by rfl)]; refine wp_of_list rfl (by rintro ⟨_, _, hh⟩; exact HO.out _ hh) (wpList_append_one eltE rfl (.tmp 12) (.tmp 20) rfl w.heap.size (.slice a m c) (l.take k) rfl H2.out.1.rows l[k] [.slice a1 n1 q1, .slice a2 n2 q2] _ _ rfl rfl H2.out.2 (fun _ _ => trivial) (by have := HKL.out; omega) (by decide) H2.out.1.below.size (fun v' w5 r1 r2 r3 => ?_)); obtain ⟨⟨z0, z1, -, -⟩, zb⟩ := H2.out.1.more r2; obtain ⟨a6, m6, c6, rfl⟩ := rows_slice r1; have H5 := put_by (And.intro r1 zb); clear r1 r2 r3 zb; refine list_end ?_))
      all_goals
        go_wp2
        go_roundw
        case rel => exact ⟨k + 1, a6, m6, c6, by omega, by go_num, rfl, by rw [HS.out]; exact H5⟩
        case measure => simp [intOf]; omega
    · have hkn : k = n := by omega
      subst hkn
      have H9 : Hid (CpPost l w (.returned (.slice a m c)) wr) := by
        have h := HR.out
        rw [List.take_of_length_le (by rw [← HN.out]; exact Nat.le_refl _)] at h
        obtain ⟨h1, h2, -, -⟩ := rows_lies h.1 (fun _ _ => trivial)
        exact ⟨a, m, c, rfl, h1, h2, h.2⟩
      clear HR
      go_wp2
      exact HP.out _ _ H9.out

end Go.Proofs.Ytifagjhblngmmaa
