/- The entries of a state: what meld.Snap comes to. -/
import Derived.Test.YtjjdednlddnllaaTrOneB
namespace Go.Proofs.Ytjjdednlddnllaa
open Go.ChangeShapes Go.WideShapes Go.ChangeAt Go.RowKit

theorem eltEn : Elt 36 67 2 48 := ⟨Try.underlying36, by
  obtain ⟨i0, hi, hz0, hz1, hz2⟩ := info_parts (show (Try.prog.info? 67).map (fun i => (i.zero, i.size, i.bytes)) = some (some (.agg #[.slice none 0 0, .slice none 0 0]), 2, 48) by kernel_rfl)
  exact ⟨i0, _, hi, hz0, hz1, hz2, rfl⟩, by decide⟩

set_option maxRecDepth 100000 in
set_option maxHeartbeats 1000000 in
theorem copiedM_any (ao : Option Addr) (cap : Nat) (xs : List Int) (w : World) (he : Octs w ao cap xs) :
    Calls Try.prog 35 #[.slice ao xs.length cap] w fun e w' => ∃ ao' cap', e = .returned (.slice ao' xs.length cap') ∧ Octs w' ao' cap' xs ∧ (∀ a, ao' = some a → w.heap.size ≤ a.block) ∧ Below w.heap.size w w' := by
  have hb := he.2.2.2.1
  have hl := he.2.1
  obtain ⟨n, hn⟩ : ∃ n, n = xs.length := ⟨_, rfl⟩
  rw [← hn] at hl ⊢
  have HN : Hid (n = xs.length) := hn
  clear hn
  go_enter Try.func35, Try.ntmps35
  go_wp2_with (at_builtin; refine wpList_append_oct rfl (.const (.slice none 0 0)) (.tmp 3) rfl w.heap.size (.slice none 0 0) 0 [] rfl (World.ownsRow_nil _ _ _ _) ao cap n xs rfl HN.out he (by omega) (Nat.le_refl _) ?_; intro v' w' hown hg)
  rw [Nat.zero_add, List.nil_append] at hown
  obtain ⟨ao', cap', rfl, ho⟩ := own_octs HN.out rfl (by rw [← HN.out]; exact hl) hb hown
  have hnew := own_new hown
  rw [← HN.out]
  go_wp2
  go_ret
  exact ⟨_, _, rfl, ho, hnew, (Below.refl _ w).grown hg (Nat.le_refl _) (fun g h => by cases h)⟩

/-- a round's own variable, the row so far, and all that was there -/
structure SnI (w wr : World) (v : Value) (m : List Ent) (ku vu : Value) (W : World) : Prop where
  c0 : W.cell? ⟨wr.heap.size, 0, none⟩ = some ku
  c1 : W.cell? ⟨wr.heap.size, 1, none⟩ = some vu
  rows : Rows kEnt (fun _ => True) W w.heap.size 67 v m
  below : Below w.heap.size w W
  size : wr.heap.size < W.heap.size
  own : ∀ g, v.ownBlock = some g → g < wr.heap.size

theorem SnI.later {w wr W W' : World} {v : Value} {m : List Ent} {ku vu : Value} (h : SnI w wr v m ku vu W) (hb : Below W.heap.size W W') : SnI w wr v m ku vu W' :=
  ⟨(hb.cell (p := ⟨wr.heap.size, 0, none⟩) h.size).trans h.c0, (hb.cell (p := ⟨wr.heap.size, 1, none⟩) h.size).trans h.c1, h.rows.later hb, h.below.trans (hb.mono h.below.size), Nat.lt_of_lt_of_le h.size hb.size, h.own⟩

/-- behind one more -/
theorem SnI.more {w wr W W5 : World} {v : Value} {m : List Ent} {ku vu : Value} (h : SnI w wr v m ku vu W) (hg : W.grownBy W5 v.ownBlock) : (W5.cell? ⟨wr.heap.size, 0, none⟩ = some ku ∧ W5.cell? ⟨wr.heap.size, 1, none⟩ = some vu) ∧ Below w.heap.size w W5 := by
  have e : W5.heap[wr.heap.size]? = W.heap[wr.heap.size]? := hg.block _ h.size (fun e => by have := h.own _ e.symm; omega)
  exact ⟨⟨(World.cell?_of_block e).trans h.c0, (World.cell?_of_block e).trans h.c1⟩, below_grown h.below h.below.size hg (fun r hr => (rows_lt h.rows r hr).1)⟩

/-- what is told: entries -/
def SnPost (l : List Ent) (w : World) (e : Ending) (w' : World) : Prop := ∃ (a : Option Addr) (n c : Nat), e = .returned (.slice a n c) ∧ n = l.length ∧ l.length * 48 ≤ 140737488351232 ∧ Lies kEnt (fun _ => True) w' a c l ∧ Below w.heap.size w w'

theorem snapK_take_gone {l : List Cel} {k : Nat} (hk : k < l.length) (hg : (l[k]).gone = true) : snapK (l.take (k + 1)) = snapK (l.take k) := by
  have e : [l[k]].filter (fun c => !c.gone) = [] := by simp [hg]
  rw [take_succ' hk, snapK, List.filter_append, e, List.append_nil]
  rfl

theorem snapK_take_here {l : List Cel} {k : Nat} (hk : k < l.length) (hg : (l[k]).gone = false) : snapK (l.take (k + 1)) = snapK (l.take k) ++ [((l[k]).key, (l[k]).val)] := by
  have e : [l[k]].filter (fun c => !c.gone) = [l[k]] := by simp [hg]
  rw [take_succ' hk, snapK, List.filter_append, e, List.map_append]
  rfl

theorem snapK_few (l : List Cel) : (snapK l).length ≤ l.length := by
  rw [snapK, List.length_map]
  exact List.length_filter_le _ _

set_option maxRecDepth 100000 in
set_option maxHeartbeats 4000000 in
theorem Snap_any (ok : Nat → Prop) (p : Int) (cs : List Cel) (ds : List Dn) (ca : Option Addr) (cc : Nat) (da : Option Addr) (dc : Nat) (w : World) (hI : StIs ok w cs ds ca cc da dc) (R : Bool) (hR : R = true ↔ MayS ⟨p, cs, ds⟩) :
    Calls Try.prog 16 #[.agg #[.int .i64 p, .slice ca cs.length cc, .slice da ds.length dc]] w fun e w' => SnPost (if R then snapK cs else []) w e w' := by
  generalize hpost : (fun e w' => SnPost (if R then snapK cs else []) w e w') = Q
  have HO : Hid (∀ w', ¬ Q .outgrown w') := fun w' hh => by
    rw [← hpost] at hh
    obtain ⟨a, n, c, h, -⟩ := hh
    cases h
  have HP : Hid (∀ e w', SnPost (if R then snapK cs else []) w e w' → Q e w') := fun e w' h => by rw [← hpost]; exact h
  clear hpost
  have hV := (Below.refl w.heap.size w).alloc (Nat.le_refl _) (.cells #[.int .i64 p, .slice ca cs.length cc, .slice da ds.length dc] 25)
  have c0 : Hid (Calls Try.prog 9 #[.agg #[.int .i64 p, .slice ca cs.length cc, .slice da ds.length dc]] (w.alloc (.cells #[.int .i64 p, .slice ca cs.length cc, .slice da ds.length dc] 25)) fun e w' => e = .returned (.bool R) ∧ w'.cell? ⟨w.heap.size, 1, none⟩ = some (.slice ca cs.length cc) ∧ Hid (Below w.heap.size w w')) :=
    (MayS_any ok p cs ds ca cc da dc _ (hI.later hV) R hR).mono (fun e w' h => ⟨h.1, (h.2.cell (p := ⟨w.heap.size, 1, none⟩) (by simp)).trans (by simp), hV.trans (h.2.mono hV.size)⟩)
  obtain ⟨n, hn⟩ : ∃ n, n = cs.length := ⟨_, rfl⟩
  have h8 := hI.few.1
  rw [← hn] at c0 h8 ⊢
  have HL := put_by hI.cells
  have HN := put_by hn
  have H8 := put_by h8
  have hn9 : n ≤ 140737488351232 := by omega
  clear hI hR hV hn h8
  generalize ds.length = n2 at c0 ⊢
  cases R with
  | false =>
    go_enter Try.func16, Try.ntmps16
    go_wp2_with (first
      | (go_at_call 9; (with_reducible refine c0.out.mono ?_); clear c0; rintro e w1 ⟨rfl, s1, H1⟩))
    exact HP.out _ _ ⟨none, 0, 0, rfl, rfl, by simp, Lies.nil _ _ _ (fun _ => rfl), H1.out⟩
  | true =>
    go_enter Try.func16, Try.ntmps16
    go_upto_region 5 with (first
      | (go_at_call 9; (with_reducible refine c0.out.mono ?_); clear c0; rintro e w1 ⟨rfl, s1, H1⟩))
    go_loopw [3, 12] (fun s i wr => ∃ (k : Nat) (a : Option Addr) (m c : Nat), k ≤ n ∧ i = .int .i64 k ∧ s = .slice a m c ∧ Hid (Rows kEnt (fun _ => True) wr w.heap.size 67 (.slice a m c) (snapK (cs.take k)) ∧ Below w.heap.size w wr)) (fun _ i _ => n - (intOf i).toNat)
    case atStart => exact ⟨0, none, 0, 0, Nat.zero_le _, rfl, rfl, Rows.nil _ _ _ _ _, H1.out⟩
    case round =>
      obtain ⟨k, a, m, c, hk, rfl, rfl, HR⟩ := hrel
      rename World => wr
      by_cases hlt : k < n
      · have hx : k < cs.length := by rw [← HN.out]; exact hlt
        obtain ⟨bb, off, a1, c1, a2, c2, rfl, hk1, hk2, hb, hc⟩ := cel_at HL.out hx
        obtain ⟨d0, d1, d2, d3⟩ := hc wr HR.out.2
        have ik : (k : Int) < (n : Int) := by omega
        obtain ⟨g, hg⟩ : ∃ g, g = (cs[k]).gone := ⟨_, rfl⟩
        rw [← hg] at d2
        have HBa := put_by (HR.out.2.trans (((Below.refl wr.heap.size wr).alloc (Nat.le_refl _) (.cells #[.slice a1 (cs[k]).key.length c1, .slice a2 (cs[k]).val.length c2, .bool g, .int .i64 (cs[k]).since] 55)).mono HR.out.2.size))
        have HRw := put_by (HR.out.1.later ((Below.refl wr.heap.size wr).alloc (Nat.le_refl _) (.cells #[.slice a1 (cs[k]).key.length c1, .slice a2 (cs[k]).val.length c2, .bool g, .int .i64 (cs[k]).since] 55)))
        cases g with
        | true =>
          have HS := put_by (snapK_take_gone hx hg.symm)
          clear hc hk1 hk2 hg HR
          generalize (cs[k]).key.length = i1 at d0 HBa HRw
          generalize (cs[k]).val.length = i2 at d1 HBa HRw
          generalize (cs[k]).since = s at d3 HBa HRw
          go_wp2
          go_roundw
          case rel => exact ⟨k + 1, a, m, c, by omega, by go_num, rfl, by rw [HS.out]; exact ⟨HRw.out, HBa.out⟩⟩
          case measure => simp [intOf]; omega
        | false =>
          obtain ⟨xa, xc, e1, hxo, -⟩ := hk1
          cases e1
          obtain ⟨ya, yc, e2, hyo, -⟩ := hk2
          cases e2
          have HS := put_by (snapK_take_here hx hg.symm)
          have H0 : Hid (SnI w wr (.slice a m c) (snapK (cs.take k)) (.slice a1 (cs[k]).key.length c1) (.slice a2 (cs[k]).val.length c2) (wr.alloc (.cells #[.slice a1 (cs[k]).key.length c1, .slice a2 (cs[k]).val.length c2, .bool false, .int .i64 (cs[k]).since] 55))) :=
            ⟨by simp, by simp, HRw.out, HBa.out, by simp, fun g e => (rows_lt HR.out.1 g e).2⟩
          have c1' : Hid (∀ W, SnI w wr (.slice a m c) (snapK (cs.take k)) (.slice a1 (cs[k]).key.length c1) (.slice a2 (cs[k]).val.length c2) W → Calls Try.prog 35 #[.slice a1 (cs[k]).key.length c1] W fun e w' => ∃ (b1 : Option Addr) (n1 q1 : Nat), e = .returned (.slice b1 n1 q1) ∧ Hid (SnI w wr (.slice a m c) (snapK (cs.take k)) (.slice a1 (cs[k]).key.length c1) (.slice a2 (cs[k]).val.length c2) w' ∧ IsBody w' (fun b => True ∧ (Value.slice a m c).ownBlock ≠ some b) (.slice b1 n1 q1) (cs[k]).key)) := fun W hW => by
            refine (copiedM_any a1 c1 (cs[k]).key W (hxo.later hW.below)).mono ?_
            rintro e w' ⟨b1, q1, rfl, r1, r2, r3⟩
            exact ⟨b1, _, q1, rfl, hW.later r3, b1, q1, rfl, r1, fun _ ad hd => ⟨trivial, fun e => by have := r2 ad hd; have := hW.own _ e; have := hW.size; omega⟩⟩
          have c2' : Hid (∀ (W : World) (b1 : Option Addr) (n1 q1 : Nat), (SnI w wr (.slice a m c) (snapK (cs.take k)) (.slice a1 (cs[k]).key.length c1) (.slice a2 (cs[k]).val.length c2) W ∧ IsBody W (fun b => True ∧ (Value.slice a m c).ownBlock ≠ some b) (.slice b1 n1 q1) (cs[k]).key) → Calls Try.prog 35 #[.slice a2 (cs[k]).val.length c2] W fun e w' => ∃ (b2 : Option Addr) (n2 q2 : Nat), e = .returned (.slice b2 n2 q2) ∧ Hid (SnI w wr (.slice a m c) (snapK (cs.take k)) (.slice a1 (cs[k]).key.length c1) (.slice a2 (cs[k]).val.length c2) w' ∧ kEnt.rel (fun b => True ∧ (Value.slice a m c).ownBlock ≠ some b) w' ((cs[k]).key, (cs[k]).val) [.slice b1 n1 q1, .slice b2 n2 q2])) := fun W b1 n1 q1 ⟨hW, hb1⟩ => by
            refine (copiedM_any a2 c2 (cs[k]).val W (hyo.later hW.below)).mono ?_
            rintro e w' ⟨b2, q2, rfl, r1, r2, r3⟩
            exact ⟨b2, _, q2, rfl, hW.later r3, _, _, rfl, hb1.later r3, b2, q2, rfl, r1, fun _ ad hd => ⟨trivial, fun e => by have := r2 ad hd; have := hW.own _ e; have := hW.size; omega⟩⟩
          have HKL : Hid (((snapK (cs.take k)).length + 1) * 48 ≤ 140737488355328) := by
            have h1 := snapK_few (cs.take k)
            rw [List.length_take] at h1
            have h2 := H8.out
            show _ ≤ _
            omega
          clear hc hxo hyo hg HR HBa HRw
          generalize ((cs[k]).key, (cs[k]).val) = x at HS c2'
          generalize (cs[k]).key = kk at c1' c2' H0 d0
          generalize (cs[k]).val = vv at c1' c2' H0 d1
          generalize (cs[k]).since = s at H0 d3
          generalize kk.length = i1 at c1' c2' H0 d0
          generalize vv.length = i2 at c1' c2' H0 d1
          go_upto_region 8 with (fail)
          generalize wr.alloc (.cells #[.slice a1 i1 c1, .slice a2 i2 c2, .bool false, .int .i64 s] 55) = W0 at H0 ⊢
          have HD := put_by (H0.out.later (Below.refl _ _).drew)
          obtain ⟨k0, k1, -, -, -, -⟩ := id H0.out
          go_region_held3 (fun V => V.cell? ⟨wr.heap.size, 0, none⟩ = some (.slice a1 i1 c1) ∧ V.cell? ⟨wr.heap.size, 1, none⟩ = some (.slice a2 i2 c2)) (go_keep) (first
            | (go_at_call 35; (with_reducible refine (c1'.out _ HD.out).mono ?_); clear c1'; rintro e w1 ⟨b1, n1, q1, rfl, H1⟩; obtain ⟨j0, j1, -, -, -, -⟩ := id H1.out.1)
            | (go_at_call 35; (with_reducible refine (c2'.out _ _ _ _ H1.out).mono ?_); clear c2'; rintro e w2 ⟨b2, n2, q2, rfl, H2⟩; obtain ⟨l0, l1, -, -, -, -⟩ := id H2.out.1)
            | (rw [if_pos (by rfl)]; refine wp_of_list rfl (by rintro ⟨_, _, hh⟩; exact HO.out _ hh) (wpList_append_oneB eltEn rfl (.tmp 19) (.tmp 27) rfl w.heap.size (.slice a m c) (snapK (cs.take k)) rfl H2.out.1.rows x [.slice b1 n1 q1, .slice b2 n2 q2] _ _ rfl rfl H2.out.2 (fun _ _ => trivial) HKL.out (by decide) H2.out.1.below.size (fun v' w5 r1 r2 r3 => ?_)); obtain ⟨⟨z0, z1⟩, zb⟩ := H2.out.1.more r2; obtain ⟨a6, c6, e6⟩ := rows_form r1; subst e6; have H5 := put_by (And.intro r1 zb); clear r1 r2 r3 zb; generalize (snapK (cs.take k) ++ [x]).length = m6 at H5; refine list_end ?_))
          all_goals
            go_wp2
            go_roundw
            case rel => exact ⟨k + 1, a6, m6, c6, by omega, by go_num, rfl, by rw [HS.out]; exact H5⟩
            case measure => simp [intOf]; omega
      · have hkn : k = n := by omega
        subst hkn
        have H9 : Hid (SnPost (if true = true then snapK cs else []) w (.returned (.slice a m c)) wr) := by
          have h := HR.out
          rw [List.take_of_length_le (by rw [← HN.out]; exact Nat.le_refl _)] at h
          obtain ⟨h1, h2, -, -⟩ := rows_lies h.1 (fun _ _ => trivial)
          exact ⟨a, m, c, rfl, h1, by have := snapK_few cs; have := H8.out; have := HN.out; simp only [if_true]; omega, h2, h.2⟩
        clear HR
        go_wp2
        exact HP.out _ _ H9.out

end Go.Proofs.Ytjjdednlddnllaa
