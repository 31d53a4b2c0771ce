/- Replies held against each other, as the laws that keep do it: two that are alike, and the last ones of two rows. -/
import Derived.Test.YtfaejcdbjcklpaaUnReg
import Derived.Test.YtfaejcdbjcklpaaRtSameK
namespace Go.Proofs.Ytfaejcdbjcklpaa
open Go.ChangeShapes Go.WideShapes Go.ChangeAt Go.RowKit

set_option maxRecDepth 10000 in
set_option maxHeartbeats 1600000 in
theorem sameReplyK_yes (x : Rp) (xa ya : Option Addr) (xc yc n : Nat) (hn : n = x.data.length) (c : Int) (j : Bool) (t : Int) (w : World) (hX : Octs w xa xc x.data) (hY : Octs w ya yc x.data) :
    Calls Try.prog 11 #[.agg #[.int .i64 c, .bool j, .slice xa n xc, .int .i64 t], .agg #[.int .i64 c, .bool j, .slice ya n yc, .int .i64 t]] w fun e w' => e = .returned (.bool true) ∧ Below w.heap.size w w' := by
  have HX := put_by (And.intro hX hY)
  have HN := put_by hn
  clear hX hY hn
  have HQ1 := put_by (Quad.new w (.int .i64 c) (.bool j) (.slice xa n xc) (.int .i64 t) 40)
  have HB1 := put_by ((Below.refl w.heap.size w).alloc (Nat.le_refl _) (.cells #[.int .i64 c, .bool j, .slice xa n xc, .int .i64 t] 40))
  have HS1 : Hid ((w.alloc (.cells #[.int .i64 c, .bool j, .slice xa n xc, .int .i64 t] 40)).heap.size = w.heap.size + 1) := put_by (by simp)
  go_enter Try.func11, Try.ntmps11
  go_upto_region 1 with (fail)
  generalize hA : w.heap.size + 1 = A
  generalize w.alloc (.cells #[.int .i64 c, .bool j, .slice xa n xc, .int .i64 t] _) = W1 at HQ1 HB1 HS1 ⊢
  rw [hA] at HS1
  have HQ2 := put_by (Quad.new W1 (.int .i64 c) (.bool j) (.slice ya n yc) (.int .i64 t) 40)
  have HB2 := put_by ((Below.refl W1.heap.size W1).alloc (Nat.le_refl _) (.cells #[.int .i64 c, .bool j, .slice ya n yc, .int .i64 t] 40))
  rw [HS1.out] at HQ2
  generalize W1.alloc (.cells #[.int .i64 c, .bool j, .slice ya n yc, .int .i64 t] _) = W2 at HQ2 HB2 ⊢
  have HQ3 := put_by (HQ1.out.later HB2.out)
  have HB : Hid (Below w.heap.size w W2) := put_by (HB1.out.trans (HB2.out.mono HB1.out.size))
  obtain ⟨x0, x1, x2, x3, -, -, -, -⟩ := HQ3.out
  obtain ⟨y0, y1, y2, y3, -, -, -, -⟩ := HQ2.out
  have cK : Hid (Calls Try.prog 15 #[.slice xa n xc, .slice ya n yc] W2 fun e w' => e = .returned (.bool true) ∧ ∃ j, w' = W2.drewN j) := put_by (by
    rw [HN.out]
    refine (sameBytesK_q xa ya xc yc _ _ W2 (HX.out.1.later HB.out) (HX.out.2.later HB.out)).mono fun e w' h => ?_
    simpa using h)
  clear HQ1 HQ2 HQ3 HB1 HB2 HS1 HX HN hA
  go_wp2_with (go_at_call 15; refine cK.out.mono ?_; rintro e w1 ⟨rfl, i, rfl⟩)
  go_ret
  exact ⟨rfl, belowN HB.out _⟩

set_option maxRecDepth 10000 in
set_option maxHeartbeats 1600000 in
theorem sameTailK_yes (p q t : List Rp) (ht : t.length = 6) (P Q na nb : Nat) (hP : P = p.length) (hQ : Q = q.length) (hP4 : P ≤ 400) (hQ4 : Q ≤ 400) (hna : na = P + 6) (hnb : nb = Q + 6) (aa ba : Option Addr) (ac bc : Nat) (w : World) (hA : Rps w aa ac (p ++ t)) (hB : Rps w ba bc (q ++ t)) :
    Calls Try.prog 9 #[.slice aa na ac, .slice ba nb bc, .int .i64 6] w fun e w' => e = .returned (.bool true) ∧ Below w.heap.size w w' := by
  have HA := put_by (And.intro hA hB)
  have HT := put_by ht
  have HPQ := put_by (And.intro hP hQ)
  subst hna hnb
  clear hA hB ht hP hQ
  go_enter Try.func9, Try.ntmps9
  have h1 : ¬ ((P : Int) + 6 < 6) := by omega
  have h2 : ¬ ((Q : Int) + 6 < 6) := by omega
  go_wp2
  go_loopw [7] (fun i wr => ∃ m : Nat, m ≤ 6 ∧ i = .int .i64 (7 - (m : Int)) ∧ Hid (Below w.heap.size w wr)) (fun i _ => 8 - (intOf i).toNat)
  case atStart => exact ⟨6, Nat.le_refl _, rfl, Below.refl _ _⟩
  case round =>
    obtain ⟨m, hm, rfl, HB⟩ := hrel
    rename World => wr
    by_cases hlt : 0 < m
    · obtain ⟨k, rfl⟩ : ∃ k, m = k + 1 := ⟨m - 1, by omega⟩
      have hk6 : k < t.length := by rw [HT.out]; omega
      have hA1 : Rps wr aa ac (p ++ t) := Lies.later HA.out.1 HB.out
      have hB1 : Rps wr ba bc (q ++ t) := Lies.later HA.out.2 HB.out
      obtain ⟨b1, o1, xa, xc, rfl, y0, y1, y2, y3, hx⟩ := hA1.cell (k := P + k) (by rw [List.length_append, ← HPQ.out.1]; omega)
      obtain ⟨b2, o2, ya, yc, rfl, z0, z1, z2, z3, hy⟩ := hB1.cell (k := Q + k) (by rw [List.length_append, ← HPQ.out.2]; omega)
      have e1 : (p ++ t)[P + k]'(by rw [List.length_append, ← HPQ.out.1]; omega) = t[k] := by
        rw [List.getElem_append_right (by rw [← HPQ.out.1]; omega)]
        simp [← HPQ.out.1]
      have e2 : (q ++ t)[Q + k]'(by rw [List.length_append, ← HPQ.out.2]; omega) = t[k] := by
        rw [List.getElem_append_right (by rw [← HPQ.out.2]; omega)]
        simp [← HPQ.out.2]
      rw [e1] at y0 y1 y2 y3 hx
      rw [e2] at z0 z1 z2 z3 hy
      obtain ⟨n, hn⟩ : ∃ n, n = (t[k]).data.length := ⟨_, rfl⟩
      rw [← hn] at y2 z2
      obtain ⟨r, hr⟩ : ∃ r, r = t[k] := ⟨_, rfl⟩
      rw [← hr] at hn hx hy y0 y1 y3 z0 z1 z3
      have cK : Hid (∀ V, Below wr.heap.size wr V → Calls Try.prog 11 #[.agg #[.int .i64 r.code, .bool r.junk, .slice xa n xc, .int .i64 r.tail], .agg #[.int .i64 r.code, .bool r.junk, .slice ya n yc, .int .i64 r.tail]] V fun e w' => e = .returned (.bool true) ∧ Below V.heap.size V w') := put_by fun V hV =>
        sameReplyK_yes r xa ya xc yc n hn r.code r.junk r.tail V (hx.later hV) (hy.later hV)
      have hik : (7 - ((k + 1 : Nat) : Int)) = 6 - (k : Int) := by omega
      have w1 : IntKind.i64.wrap ((P : Int) + 6 - (6 - (k : Int))) = (P : Int) + (k : Int) := by rw [IntKind.wrap_i64]; omega
      have w2 : IntKind.i64.wrap ((Q : Int) + 6 - (6 - (k : Int))) = (Q : Int) + (k : Int) := by rw [IntKind.wrap_i64]; omega
      have w3 : IntKind.i64.wrap (6 - (k : Int) + 1) = 7 - (k : Int) := by rw [IntKind.wrap_i64]; omega
      have hk5 : (k : Int) < 6 := by omega
      have hkn : k < 6 := by omega
      have hP0 : (0 : Int) ≤ (P : Int) + (k : Int) := by omega
      have hQ0 : (0 : Int) ≤ (Q : Int) + (k : Int) := by omega
      have hP1 : (P : Int) + (k : Int) < (P : Int) + 6 := by omega
      have hQ1 : (Q : Int) + (k : Int) < (Q : Int) + 6 := by omega
      have hP2 : ((P : Int) + (k : Int)).toNat = P + k := by omega
      have hQ2 : ((Q : Int) + (k : Int)).toNat = Q + k := by omega
      clear e1 e2 hA1 hB1 hn hx hy hr hk6
      generalize r.code = p0 at *
      generalize r.junk = p1 at *
      generalize r.tail = p3 at *
      have HY : Hid (∀ W, Below wr.heap.size wr W → (W.cell? ⟨b1, o1 + (P + k) * 4, none⟩ = some (.int .i64 p0) ∧ W.cell? ⟨b1, o1 + (P + k) * 4 + 1, none⟩ = some (.bool p1) ∧ W.cell? ⟨b1, o1 + (P + k) * 4 + 2, none⟩ = some (.slice xa n xc) ∧ W.cell? ⟨b1, o1 + (P + k) * 4 + 3, none⟩ = some (.int .i64 p3)) ∧ (W.cell? ⟨b2, o2 + (Q + k) * 4, none⟩ = some (.int .i64 p0) ∧ W.cell? ⟨b2, o2 + (Q + k) * 4 + 1, none⟩ = some (.bool p1) ∧ W.cell? ⟨b2, o2 + (Q + k) * 4 + 2, none⟩ = some (.slice ya n yc) ∧ W.cell? ⟨b2, o2 + (Q + k) * 4 + 3, none⟩ = some (.int .i64 p3))) := put_by fun W hW =>
        ⟨⟨(hW.cell (World.block_lt_of_cell? _ _ y0)).trans y0, (hW.cell (World.block_lt_of_cell? _ _ y1)).trans y1, (hW.cell (World.block_lt_of_cell? _ _ y2)).trans y2, (hW.cell (World.block_lt_of_cell? _ _ y3)).trans y3⟩,
         ⟨(hW.cell (World.block_lt_of_cell? _ _ z0)).trans z0, (hW.cell (World.block_lt_of_cell? _ _ z1)).trans z1, (hW.cell (World.block_lt_of_cell? _ _ z2)).trans z2, (hW.cell (World.block_lt_of_cell? _ _ z3)).trans z3⟩⟩
      rw [hik]
      clear hik
      go_wp2
      go_region_held3 (fun W => W.cell? ⟨b1, o1 + (P + k) * 4, none⟩ = some (.int .i64 p0) ∧ W.cell? ⟨b1, o1 + (P + k) * 4 + 1, none⟩ = some (.bool p1) ∧ W.cell? ⟨b1, o1 + (P + k) * 4 + 2, none⟩ = some (.slice xa n xc) ∧ W.cell? ⟨b1, o1 + (P + k) * 4 + 3, none⟩ = some (.int .i64 p3) ∧ W.cell? ⟨b2, o2 + (Q + k) * 4, none⟩ = some (.int .i64 p0) ∧ W.cell? ⟨b2, o2 + (Q + k) * 4 + 1, none⟩ = some (.bool p1) ∧ W.cell? ⟨b2, o2 + (Q + k) * 4 + 2, none⟩ = some (.slice ya n yc) ∧ W.cell? ⟨b2, o2 + (Q + k) * 4 + 3, none⟩ = some (.int .i64 p3)) (go_keep) (first
        | (go_at_call 11; (with_reducible refine (cK.out _ (by first | exact Below.refl _ _ | exact (Below.refl _ _).drew)).mono ?_); rintro e w4 ⟨rfl, H4⟩; have HW4 := put_by (show Below wr.heap.size wr w4 from Below.trans (by first | exact Below.refl _ _ | exact (Below.refl _ _).drew) (H4.mono (by simp))); clear H4; obtain ⟨⟨y0, y1, y2, y3⟩, z0, z1, z2, z3⟩ := HY.out _ HW4.out))
      all_goals
        go_wp2
        go_roundw
        case rel => exact ⟨k, by omega, by go_num, HB.out.trans (HW4.out.mono HB.out.size)⟩
        case measure => simp [intOf]; omega
    · have hm0 : m = 0 := by omega
      subst hm0
      go_wp2
      go_ret
      exact ⟨rfl, HB.out⟩

end Go.Proofs.Ytfaejcdbjcklpaa
