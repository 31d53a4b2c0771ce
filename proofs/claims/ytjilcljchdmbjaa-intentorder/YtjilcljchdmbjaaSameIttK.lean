/- The other sameIntent (of what is kept) of two that are the same. -/
import Derived.Test.YtjilcljchdmbjaaRtSameK
import Derived.Test.YtjilcljchdmbjaaItMem
import Derived.Test.YtjilcljchdmbjaaRegTake
namespace Go.Proofs.Ytjilcljchdmbjaa
open Go.ChangeShapes Go.WideShapes Go.ChangeAt Go.RowKit

/-- a write of a row, its cells in memory -/
theorem wtK_at {ok : Nat → Prop} {w : World} {ao : Option Addr} {cap : Nat} {l : List Wt} (hL : Lies kWt ok w ao cap l) {k : Nat} (hk : k < l.length) :
    ∃ bb off a1 c1 a2 c2, ao = some ⟨bb, off, none⟩ ∧ IsBody w ok (.slice a1 (l[k]).key.length c1) (l[k]).key ∧ IsBody w ok (.slice a2 (l[k]).val.length c2) (l[k]).val ∧ bb < w.heap.size ∧ ∀ W : World, Below w.heap.size w W → W.cell? ⟨bb, off + k * 3, none⟩ = some (.slice a1 (l[k]).key.length c1) ∧ W.cell? ⟨bb, off + k * 3 + 1, none⟩ = some (.slice a2 (l[k]).val.length c2) ∧ W.cell? ⟨bb, off + k * 3 + 2, none⟩ = some (.bool (l[k]).gone) := by
  obtain ⟨bb, off, e, hb, _, cs, ⟨u, v, rfl, h1, h2⟩, hc⟩ := hL.at hk
  obtain ⟨a1, c1, rfl, _⟩ := id h1
  obtain ⟨a2, c2, rfl, _⟩ := id h2
  exact ⟨bb, off, a1, c1, a2, c2, e, h1, h2, hb, fun W hW => ⟨(hW.cell (p := ⟨bb, off + k * 3, none⟩) hb).trans (by simpa using hc 0 _ rfl), (hW.cell (p := ⟨bb, off + k * 3 + 1, none⟩) hb).trans (hc 1 _ rfl), (hW.cell (p := ⟨bb, off + k * 3 + 2, none⟩) hb).trans (hc 2 _ rfl)⟩⟩

set_option maxRecDepth 100000 in
set_option maxHeartbeats 2000000 in
theorem sameWritesK_yes (ok ok2 : Nat → Prop) (l : List Wt) (hlen : l.length ≤ 140737488351232) (la ma : Option Addr) (lc mc : Nat) (w : World) (hL : Lies kWt ok w la lc l) (hM : Lies kWt ok2 w ma mc l) :
    Calls Try.prog 29 #[.slice la l.length lc, .slice ma l.length mc] w fun e w' => e = .returned (.bool true) ∧ Below w.heap.size w w' := by
  obtain ⟨n, hn⟩ : ∃ n, n = l.length := ⟨_, rfl⟩
  rw [← hn]
  have HN := put_by hn
  have HL := put_by (And.intro hL hM)
  have hn8 : n ≤ 140737488351232 := by omega
  clear hL hM hlen hn
  go_enter Try.func29, Try.ntmps29
  go_wp2
  go_loopw [5] (fun i wr => ∃ k : Nat, k ≤ n ∧ i = .int .i64 k ∧ Hid (Below w.heap.size w wr)) (fun i _ => n - (intOf i).toNat)
  case atStart => exact ⟨0, Nat.zero_le _, rfl, Below.refl _ _⟩
  case round =>
    obtain ⟨k, hk, rfl, HB⟩ := hrel
    rename World => wr
    by_cases hlt : k < n
    · have hx : k < l.length := by rw [← HN.out]; exact hlt
      obtain ⟨b1, o1, xa, xc, ya, yc, rfl, hx1, hx2, -, hc1⟩ := wtK_at HL.out.1 hx
      obtain ⟨b2, o2, za, zc, ta, tc, rfl, hx3, hx4, -, hc2⟩ := wtK_at HL.out.2 hx
      obtain ⟨y0, y1, y2⟩ := hc1 wr HB.out
      obtain ⟨v0, v1, v2⟩ := hc2 wr HB.out
      have cK : Hid (∀ j, Calls Try.prog 49 #[.slice xa (l[k]).key.length xc, .slice za (l[k]).key.length zc] (wr.drewN j) fun e w' => e = .returned (.bool true) ∧ ∃ i, w' = (wr.drewN j).drewN i) := fun j => by
        obtain ⟨a1, c1, e1, p1, -⟩ := hx1
        cases e1
        obtain ⟨a3, c3, e3, p3, -⟩ := hx3
        cases e3
        have hW : Below w.heap.size w (wr.drewN j) := drawn_below HB.out j
        have := sameBytesK_q xa za xc zc _ _ (wr.drewN j) (p1.later hW) (p3.later hW)
        simpa using this
      have cV : Hid (∀ j, Calls Try.prog 49 #[.slice ya (l[k]).val.length yc, .slice ta (l[k]).val.length tc] (wr.drewN j) fun e w' => e = .returned (.bool true) ∧ ∃ i, w' = (wr.drewN j).drewN i) := fun j => by
        obtain ⟨a2, c2, e2, p2, -⟩ := hx2
        cases e2
        obtain ⟨a4, c4, e4, p4, -⟩ := hx4
        cases e4
        have hW : Below w.heap.size w (wr.drewN j) := drawn_below HB.out j
        have := sameBytesK_q ya ta yc tc _ _ (wr.drewN j) (p2.later hW) (p4.later hW)
        simpa using this
      have ik : (k : Int) < (n : Int) := by omega
      clear hx1 hx2 hx3 hx4 hc1 hc2 HL
      generalize (l[k]).key.length = i1 at cK y0 v0
      generalize (l[k]).val.length = i2 at cV y1 v1
      generalize (l[k]).gone = g at y2 v2
      have hgg : (g != g) = false := by simp
      go_upto_region 6 with (fail)
      go_quiet (first
        | (go_at_call 49; with_reducible exact Calls.quiet_of (cK.out _))
        | (go_at_call 49; with_reducible exact Calls.quiet_of (cV.out _)))
      go_wp2
      go_roundw
      case rel => exact ⟨k + 1, by omega, by go_num, drawn_below HB.out _⟩
      case measure => simp [intOf]; omega
    · have ik : ¬ (k : Int) < (n : Int) := by omega
      go_wp2
      go_ret
      exact ⟨rfl, HB.out⟩

set_option maxRecDepth 100000 in
set_option maxHeartbeats 2000000 in
theorem sameRangesK_yes (ok ok2 : Nat → Prop) (l : List Ent) (hlen : l.length ≤ 140737488351232) (la ma : Option Addr) (lc mc : Nat) (w : World) (hL : Lies kEnt ok w la lc l) (hM : Lies kEnt ok2 w ma mc l) :
    Calls Try.prog 28 #[.slice la l.length lc, .slice ma l.length mc] w fun e w' => e = .returned (.bool true) ∧ Below w.heap.size w w' := by
  obtain ⟨n, hn⟩ : ∃ n, n = l.length := ⟨_, rfl⟩
  rw [← hn]
  have HN := put_by hn
  have HL := put_by (And.intro hL hM)
  have hn8 : n ≤ 140737488351232 := by omega
  clear hL hM hlen hn
  go_enter Try.func28, Try.ntmps28
  go_wp2
  go_loopw [5] (fun i wr => ∃ k : Nat, k ≤ n ∧ i = .int .i64 k ∧ Hid (Below w.heap.size w wr)) (fun i _ => n - (intOf i).toNat)
  case atStart => exact ⟨0, Nat.zero_le _, rfl, Below.refl _ _⟩
  case round =>
    obtain ⟨k, hk, rfl, HB⟩ := hrel
    rename World => wr
    by_cases hlt : k < n
    · have hx : k < l.length := by rw [← HN.out]; exact hlt
      obtain ⟨b1, o1, xa, xc, ya, yc, rfl, hx1, hx2, hc1⟩ := ent_at HL.out.1 hx
      obtain ⟨b2, o2, za, zc, ta, tc, rfl, hx3, hx4, hc2⟩ := ent_at HL.out.2 hx
      obtain ⟨y0, y1⟩ := hc1 wr HB.out
      obtain ⟨v0, v1⟩ := hc2 wr HB.out
      have cK : Hid (∀ j, Calls Try.prog 49 #[.slice xa (l[k]).1.length xc, .slice za (l[k]).1.length zc] (wr.drewN j) fun e w' => e = .returned (.bool true) ∧ ∃ i, w' = (wr.drewN j).drewN i) := fun j => by
        obtain ⟨a1, c1, e1, p1, -⟩ := hx1
        cases e1
        obtain ⟨a3, c3, e3, p3, -⟩ := hx3
        cases e3
        have hW : Below w.heap.size w (wr.drewN j) := drawn_below HB.out j
        have := sameBytesK_q xa za xc zc _ _ (wr.drewN j) (p1.later hW) (p3.later hW)
        simpa using this
      have cV : Hid (∀ j, Calls Try.prog 49 #[.slice ya (l[k]).2.length yc, .slice ta (l[k]).2.length tc] (wr.drewN j) fun e w' => e = .returned (.bool true) ∧ ∃ i, w' = (wr.drewN j).drewN i) := fun j => by
        obtain ⟨a2, c2, e2, p2, -⟩ := hx2
        cases e2
        obtain ⟨a4, c4, e4, p4, -⟩ := hx4
        cases e4
        have hW : Below w.heap.size w (wr.drewN j) := drawn_below HB.out j
        have := sameBytesK_q ya ta yc tc _ _ (wr.drewN j) (p2.later hW) (p4.later hW)
        simpa using this
      have ik : (k : Int) < (n : Int) := by omega
      clear hx1 hx2 hx3 hx4 hc1 hc2 HL
      generalize (l[k]).1.length = i1 at cK y0 v0
      generalize (l[k]).2.length = i2 at cV y1 v1
      go_upto_region 6 with (fail)
      go_quiet (first
        | (go_at_call 49; with_reducible exact Calls.quiet_of (cK.out _))
        | (go_at_call 49; with_reducible exact Calls.quiet_of (cV.out _)))
      go_wp2
      go_roundw
      case rel => exact ⟨k + 1, by omega, by go_num, drawn_below HB.out _⟩
      case measure => simp [intOf]; omega
    · have ik : ¬ (k : Int) < (n : Int) := by omega
      go_wp2
      go_ret
      exact ⟨rfl, HB.out⟩

set_option maxRecDepth 100000 in
set_option maxHeartbeats 2000000 in
theorem sameIntentK_yes (ok ok2 : Nat → Prop) (c n s : Int) (rs : List Ent) (ws : List Wt) (ra rb wa wb : Option Addr) (rc rd wc wd : Nat) (w : World) (h1 : ItIs ok w rs ws ra rc wa wc) (h2 : ItIs ok2 w rs ws rb rd wb wd) :
    Calls Try.prog 13 #[.agg #[.int .i64 c, .int .i64 n, .int .i64 s, .slice ra rs.length rc, .slice wa ws.length wc], .agg #[.int .i64 c, .int .i64 n, .int .i64 s, .slice rb rs.length rd, .slice wb ws.length wd]] w fun e w' => e = .returned (.bool true) ∧ Below w.heap.size w w' := by
  have c1 : Hid (∀ V, Below w.heap.size w V → Calls Try.prog 28 #[.slice ra rs.length rc, .slice rb rs.length rd] V fun e w' => e = .returned (.bool true) ∧ Below V.heap.size V w') := fun V hV => sameRangesK_yes ok ok2 rs h1.few.1 ra rb rc rd V (h1.reads.later hV) (h2.reads.later hV)
  have c2 : Hid (∀ V, Below w.heap.size w V → Calls Try.prog 29 #[.slice wa ws.length wc, .slice wb ws.length wd] V fun e w' => e = .returned (.bool true) ∧ Below V.heap.size V w') := fun V hV => sameWritesK_yes ok ok2 ws h1.few.2 wa wb wc wd V (h1.writes.later hV) (h2.writes.later hV)
  clear h1 h2
  generalize rs.length = nr at c1 ⊢
  generalize ws.length = nw at c2 ⊢
  have HB := put_by (((Below.refl w.heap.size w).alloc (Nat.le_refl _) (.cells #[.int .i64 c, .int .i64 n, .int .i64 s, .slice ra nr rc, .slice wa nw wc] 26)).alloc (by simp) (.cells #[.int .i64 c, .int .i64 n, .int .i64 s, .slice rb nr rd, .slice wb nw wd] 26))
  obtain ⟨V, hV⟩ : ∃ V, V = (w.alloc (.cells #[.int .i64 c, .int .i64 n, .int .i64 s, .slice ra nr rc, .slice wa nw wc] 26)).alloc (.cells #[.int .i64 c, .int .i64 n, .int .i64 s, .slice rb nr rd, .slice wb nw wd] 26) := ⟨_, rfl⟩
  have HK : Hid (∀ V', Below V.heap.size V V' → V'.cell? ⟨w.heap.size, 4, none⟩ = some (.slice wa nw wc) ∧ V'.cell? ⟨w.heap.size + 1, 4, none⟩ = some (.slice wb nw wd)) := fun V' hV' => by
    subst hV
    exact ⟨(hV'.cell (p := ⟨w.heap.size, 4, none⟩) (by simp; omega)).trans (by simp), (hV'.cell (p := ⟨w.heap.size + 1, 4, none⟩) (by simp)).trans (by simp)⟩
  have x0 : V.cell? ⟨w.heap.size, 0, none⟩ = some (.int .i64 c) := by subst hV; simp
  have x1 : V.cell? ⟨w.heap.size, 1, none⟩ = some (.int .i64 n) := by subst hV; simp
  have x2 : V.cell? ⟨w.heap.size, 2, none⟩ = some (.int .i64 s) := by subst hV; simp
  have x3 : V.cell? ⟨w.heap.size, 3, none⟩ = some (.slice ra nr rc) := by subst hV; simp
  have z0 : V.cell? ⟨w.heap.size + 1, 0, none⟩ = some (.int .i64 c) := by subst hV; simp
  have z1 : V.cell? ⟨w.heap.size + 1, 1, none⟩ = some (.int .i64 n) := by subst hV; simp
  have z2 : V.cell? ⟨w.heap.size + 1, 2, none⟩ = some (.int .i64 s) := by subst hV; simp
  have z3 : V.cell? ⟨w.heap.size + 1, 3, none⟩ = some (.slice rb nr rd) := by subst hV; simp
  rw [← hV] at HB
  have HV := put_by hV
  clear hV
  go_enter Try.func13, Try.ntmps13
  go_upto_region 1 with (fail)
  rw [← HV.out]
  clear HV
  go_wp2_with (first
    | (go_at_call 28; (with_reducible refine (c1.out _ HB.out).mono ?_); clear c1; rintro e w1 ⟨rfl, b1⟩; obtain ⟨k1, k2⟩ := HK.out _ b1; have HB1 := put_by (HB.out.trans (b1.mono HB.out.size)); clear b1)
    | (go_at_call 29; (with_reducible refine (c2.out _ HB1.out).mono ?_); clear c2; rintro e w2 ⟨rfl, b2⟩; have HB2 := put_by (HB1.out.trans (b2.mono HB1.out.size)); clear b2))
  go_ret
  exact ⟨rfl, HB2.out⟩

end Go.Proofs.Ytjilcljchdmbjaa
