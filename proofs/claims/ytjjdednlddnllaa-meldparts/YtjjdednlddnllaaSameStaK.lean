/- States that are the same are found so: sameCells, sameState, sameCodes. -/
import Derived.Test.YtjjdednlddnllaaRtSameK
import Derived.Test.YtjjdednlddnllaaMlMem
import Derived.Test.YtjjdednlddnllaaKeyRow
import Derived.Test.YtjjdednlddnllaaRdAll
namespace Go.Proofs.Ytjjdednlddnllaa
open Go.ChangeShapes Go.WideShapes Go.ChangeAt Go.RowKit

set_option maxRecDepth 100000 in
set_option maxHeartbeats 2000000 in
theorem sameCellsK_yes (ok ok2 : Nat → Prop) (l : List Cel) (hlen : l.length ≤ 140737488351232) (la ma : Option Addr) (lc mc : Nat) (w : World) (hL : Lies kCel ok w la lc l) (hM : Lies kCel ok2 w ma mc l) :
    Calls Try.prog 45 #[.slice la l.length lc, .slice ma l.length mc] w fun e w' => e = .returned (.bool true) ∧ Below w.heap.size w w' := by
  obtain ⟨n, hn⟩ : ∃ n, n = l.length := ⟨_, rfl⟩
  rw [← hn]
  have HN := put_by hn
  have HL := put_by (And.intro hL hM)
  have hn8 : n ≤ 140737488351232 := by omega
  clear hL hM hlen hn
  go_enter Try.func45, Try.ntmps45
  go_wp2
  go_loopw [5] (fun i wr => ∃ k : Nat, k ≤ n ∧ i = .int .i64 k ∧ Hid (Below w.heap.size w wr)) (fun i _ => n - (intOf i).toNat)
  case atStart => exact ⟨0, Nat.zero_le _, rfl, Below.refl _ _⟩
  case round =>
    obtain ⟨k, hk, rfl, HB⟩ := hrel
    rename World => wr
    by_cases hlt : k < n
    · have hx : k < l.length := by rw [← HN.out]; exact hlt
      obtain ⟨b1, o1, xa, xc, ya, yc, rfl, hx1, hx2, -, hc1⟩ := cel_at HL.out.1 hx
      obtain ⟨b2, o2, za, zc, ta, tc, rfl, hx3, hx4, -, hc2⟩ := cel_at HL.out.2 hx
      obtain ⟨y0, y1, y2, y3⟩ := hc1 wr HB.out
      obtain ⟨v0, v1, v2, v3⟩ := hc2 wr HB.out
      have cK : Hid (∀ j, Calls Try.prog 72 #[.slice xa (l[k]).key.length xc, .slice za (l[k]).key.length zc] (wr.drewN j) fun e w' => e = .returned (.bool true) ∧ ∃ i, w' = (wr.drewN j).drewN i) := fun j => by
        obtain ⟨a1, c1, e1, p1, -⟩ := hx1
        cases e1
        obtain ⟨a3, c3, e3, p3, -⟩ := hx3
        cases e3
        have hW : Below w.heap.size w (wr.drewN j) := drawn_below HB.out j
        have := sameBytesK_q xa za xc zc _ _ (wr.drewN j) (p1.later hW) (p3.later hW)
        simpa using this
      have cV : Hid (∀ j, Calls Try.prog 72 #[.slice ya (l[k]).val.length yc, .slice ta (l[k]).val.length tc] (wr.drewN j) fun e w' => e = .returned (.bool true) ∧ ∃ i, w' = (wr.drewN j).drewN i) := fun j => by
        obtain ⟨a2, c2, e2, p2, -⟩ := hx2
        cases e2
        obtain ⟨a4, c4, e4, p4, -⟩ := hx4
        cases e4
        have hW : Below w.heap.size w (wr.drewN j) := drawn_below HB.out j
        have := sameBytesK_q ya ta yc tc _ _ (wr.drewN j) (p2.later hW) (p4.later hW)
        simpa using this
      have ik : (k : Int) < (n : Int) := by omega
      clear hx1 hx2 hx3 hx4 hc1 hc2 HL
      generalize (l[k]).key.length = i1 at cK y0 v0
      generalize (l[k]).val.length = i2 at cV y1 v1
      generalize (l[k]).gone = g at y2 v2
      generalize (l[k]).since = s at y3 v3
      have hgg : (g != g) = false := by simp
      have hss : (s != s) = false := by simp
      go_upto_region 6 with (fail)
      go_quiet (first
        | (go_at_call 72; with_reducible exact Calls.quiet_of (cK.out _))
        | (go_at_call 72; with_reducible exact Calls.quiet_of (cV.out _)))
      go_wp2
      go_roundw
      case rel => exact ⟨k + 1, by omega, by go_num, drawn_below HB.out _⟩
      case measure => simp [intOf]; omega
    · have ik : ¬ (k : Int) < (n : Int) := by omega
      go_wp2
      go_ret
      exact ⟨rfl, HB.out⟩

set_option maxRecDepth 100000 in
set_option maxHeartbeats 2000000 in
theorem sameStateK_yes (ok ok2 : Nat → Prop) (p : Int) (cs : List Cel) (ds : List Dn) (ca cb da db : Option Addr) (cc cd dc dd : Nat) (w : World) (hI : StIs ok w cs ds ca cc da dc) (hJ : StIs ok2 w cs ds cb cd db dd) :
    Calls Try.prog 26 #[.agg #[.int .i64 p, .slice ca cs.length cc, .slice da ds.length dc], .agg #[.int .i64 p, .slice cb cs.length cd, .slice db ds.length dd]] w fun e w' => e = .returned (.bool true) ∧ Below w.heap.size w w' := by
  have cC : Hid (∀ V, Below w.heap.size w V → Calls Try.prog 45 #[.slice ca cs.length cc, .slice cb cs.length cd] V fun e w' => e = .returned (.bool true) ∧ Hid (Below V.heap.size V w')) := fun V hV => sameCellsK_yes ok ok2 cs (by have := hI.few; omega) ca cb cc cd V (hI.cells.later hV) (hJ.cells.later hV)
  have HD := put_by (And.intro hI.dones hJ.dones)
  have hf := hI.few.2
  obtain ⟨n, hn⟩ : ∃ n, n = ds.length := ⟨_, rfl⟩
  rw [← hn] at hf ⊢
  have HN := put_by hn
  have hn8 : n ≤ 140737488351232 := by omega
  clear hI hJ hn hf
  generalize cs.length = nc at cC ⊢
  have HX := put_by (Cls.new w [.int .i64 p, .slice ca nc cc, .slice da n dc] 25)
  have HB0 := put_by ((Below.refl w.heap.size w).alloc (Nat.le_refl _) (.cells #[.int .i64 p, .slice ca nc cc, .slice da n dc] 25))
  have HS : Hid ((w.alloc (.cells #[.int .i64 p, .slice ca nc cc, .slice da n dc] 25)).heap.size = w.heap.size + 1) := by simp [Hid]
  go_enter Try.func26, Try.ntmps26
  go_upto_region 1 with (fail)
  generalize hA : w.heap.size + 1 = A
  generalize w.alloc (.cells #[.int .i64 p, .slice ca nc cc, .slice da n dc] _) = W2 at HX HB0 HS ⊢
  have HY := put_by (Cls.new W2 [.int .i64 p, .slice cb nc cd, .slice db n dd] 25)
  have HB2 := put_by ((Below.refl W2.heap.size W2).alloc (Nat.le_refl _) (.cells #[.int .i64 p, .slice cb nc cd, .slice db n dd] 25))
  have HAE : Hid (A = w.heap.size + 1) := hA.symm
  clear hA
  generalize W2.alloc (.cells #[.int .i64 p, .slice cb nc cd, .slice db n dd] _) = W1 at HY HB2 ⊢
  have HXY : Hid (Cls W1 w.heap.size [.int .i64 p, .slice ca nc cc, .slice da n dc] ∧ Cls W1 A [.int .i64 p, .slice cb nc cd, .slice db n dd] ∧ Below w.heap.size w W1) := ⟨HX.out.later HB2.out, by rw [HAE.out, ← HS.out]; exact HY.out, HB0.out.trans (HB2.out.mono HB0.out.size)⟩
  have HBL : Hid (w.heap.size < W1.heap.size ∧ A < W1.heap.size) := by
    have h1 := World.block_lt_of_cell? _ _ (HXY.out.1 0 _ rfl).1
    have h2 := World.block_lt_of_cell? _ _ (HXY.out.2.1 0 _ rfl).1
    exact ⟨h1, h2⟩
  clear HX HB0 HS HY HB2 HAE
  obtain ⟨x0, -⟩ := HXY.out.1 0 _ rfl
  obtain ⟨x1, -⟩ := HXY.out.1 1 _ rfl
  obtain ⟨y0, -⟩ := HXY.out.2.1 0 _ rfl
  obtain ⟨y1, -⟩ := HXY.out.2.1 1 _ rfl
  have hpp : (p != p) = false := by simp
  have HXV : Hid (∀ V, Below W1.heap.size W1 V → (V.cell? ⟨w.heap.size, 2, none⟩ = some (.slice da n dc) ∧ V.cell? ⟨A, 2, none⟩ = some (.slice db n dd)) ∧ Below w.heap.size w V) := fun V hV => ⟨⟨((HXY.out.1.later hV) 2 _ rfl).1, ((HXY.out.2.1.later hV) 2 _ rfl).1⟩, HXY.out.2.2.trans (hV.mono HXY.out.2.2.size)⟩
  go_upto_region 4 with (first
    | (go_at_call 45; (with_reducible refine (cC.out _ HXY.out.2.2).mono ?_); clear cC; rintro e w3 ⟨rfl, H3⟩; obtain ⟨⟨z0, z1⟩, -⟩ := HXV.out _ H3.out))
  clear x0 x1 y0 y1 z0 z1
  go_loopw [5] (fun i wr => ∃ k : Nat, k ≤ n ∧ i = .int .i64 k ∧ Hid (Below W1.heap.size W1 wr)) (fun i _ => n - (intOf i).toNat)
  case atStart => exact ⟨0, Nat.zero_le _, rfl, H3.out⟩
  case round =>
    obtain ⟨k, hk, rfl, HB⟩ := hrel
    rename World => wr
    obtain ⟨⟨z0, z1⟩, hbw⟩ := HXV.out _ HB.out
    have HBW := put_by hbw
    clear hbw
    by_cases hlt : k < n
    · have hx : k < ds.length := by rw [← HN.out]; exact hlt
      obtain ⟨b1, o1, rfl, -, hc1⟩ := dn_at HD.out.1 hx
      obtain ⟨b2, o2, rfl, -, hc2⟩ := dn_at HD.out.2 hx
      obtain ⟨y0, y1, y2, y3⟩ := hc1 wr HBW.out
      obtain ⟨v0, v1, v2, v3⟩ := hc2 wr HBW.out
      have ik : (k : Int) < (n : Int) := by omega
      clear hc1 hc2 HD
      generalize (ds[k]).client = q0 at y0 v0
      generalize (ds[k]).number = q1 at y1 v1
      generalize (ds[k]).pos = q2 at y2 v2
      generalize (ds[k]).kept = q3 at y3 v3
      have h0 : (q0 != q0) = false := by simp
      have h1 : (q1 != q1) = false := by simp
      have h2 : (q2 != q2) = false := by simp
      have h3 : (q3 != q3) = false := by simp
      go_upto_region 6 with (fail)
      go_quiet (fail)
      go_wp2
      go_roundw
      case rel => exact ⟨k + 1, by omega, by go_num, drawn_below HB.out _⟩
      case measure => simp [intOf]; omega
    · have ik : ¬ (k : Int) < (n : Int) := by omega
      go_wp2
      go_ret
      exact ⟨rfl, HBW.out⟩

set_option maxRecDepth 100000 in
set_option maxHeartbeats 2000000 in
theorem sameCodesK_yes (ok ok2 : Nat → Prop) (l : List Int) (hlen : l.length ≤ 140737488351232) (la ma : Option Addr) (lc mc : Nat) (w : World) (hL : Lies kNum ok w la lc l) (hM : Lies kNum ok2 w ma mc l) :
    Calls Try.prog 27 #[.slice la l.length lc, .slice ma l.length mc] w fun e w' => e = .returned (.bool true) ∧ Below w.heap.size w w' := by
  obtain ⟨n, hn⟩ : ∃ n, n = l.length := ⟨_, rfl⟩
  rw [← hn]
  have HN := put_by hn
  have HL := put_by (And.intro hL hM)
  have hn8 : n ≤ 140737488351232 := by omega
  clear hL hM hlen hn
  go_enter Try.func27, Try.ntmps27
  go_wp2
  go_loopw [5] (fun i wr => ∃ k : Nat, k ≤ n ∧ i = .int .i64 k ∧ Hid (Below w.heap.size w wr)) (fun i _ => n - (intOf i).toNat)
  case atStart => exact ⟨0, Nat.zero_le _, rfl, Below.refl _ _⟩
  case round =>
    obtain ⟨k, hk, rfl, HB⟩ := hrel
    rename World => wr
    by_cases hlt : k < n
    · have hx : k < l.length := by rw [← HN.out]; exact hlt
      obtain ⟨b1, o1, rfl, -, hc1⟩ := num_at HL.out.1 hx
      obtain ⟨b2, o2, rfl, -, hc2⟩ := num_at HL.out.2 hx
      have y0 := hc1 wr HB.out
      have v0 := hc2 wr HB.out
      have ik : (k : Int) < (n : Int) := by omega
      clear hc1 hc2 HL
      generalize l[k] = s at y0 v0
      have hss : (s != s) = false := by simp
      go_upto_region 6 with (fail)
      go_quiet (fail)
      go_wp2
      go_roundw
      case rel => exact ⟨k + 1, by omega, by go_num, drawn_below HB.out _⟩
      case measure => simp [intOf]; omega
    · have ik : ¬ (k : Int) < (n : Int) := by omega
      go_wp2
      go_ret
      exact ⟨rfl, HB.out⟩

end Go.Proofs.Ytjjdednlddnllaa
