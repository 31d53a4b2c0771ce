/- What sameBytes and sameEntries come to: they only read. -/
import Derived.Test.YtjjdednlddnllabRtSameP
import Derived.BigQuiet
import Derived.Deep.QuietTactic
import Derived.LoopTactic
import Derived.Handy
namespace Go.Proofs.Ytjjdednlddnllab
open Go.ChangeShapes Go.WideShapes Go.ChangeAt Go.RowKit

set_option maxHeartbeats 4000000 in
theorem sameBytesK_q (ao bo : Option Addr) (cap cbp : Nat) (xs ys : List Int) (w : World) (he : Octs w ao cap xs) (hf : Octs w bo cbp ys) :
    Calls Try.prog 27 #[.slice ao xs.length cap, .slice bo ys.length cbp] w fun e w' => e = .returned (.bool (decide (xs = ys))) ∧ ∃ j, w' = w.drewN j := by
  have hl1 := he.2.1
  have HE := put_by (And.intro he hf)
  clear he hf
  obtain ⟨n, hn⟩ : ∃ n, n = xs.length := ⟨_, rfl⟩
  obtain ⟨m, hm⟩ : ∃ m, m = ys.length := ⟨_, rfl⟩
  rw [← hn] at hl1
  rw [← hn, ← hm]
  have HN := put_by (And.intro hn hm)
  obtain ⟨R, hR⟩ : ∃ R, R = decide (xs = ys) := ⟨_, rfl⟩
  rw [← hR]
  have HR := put_by hR
  clear hR
  by_cases hnm : n = m
  · clear hn hm
    subst hnm
    go_enter Try.func27, Try.ntmps27
    go_wp2
    go_loopw [5] (fun i wr => ∃ k j : Nat, k ≤ n ∧ i = .int .i64 k ∧ wr = w.drewN j ∧ Hid (xs.take k = ys.take k)) (fun i _ => n - (intOf i).toNat)
    case atStart => exact ⟨0, 0, Nat.zero_le _, rfl, rfl, rfl⟩
    case round =>
      obtain ⟨k, j, hk, rfl, rfl, HT⟩ := hrel
      by_cases hlt : k < n
      · have hx : k < xs.length := by rw [← HN.out.1]; exact hlt
        have hy : k < ys.length := by rw [← HN.out.2]; exact hlt
        obtain ⟨b, off, rfl, hc1⟩ := octs_cell HE.out.1 hx
        obtain ⟨b', off', rfl, hc2⟩ := octs_cell HE.out.2 hy
        have ik : (k : Int) < (n : Int) := by omega
        by_cases hxy : xs[k] = ys[k]
        · have RT : Hid (xs.take (k + 1) = ys.take (k + 1)) := takeX_ext hx hy HT.out hxy
          rw [← hxy] at hc2
          clear hxy HE
          generalize xs[k] = x at hc1 hc2
          clear hx hy
          go_wp2
          go_quiet (fail)
          go_wp2
          go_roundw
          case rel => exact ⟨k + 1, _, by omega, by go_num, rfl, RT⟩
          case measure => simp [intOf]; omega
        · have RF : Hid (R = false) := by
            show R = false
            rw [HR.out]
            refine decide_eq_false (fun e => hxy ?_)
            subst e
            rfl
          clear HE
          generalize xs[k] = x at hc1 hxy
          generalize ys[k] = y at hc2 hxy
          clear hx hy
          go_wp2
          go_quiet (fail)
          go_wp2
          go_ret
          rw [RF.out]
          exact ⟨rfl, _, by rw [World.drewN_drewN]⟩
      · have hkn : k = n := by omega
        subst hkn
        have RF : Hid (R = true) := by
          show R = true
          rw [HR.out]
          refine decide_eq_true ?_
          have := HT.out
          rw [List.take_of_length_le (by rw [← HN.out.1]; exact Nat.le_refl _), List.take_of_length_le (by rw [← HN.out.2]; exact Nat.le_refl _)] at this
          exact this
        go_wp2
        go_ret
        rw [RF.out]
        exact ⟨rfl, j, rfl⟩
  · have RF : Hid (R = false) := by
      show R = false
      rw [HR.out]
      refine decide_eq_false (fun e => hnm ?_)
      rw [hn, hm, e]
    clear hn hm
    go_enter Try.func27, Try.ntmps27
    go_wp2
    go_ret
    rw [RF.out]
    exact ⟨rfl, 0, rfl⟩

set_option maxRecDepth 10000 in
set_option maxHeartbeats 8000000 in
theorem sameEntriesK_q (ok ok2 : Nat → Prop) (l m : List Ent) (hlen : l.length ≤ 140737488351232) (la ma : Option Addr) (lc mc : Nat) (w : World) (hL : Lies kEnt ok w la lc l) (hM : Lies kEnt ok2 w ma mc m) :
    Calls Try.prog 10 #[.slice la l.length lc, .slice ma m.length mc] w fun e w' => e = .returned (.bool (decide (l = m))) ∧ ∃ j, w' = w.drewN j := by
  obtain ⟨n, hn⟩ : ∃ n, n = l.length := ⟨_, rfl⟩
  obtain ⟨p, hp⟩ : ∃ p, p = m.length := ⟨_, rfl⟩
  rw [← hn, ← hp]
  have HN := put_by (And.intro hn hp)
  have HL := put_by (And.intro hL hM)
  have hn8 : n ≤ 140737488351232 := by omega
  obtain ⟨R, hR⟩ : ∃ R, R = decide (l = m) := ⟨_, rfl⟩
  rw [← hR]
  have HR := put_by hR
  clear hR hL hM hlen
  by_cases hnp : n = p
  · clear hn hp
    subst hnp
    go_enter Try.func10, Try.ntmps10
    go_wp2
    go_loopw [5] (fun i wr => ∃ k j : Nat, k ≤ n ∧ i = .int .i64 k ∧ wr = w.drewN j ∧ Hid (l.take k = m.take k)) (fun i _ => n - (intOf i).toNat)
    case atStart => exact ⟨0, 0, Nat.zero_le _, rfl, rfl, rfl⟩
    case round =>
      obtain ⟨k, j, hk, rfl, rfl, HB⟩ := hrel
      by_cases hlt : k < n
      · have hx : k < l.length := by rw [← HN.out.1]; exact hlt
        have hy : k < m.length := by rw [← HN.out.2]; exact hlt
        obtain ⟨b1, o1, rfl, hb1, _, cs, ⟨u1, v1, rfl, hu1, hv1⟩, hc1⟩ := HL.out.1.at hx
        obtain ⟨b2, o2, rfl, hb2, _, cs, ⟨u2, v2, rfl, hu2, hv2⟩, hc2⟩ := HL.out.2.at hy
        obtain ⟨xa, xc, rfl, hx1, -⟩ := id hu1
        obtain ⟨ya, yc, rfl, hx2, -⟩ := id hv1
        obtain ⟨za, zc, rfl, hx3, -⟩ := id hu2
        obtain ⟨ta, tc, rfl, hx4, -⟩ := id hv2
        have y0 : w.cell? ⟨b1, o1 + k * 2, none⟩ = some (.slice xa (l[k]).1.length xc) := by simpa using hc1 0 _ rfl
        have y1 : w.cell? ⟨b1, o1 + k * 2 + 1, none⟩ = some (.slice ya (l[k]).2.length yc) := hc1 1 _ rfl
        have y2 : w.cell? ⟨b2, o2 + k * 2, none⟩ = some (.slice za (m[k]).1.length zc) := by simpa using hc2 0 _ rfl
        have y3 : w.cell? ⟨b2, o2 + k * 2 + 1, none⟩ = some (.slice ta (m[k]).2.length tc) := hc2 1 _ rfl
        have cK : Hid (∀ i, Calls Try.prog 27 #[.slice xa (l[k]).1.length xc, .slice za (m[k]).1.length zc] (w.drewN i) fun e w' => e = .returned (.bool (decide ((l[k]).1 = (m[k]).1))) ∧ ∃ j, w' = (w.drewN i).drewN j) := fun i =>
          sameBytesK_q xa za xc zc _ _ (w.drewN i) (octs_drawn hx1 i) (octs_drawn hx3 i)
        have cV : Hid (∀ i, Calls Try.prog 27 #[.slice ya (l[k]).2.length yc, .slice ta (m[k]).2.length tc] (w.drewN i) fun e w' => e = .returned (.bool (decide ((l[k]).2 = (m[k]).2))) ∧ ∃ j, w' = (w.drewN i).drewN j) := fun i =>
          sameBytesK_q ya ta yc tc _ _ (w.drewN i) (octs_drawn hx2 i) (octs_drawn hx4 i)
        have HT : Hid (l[k] = m[k] → l.take (k + 1) = m.take (k + 1)) := fun e => takeX_ext hx hy HB.out e
        have HPr : Hid (l[k] = m[k] ↔ (l[k]).1 = (m[k]).1 ∧ (l[k]).2 = (m[k]).2) := Prod.ext_iff
        have HNe : Hid (¬ l[k] = m[k] → R = false) := fun hne => by
          rw [HR.out]
          refine decide_eq_false (fun e => hne ?_)
          subst e
          rfl
        have ik : (k : Int) < (n : Int) := by omega
        obtain ⟨V, hV⟩ : ∃ V, V = w.drewN j := ⟨_, rfl⟩
        have HV := put_by hV
        replace y0 : V.cell? ⟨b1, o1 + k * 2, none⟩ = some (.slice xa (l[k]).1.length xc) := by rw [hV]; exact y0
        replace y1 : V.cell? ⟨b1, o1 + k * 2 + 1, none⟩ = some (.slice ya (l[k]).2.length yc) := by rw [hV]; exact y1
        replace y2 : V.cell? ⟨b2, o2 + k * 2, none⟩ = some (.slice za (m[k]).1.length zc) := by rw [hV]; exact y2
        replace y3 : V.cell? ⟨b2, o2 + k * 2 + 1, none⟩ = some (.slice ta (m[k]).2.length tc) := by rw [hV]; exact y3
        replace cK : Hid (∀ i, Calls Try.prog 27 #[.slice xa (l[k]).1.length xc, .slice za (m[k]).1.length zc] (V.drewN i) fun e w' => e = .returned (.bool (decide ((l[k]).1 = (m[k]).1))) ∧ ∃ j, w' = (V.drewN i).drewN j) := fun i => by
          have := cK.out (j + i)
          rw [hV, World.drewN_drewN]
          exact this
        replace cV : Hid (∀ i, Calls Try.prog 27 #[.slice ya (l[k]).2.length yc, .slice ta (m[k]).2.length tc] (V.drewN i) fun e w' => e = .returned (.bool (decide ((l[k]).2 = (m[k]).2))) ∧ ∃ j, w' = (V.drewN i).drewN j) := fun i => by
          have := cV.out (j + i)
          rw [hV, World.drewN_drewN]
          exact this
        rw [← hV]
        clear hV
        clear hc1 hc2 hu1 hv1 hu2 hv2 hx1 hx2 hx3 hx4 HL
        obtain ⟨kq, hkq⟩ : ∃ kq, kq = decide ((l[k]).1 = (m[k]).1) := ⟨_, rfl⟩
        obtain ⟨vq, hvq⟩ : ∃ vq, vq = decide ((l[k]).2 = (m[k]).2) := ⟨_, rfl⟩
        have HQ := put_by (And.intro hkq hvq)
        rw [← hkq] at cK
        rw [← hvq] at cV
        clear hkq hvq
        generalize (l[k]).1.length = i1 at cK y0
        generalize (l[k]).2.length = i2 at cV y1
        generalize (m[k]).1.length = i3 at cK y2
        generalize (m[k]).2.length = i4 at cV y3
        cases kq with
        | false =>
          have HF : Hid (R = false) := HNe.out (fun e => of_decide_eq_false HQ.out.1.symm (HPr.out.1 e).1)
          go_wp2
          go_quiet (first
            | (go_at_call 27; with_reducible exact Calls.quiet_of (cK.out _)))
          go_wp2
          go_ret
          rw [HF.out, HV.out]
          exact ⟨rfl, _, by rw [World.drewN_drewN]⟩
        | true =>
          cases vq with
          | false =>
            have HF : Hid (R = false) := HNe.out (fun e => of_decide_eq_false HQ.out.2.symm (HPr.out.1 e).2)
            go_wp2
            go_quiet (first
              | (go_at_call 27; first | with_reducible exact Calls.quiet_of (cK.out _) | with_reducible exact Calls.quiet_of (cV.out _)))
            go_wp2
            go_ret
            rw [HF.out, HV.out]
            exact ⟨rfl, _, by rw [World.drewN_drewN]⟩
          | true =>
            have HF : Hid (l.take (k + 1) = m.take (k + 1)) := HT.out (HPr.out.2 ⟨of_decide_eq_true HQ.out.1.symm, of_decide_eq_true HQ.out.2.symm⟩)
            go_wp2
            go_quiet (first
              | (go_at_call 27; first | with_reducible exact Calls.quiet_of (cK.out _) | with_reducible exact Calls.quiet_of (cV.out _)))
            go_wp2
            go_roundw
            case rel => exact ⟨k + 1, _, by omega, by go_num, by rw [HV.out, World.drewN_drewN], HF⟩
            case measure => simp [intOf]; omega
      · have hkn : k = n := by omega
        subst hkn
        have RF : Hid (R = true) := by
          show R = true
          rw [HR.out]
          refine decide_eq_true ?_
          have := HB.out
          rw [List.take_of_length_le (by rw [← HN.out.1]; exact Nat.le_refl _), List.take_of_length_le (by rw [← HN.out.2]; exact Nat.le_refl _)] at this
          exact this
        go_wp2
        go_ret
        rw [RF.out]
        exact ⟨rfl, j, rfl⟩
  · have RF : Hid (R = false) := by
      show R = false
      rw [HR.out]
      refine decide_eq_false (fun e => hnp ?_)
      rw [hn, hp, e]
    clear hn hp
    go_enter Try.func10, Try.ntmps10
    go_wp2
    go_ret
    rw [RF.out]
    exact ⟨rfl, 0, rfl⟩

end Go.Proofs.Ytjjdednlddnllab
