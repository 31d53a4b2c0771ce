/- Replies held against each other: they only read. -/
import Derived.Test.YtegmcpcpnjfiaaaRtSameL
namespace Go.Proofs.Ytegmcpcpnjfiaaa
open Go.ChangeShapes Go.WideShapes Go.ChangeAt Go.RowKit

set_option maxRecDepth 10000 in
set_option maxHeartbeats 4000000 in
theorem sameReplies_eq (ok ok2 : Nat → Prop) (l : List Rp) (hlen : l.length ≤ 140737488351232) (la ma : Option Addr) (lc mc : Nat) (w : World) (hL : Lies kRp ok w la lc l) (hM : Lies kRp ok2 w ma mc l) :
    Calls Try.prog 11 #[.slice la l.length lc, .slice ma l.length mc] w fun e w' => e = .returned (.bool true) ∧ ∃ j, w' = w.drewN j := by
  obtain ⟨n, hn⟩ : ∃ n, n = l.length := ⟨_, rfl⟩
  rw [← hn]
  have HN := put_by hn
  have HL := put_by (And.intro hL hM)
  have hn8 : n ≤ 140737488351232 := by omega
  clear hL hM hlen hn
  go_enter Try.func11, Try.ntmps11
  go_wp2
  go_loopw [5] (fun i wr => ∃ k j : Nat, k ≤ n ∧ i = .int .i64 k ∧ wr = w.drewN j) (fun i _ => n - (intOf i).toNat)
  case atStart => exact ⟨0, 0, Nat.zero_le _, rfl, rfl⟩
  case round =>
    obtain ⟨k, j, hk, rfl, rfl⟩ := hrel
    by_cases hlt : k < n
    · have hx : k < l.length := by rw [← HN.out]; exact hlt
      obtain ⟨b1, o1, rfl, hb1, _, cs, ⟨u1, rfl, hu1⟩, hc1⟩ := HL.out.1.at hx
      obtain ⟨b2, o2, rfl, hb2, _, cs, ⟨u2, rfl, hu2⟩, hc2⟩ := HL.out.2.at hx
      obtain ⟨xa, xc, rfl, hx1, -⟩ := id hu1
      obtain ⟨ya, yc, rfl, hx2, -⟩ := id hu2
      obtain ⟨V, hV⟩ : ∃ V, V = w.drewN j := ⟨_, rfl⟩
      have y0 : V.cell? ⟨b1, o1 + k * 4, none⟩ = some (.int .i64 (l[k]).code) := by rw [hV]; simpa using hc1 0 _ rfl
      have y1 : V.cell? ⟨b1, o1 + k * 4 + 1, none⟩ = some (.bool (l[k]).junk) := by rw [hV]; exact hc1 1 _ rfl
      have y2 : V.cell? ⟨b1, o1 + k * 4 + 2, none⟩ = some (.slice xa (l[k]).data.length xc) := by rw [hV]; exact hc1 2 _ rfl
      have y3 : V.cell? ⟨b1, o1 + k * 4 + 3, none⟩ = some (.int .i64 (l[k]).tail) := by rw [hV]; exact hc1 3 _ rfl
      have z0 : V.cell? ⟨b2, o2 + k * 4, none⟩ = some (.int .i64 (l[k]).code) := by rw [hV]; simpa using hc2 0 _ rfl
      have z1 : V.cell? ⟨b2, o2 + k * 4 + 1, none⟩ = some (.bool (l[k]).junk) := by rw [hV]; exact hc2 1 _ rfl
      have z2 : V.cell? ⟨b2, o2 + k * 4 + 2, none⟩ = some (.slice ya (l[k]).data.length yc) := by rw [hV]; exact hc2 2 _ rfl
      have z3 : V.cell? ⟨b2, o2 + k * 4 + 3, none⟩ = some (.int .i64 (l[k]).tail) := by rw [hV]; exact hc2 3 _ rfl
      have cK : Hid (∀ i, Calls Try.prog 22 #[.slice xa (l[k]).data.length xc, .slice ya (l[k]).data.length yc] (V.drewN i) fun e w' => e = .returned (.bool true) ∧ ∃ j, w' = (V.drewN i).drewN j) := put_by fun i => by
        rw [hV, World.drewN_drewN]
        refine (sameBytesL_q xa ya xc yc _ _ (w.drewN (j + i)) (octs_drawn hx1 _) (octs_drawn hx2 _)).mono fun e w' h => ?_
        simpa using h
      have ik : (k : Int) < (n : Int) := by omega
      have HV := put_by hV
      rw [← hV]
      clear hV hc1 hc2 hu1 hu2 hx1 hx2 HL
      generalize (l[k]).data.length = i1 at cK y2 z2
      generalize (l[k]).code = p1 at y0 z0
      generalize (l[k]).junk = p2 at y1 z1
      generalize (l[k]).tail = p3 at y3 z3
      go_wp2
      go_quiet (first
        | (go_at_call 22; with_reducible exact Calls.quiet_of (cK.out _)))
      go_wp2
      go_roundw
      case rel => exact ⟨k + 1, _, by omega, by go_num, by rw [HV.out, World.drewN_drewN]⟩
      case measure => simp [intOf]; omega
    · have hkn : k = n := by omega
      subst hkn
      go_wp2
      go_ret
      exact ⟨rfl, j, rfl⟩

end Go.Proofs.Ytegmcpcpnjfiaaa
