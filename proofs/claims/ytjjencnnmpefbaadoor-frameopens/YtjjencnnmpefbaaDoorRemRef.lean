/- The reference's division of a row of bits. -/
import Derived.Test.YtjjencnnmpefbaaDoorPolyRef
namespace Go.Proofs.YtjjencnnmpefbaaDoor
open Go.ChangeShapes Go.WideShapes Go.ChangeAt Go.RowKit

theorem taken_zero (f : Nat → Bool) (i : Nat) : taken f i 0 = f := by
  funext j
  unfold taken
  rw [if_neg (by omega)]

theorem taken_succ (f : Nat → Bool) (i k j : Nat) : taken f i (k + 1) j = if j = i + k then (taken f i k j ^^ divisor k) else taken f i k j := by
  unfold taken
  by_cases h : j = i + k
  · subst h
    rw [if_pos (by omega), if_pos rfl, if_neg (by omega), show i + k - i = k by omega]
  · rw [if_neg h]
    by_cases h2 : i ≤ j ∧ j < i + k
    · rw [if_pos h2, if_pos (by omega)]
    · rw [if_neg h2, if_neg (by omega)]

theorem remainder_any (w : World) (base g n cap : Nat) (f : Nat → Bool) (hO : OwnOcts w base g n cap (fun j => b2i (f j))) (hn : 32 ≤ n) (hn2 : n ≤ 100000) :
    Calls Tryd.prog 31 #[.slice (some ⟨g, 0, none⟩) n cap] w fun e w' => e = .returned (.slice (some ⟨g, n - 32, none⟩) 32 (cap - (n - 32))) ∧ OwnOcts w' base g n cap (fun j => b2i (divn f (n - 32) j)) ∧ Below base w w' := by
  have hcap := hO.cap
  have hbg := hO.lt
  have HO : Hid (OwnOcts w base g n cap (fun j => b2i (f j))) := hO
  clear hO
  have hP := poly_any w
  go_enter Tryd.func31, Tryd.ntmps31
  go_wp2_with (go_at_call 32; refine hP.mono ?_; rintro e w1 ⟨gp, rfl, hp1, hb1⟩)
  have hgp : g ≠ gp := by have := hp1.lt.1; omega
  go_loopw [4] (fun i wr => ∃ k : Nat, k ≤ n - 32 ∧ i = .int .i64 k ∧ Hid (OwnOcts wr base g n cap (fun j => b2i (divn f k j)) ∧ OwnOcts wr w.heap.size gp 33 33 (fun j => b2i (divisor j)) ∧ Below base w wr)) (fun i _ => n - 32 - (intOf i).toNat)
  case atStart => exact ⟨0, Nat.zero_le _, rfl, HO.out.later hb1, hp1, hb1.mono (by omega)⟩
  case round =>
    obtain ⟨i, hi, rfl, HR⟩ := hrel
    by_cases hlt : i + 32 < n
    · have hc := HR.out.1.cell (show i < n by omega)
      cases hb : divn f i i
      · rw [hb] at hc
        have hc : wr.cell? ⟨g, i, none⟩ = some (.int .u8 0) := hc
        have HD : Hid (∀ j, divn f (i + 1) j = divn f i j) := by
          intro j
          have e : divn f (i + 1) = if divn f i i then taken (divn f i) i 33 else divn f i := rfl
          rw [e, hb]
          rfl
        clear hb
        go_wp2
        go_roundw
        case rel => exact ⟨i + 1, by omega, by go_num, HR.out.1.congr (fun j _ => by rw [HD.out]), HR.out.2⟩
        case measure => simp [intOf]; omega
      · rw [hb] at hc
        have hc : wr.cell? ⟨g, i, none⟩ = some (.int .u8 1) := hc
        have HD : Hid (∀ j, divn f (i + 1) j = taken (divn f i) i 33 j) := by
          intro j
          have e : divn f (i + 1) = if divn f i i then taken (divn f i) i 33 else divn f i := rfl
          rw [e, hb]
          rfl
        clear hb
        go_wp2
        go_loopw [5] (fun q wr => ∃ k : Nat, k ≤ 33 ∧ q = .int .i64 k ∧ Hid (OwnOcts wr base g n cap (fun j => b2i (taken (divn f i) i k j)) ∧ OwnOcts wr w.heap.size gp 33 33 (fun j => b2i (divisor j)) ∧ Below base w wr)) (fun q _ => 33 - (intOf q).toNat)
        case atStart => exact ⟨0, Nat.zero_le _, rfl, HR.out.1.congr (fun j _ => by rw [taken_zero]), HR.out.2⟩
        case round =>
          obtain ⟨k, hk, rfl, HI⟩ := hrel
          by_cases h33 : k < 33
          · have hc1 := HI.out.1.cell (show i + k < n by omega)
            have hf1 := HI.out.1.frozen (i + k)
            have hc2 := HI.out.2.1.cell h33
            have hx := b2i_xor (taken (divn f i) i k (i + k)) (divisor k)
            generalize hq : taken (divn f i) i k (i + k) = q at hc1 hx
            have HQ : Hid (taken (divn f i) i k (i + k) = q) := hq
            clear hq
            go_wp2_with (go_region)
            all_goals
              go_roundw
              case rel =>
                refine ⟨k + 1, by omega, by go_num, (HI.out.1.drew.stored (i + k) _).congr ?_, HI.out.2.1.drew.other (fun e => hgp e.symm) _ _, HI.out.2.2.drew.setCell hbg.1 _⟩
                intro j _
                rw [taken_succ]
                by_cases hj : j = i + k
                · rw [if_pos hj, if_pos hj, hj, HQ.out]
                · rw [if_neg hj, if_neg hj]
              case measure => simp [intOf]; omega
          · have hkn : k = 33 := by omega
            subst hkn
            go_wp2
            go_roundw
            case rel => exact ⟨i + 1, by omega, by go_num, HI.out.1.congr (fun j _ => by rw [HD.out]), HI.out.2⟩
            case measure => simp [intOf]; omega
    · have hin : i = n - 32 := by omega
      have h32 : n - (n - 32) = 32 := by omega
      subst hin
      go_wp2
      go_ret
      refine ⟨?_, HR.out.1, HR.out.2.2⟩
      rw [h32]
      rfl

end Go.Proofs.YtjjencnnmpefbaaDoor
