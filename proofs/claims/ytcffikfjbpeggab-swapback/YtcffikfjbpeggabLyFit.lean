/- Whether there may be as many chains, as many units in each; whether all are numbers of units, none of them twice. -/
import Derived.Test.YtcffikfjbpeggabLyUnits
namespace Go.Proofs.Ytcffikfjbpeggab
open Go.ChangeShapes Go.WideShapes Go.ChangeAt Go.RowKit Go.Shelf

attribute [local go_sem] Oper.semAt_some

theorem isUnit_any (x : Int) (w : World) : Calls Try.prog 19 #[.int .i64 x] w fun e w' => e = .returned (.bool (decide (0 ≤ x ∧ x ≤ 5))) ∧ w' = w := by
  go_enter Try.func19, Try.ntmps19
  by_cases h0 : 0 ≤ x
  · by_cases h1 : x < 6
    · have e1 : decide (0 ≤ x ∧ x ≤ 5) = true := decide_eq_true ⟨h0, by omega⟩
      rw [e1]
      go_wp2
      go_ret
      exact ⟨rfl, rfl⟩
    · have e1 : decide (0 ≤ x ∧ x ≤ 5) = false := decide_eq_false (by omega)
      rw [e1]
      go_wp2
      go_ret
      exact ⟨rfl, rfl⟩
  · have e1 : decide (0 ≤ x ∧ x ≤ 5) = false := decide_eq_false (by omega)
    rw [e1]
    go_wp2
    go_ret
    exact ⟨rfl, rfl⟩

set_option maxHeartbeats 2000000 in
theorem fitChains_any {ok : Nat → Prop} (a : Option Addr) (cap : Nat) (cs : List (List Int)) (hr1 : cs.length ≤ 140737488351232) (hr2 : ∀ c ∈ cs, c.length ≤ 140737488351232) (w : World) (hL : Lies (kRow kInt) ok w a cap cs) :
    Calls Try.prog 14 #[.slice a cs.length cap] w fun e w' => e = .returned (.bool (fitC cs)) ∧ w' = w := by
  obtain ⟨len, hlen⟩ : ∃ len, len = cs.length := ⟨_, rfl⟩
  obtain ⟨r, hr⟩ : ∃ r, r = fitC cs := ⟨_, rfl⟩
  rw [← hlen] at hr1
  rw [← hlen, ← hr]
  have HL := put_by (And.intro hL (And.intro hr2 (And.intro hlen hr)))
  clear hL hr2 hlen hr
  go_enter Try.func14, Try.ntmps14
  by_cases h1 : len < 1
  · have : r = false := by
      rw [HL.out.2.2.2]
      refine decide_eq_false (fun h => ?_)
      have := h.1; have := HL.out.2.2.1; omega
    subst this
    go_wp2
    go_ret
    exact ⟨rfl, rfl⟩
  by_cases h2 : 6 < len
  · have : r = false := by
      rw [HL.out.2.2.2]
      refine decide_eq_false (fun h => ?_)
      have := h.2.1; have := HL.out.2.2.1; omega
    subst this
    go_wp2
    go_ret
    exact ⟨rfl, rfl⟩
  go_wp2
  go_loopw [15] (fun i wr => wr = w ∧ ∃ k : Nat, k ≤ len ∧ i = .int .i64 k ∧ Hid (∀ c ∈ cs.take k, 1 ≤ c.length ∧ c.length ≤ 3)) (fun i _ => len - (intOf i).toNat)
  case atStart => exact ⟨rfl, 0, Nat.zero_le _, rfl, put_by (by simp)⟩
  case round =>
    obtain ⟨rfl, k, hk, rfl, hh⟩ := hrel
    by_cases hlt : k < len
    · have hkc : k < cs.length := by have := HL.out.2.2.1; omega
      obtain ⟨b, off, a2, c2, rfl, hb, hbo, hc, hL2⟩ := row_at HL.out.1 hkc
      have hm : cs[k].length ≤ 140737488351232 := HL.out.2.1 _ (List.getElem_mem _)
      have HN : Hid (¬ (1 ≤ cs[k].length ∧ cs[k].length ≤ 3) → r = false) := put_by (fun hn => by
        rw [HL.out.2.2.2]
        exact decide_eq_false (fun h => hn (h.2.2 _ (List.getElem_mem _))))
      have HS : Hid ((1 ≤ cs[k].length ∧ cs[k].length ≤ 3) → ∀ c ∈ cs.take (k + 1), 1 ≤ c.length ∧ c.length ≤ 3) := put_by (fun hn c hc => by
        rw [List.take_succ_eq_append_getElem hkc, List.mem_append] at hc
        rcases hc with hc | hc
        · exact hh.out c hc
        · rw [List.mem_singleton.1 hc]; exact hn)
      clear hL2
      generalize cs[k].length = m at hc hm HN HS
      by_cases g1 : m < 1
      · obtain rfl : r = false := HN.out (by omega)
        go_wp2
        go_ret
        exact ⟨rfl, rfl⟩
      by_cases g2 : 3 < m
      · obtain rfl : r = false := HN.out (by omega)
        go_wp2
        go_ret
        exact ⟨rfl, rfl⟩
      have HS2 := put_by (HS.out (by omega))
      go_wp2
      go_roundw
      case rel => exact ⟨trivial, k + 1, by omega, by simp, HS2⟩
      case measure => simp [intOf]; omega
    · obtain rfl : k = len := by omega
      obtain rfl : r = true := by
        rw [HL.out.2.2.2]
        have h3 := hh.out
        have h4 := HL.out.2.2.1
        rw [h4, List.take_length] at h3
        exact decide_eq_true ⟨by omega, by omega, h3⟩
      go_wp2
      go_ret
      exact ⟨rfl, rfl⟩

end Go.Proofs.Ytcffikfjbpeggab
