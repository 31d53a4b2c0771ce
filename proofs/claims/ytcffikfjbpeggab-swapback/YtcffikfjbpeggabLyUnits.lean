/- The units of a layout, ranged over as a function. -/
import Derived.RangeFuncNested
import Derived.RangeFuncWrites
import Derived.RangeFuncBound
import Derived.RangeFuncCalls
import Derived.RangeFuncLeaves
import Derived.Shelf.Abstract
import Derived.Shelf.RegionOpen
import Derived.OwnWalkIn
import Derived.TacticsInMore
import Derived.LoopNIn
import Derived.LoopIn
import Derived.Test.YtcffikfjbpeggabLyPlain
namespace Go.Proofs.Ytcffikfjbpeggab
open Go.ChangeShapes Go.WideShapes Go.ChangeAt Go.RowKit Go.Shelf

attribute [local go_sem] Oper.semAt_some

set_option maxHeartbeats 1000000 in
theorem units_in (F : Fence) (n : Nat) (hF : F.fn 18) (hro : F.round = none) (a : Option Addr) (len cap : Nat) (w : World) :
    CallsIn F n Try.prog 18 #[.slice a len cap] w fun e w' => e = .returned (.func (.func 21) #[] #[.pointer (some ⟨w.heap.size, 0, none⟩)]) ∧ w' = w.alloc (.cells #[.slice a len cap] 23) := by
  refine callsIn_of_wp Try.func18 rfl hF ?_ hro
  simp only [Try.ntmps18, List.size_toArray, List.length_cons, List.length_nil, Nat.reduceAdd, Nat.reduceSub, Array.replicate_succ, Array.replicate_zero, List.push_toArray, List.append_toArray, List.nil_append, List.cons_append]
  gi_wp2
  go_ret
  exact ⟨rfl, rfl⟩

set_option maxRecDepth 100000 in
set_option maxHeartbeats 4000000 in
theorem units_each (F : Fence) (n : Nat) (hF : F.fn 21) (hro : F.round = none) (hn : 1 ≤ n) (l Bs n₀ : Nat) (a : Option Addr) (cap : Nat) (cs : List (List Int)) (hr1 : cs.length ≤ 140737488351232) (hr2 : ∀ c ∈ cs, c.length ≤ 140737488351232)
    (J Jx : List Int → World → Prop)
    (hY : ∀ pre x W, J pre W → pre.length < cs.flatten.length → YieldAt F (n - 1) Try.prog l #[.int .i64 x] W fun e W' =>
      (e = .returned (.bool true) ∧ J (pre ++ [x]) W' ∧ Below n₀ W W') ∨ (e = .returned (.bool false) ∧ Jx (pre ++ [x]) W'))
    (W : World) (hBs : W.cell? ⟨Bs, 0, none⟩ = some (.slice a cs.length cap)) (hL : Lies (kRow kInt) (fun b => b < n₀) W a cap cs) (h0 : J [] W) :
    CallsIn F n Try.prog 21 #[.func (.yield l) #[] #[], .pointer (some ⟨Bs, 0, none⟩)] W fun e W' => (∃ v, e = .returned v) ∧
      (J cs.flatten W' ∨ ∃ q, q <+: cs.flatten ∧ Jx q W') := by
  obtain ⟨len, hlen⟩ : ∃ len, len = cs.length := ⟨_, rfl⟩
  rw [← hlen] at hBs hr1
  have HL := put_by hL
  have HR := put_by hr2
  clear hL hr2
  refine callsIn_of_wp Try.func21 rfl hF ?_ hro
  simp only [Try.ntmps21, List.size_toArray, List.length_cons, List.length_nil, Nat.reduceAdd, Nat.reduceSub, Array.replicate_succ, Array.replicate_zero, List.push_toArray, List.append_toArray, List.nil_append, List.cons_append]
  gi_wp2
  gi_loopw [9] (fun i wr => ∃ k : Nat, k ≤ len ∧ i = .int .i64 k ∧ Hid (J (cs.take k).flatten wr ∧ Below n₀ W wr)) (fun i _ => len - (intOf i).toNat)
  case atStart => exact ⟨0, Nat.zero_le _, rfl, put_by ⟨by simpa using h0, Below.refl _ _⟩⟩
  case round =>
    obtain ⟨k, hk, rfl, hh⟩ := hrel
    by_cases hlt : k < len
    · have hkc : k < cs.length := by omega
      obtain ⟨b, off, a2, c2, rfl, hb, hbo, hc, hL2⟩ := row_at HL.out hkc
      have hc1 : wr.cell? ⟨b, off + k, none⟩ = some (.slice a2 cs[k].length c2) := (hh.out.2.cell (p := ⟨b, off + k, none⟩) hbo).trans hc
      have hm : cs[k].length ≤ 140737488351232 := HR.out _ (List.getElem_mem _)
      obtain ⟨m, hmm⟩ : ∃ m, m = cs[k].length := ⟨_, rfl⟩
      rw [← hmm] at hc1 hm
      have HK := put_by (And.intro hkc (And.intro hmm hL2))
      clear hc hb hL2 hmm hbo
      gi_wp2
      gi_loopw [15] (fun j ws => ∃ i : Nat, i ≤ m ∧ j = .int .i64 i ∧ Hid (J ((cs.take k).flatten ++ (cs[k]).take i) ws ∧ Below n₀ W ws)) (fun j _ => m - (intOf j).toNat)
      case atStart => exact ⟨0, Nat.zero_le _, rfl, put_by ⟨by simpa using hh.out.1, hh.out.2⟩⟩
      case round =>
        obtain ⟨i, hi, rfl, hi2⟩ := hrel
        by_cases hit : i < m
        · have hic : i < cs[k].length := by have := HK.out.2.1; omega
          obtain ⟨b3, off3, rfl, hb3, hbo3, hc3⟩ := int_at HK.out.2.2 hic
          have hc4 : wr.cell? ⟨b3, off3 + i, none⟩ = some (.int .i64 (cs[k])[i]) := (hi2.out.2.cell (p := ⟨b3, off3 + i, none⟩) hbo3).trans hc3
          have HP := put_by (prefix_flatten hkc (i + 1))
          have HT := put_by (show (cs.take k).flatten ++ (cs[k]).take i ++ [(cs[k])[i]] = (cs.take k).flatten ++ (cs[k]).take (i + 1) by rw [List.append_assoc, List.take_succ_eq_append_getElem hic])
          obtain ⟨x, hx⟩ : ∃ x, x = (cs[k])[i] := ⟨_, rfl⟩
          rw [← hx] at hc4 HT
          have hpl : ((cs.take k).flatten ++ (cs[k]).take i).length < cs.flatten.length := by
            have := HP.out.length_le
            rw [← HT.out] at this
            simp only [List.length_append, List.length_singleton] at this ⊢
            omega
          obtain ⟨fn, tmps, assign, body, hy, hR⟩ := hY _ x wr hi2.out.1 hpl
          clear hc3 hb3 hbo3 hx hpl
          gi_wp2
          refine hR.mono ?_
          rintro e W3 (⟨rfl, hJ3, hk3⟩ | ⟨rfl, hJx3⟩)
          · rw [HT.out] at hJ3
            have HJ3 := put_by (And.intro hJ3 (hi2.out.2.trans hk3))
            clear hJ3 hk3
            gi_wp2
            go_roundw
            case rel => exact ⟨i + 1, by omega, by simp, HJ3⟩
            case measure => simp [intOf]; omega
          · rw [HT.out] at hJx3
            have HJ3 := put_by hJx3
            clear hJx3
            gi_wp2
            refine bodyPost_ret (results_none rfl _ _ _) rfl ?_
            exact ⟨⟨_, rfl⟩, .inr ⟨_, HP.out, HJ3.out⟩⟩
        · obtain rfl : i = m := by omega
          have HJ4 : Hid (J (cs.take (k + 1)).flatten wr ∧ Below n₀ W wr) := by
            refine put_by ⟨?_, hi2.out.2⟩
            have := hi2.out.1
            rw [HK.out.2.1, List.take_length] at this
            rw [take_flatten hkc]
            exact this
          gi_wp2
          go_roundw
          case rel => exact ⟨k + 1, by omega, by simp, HJ4⟩
          case measure => simp [intOf]; omega
    · obtain rfl : k = len := by omega
      have hJ5 := hh.out.1
      rw [hlen, List.take_length] at hJ5
      gi_wp2
      go_end0
      exact ⟨⟨_, rfl⟩, .inl hJ5⟩

/-- ranged over: all units in order; or the first ones -/
theorem units_stops (F : Fence) (n : Nat) (hF : F.fn 21) (hro : F.round = none) (hn : 1 ≤ n) (Bs n₀ : Nat) (a : Option Addr) (cap : Nat) (cs : List (List Int)) (hr1 : cs.length ≤ 140737488351232) (hr2 : ∀ c ∈ cs, c.length ≤ 140737488351232) (w : World) (hBs : Bs < w.heap.size)
    (hc : w.cell? ⟨Bs, 0, none⟩ = some (.slice a cs.length cap)) (hL : Lies (kRow kInt) (fun b => b < n₀) w a cap cs) :
    SeqStopsK F n Try.prog 21 #[.pointer (some ⟨Bs, 0, none⟩)] (fun x : Int => #[Value.int .i64 x]) (Below n₀) (fun ys => ys = cs.flatten) (fun pre => pre <+: cs.flatten) cs.flatten.length w := fun l J Jx W hW _ _ hY h0 => by
  refine (units_each F n hF hro hn l Bs n₀ a cap cs hr1 hr2 J Jx hY W ((hW.cell (p := ⟨Bs, 0, none⟩) hBs).trans hc) (hL.move (Kept.of_below hW) (fun _ _ h => h)) h0).mono ?_
  rintro e W' ⟨he, h | ⟨q, h1, h2⟩⟩
  · exact ⟨he, .inl ⟨_, rfl, h⟩⟩
  · exact ⟨he, .inr ⟨q, h1, h2⟩⟩

end Go.Proofs.Ytcffikfjbpeggab
