/- Two layouts that are the same. -/
import Derived.Test.YtcffikfjbpeggaaLyTail
import Derived.Deep.RegionHeld3
namespace Go.Proofs.Ytcffikfjbpeggaa
open Go.ChangeShapes Go.WideShapes Go.ChangeAt Go.RowKit

set_option maxHeartbeats 2000000 in
theorem sameInts_yes {ok ok2 : Nat → Prop} (a b : Option Addr) (n m c d : Nat) (xs : List Int) (hn : n = xs.length) (hm : m = xs.length) (hr : xs.length ≤ 140737488351232) (w : World) (h1 : Lies kInt ok w a c xs) (h2 : Lies kInt ok2 w b d xs) :
    Calls Try.prog 28 #[.slice a n c, .slice b m d] w fun e w' => e = .returned (.bool true) ∧ Below w.heap.size w w' := by
  have hmn : m = n := by omega
  subst hmn
  rw [← hn] at hr
  have HL := put_by (And.intro h1 (And.intro h2 hn))
  clear h1 h2 hn hm
  go_enter Try.func28, Try.ntmps28
  go_wp2
  go_loopw [5] (fun iv wr => ∃ k : Nat, k ≤ m ∧ iv = .int .i64 k ∧ Hid (Below w.heap.size w wr)) (fun iv _ => m - (intOf iv).toNat)
  case atStart => exact ⟨0, Nat.zero_le _, rfl, put_by (Below.refl _ _)⟩
  case round =>
    obtain ⟨k, hk, rfl, HB⟩ := hrel
    by_cases hlt : k < m
    · have hkc : k < xs.length := by have := HL.out.2.2; omega
      obtain ⟨b1, o1, rfl, -, -, e1⟩ := int_at' (HL.out.1.later HB.out) hkc
      obtain ⟨b2, o2, rfl, -, -, e2⟩ := int_at' (HL.out.2.1.later HB.out) hkc
      generalize xs.getD k 0 = x at e1 e2
      have HB2 := put_by HB.out.drew
      go_wp2
      go_region
      all_goals
        go_wp2
        go_roundw
        case rel => exact ⟨k + 1, by omega, by simp, HB2⟩
        case measure => simp [intOf]; omega
    · obtain rfl : k = m := by omega
      go_wp2
      go_ret
      exact ⟨rfl, HB.out⟩

set_option maxHeartbeats 4000000 in
theorem sameLayout_yes {ok ok2 : Nat → Prop} (ep : Int) (a b : Option Addr) (n m c d : Nat) (cs : List (List Int)) (hn : n = cs.length) (hm : m = cs.length) (hf : cs.length ≤ 140737488351232 ∧ ∀ c ∈ cs, c.length ≤ 140737488351232) (w : World) (h1 : Lies (kRow kInt) ok w a c cs) (h2 : Lies (kRow kInt) ok2 w b d cs) :
    Calls Try.prog 19 #[.agg #[.int .i64 ep, .slice a n c], .agg #[.int .i64 ep, .slice b m d]] w fun e w' => e = .returned (.bool true) ∧ Below w.heap.size w w' := by
  have hmn : m = n := by omega
  subst hmn
  obtain ⟨W0, hW0⟩ : ∃ W0, W0 = (w.alloc (.cells #[.int .i64 ep, .slice a m c] 24)).alloc (.cells #[.int .i64 ep, .slice b m d] 24) := ⟨_, rfl⟩
  have hb : Below w.heap.size w W0 := by rw [hW0]; exact ((Below.refl _ w).alloc (Nat.le_refl _) _).alloc (by simp) _
  have HK : Hid (∀ V, Below W0.heap.size W0 V → (V.cell? ⟨w.heap.size, 0, none⟩ = some (.int .i64 ep) ∧ V.cell? ⟨w.heap.size, 1, none⟩ = some (.slice a m c)) ∧ V.cell? ⟨w.heap.size + 1, 0, none⟩ = some (.int .i64 ep) ∧ V.cell? ⟨w.heap.size + 1, 1, none⟩ = some (.slice b m d)) := put_by fun V hV => by
    subst hW0
    refine ⟨⟨(hV.cell (p := ⟨w.heap.size, 0, none⟩) (by simp; omega)).trans ?_, (hV.cell (p := ⟨w.heap.size, 1, none⟩) (by simp; omega)).trans ?_⟩, (hV.cell (p := ⟨w.heap.size + 1, 0, none⟩) (by simp)).trans ?_, (hV.cell (p := ⟨w.heap.size + 1, 1, none⟩) (by simp)).trans ?_⟩
    · rw [World.cell?_alloc_lt _ _ _ (by simp)]; simp
    · rw [World.cell?_alloc_lt _ _ _ (by simp)]; simp
    · have := World.cell?_alloc_new (w.alloc (.cells #[.int .i64 ep, .slice a m c] 24)) #[.int .i64 ep, .slice b m d] 24 0
      rw [World.size_alloc] at this
      exact this
    · have := World.cell?_alloc_new (w.alloc (.cells #[.int .i64 ep, .slice a m c] 24)) #[.int .i64 ep, .slice b m d] 24 1
      rw [World.size_alloc] at this
      exact this
  have HL := put_by (And.intro (h1.later hb) (And.intro (h2.later hb) hn))
  have HB := put_by hb
  have HF := put_by hf.2
  have hm9 : m ≤ 140737488351232 := by have := hf.1; omega
  clear h1 h2 hn hm hb hf
  go_enter Try.func19, Try.ntmps19
  go_upto_region 1 with (fail)
  rw [← hW0]
  clear hW0
  obtain ⟨⟨k0, k1⟩, k2, k3⟩ := HK.out W0 (Below.refl _ _)
  go_wp2
  go_loopw [5] (fun iv wr => ∃ k : Nat, k ≤ m ∧ iv = .int .i64 k ∧ Hid (Below W0.heap.size W0 wr)) (fun iv _ => m - (intOf iv).toNat)
  case atStart => exact ⟨0, Nat.zero_le _, rfl, put_by (Below.refl _ _)⟩
  case round =>
    obtain ⟨k, hk, rfl, HJ⟩ := hrel
    obtain ⟨⟨j0, j1⟩, j2, j3⟩ := HK.out wr HJ.out
    clear k0 k1 k2 k3
    by_cases hlt : k < m
    · have hkc : k < cs.length := by have := HL.out.2.2; omega
      obtain ⟨b1, o1, a1, c1, rfl, l1, -, e1, f1⟩ := row_at HL.out.1 hkc
      obtain ⟨b2, o2, a2, c2, rfl, l2, -, e2, f2⟩ := row_at HL.out.2.1 hkc
      have hE1 := (HJ.out.cell (p := ⟨b1, o1 + k, none⟩) l1).trans e1
      have hE2 := (HJ.out.cell (p := ⟨b2, o2 + k, none⟩) l2).trans e2
      have HC := put_by (fun V (hV : Below W0.heap.size W0 V) => sameInts_yes a1 a2 cs[k].length cs[k].length c1 c2 cs[k] rfl rfl (HF.out _ (List.getElem_mem _)) V (f1.later hV) (f2.later hV))
      have HR : Hid (∀ V, Below W0.heap.size W0 V → V.cell? ⟨b1, o1 + k, none⟩ = some (.slice a1 cs[k].length c1) ∧ V.cell? ⟨b2, o2 + k, none⟩ = some (.slice a2 cs[k].length c2)) := put_by (fun V hV => ⟨(hV.cell (p := ⟨b1, o1 + k, none⟩) l1).trans e1, (hV.cell (p := ⟨b2, o2 + k, none⟩) l2).trans e2⟩)
      clear e1 e2 f1 f2 l1 l2
      generalize cs[k].length = z at hE1 hE2 HC HR
      have HJd := put_by HJ.out.drew
      go_upto_region 6 with (fail)
      go_region_held3 (fun V => V.cell? ⟨w.heap.size, 1, none⟩ = some (.slice (some ⟨b1, o1, none⟩) m c) ∧ V.cell? ⟨w.heap.size + 1, 1, none⟩ = some (.slice (some ⟨b2, o2, none⟩) m d) ∧ V.cell? ⟨b1, o1 + k, none⟩ = some (.slice a1 z c1) ∧ V.cell? ⟨b2, o2 + k, none⟩ = some (.slice a2 z c2)) (go_keep) (first
        | (go_at_call 28; (with_reducible refine (HC.out _ HJd.out).mono ?_); clear HC; rintro e V2 ⟨rfl, h2⟩; have H2 := put_by (HJd.out.trans (h2.mono HJd.out.size)); clear h2; obtain ⟨⟨i0, i1⟩, i2, i3⟩ := HK.out _ H2.out; obtain ⟨i4, i5⟩ := HR.out _ H2.out))
      all_goals
        go_wp2
        go_roundw
        case rel => exact ⟨k + 1, by omega, by simp, H2⟩
        case measure => simp [intOf]; omega
    · obtain rfl : k = m := by omega
      go_wp2
      go_ret
      exact ⟨rfl, HB.out.trans (HJ.out.mono HB.out.size)⟩

end Go.Proofs.Ytcffikfjbpeggaa
