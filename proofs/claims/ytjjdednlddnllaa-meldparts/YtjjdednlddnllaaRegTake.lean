/- Which intents may be: what May comes to. -/
import Derived.Test.YtjjdednlddnllaaItMem
import Derived.Test.YtjjdednlddnllaaFourPlain
import Derived.OrdersHeld
namespace Go.Proofs.Ytjjdednlddnllaa
open Go.ChangeShapes Go.WideShapes Go.ChangeAt Go.RowKit

theorem within_any (x y : Int) (w : World) :
    Calls Try.prog 86 #[.int .i64 x, .int .i64 y] w fun e w' => e = .returned (.bool (decide (y ≤ x) && decide (x ≤ 1048576))) ∧ w' = w := by
  by_cases h1 : y ≤ x
  · go_enter Try.func86, Try.ntmps86
    go_wp2
    go_ret
    simp
    omega
  · go_enter Try.func86, Try.ntmps86
    go_wp2
    go_ret
    simp
    omega

set_option maxRecDepth 100000 in
set_option maxHeartbeats 4000000 in
theorem mayRead_any (ok : Nat → Prop) (l : List Ent) (hfew : l.length ≤ 140737488351232) (la : Option Addr) (lc : Nat) (w : World) (hL : Lies kEnt ok w la lc l) (R : Bool) (hR : R = true ↔ RdsP l) :
    Calls Try.prog 87 #[.slice la l.length lc] w fun e w' => e = .returned (.bool R) ∧ Below w.heap.size w w' := by
  obtain ⟨n, hn⟩ : ∃ n, n = l.length := ⟨_, rfl⟩
  rw [← hn]
  have HL := put_by hL
  have HN := put_by hn
  have HR := put_by hR
  have hn8 : n ≤ 140737488351232 := by omega
  clear hL hn hfew hR
  by_cases h4 : 400 < n
  · have HF : Hid (R = false) := of_not HR.out (fun h => by have := h.1; have := HN.out; omega)
    go_enter Try.func87, Try.ntmps87
    go_wp2
    go_ret
    rw [HF.out]
    exact ⟨rfl, Below.refl _ _⟩
  go_enter Try.func87, Try.ntmps87
  go_wp2
  go_loopw [10] (fun i wr => ∃ (k : Nat), k ≤ n ∧ i = .int .i64 k ∧ Hid ((∀ r ∈ l.take k, OkRd r) ∧ Below w.heap.size w wr)) (fun i _ => n - (intOf i).toNat)
  case atStart => exact ⟨0, Nat.zero_le _, rfl, by simp, Below.refl _ _⟩
  case round =>
    obtain ⟨k, hk, rfl, HB⟩ := hrel
    rename World => wr
    by_cases hlt : k < n
    · have hx : k < l.length := by rw [← HN.out]; exact hlt
      obtain ⟨b4, off, rfl, hb, _, cs, ⟨u, v, rfl, hu, hw⟩, hc⟩ := HL.out.at hx
      obtain ⟨xa, xc, rfl, hxo, -⟩ := id hu
      obtain ⟨ya, yc, rfl, hyo, -⟩ := id hw
      have d0 : wr.cell? ⟨b4, off + k * 2, none⟩ = some (.slice xa (l[k]).1.length xc) := (HB.out.2.cell (p := ⟨b4, off + k * 2, none⟩) hb).trans (by simpa using hc 0 _ rfl)
      have d1 : wr.cell? ⟨b4, off + k * 2 + 1, none⟩ = some (.slice ya (l[k]).2.length yc) := (HB.out.2.cell (p := ⟨b4, off + k * 2 + 1, none⟩) hb).trans (hc 1 _ rfl)
      have HS : Hid (OkRd l[k] → ∀ r ∈ l.take (k + 1), OkRd r) := fun h r hr => by
        rw [take_succ' hx] at hr
        rcases List.mem_append.1 hr with h1 | h1
        · exact HB.out.1 r h1
        · rw [List.mem_singleton.1 h1]; exact h
      have HNO : Hid (¬ OkRd l[k] → R = false) := fun h => of_not HR.out (fun hp => h (hp.2 _ (List.getElem_mem hx)))
      have HBB := put_by HB.out.2
      have e1 : OkRd l[k] ↔ (l[k]).1.length ≤ 1201 ∧ (l[k]).2.length ≤ 1201 := Iff.rfl
      have HE := put_by e1
      have ik : (k : Int) < (n : Int) := by omega
      clear hc hu hw hxo hyo HB e1
      generalize (l[k]).1.length = i1 at d0 HE
      generalize (l[k]).2.length = i2 at d1 HE
      by_cases h1 : i1 ≤ 1201
      · by_cases h2 : i2 ≤ 1201
        · have HT := put_by (HS.out (HE.out.2 ⟨h1, h2⟩))
          go_wp2
          go_roundw
          case rel => exact ⟨k + 1, by omega, by go_num, HT.out, HBB.out.trans (((Below.refl _ wr).alloc (Nat.le_refl _) _).mono HBB.out.size)⟩
          case measure => simp [intOf]; omega
        · have HF := put_by (HNO.out (fun h => h2 (HE.out.1 h).2))
          go_wp2
          go_ret
          rw [HF.out]
          exact ⟨rfl, HBB.out.trans (((Below.refl _ wr).alloc (Nat.le_refl _) _).mono HBB.out.size)⟩
      · have HF := put_by (HNO.out (fun h => h1 (HE.out.1 h).1))
        go_wp2
        go_ret
        rw [HF.out]
        exact ⟨rfl, HBB.out.trans (((Below.refl _ wr).alloc (Nat.le_refl _) _).mono HBB.out.size)⟩
    · have HT : Hid (R = true) := HR.out.2 ⟨by rw [← HN.out]; omega, by have h := HB.out.1; rwa [List.take_of_length_le (by rw [← HN.out]; omega)] at h⟩
      have HBB := put_by HB.out.2
      have ik : ¬ (k : Int) < (n : Int) := by omega
      clear HB
      go_wp2
      go_ret
      rw [HT.out]
      exact ⟨rfl, HBB.out⟩

set_option maxRecDepth 100000 in
set_option maxHeartbeats 4000000 in
theorem mayBeWritten_any (x : Wt) (ka va : Option Addr) (kc vc : Nat) (w : World) (R : Bool) (hR : R = true ↔ OkWt x) :
    Calls Try.prog 105 #[.agg #[.slice ka x.key.length kc, .slice va x.val.length vc, .bool x.gone]] w fun e w' => e = .returned (.bool R) ∧ Below w.heap.size w w' := by
  have HR := put_by hR
  have e1 : OkWt x ↔ (1 ≤ x.key.length ∧ x.key.length ≤ 1200 ∧ x.val.length ≤ 4000 ∧ (x.gone = true → x.val.length = 0)) := by
    unfold OkWt
    rw [List.length_eq_zero_iff]
  rw [e1] at hR
  clear e1 HR
  generalize x.key.length = i1 at hR ⊢
  generalize x.val.length = i2 at hR ⊢
  generalize x.gone = g at hR ⊢
  have HR := put_by hR
  have HB := put_by ((Below.refl w.heap.size w).alloc (Nat.le_refl _) (.cells #[.slice ka i1 kc, .slice va i2 vc, .bool g] 100))
  clear hR
  by_cases h1 : 1 ≤ i1
  · by_cases h2 : i1 ≤ 1200
    · by_cases h3 : i2 ≤ 4000
      · cases g with
        | false =>
          have HF : Hid (R = true) := HR.out.2 ⟨h1, h2, h3, fun e => by cases e⟩
          go_enter Try.func105, Try.ntmps105
          go_wp2
          go_ret
          rw [HF.out]
          exact ⟨rfl, HB.out⟩
        | true =>
          by_cases h5 : i2 = 0
          · have HF : Hid (R = true) := HR.out.2 ⟨h1, h2, h3, fun _ => h5⟩
            subst h5
            go_enter Try.func105, Try.ntmps105
            go_wp2
            go_ret
            rw [HF.out]
            exact ⟨rfl, HB.out⟩
          · have HF : Hid (R = false) := of_not HR.out (fun h => h5 (h.2.2.2 rfl))
            have h6 : ((i2 : Int) == 0) = false := by simpa using h5
            go_enter Try.func105, Try.ntmps105
            go_wp2
            go_ret
            rw [HF.out]
            exact ⟨rfl, HB.out⟩
      · have HF : Hid (R = false) := of_not HR.out (fun h => h3 h.2.2.1)
        go_enter Try.func105, Try.ntmps105
        go_wp2
        go_ret
        rw [HF.out]
        exact ⟨rfl, HB.out⟩
    · have HF : Hid (R = false) := of_not HR.out (fun h => h2 h.2.1)
      go_enter Try.func105, Try.ntmps105
      go_wp2
      go_ret
      rw [HF.out]
      exact ⟨rfl, HB.out⟩
  · have HF : Hid (R = false) := of_not HR.out (fun h => h1 h.1)
    go_enter Try.func105, Try.ntmps105
    go_wp2
    go_ret
    rw [HF.out]
    exact ⟨rfl, HB.out⟩

end Go.Proofs.Ytjjdednlddnllaa

/- A region that draws its order, by hand: one operation is taken first, its slot named. -/
namespace Go.Proofs.Ytjjdednlddnllaa
open Go.ChangeShapes Go.WideShapes Go.ChangeAt Go.RowKit

theorem takeH {P : Program} {md : Region.Mode} {ops : Array Oper} {Q : Exit → Act → World → Prop} {S : World → Prop} {i : Nat} (d : Nat) {oi : Oper} {v : Value} {fuel : Nat} {listed : Array Bool} {a : Act} {w : World} (hi : ops[i]? = some oi) (hd : oi.dst = some d)
    (hs : Region.noSelect ops = true) (hf : Region.free md ops listed i = true) (hr : (Region.ready md ops listed).contains i = true)
    (hQ : ∀ c a w, Q (.panic c) (a.put (some d) v) w → Q (.panic c) a w) (hy : YieldsIf P ops S oi v a) (hS : S w)
    (h : wpAnyH P md ops Q S fuel (listed.setIfInBounds i true) (a.put (some d) v) w) : wpAnyH P md ops Q S (fuel + 1) listed a w := by
  rw [← hd] at h hQ
  exact wpAnyH_take hi hs hf hr hQ hy hS h

end Go.Proofs.Ytjjdednlddnllaa
