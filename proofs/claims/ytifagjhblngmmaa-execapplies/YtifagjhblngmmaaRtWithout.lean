/- The reference: entries but one of a key. -/
import Derived.Test.YtifagjhblngmmaaRtOrder
namespace Go.Proofs.Ytifagjhblngmmaa
open Go.ChangeShapes Go.WideShapes Go.ChangeAt Go.RowKit

set_option maxHeartbeats 4000000 in
theorem rwithout_any (ok : Nat → Prop) (l : List Ent) (hfew : l.length ≤ 90000) (key : List Int) (la : Option Addr) (lc : Nat) (ka : Option Addr) (kc : Nat) (w : World) (hok : Fresh ok w) (hL : Lies kEnt ok w la lc l) (hk : Octs w ka kc key) :
    Calls Try.prog 11 #[.slice la l.length lc, .slice ka key.length kc] w fun e w' => ∃ (a : Option Addr) (n c : Nat), e = .returned (.tuple #[.slice a n c, .bool (hasK l key)]) ∧ n = (dropK l key).length ∧ Lies kEnt ok w' a c (dropK l key) ∧ Ples a c ∧ Below w.heap.size w w' := by
  obtain ⟨n, hn⟩ : ∃ n, n = l.length := ⟨_, rfl⟩
  obtain ⟨km, hkm⟩ : ∃ km, km = key.length := ⟨_, rfl⟩
  rw [← hn, ← hkm]
  have HL := put_by hL
  have HK := put_by (And.intro hkm hk)
  have HN := put_by hn
  have HF := put_by hok
  have hn9 : n ≤ 90000 := by omega
  clear hL hk hkm hok hn hfew
  go_enter Try.func11, Try.ntmps11
  go_wp2
  go_loopw [6, 7, 12] (fun s hd i wr => ∃ (k : Nat) (a : Option Addr) (m c : Nat) (hv : Bool), k ≤ n ∧ i = .int .i64 k ∧ s = .slice a m c ∧ hd = .bool hv ∧ Hid (hv = hasK (l.take k) key ∧ Rows kEnt ok wr w.heap.size 40 (.slice a m c) (dropK (l.take k) key) ∧ Below w.heap.size w wr)) (fun _ _ i _ => n - (intOf i).toNat)
  case atStart => exact ⟨0, none, 0, 0, false, Nat.zero_le _, rfl, rfl, rfl, rfl, Rows.nil _ _ _ _ _, Below.refl _ _⟩
  case round =>
    obtain ⟨k, a, m, c, hv, hk, rfl, rfl, rfl, HR⟩ := hrel
    by_cases hlt : k < n
    · have hx : k < l.length := by rw [← HN.out]; exact hlt
      obtain ⟨b4, off, rfl, hb, _, cs, ⟨u, v, rfl, hu, hw⟩, hc⟩ := HL.out.at hx
      obtain ⟨xa, xc, rfl, hxo, -⟩ := id hu
      obtain ⟨ya, yc, rfl, -, -⟩ := id hw
      have d0 : wr.cell? ⟨b4, off + k * 2, none⟩ = some (.slice xa (l[k]).1.length xc) := (HR.out.2.2.cell (p := ⟨b4, off + k * 2, none⟩) hb).trans (by simpa using hc 0 _ rfl)
      have d1 : wr.cell? ⟨b4, off + k * 2 + 1, none⟩ = some (.slice ya (l[k]).2.length yc) := (HR.out.2.2.cell (p := ⟨b4, off + k * 2 + 1, none⟩) hb).trans (hc 1 _ rfl)
      have hbd : ∀ o, Below wr.heap.size wr (wr.alloc o) := fun o => (Below.refl _ wr).alloc (Nat.le_refl _) _
      have cS : Hid (∀ o, Calls Try.prog 21 #[.slice xa (l[k]).1.length xc, .slice ka km kc] (wr.alloc o) fun e w' => e = .returned (.bool (decide ((l[k]).1 = key))) ∧ w' = wr.alloc o) := fun o => by
        have hb9 := HR.out.2.2.trans ((hbd o).mono HR.out.2.2.size)
        rw [HK.out.1]
        exact bytesSame_any xa ka xc kc (l[k]).1 key _ (hxo.later hb9) (HK.out.2.later hb9)
      have HS : Hid (l.take (k + 1) = l.take k ++ [l[k]]) := List.take_succ_eq_append_getElem hx
      have hml : m = (dropK (l.take k) key).length := by
        obtain ⟨a9, c9, e9⟩ := rows_form HR.out.2.1
        simp only [Value.slice.injEq] at e9
        exact e9.2.1
      have hm9 : m ≤ 90000 := by
        have := dropK_length (l.take k) key
        rw [List.length_take] at this
        omega
      have HE : Hid (kEnt.rel (fun b => ok b ∧ (Value.slice a m c).ownBlock ≠ some b) (wr.alloc (.cells #[.slice xa (l[k]).1.length xc, .slice ya (l[k]).2.length yc] 40)) l[k] [.slice xa (l[k]).1.length xc, .slice ya (l[k]).2.length yc]) := by
        have hb9 := HR.out.2.2.trans ((hbd (.cells #[.slice xa (l[k]).1.length xc, .slice ya (l[k]).2.length yc] 40)).mono HR.out.2.2.size)
        refine kEnt.move (Kept.of_below hb9) (fun b hb ho => ⟨ho, fun e => ?_⟩) (show kEnt.rel ok w l[k] _ from ⟨_, _, rfl, hu, hw⟩)
        have := (rows_lt HR.out.2.1 b e).1
        omega
      have HRL : Hid (Rows kEnt ok (wr.alloc (.cells #[.slice xa (l[k]).1.length xc, .slice ya (l[k]).2.length yc] 40)) w.heap.size 40 (.slice a m c) (dropK (l.take k) key) ∧ Below w.heap.size w (wr.alloc (.cells #[.slice xa (l[k]).1.length xc, .slice ya (l[k]).2.length yc] 40))) := ⟨HR.out.2.1.later (hbd _), HR.out.2.2.trans ((hbd _).mono HR.out.2.2.size)⟩
      have HV : Hid (hv = hasK (l.take k) key) := HR.out.1
      have HML := put_by hml
      have ik : (k : Int) < (n : Int) := by omega
      clear hc hu hw hxo hbd hml HR
      obtain ⟨q, hq⟩ : ∃ q, q = decide ((l[k]).1 = key) := ⟨_, rfl⟩
      have HQ := put_by hq
      rw [← hq] at cS
      clear hq
      generalize (l[k]).1.length = i1 at d0 cS HE HRL
      generalize (l[k]).2.length = i2 at d1 HE HRL
      cases q with
      | true =>
        have HN3 : Hid (true = hasK (l.take (k + 1)) key ∧ Rows kEnt ok (wr.alloc (.cells #[.slice xa i1 xc, .slice ya i2 yc] 40)) w.heap.size 40 (.slice a m c) (dropK (l.take (k + 1)) key) ∧ Below w.heap.size w (wr.alloc (.cells #[.slice xa i1 xc, .slice ya i2 yc] 40))) := by
          refine ⟨?_, ?_, HRL.out.2⟩
          · rw [HS.out, hasK_snoc, ← HQ.out, Bool.or_true]
          · rw [HS.out, dropK_snoc_hit _ _ _ (of_decide_eq_true HQ.out.symm)]
            exact HRL.out.1
        clear HE HRL
        go_wp2_with (first
          | (go_at_call 21; refine (cS.out _).mono ?_; rintro e w' ⟨rfl, rfl⟩))
        go_roundw
        case rel => exact ⟨k + 1, a, m, c, true, by omega, by go_num, rfl, rfl, HN3⟩
        case measure => simp [intOf]; omega
      | false =>
        have HD : Hid (dropK (l.take (k + 1)) key = dropK (l.take k) key ++ [l[k]] ∧ hv = hasK (l.take (k + 1)) key) := by
          refine ⟨?_, ?_⟩
          · rw [HS.out, dropK_snoc_miss _ _ _ (of_decide_eq_false HQ.out.symm)]
          · rw [HS.out, hasK_snoc, ← HQ.out, Bool.or_false, HV.out]
        have HFr : Hid (Fresh ok (wr.alloc (.cells #[.slice xa i1 xc, .slice ya i2 yc] 40))) := HF.out.later HRL.out.2.size
        go_wp2_with (first
          | (go_at_call 21; refine (cS.out _).mono ?_; rintro e w' ⟨rfl, rfl⟩)
          | (at_builtin; refine wpList_append_one eltE rfl (.tmp 20) (.tmp 22) rfl w.heap.size (.slice a m c) (dropK (l.take k) key) rfl HRL.out.1 l[k] [.slice xa i1 xc, .slice ya i2 yc] _ _ (by rw [alloc_size]; rfl) rfl HE.out HFr.out (by rw [← HML.out]; omega) (by decide) HRL.out.2.size ?_; intro v' w3 hR3 hg3 hat3))
        rw [← HD.out.1] at hR3
        obtain ⟨a6, c6, e6⟩ := rows_form hR3
        generalize (dropK (l.take (k + 1)) key).length = m6 at e6
        subst e6
        have HN3 : Hid (hv = hasK (l.take (k + 1)) key ∧ Rows kEnt ok w3 w.heap.size 40 (.slice a6 m6 c6) (dropK (l.take (k + 1)) key) ∧ Below w.heap.size w w3) := ⟨HD.out.2, hR3, below_grown HRL.out.2 HRL.out.2.size hg3 (fun r e => (rows_lt HRL.out.1 r e).1)⟩
        clear hR3 hg3 hat3 HE HRL HFr
        go_wp2
        go_roundw
        case rel => exact ⟨k + 1, a6, m6, c6, hv, by omega, by go_num, rfl, rfl, HN3⟩
        case measure => simp [intOf]; omega
    · have hkn : k = n := by omega
      subst hkn
      have H9 : Hid (hv = hasK l key ∧ m = (dropK l key).length ∧ Lies kEnt ok wr a c (dropK l key) ∧ Ples a c ∧ Below w.heap.size w wr) := by
        have h := HR.out
        rw [List.take_of_length_le (by rw [← HN.out]; exact Nat.le_refl _)] at h
        obtain ⟨h1, h2, h3, -⟩ := rows_lies h.2.1 (fun b hb => HF.out b hb)
        exact ⟨h.1, h1, h2, h3, h.2.2⟩
      clear HR HL
      go_wp2
      rw [← H9.out.1]
      exact bodyPost_ret (v := .tuple #[.slice a m c, .bool hv]) (by simp [results, Try.results11, go_sem]) rfl ⟨a, m, c, rfl, H9.out.2⟩

end Go.Proofs.Ytifagjhblngmmaa
