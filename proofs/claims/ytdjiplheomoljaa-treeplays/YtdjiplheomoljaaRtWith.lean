/- The reference's comparisons of bytes, as texts. -/
import Derived.Test.YtdjiplheomoljaaTrRun
import Derived.Laws.BytesArg
import Derived.Lib.Bytes
import Derived.Test.YtdjiplheomoljaaLessBytes
namespace Go.Proofs.Ytdjiplheomoljaa
open Go.ChangeShapes Go.WideShapes Go.ChangeAt Go.RowKit

theorem octs_text {w : World} {ao : Option Addr} {cap : Nat} {xs : List Int} (h : Octs w ao cap xs) : (convert 47 9 (.slice ao xs.length cap)).run Try.prog w = .ok (.string (strOfNums xs)) w := by
  cases ao with
  | none =>
    have h0 : cap = 0 := h.2.2.1 rfl
    have h1 : xs = [] := List.length_eq_zero_iff.1 (by have := h.1; omega)
    subst h0 h1
    exact run_convert_bytes_nil (P := Try.prog) w 47 5 Try.underlying47 Try.underlying5 0 0 9 Try.underlying9
  | some ad =>
    rcases h.2.2.2.2 with q | ⟨b, off, e, hc⟩
    · subst q
      exact run_convert_bytes_back (P := Try.prog) w 47 9 5 ad cap [] Try.underlying47 Try.underlying5 Try.underlying9 (fun j hj => absurd hj (Nat.not_lt_zero _))
    · cases e
      exact run_convert_bytes_arg (P := Try.prog) w 47 5 Try.underlying47 Try.underlying5 b off xs.length cap xs rfl hc 9 Try.underlying9

theorem bytesOf_inj {xs ys : List Int} (hx : ∀ y ∈ xs, 0 ≤ y ∧ y ≤ 255) (hy : ∀ y ∈ ys, 0 ≤ y ∧ y ≤ 255) (h : Lib.bytesOf xs = Lib.bytesOf ys) : xs = ys := by
  have h1 : xs.map (fun n => UInt8.ofNat n.toNat) = ys.map (fun n => UInt8.ofNat n.toNat) := h
  clear h
  induction xs generalizing ys with
  | nil =>
    cases ys with
    | nil => rfl
    | cons y ys => simp at h1
  | cons x xs ih =>
    cases ys with
    | nil => simp at h1
    | cons y ys =>
      simp only [List.map_cons, List.cons.injEq] at h1
      have hx0 := hx x List.mem_cons_self
      have hy0 := hy y List.mem_cons_self
      have e : x = y := by
        have := congrArg UInt8.toNat h1.1
        simp only [UInt8.toNat_ofNat'] at this
        omega
      rw [e, ih (fun z hz => hx z (List.mem_cons_of_mem _ hz)) (fun z hz => hy z (List.mem_cons_of_mem _ hz)) h1.2]

theorem bytesSame_any (ao bo : Option Addr) (ca cb : Nat) (xs ys : List Int) (w : World) (hx : Octs w ao ca xs) (hy : Octs w bo cb ys) :
    Calls Try.prog 36 #[.slice ao xs.length ca, .slice bo ys.length cb] w fun e w' => e = .returned (.bool (decide (xs = ys))) ∧ w' = w := by
  have e1 := octs_text hx
  have e2 := octs_text hy
  have e3 : ((strOfNums xs).toList == (strOfNums ys).toList) = decide (xs = ys) := by
    rw [Lib.strOfNums_toList, Lib.strOfNums_toList]
    by_cases h : xs = ys
    · simp [h]
    · rw [decide_eq_false h, beq_eq_false_iff_ne]
      exact fun e => h (bytesOf_inj hx.2.2.2.1 hy.2.2.2.1 e)
  generalize decide (xs = ys) = r at e3 ⊢
  generalize strOfNums xs = s at e1 e3
  generalize strOfNums ys = t at e2 e3
  generalize xs.length = n at e1 ⊢
  generalize ys.length = m at e2 ⊢
  clear hx hy
  go_enter Try.func36, Try.ntmps36
  go_wp2
  go_ret
  exact ⟨rfl, rfl⟩

end Go.Proofs.Ytdjiplheomoljaa

/- The reference's order of texts. -/
namespace Go.Proofs.Ytdjiplheomoljaa
open Go.ChangeShapes Go.WideShapes Go.ChangeAt Go.RowKit

theorem text_at {s : ByteArray} {xs : List Int} (hs : s = strOfNums xs) (hx : ∀ y ∈ xs, 0 ≤ y ∧ y ≤ 255) {k : Nat} (hk : k < s.size) : (((s[k]'hk).toNat : Nat) : Int) = xs.getD k 0 := by
  subst hs
  have hk2 : k < xs.length := by rwa [strOfNums_size] at hk
  have h1 : (strOfNums xs)[k]'hk = UInt8.ofNat (xs[k]).toNat := by
    show (strOfNums xs).data[k] = _
    simp [strOfNums]
  rw [h1, List.getD_eq_getElem?_getD, List.getElem?_eq_getElem hk2, Option.getD_some]
  have := hx xs[k] (List.getElem_mem hk2)
  simp only [UInt8.toNat_ofNat']
  omega

set_option maxHeartbeats 4000000 in
theorem textOrder_any (s t : ByteArray) (xs ys : List Int) (hs : s = strOfNums xs) (ht : t = strOfNums ys) (hx : ∀ y ∈ xs, 0 ≤ y ∧ y ≤ 255) (hy : ∀ y ∈ ys, 0 ≤ y ∧ y ≤ 255) (hl1 : xs.length ≤ 140737488351232) (hl2 : ys.length ≤ 140737488351232) (w : World) :
    Calls Try.prog 48 #[.string s, .string t] w fun e w' => ∃ r : Int, e = .returned (.int .i64 r) ∧ decide (r < 0) = ahead xs ys ∧ Below w.heap.size w w' := by
  have hn : s.size = xs.length := by rw [hs, strOfNums_size]
  have hm : t.size = ys.length := by rw [ht, strOfNums_size]
  obtain ⟨n, hn'⟩ : ∃ n, n = s.size := ⟨_, rfl⟩
  obtain ⟨m, hm'⟩ : ∃ m, m = t.size := ⟨_, rfl⟩
  have HN : Hid (n = xs.length ∧ n = s.size ∧ s = strOfNums xs) := ⟨hn'.trans hn, hn', hs⟩
  have HM : Hid (m = ys.length ∧ m = t.size ∧ t = strOfNums ys) := ⟨hm'.trans hm, hm', ht⟩
  have hl1' : n ≤ 140737488351232 := by omega
  have hl2' : m ≤ 140737488351232 := by omega
  clear hn hm hs ht hl1 hl2 hn' hm'
  go_enter Try.func48, Try.ntmps48
  go_wp2
  go_loopw [5] (fun i wr => ∃ k : Nat, k ≤ n ∧ k ≤ m ∧ i = .int .i64 k ∧ Hid (Below w.heap.size w wr) ∧ Hid (xs.take k = ys.take k)) (fun i _ => n - (intOf i).toNat)
  case atStart => exact ⟨0, Nat.zero_le _, Nat.zero_le _, rfl, Below.refl _ _, rfl⟩
  case round =>
    obtain ⟨k, hk, hkm, rfl, HB, HT⟩ := hrel
    by_cases hlt : k < n ∧ k < m
    · have hl5 : k < n := hlt.1
      have hl6 : k < m := hlt.2
      have hk1 : k < s.size := by have := HN.out; omega
      have hk2 : k < t.size := by have := HM.out; omega
      have hl3 : (k : Int) < (s.size : Int) := by omega
      have hl4 : (k : Int) < (t.size : Int) := by omega
      have hkx : k < xs.length := by have := HN.out; omega
      have hky : k < ys.length := by have := HM.out; omega
      have x1 := text_at HN.out.2.2 hx hk1
      have y1 := text_at HM.out.2.2 hy hk2
      have R1 : Hid ((s[k]'hk1).toNat = (t[k]'hk2).toNat → xs.take (k + 1) = ys.take (k + 1)) := fun e => take_ext xs ys k hkx hky HT.out (by rw [← x1, ← y1, e])
      have R2 : Hid (¬ (s[k]'hk1).toNat = (t[k]'hk2).toNat → ahead xs ys = decide ((s[k]'hk1).toNat < (t[k]'hk2).toNat)) := fun e => by
        have h1 := ahead_differ hkx hky HT.out (by rw [← x1, ← y1]; omega)
        rw [← x1, ← y1] at h1
        rw [h1]
        by_cases h : (s[k]'hk1).toNat < (t[k]'hk2).toNat
        · rw [decide_eq_true h, decide_eq_true (by omega)]
        · rw [decide_eq_false h, decide_eq_false (by omega)]
      clear x1 y1 hkx hky hx hy
      rcases Nat.lt_trichotomy (s[k]'hk1).toNat (t[k]'hk2).toNat with hc | hc | hc
      · have R : Hid (ahead xs ys = true) := by rw [Hid, R2.out (by omega), decide_eq_true hc]
        clear hlt
        go_wp2_with (go_region)
        all_goals
          go_ret
          exact ⟨-1, rfl, by rw [R.out]; rfl, HB.out.drew⟩
      · have R := put_by (R1.out hc)
        have hc1 : ¬ (s[k]'hk1).toNat < (t[k]'hk2).toNat := by omega
        have hc2 : ¬ (t[k]'hk2).toNat < (s[k]'hk1).toNat := by omega
        clear hlt hc R1 R2
        go_wp2_with (go_region)
        all_goals
          go_roundw
          case rel => exact ⟨k + 1, by omega, by omega, by go_num, HB.out.drew.drew, R⟩
          case measure => simp [intOf]; omega
      · have R : Hid (ahead xs ys = false) := by rw [Hid, R2.out (by omega), decide_eq_false (by omega)]
        have hc1 : ¬ (s[k]'hk1).toNat < (t[k]'hk2).toNat := by omega
        clear hlt
        go_wp2_with (go_region)
        all_goals
          go_ret
          exact ⟨1, rfl, by rw [R.out]; rfl, HB.out.drew.drew⟩
    · have R : Hid (ahead xs ys = decide (n < m)) := by
        have h1 := HN.out.1
        have h2 := HM.out.1
        have h3 := ahead_ends (xs := xs) (ys := ys) (k := k) (by omega) (by omega) HT.out (by omega)
        rw [h3, h1, h2]
        rfl
      have e1 := HN.out.2.1
      have e2 := HM.out.2.1
      clear hx hy
      by_cases hl : k < n
      · have i1 : (k : Int) < (s.size : Int) := by omega
        have i2 : ¬ (k : Int) < (t.size : Int) := by omega
        have i3 : ¬ (s.size : Int) < (t.size : Int) := by omega
        have i4 : (t.size : Int) < (s.size : Int) := by omega
        have R9 : Hid (ahead xs ys = false) := by rw [Hid, R.out, decide_eq_false (by omega)]
        clear hlt e1 e2
        go_wp2
        go_ret
        exact ⟨1, rfl, by rw [R9.out]; rfl, HB.out⟩
      · have i1 : ¬ (k : Int) < (s.size : Int) := by omega
        by_cases hnm : n < m
        · have i3 : (s.size : Int) < (t.size : Int) := by omega
          have R9 : Hid (ahead xs ys = true) := by rw [Hid, R.out, decide_eq_true hnm]
          clear hlt e1 e2
          go_wp2
          go_ret
          exact ⟨-1, rfl, by rw [R9.out]; rfl, HB.out⟩
        · have i3 : ¬ (s.size : Int) < (t.size : Int) := by omega
          have i4 : ¬ (t.size : Int) < (s.size : Int) := by omega
          have R9 : Hid (ahead xs ys = false) := by rw [Hid, R.out, decide_eq_false hnm]
          clear hlt e1 e2
          go_wp2
          go_ret
          exact ⟨0, rfl, by rw [R9.out]; rfl, HB.out⟩

theorem bytesLess_any (ao bo : Option Addr) (ca cb : Nat) (xs ys : List Int) (w : World) (hx : Octs w ao ca xs) (hy : Octs w bo cb ys) :
    Calls Try.prog 37 #[.slice ao xs.length ca, .slice bo ys.length cb] w fun e w' => e = .returned (.bool (ahead xs ys)) ∧ Below w.heap.size w w' := by
  have e1 := octs_text hx
  have e2 := octs_text hy
  have cT : Hid (Calls Try.prog 48 #[.string (strOfNums xs), .string (strOfNums ys)] w fun e w' => ∃ r : Int, e = .returned (.int .i64 r) ∧ Hid (decide (r < 0) = ahead xs ys ∧ Below w.heap.size w w')) := (textOrder_any _ _ xs ys rfl rfl hx.2.2.2.1 hy.2.2.2.1 hx.2.1 hy.2.1 w).mono fun e w' ⟨r, h1, h2, h3⟩ => ⟨r, h1, h2, h3⟩
  generalize strOfNums xs = s at e1 cT
  generalize strOfNums ys = t at e2 cT
  generalize xs.length = n at e1 ⊢
  generalize ys.length = m at e2 ⊢
  clear hx hy
  go_enter Try.func37, Try.ntmps37
  go_wp2_with (first
    | (go_at_call 48; refine cT.out.mono ?_; rintro e w' ⟨r, rfl, H⟩))
  go_ret
  rw [← H.out.1]
  exact ⟨rfl, H.out.2⟩

end Go.Proofs.Ytdjiplheomoljaa

/- The reference: entries but one of a key. -/
namespace Go.Proofs.Ytdjiplheomoljaa
open Go.ChangeShapes Go.WideShapes Go.ChangeAt Go.RowKit

set_option maxHeartbeats 4000000 in
theorem rwithout_any (ok : Nat → Prop) (l : List Ent) (hfew : l.length ≤ 90000) (key : List Int) (la : Option Addr) (lc : Nat) (ka : Option Addr) (kc : Nat) (w : World) (hok : Fresh ok w) (hL : Lies kEnt ok w la lc l) (hk : Octs w ka kc key) :
    Calls Try.prog 35 #[.slice la l.length lc, .slice ka key.length kc] w fun e w' => ∃ (a : Option Addr) (n c : Nat), e = .returned (.tuple #[.slice a n c, .bool (hasK l key)]) ∧ n = (dropK l key).length ∧ Lies kEnt ok w' a c (dropK l key) ∧ Ples a c ∧ Below w.heap.size w w' := by
  obtain ⟨n, hn⟩ : ∃ n, n = l.length := ⟨_, rfl⟩
  obtain ⟨km, hkm⟩ : ∃ km, km = key.length := ⟨_, rfl⟩
  rw [← hn, ← hkm]
  have HL := put_by hL
  have HK := put_by (And.intro hkm hk)
  have HN := put_by hn
  have HF := put_by hok
  have hn9 : n ≤ 90000 := by omega
  clear hL hk hkm hok hn hfew
  go_enter Try.func35, Try.ntmps35
  go_wp2
  go_loopw [6, 7, 12] (fun s hd i wr => ∃ (k : Nat) (a : Option Addr) (m c : Nat) (hv : Bool), k ≤ n ∧ i = .int .i64 k ∧ s = .slice a m c ∧ hd = .bool hv ∧ Hid (hv = hasK (l.take k) key ∧ Rows kEnt ok wr w.heap.size 57 (.slice a m c) (dropK (l.take k) key) ∧ Below w.heap.size w wr)) (fun _ _ i _ => n - (intOf i).toNat)
  case atStart => exact ⟨0, none, 0, 0, false, Nat.zero_le _, rfl, rfl, rfl, rfl, Rows.nil _ _ _ _ _, Below.refl _ _⟩
  case round =>
    obtain ⟨k, a, m, c, hv, hk, rfl, rfl, rfl, HR⟩ := hrel
    by_cases hlt : k < n
    · have hx : k < l.length := by rw [← HN.out]; exact hlt
      obtain ⟨b4, off, rfl, hb, _, cs, ⟨u, v, rfl, hu, hw⟩, hc⟩ := HL.out.at hx
      obtain ⟨xa, xc, rfl, hxo, -⟩ := id hu
      obtain ⟨ya, yc, rfl, -, -⟩ := id hw
      have d0 : wr.cell? ⟨b4, off + k * 2, none⟩ = some (.slice xa (l[k]).1.length xc) := (HR.out.2.2.cell (p := ⟨b4, off + k * 2, none⟩) hb).trans (by simpa using hc 0 _ rfl)
      have d1 : wr.cell? ⟨b4, off + k * 2 + 1, none⟩ = some (.slice ya (l[k]).2.length yc) := (HR.out.2.2.cell (p := ⟨b4, off + k * 2 + 1, none⟩) hb).trans (hc 1 _ rfl)
      have hbd : ∀ o, Below wr.heap.size wr (wr.alloc o) := fun o => (Below.refl _ wr).alloc (Nat.le_refl _) _
      have cS : Hid (∀ o, Calls Try.prog 36 #[.slice xa (l[k]).1.length xc, .slice ka km kc] (wr.alloc o) fun e w' => e = .returned (.bool (decide ((l[k]).1 = key))) ∧ w' = wr.alloc o) := fun o => by
        have hb9 := HR.out.2.2.trans ((hbd o).mono HR.out.2.2.size)
        rw [HK.out.1]
        exact bytesSame_any xa ka xc kc (l[k]).1 key _ (hxo.later hb9) (HK.out.2.later hb9)
      have HS : Hid (l.take (k + 1) = l.take k ++ [l[k]]) := List.take_succ_eq_append_getElem hx
      have hml : m = (dropK (l.take k) key).length := by
        obtain ⟨a9, c9, e9⟩ := rows_form HR.out.2.1
        simp only [Value.slice.injEq] at e9
        exact e9.2.1
      have hm9 : m ≤ 90000 := by
        have := dropK_length (l.take k) key
        rw [List.length_take] at this
        omega
      have HE : Hid (kEnt.rel (fun b => ok b ∧ (Value.slice a m c).ownBlock ≠ some b) (wr.alloc (.cells #[.slice xa (l[k]).1.length xc, .slice ya (l[k]).2.length yc] 57)) l[k] [.slice xa (l[k]).1.length xc, .slice ya (l[k]).2.length yc]) := by
        have hb9 := HR.out.2.2.trans ((hbd (.cells #[.slice xa (l[k]).1.length xc, .slice ya (l[k]).2.length yc] 57)).mono HR.out.2.2.size)
        refine kEnt.move (Kept.of_below hb9) (fun b hb ho => ⟨ho, fun e => ?_⟩) (show kEnt.rel ok w l[k] _ from ⟨_, _, rfl, hu, hw⟩)
        have := (rows_lt HR.out.2.1 b e).1
        omega
      have HRL : Hid (Rows kEnt ok (wr.alloc (.cells #[.slice xa (l[k]).1.length xc, .slice ya (l[k]).2.length yc] 57)) w.heap.size 57 (.slice a m c) (dropK (l.take k) key) ∧ Below w.heap.size w (wr.alloc (.cells #[.slice xa (l[k]).1.length xc, .slice ya (l[k]).2.length yc] 57))) := ⟨HR.out.2.1.later (hbd _), HR.out.2.2.trans ((hbd _).mono HR.out.2.2.size)⟩
      have HV : Hid (hv = hasK (l.take k) key) := HR.out.1
      have HML := put_by hml
      have ik : (k : Int) < (n : Int) := by omega
      clear hc hu hw hxo hbd hml HR
      obtain ⟨q, hq⟩ : ∃ q, q = decide ((l[k]).1 = key) := ⟨_, rfl⟩
      have HQ := put_by hq
      rw [← hq] at cS
      clear hq
      generalize (l[k]).1.length = i1 at d0 cS HE HRL
      generalize (l[k]).2.length = i2 at d1 HE HRL
      cases q with
      | true =>
        have HN3 : Hid (true = hasK (l.take (k + 1)) key ∧ Rows kEnt ok (wr.alloc (.cells #[.slice xa i1 xc, .slice ya i2 yc] 57)) w.heap.size 57 (.slice a m c) (dropK (l.take (k + 1)) key) ∧ Below w.heap.size w (wr.alloc (.cells #[.slice xa i1 xc, .slice ya i2 yc] 57))) := by
          refine ⟨?_, ?_, HRL.out.2⟩
          · rw [HS.out, hasK_snoc, ← HQ.out, Bool.or_true]
          · rw [HS.out, dropK_snoc_hit _ _ _ (of_decide_eq_true HQ.out.symm)]
            exact HRL.out.1
        clear HE HRL
        go_wp2_with (first
          | (go_at_call 36; refine (cS.out _).mono ?_; rintro e w' ⟨rfl, rfl⟩))
        go_roundw
        case rel => exact ⟨k + 1, a, m, c, true, by omega, by go_num, rfl, rfl, HN3⟩
        case measure => simp [intOf]; omega
      | false =>
        have HD : Hid (dropK (l.take (k + 1)) key = dropK (l.take k) key ++ [l[k]] ∧ hv = hasK (l.take (k + 1)) key) := by
          refine ⟨?_, ?_⟩
          · rw [HS.out, dropK_snoc_miss _ _ _ (of_decide_eq_false HQ.out.symm)]
          · rw [HS.out, hasK_snoc, ← HQ.out, Bool.or_false, HV.out]
        have HFr : Hid (Fresh ok (wr.alloc (.cells #[.slice xa i1 xc, .slice ya i2 yc] 57))) := HF.out.later HRL.out.2.size
        go_wp2_with (first
          | (go_at_call 36; refine (cS.out _).mono ?_; rintro e w' ⟨rfl, rfl⟩)
          | (at_builtin; refine wpList_append_one eltE rfl (.tmp 20) (.tmp 22) rfl w.heap.size (.slice a m c) (dropK (l.take k) key) rfl HRL.out.1 l[k] [.slice xa i1 xc, .slice ya i2 yc] _ _ (by rw [alloc_size]; rfl) rfl HE.out HFr.out (by rw [← HML.out]; omega) (by decide) HRL.out.2.size ?_; intro v' w3 hR3 hg3 hat3))
        rw [← HD.out.1] at hR3
        obtain ⟨a6, c6, e6⟩ := rows_form hR3
        generalize (dropK (l.take (k + 1)) key).length = m6 at e6
        subst e6
        have HN3 : Hid (hv = hasK (l.take (k + 1)) key ∧ Rows kEnt ok w3 w.heap.size 57 (.slice a6 m6 c6) (dropK (l.take (k + 1)) key) ∧ Below w.heap.size w w3) := ⟨HD.out.2, hR3, below_grown HRL.out.2 HRL.out.2.size hg3 (fun r e => (rows_lt HRL.out.1 r e).1)⟩
        clear hR3 hg3 hat3 HE HRL HFr
        go_wp2
        go_roundw
        case rel => exact ⟨k + 1, a6, m6, c6, hv, by omega, by go_num, rfl, rfl, HN3⟩
        case measure => simp [intOf]; omega
    · have hkn : k = n := by omega
      subst hkn
      have H9 : Hid (hv = hasK l key ∧ m = (dropK l key).length ∧ Lies kEnt ok wr a c (dropK l key) ∧ Ples a c ∧ Below w.heap.size w wr) := by
        have h := HR.out
        rw [List.take_of_length_le (by rw [← HN.out]; exact Nat.le_refl _)] at h
        obtain ⟨h1, h2, h3, -⟩ := rows_lies h.2.1 (fun b hb => HF.out b hb)
        exact ⟨h.1, h1, h2, h3, h.2.2⟩
      clear HR HL
      go_wp2
      rw [← H9.out.1]
      exact bodyPost_ret (v := .tuple #[.slice a m c, .bool hv]) (by simp [results, Try.results35, go_sem]) rfl ⟨a, m, c, rfl, H9.out.2⟩

end Go.Proofs.Ytdjiplheomoljaa

/- The reference: entries, and one more where it belongs. -/
namespace Go.Proofs.Ytdjiplheomoljaa
open Go.ChangeShapes Go.WideShapes Go.ChangeAt Go.RowKit

/-- what with has laid so far -/
def soFar (x : Ent) (put : Bool) (m : List Ent) : List Ent := if put then insK x m else m

set_option maxHeartbeats 8000000 in
theorem rwith_any (ok : Nat → Prop) (l : List Ent) (hfew : l.length ≤ 80000) (x : Ent) (la : Option Addr) (lc : Nat) (ka va : Option Addr) (kc vc : Nat) (w : World) (hok : Fresh ok w) (hL : Lies kEnt ok w la lc l) (hk : IsBody w ok (.slice ka x.1.length kc) x.1) (hv : IsBody w ok (.slice va x.2.length vc) x.2) :
    Calls Try.prog 33 #[.slice la l.length lc, .agg #[.slice ka x.1.length kc, .slice va x.2.length vc]] w fun e w' => ∃ (a : Option Addr) (n c : Nat), e = .returned (.slice a n c) ∧ n = (putK l x).length ∧ Lies kEnt ok w' a c (putK l x) ∧ Ples a c ∧ Below w.heap.size w w' := by
  obtain ⟨rest, hrest⟩ : ∃ rest, rest = dropK l x.1 := ⟨_, rfl⟩
  have hrl : rest.length ≤ 80000 := by rw [hrest]; exact Nat.le_trans (dropK_length _ _) hfew
  have hO : Octs w ka kc x.1 := by
    obtain ⟨a9, c9, e9, o9, -⟩ := id hk
    simp only [Value.slice.injEq, true_and] at e9
    rw [e9.1, e9.2]
    exact o9
  have hba : Below w.heap.size w (w.alloc (.cells #[.slice ka x.1.length kc, .slice va x.2.length vc] 57)) := (Below.refl _ w).alloc (Nat.le_refl _) _
  have hTw := Two.new w (.slice ka x.1.length kc) (.slice va x.2.length vc) 57
  have cW : Hid (Calls Try.prog 35 #[.slice la l.length lc, .slice ka x.1.length kc] (w.alloc (.cells #[.slice ka x.1.length kc, .slice va x.2.length vc] 57)) fun e w' => ∃ (a : Option Addr) (n c : Nat) (had : Bool), e = .returned (.tuple #[.slice a n c, .bool had]) ∧ Hid (n = rest.length ∧ Lies kEnt ok w' a c rest ∧ Below w.heap.size w w' ∧ Two w' w.heap.size (.slice ka x.1.length kc) (.slice va x.2.length vc))) := by
    refine (rwithout_any ok l (by omega) x.1 la lc ka kc _ (hok.later hba.size) (hL.later hba) (hO.later hba)).mono ?_
    rintro e w' ⟨a, n, c, rfl, h1, h2, -, h4⟩
    rw [← hrest] at h1 h2
    exact ⟨a, n, c, _, rfl, h1, h2, hba.trans (h4.mono hba.size), hTw.later h4⟩
  have HX := put_by (And.intro hok (And.intro hk (And.intro hv hO)))
  have HP := put_by (show putK l x = insK x rest by rw [hrest]; rfl)
  have HRL := put_by hrl
  clear hok hk hv hO hba hTw hL hfew hrest hrl
  generalize hll : l.length = ll at cW
  generalize hkm : x.1.length = km at cW
  generalize hvm : x.2.length = vm at cW
  have HKM := put_by (And.intro hkm hvm)
  clear hll hkm hvm
  go_enter Try.func33, Try.ntmps33
  go_wp2_with (first
    | (go_at_call 35; refine cW.out.mono ?_; clear cW; rintro e w1 ⟨ra, rn, rc, had, rfl, H1⟩))
  have hr8 : rn ≤ 80000 := by rw [H1.out.1]; exact HRL.out
  go_loopw [7, 8, 20] (fun s pv i wr => ∃ (k : Nat) (a : Option Addr) (m c : Nat) (put : Bool), k ≤ rn ∧ i = .int .i64 k ∧ s = .slice a m c ∧ pv = .bool put ∧ Hid (put = overK x.1 (rest.take k) ∧ Rows kEnt ok wr w1.heap.size 57 (.slice a m c) (soFar x put (rest.take k)) ∧ Below w1.heap.size w1 wr)) (fun _ _ i _ => rn - (intOf i).toNat)
  case atStart => exact ⟨0, none, 0, 0, false, Nat.zero_le _, rfl, rfl, rfl, rfl, Rows.nil _ _ _ _ _, Below.refl _ _⟩
  case round =>
    obtain ⟨k, a, m, c, put, hk, rfl, rfl, rfl, HR⟩ := hrel
    by_cases hlt : k < rn
    · have hx : k < rest.length := by rw [← H1.out.1]; exact hlt
      obtain ⟨b4, off, rfl, hb, _, cs, ⟨u, v, rfl, hu, hw⟩, hc⟩ := H1.out.2.1.at hx
      obtain ⟨xa, xc, rfl, hxo, -⟩ := id hu
      obtain ⟨ya, yc, rfl, -, -⟩ := id hw
      have d0 : wr.cell? ⟨b4, off + k * 2, none⟩ = some (.slice xa (rest[k]).1.length xc) := (HR.out.2.2.cell (p := ⟨b4, off + k * 2, none⟩) hb).trans (by simpa using hc 0 _ rfl)
      have d1 : wr.cell? ⟨b4, off + k * 2 + 1, none⟩ = some (.slice ya (rest[k]).2.length yc) := (HR.out.2.2.cell (p := ⟨b4, off + k * 2 + 1, none⟩) hb).trans (hc 1 _ rfl)
      obtain ⟨Wa, hWa⟩ : ∃ Wa, Wa = wr.alloc (.cells #[.slice xa (rest[k]).1.length xc, .slice ya (rest[k]).2.length yc] 57) := ⟨_, rfl⟩
      have hba : Below wr.heap.size wr Wa := by rw [hWa]; exact (Below.refl _ wr).alloc (Nat.le_refl _) _
      have hTe : Two Wa wr.heap.size (.slice xa (rest[k]).1.length xc) (.slice ya (rest[k]).2.length yc) := by rw [hWa]; exact Two.new _ _ _ _
      have HTX : Hid (∀ W, Below Wa.heap.size Wa W → (Two W wr.heap.size (.slice xa (rest[k]).1.length xc) (.slice ya (rest[k]).2.length yc) ∧ Two W w.heap.size (.slice ka km kc) (.slice va vm vc)) ∧ Rows kEnt ok W w1.heap.size 57 (.slice a m c) (soFar x put (rest.take k)) ∧ Below w1.heap.size w1 W) := fun W hW =>
        ⟨⟨hTe.later hW, ((H1.out.2.2.2.later HR.out.2.2).later hba).later hW⟩, (HR.out.2.1.later hba).later hW, (HR.out.2.2.trans (hba.mono HR.out.2.2.size)).trans (hW.mono (Nat.le_trans HR.out.2.2.size hba.size))⟩
      have cL : Hid (Calls Try.prog 37 #[.slice ka km kc, .slice xa (rest[k]).1.length xc] Wa fun e w2 => e = .returned (.bool (ahead x.1 (rest[k]).1)) ∧ Hid (Below Wa.heap.size Wa w2)) := by
        have h2 := H1.out.2.2.1
        have h3 := (HTX.out Wa (Below.refl _ _)).2.2
        have := bytesLess_any ka xa kc xc x.1 (rest[k]).1 Wa (HX.out.2.2.2.later (h2.trans (h3.mono h2.size))) (hxo.later h3)
        rw [HKM.out.1] at this
        exact this
      have HS : Hid (rest.take (k + 1) = rest.take k ++ [rest[k]]) := List.take_succ_eq_append_getElem hx
      have HE : Hid (∀ (W : World) (v0 : Value), Below Wa.heap.size Wa W → (∀ g, v0.ownBlock = some g → w1.heap.size ≤ g) → kEnt.rel (fun b => ok b ∧ v0.ownBlock ≠ some b) W rest[k] [.slice xa (rest[k]).1.length xc, .slice ya (rest[k]).2.length yc]) := fun W v0 hW hv0 => by
        refine kEnt.move (Kept.of_below (HTX.out W hW).2.2) (fun b hb ho => ⟨ho, fun e => ?_⟩) (show kEnt.rel ok w1 rest[k] _ from ⟨_, _, rfl, hu, hw⟩)
        have := hv0 b e
        omega
      have HXE : Hid (∀ (W : World) (v0 : Value), Below Wa.heap.size Wa W → (∀ g, v0.ownBlock = some g → w1.heap.size ≤ g) → kEnt.rel (fun b => ok b ∧ v0.ownBlock ≠ some b) W x [.slice ka km kc, .slice va vm vc]) := fun W v0 hW hv0 => by
        have h2 := H1.out.2.2.1
        rw [← HKM.out.1, ← HKM.out.2]
        refine kEnt.move (Kept.of_below (h2.trans ((HTX.out W hW).2.2.mono h2.size))) (fun b hb ho => ⟨ho, fun e => ?_⟩) (show kEnt.rel ok w x _ from ⟨_, _, rfl, HX.out.2.1, HX.out.2.2.1⟩)
        have := hv0 b e
        have := h2.size
        omega
      have HFr : Hid (∀ W, Below Wa.heap.size Wa W → Fresh ok W) := fun W hW => HX.out.1.later (Nat.le_trans H1.out.2.2.1.size (HTX.out W hW).2.2.size)
      have HLN : Hid ((soFar x put (rest.take k)).length ≤ 80001) := by
        have h1 := HRL.out
        have h2 : (rest.take k).length ≤ rest.length := by rw [List.length_take]; omega
        unfold soFar
        show _ ≤ _
        split
        · rw [insK_length]; omega
        · omega
      have HOV : Hid (put = overK x.1 (rest.take k)) := HR.out.1
      have ik : (k : Int) < (rn : Int) := by omega
      have HRWa := put_by (HTX.out Wa (Below.refl _ _)).2
      have HREL : Hid (kEnt.rel ok w1 rest[k] [.slice xa (rest[k]).1.length xc, .slice ya (rest[k]).2.length yc]) := ⟨_, _, rfl, hu, hw⟩
      have HOWN : Hid (∀ g, (Value.slice a m c).ownBlock = some g → g < wr.heap.size) := fun g e => (rows_lt HR.out.2.1 g e).2
      subst hWa
      clear hc hu hw hxo hba hTe HR
      generalize hi1 : (rest[k]).1.length = i1 at d0 cL HE HTX HXE HFr HRWa HREL
      generalize hi2 : (rest[k]).2.length = i2 at d1 cL HE HTX HXE HFr HRWa HREL
      clear hi1 hi2
      cases put with
      | true =>
        have HEE := put_by (HE.out _ (.slice a m c) (Below.refl _ _) (fun g e => (rows_lt HRWa.out.1 g e).1))
        have HFF := put_by (HFr.out _ (Below.refl _ _))
        clear cL
        go_wp2_with (first
          | (at_builtin; refine wpList_append_one eltE rfl (.tmp 37) (.tmp 39) rfl w1.heap.size (.slice a m c) (soFar x true (rest.take k)) rfl HRWa.out.1 rest[k] [.slice xa i1 xc, .slice ya i2 yc] _ _ (by rw [alloc_size]; rfl) rfl HEE.out HFF.out (by have := HLN.out; omega) (by decide) HRWa.out.2.size ?_; intro v' w3 hR3 hg3 hat3))
        have hl6 := hR3
        obtain ⟨a6, c6, e6⟩ := rows_form hR3
        generalize hq6 : (soFar x true (rest.take k) ++ [rest[k]]).length = m6 at e6
        clear hq6
        subst e6
        have HN3 : Hid (true = overK x.1 (rest.take (k + 1)) ∧ Rows kEnt ok w3 w1.heap.size 57 (.slice a6 m6 c6) (soFar x true (rest.take (k + 1))) ∧ Below w1.heap.size w1 w3) := by
          refine ⟨by rw [HS.out, overK_snoc, ← HOV.out, Bool.true_or], ?_, below_grown HRWa.out.2 HRWa.out.2.size hg3 (fun r e => (rows_lt HRWa.out.1 r e).1)⟩
          have : soFar x true (rest.take (k + 1)) = soFar x true (rest.take k) ++ [rest[k]] := by rw [HS.out]; exact insK_snoc x rest[k] _ HOV.out.symm
          rw [this]
          exact hR3
        clear hR3 hg3 hat3 hl6
        go_wp2
        go_roundw
        case rel => exact ⟨k + 1, a6, m6, c6, true, by omega, by go_num, rfl, rfl, HN3⟩
        case measure => simp [intOf]; omega
      | false =>
        obtain ⟨q, hq⟩ : ∃ q, q = ahead x.1 (rest[k]).1 := ⟨_, rfl⟩
        have HQ := put_by hq
        rw [← hq] at cL
        clear hq
        obtain ⟨⟨-, ⟨p0, p1, -, -⟩⟩, -⟩ := HTX.out _ (Below.refl _ _)
        cases q with
        | false =>
          go_wp2_with (first
            | (go_at_call 37; refine cL.out.mono ?_; clear cL; rintro e w2 ⟨rfl, B2⟩; obtain ⟨⟨⟨y0, y1, -, -⟩, -⟩, -⟩ := HTX.out w2 B2.out; have HR2 := put_by (HTX.out w2 B2.out).2; have HE2 := put_by (HE.out w2 (.slice a m c) B2.out (fun g e => (rows_lt HR2.out.1 g e).1)); have HF2 := put_by (HFr.out w2 B2.out))
            | (at_builtin; refine wpList_append_one eltE rfl (.tmp 37) (.tmp 39) rfl w1.heap.size (.slice a m c) (soFar x false (rest.take k)) rfl HR2.out.1 rest[k] [.slice xa i1 xc, .slice ya i2 yc] _ _ rfl rfl HE2.out HF2.out (by have := HLN.out; omega) (by decide) HR2.out.2.size ?_; intro v' w3 hR3 hg3 hat3))
          obtain ⟨a6, c6, e6⟩ := rows_form hR3
          generalize hq6 : (soFar x false (rest.take k) ++ [rest[k]]).length = m6 at e6
          clear hq6
          subst e6
          have HN3 : Hid (false = overK x.1 (rest.take (k + 1)) ∧ Rows kEnt ok w3 w1.heap.size 57 (.slice a6 m6 c6) (soFar x false (rest.take (k + 1))) ∧ Below w1.heap.size w1 w3) := by
            refine ⟨by rw [HS.out, overK_snoc, ← HOV.out, ← HQ.out, Bool.or_self], ?_, below_grown HR2.out.2 HR2.out.2.size hg3 (fun r e => (rows_lt HR2.out.1 r e).1)⟩
            have : soFar x false (rest.take (k + 1)) = soFar x false (rest.take k) ++ [rest[k]] := by rw [HS.out]; rfl
            rw [this]
            exact hR3
          clear hR3 hg3 hat3
          go_wp2
          go_roundw
          case rel => exact ⟨k + 1, a6, m6, c6, false, by omega, by go_num, rfl, rfl, HN3⟩
          case measure => simp [intOf]; omega
        | true =>
          go_wp2_with (first
            | (go_at_call 37; refine cL.out.mono ?_; clear cL; rintro e w2 ⟨rfl, B2⟩; obtain ⟨⟨⟨y0, y1, -, -⟩, ⟨y2, y3, -, -⟩⟩, -⟩ := HTX.out w2 B2.out; have HR2 := put_by (HTX.out w2 B2.out).2; have HE2 := put_by (HXE.out w2 (.slice a m c) B2.out (fun g e => (rows_lt HR2.out.1 g e).1)); have HF2 := put_by (HFr.out w2 B2.out))
            | (at_builtin; refine wpList_append_one eltE rfl (.tmp 33) (.tmp 35) rfl w1.heap.size (.slice a m c) (soFar x false (rest.take k)) rfl HR2.out.1 x [.slice ka km kc, .slice va vm vc] _ _ rfl rfl HE2.out HF2.out (by have := HLN.out; omega) (by decide) HR2.out.2.size ?_; intro v' w3 hR3 hg3 hat3; refine hidGoal ?_))
          obtain ⟨a5, c5, e5⟩ := rows_form hR3
          generalize hq5 : (soFar x false (rest.take k) ++ [x]).length = m5 at e5
          have hm5 : m5 ≤ 80002 := by rw [← hq5, List.length_append]; have := HLN.out; simp; omega
          have HM5 := put_by hq5
          clear hq5
          subst e5
          have hwr : wr.heap.size < w2.heap.size := World.block_lt_of_cell? _ _ y0
          have ew : w3.heap[wr.heap.size]? = w2.heap[wr.heap.size]? := hg3.block _ hwr (fun e => by have := HOWN.out _ e.symm; omega)
          have z0 := (World.cell?_of_block (w := w2) ew).trans y0
          have z1 := (World.cell?_of_block (w := w2) ew).trans y1
          have hB3 : Below w1.heap.size w1 w3 := below_grown HR2.out.2 HR2.out.2.size hg3 (fun r e => (rows_lt HR2.out.1 r e).1)
          have HE3 : Hid (kEnt.rel (fun b => ok b ∧ (Value.slice a5 m5 c5).ownBlock ≠ some b) w3 rest[k] [.slice xa i1 xc, .slice ya i2 yc]) := by
            refine kEnt.move (Kept.of_below hB3) (fun b hb ho => ⟨ho, fun e => ?_⟩) HREL.out
            have := (rows_lt hR3 b e).1
            omega
          have HR3 := put_by (And.intro hR3 hB3)
          have HF3 : Hid (Fresh ok w3) := HF2.out.later hg3.size
          clear hR3 hg3 hat3 hB3 ew y0 y1 y2 y3 p0 p1 HE2
          unfold Hid
          go_wp2_with (first
            | (at_builtin; refine wpList_append_one eltE rfl (.tmp 37) (.tmp 39) rfl w1.heap.size (.slice a5 m5 c5) (soFar x false (rest.take k) ++ [x]) rfl HR3.out.1 rest[k] [.slice xa i1 xc, .slice ya i2 yc] _ _ rfl rfl HE3.out HF3.out (by rw [HM5.out]; omega) (by decide) HR3.out.2.size ?_; intro v' w4 hR4 hg4 hat4))
          obtain ⟨a6, c6, e6⟩ := rows_form hR4
          generalize hq6 : (soFar x false (rest.take k) ++ [x] ++ [rest[k]]).length = m6 at e6
          clear hq6
          subst e6
          have HN3 : Hid (true = overK x.1 (rest.take (k + 1)) ∧ Rows kEnt ok w4 w1.heap.size 57 (.slice a6 m6 c6) (soFar x true (rest.take (k + 1))) ∧ Below w1.heap.size w1 w4) := by
            refine ⟨by rw [HS.out, overK_snoc, ← HQ.out, Bool.or_true], ?_, below_grown HR3.out.2 HR3.out.2.size hg4 (fun r e => (rows_lt HR3.out.1 r e).1)⟩
            have : soFar x true (rest.take (k + 1)) = soFar x false (rest.take k) ++ [x] ++ [rest[k]] := by
              rw [HS.out, List.append_assoc]
              exact insK_hit x rest[k] _ HOV.out.symm HQ.out.symm
            rw [this]
            exact hR4
          clear hR4 hg4 hat4
          go_wp2
          go_roundw
          case rel => exact ⟨k + 1, a6, m6, c6, true, by omega, by go_num, rfl, rfl, HN3⟩
          case measure => simp [intOf]; omega
    · have hkn : k = rn := by omega
      subst hkn
      have HT : Hid (put = overK x.1 rest ∧ Rows kEnt ok wr w1.heap.size 57 (.slice a m c) (soFar x put rest) ∧ Below w1.heap.size w1 wr) := by
        have h := HR.out
        rw [List.take_of_length_le (by rw [← H1.out.1]; exact Nat.le_refl _)] at h
        exact h
      have hBw : Hid (Below w.heap.size w wr) := H1.out.2.2.1.trans (HT.out.2.2.mono H1.out.2.2.1.size)
      have hTx := H1.out.2.2.2.later HT.out.2.2
      obtain ⟨p0, p1, -, -⟩ := hTx
      clear HR
      cases put with
      | true =>
        have H9 : Hid (m = (putK l x).length ∧ Lies kEnt ok wr a c (putK l x) ∧ Ples a c ∧ Below w.heap.size w wr) := by
          obtain ⟨h1, h2, h3, -⟩ := rows_lies HT.out.2.1 (fun b hb => HX.out.1 b (Nat.le_trans H1.out.2.2.1.size hb))
          rw [HP.out]
          exact ⟨h1, h2, h3, hBw.out⟩
        clear HT
        go_wp2
        exact bodyPost_ret (v := .slice a m c) (by simp [results, Try.results33, go_sem]) rfl ⟨a, m, c, rfl, H9.out⟩
      | false =>
        have HE2 : Hid (kEnt.rel (fun b => ok b ∧ (Value.slice a m c).ownBlock ≠ some b) wr x [.slice ka km kc, .slice va vm vc]) := by
          rw [← HKM.out.1, ← HKM.out.2]
          refine kEnt.move (Kept.of_below hBw.out) (fun b hb ho => ⟨ho, fun e => ?_⟩) (show kEnt.rel ok w x _ from ⟨_, _, rfl, HX.out.2.1, HX.out.2.2.1⟩)
          have := (rows_lt HT.out.2.1 b e).1
          have := H1.out.2.2.1.size
          omega
        have HF2 : Hid (Fresh ok wr) := HX.out.1.later hBw.out.size
        go_wp2_with (first
          | (at_builtin; refine wpList_append_one eltE rfl (.tmp 44) (.tmp 46) rfl w1.heap.size (.slice a m c) (soFar x false rest) rfl HT.out.2.1 x [.slice ka km kc, .slice va vm vc] _ _ rfl rfl HE2.out HF2.out (by have := HRL.out; show rest.length + 1 ≤ 100000; omega) (by decide) HT.out.2.2.size ?_; intro v' w3 hR3 hg3 hat3))
        obtain ⟨a6, c6, e6⟩ := rows_form hR3
        generalize hq6 : (soFar x false rest ++ [x]).length = m6 at e6
        have H9 : Hid (m6 = (putK l x).length ∧ Lies kEnt ok w3 a6 c6 (putK l x) ∧ Ples a6 c6 ∧ Below w.heap.size w w3) := by
          have hp : putK l x = soFar x false rest ++ [x] := by rw [HP.out]; exact insK_last x rest HT.out.1.symm
          subst e6
          obtain ⟨h1, h2, h3, -⟩ := rows_lies hR3 (fun b hb => HX.out.1 b (Nat.le_trans H1.out.2.2.1.size hb))
          rw [hp]
          exact ⟨h1, h2, h3, below_grown hBw.out hBw.out.size hg3 (fun r e => by have := (rows_lt HT.out.2.1 r e).1; have := H1.out.2.2.1.size; omega)⟩
        clear hq6 hR3 hg3 hat3
        subst e6
        go_wp2
        exact bodyPost_ret (v := .slice a6 m6 c6) (by simp [results, Try.results33, go_sem]) rfl ⟨a6, m6, c6, rfl, H9.out⟩

end Go.Proofs.Ytdjiplheomoljaa
