/- What was changed since a base: changedSince and hasChanged. -/
import Derived.Test.YtjjdednlddnllaaMlFind
import Derived.Test.YtjjdednlddnllaaMlSnap
namespace Go.Proofs.Ytjjdednlddnllaa
open Go.ChangeShapes Go.WideShapes Go.ChangeAt Go.RowKit

/-- keys that are told -/
def ChPost (ks : List (List Int)) (w : World) (e : Ending) (w' : World) : Prop := ∃ (a : Option Addr) (m c : Nat), e = .returned (.slice a m c) ∧ m = ks.length ∧ Lies kKey (fun _ => True) w' a c ks ∧ Below w.heap.size w w'

set_option maxRecDepth 100000 in
set_option maxHeartbeats 2000000 in
theorem changedSince_any (ok : Nat → Prop) (P : Nat) (b : Int) (cs : List Cel) (ca : Option Addr) (cc : Nat) (w : World) (hP : w.cell? ⟨P, 1, none⟩ = some (.slice ca cs.length cc)) (hL : Lies kCel ok w ca cc cs) (hf : cs.length * 64 ≤ 140737488351232) :
    Calls Try.prog 100 #[.pointer (some ⟨P, 0, none⟩), .int .i64 b] w fun e w' => ChPost (changedK cs b) w e w' := by
  generalize hpost : (fun e w' => ChPost (changedK cs b) w e w') = Q
  have HP : Hid (∀ e w', ChPost (changedK cs b) w e w' → Q e w') := fun e w' h => by rw [← hpost]; exact h
  clear hpost
  obtain ⟨n, hn⟩ : ∃ n, n = cs.length := ⟨_, rfl⟩
  rw [← hn] at hP hf
  have HL := put_by hL
  have HN := put_by hn
  have H8 := put_by hf
  have hn9 : n ≤ 140737488351232 := by omega
  clear hL hn hf
  go_enter Try.func100, Try.ntmps100
  go_upto_region 3 with (fail)
  go_loopw [5, 14] (fun s i wr => ∃ (k : Nat) (a : Option Addr) (m c : Nat), k ≤ n ∧ i = .int .i64 k ∧ s = .slice a m c ∧ Hid (Rows kKey (fun _ => True) wr w.heap.size 38 (.slice a m c) (changedK (cs.take k) b) ∧ Below w.heap.size w wr)) (fun _ i _ => n - (intOf i).toNat)
  case atStart => exact ⟨0, none, 0, 0, Nat.zero_le _, rfl, rfl, Rows.nil _ _ _ _ _, Below.refl _ _⟩
  case round =>
    obtain ⟨k, a, m, c, hk, rfl, rfl, HR⟩ := hrel
    rename World => wr
    clear hP
    by_cases hlt : k < n
    · have hx : k < cs.length := by rw [← HN.out]; exact hlt
      obtain ⟨bb, off, a1, c1, a2, c2, rfl, hk1, hk2, hb, hc⟩ := cel_at HL.out hx
      obtain ⟨d0, d1, d2, d3⟩ := hc wr HR.out.2
      have ik : (k : Int) < (n : Int) := by omega
      have HT := put_by (changedK_take (b := b) hx)
      have HK1 := put_by hk1
      obtain ⟨x, hxx⟩ : ∃ x, x = cs[k] := ⟨_, rfl⟩
      rw [← hxx] at d0 d1 d2 d3 HT HK1
      obtain ⟨kk, vv, g, s⟩ := x
      simp only at d0 d1 d2 d3
      clear hc hk1 hk2 hxx hb
      generalize vv.length = i2 at d1
      have HBa : Hid (Below w.heap.size w (wr.alloc (.cells #[.slice a1 kk.length c1, .slice a2 i2 c2, .bool g, .int .i64 s] 55))) := HR.out.2.trans (((Below.refl _ wr).alloc (Nat.le_refl _) _).mono HR.out.2.size)
      have HRw := put_by (HR.out.1.later ((Below.refl wr.heap.size wr).alloc (Nat.le_refl _) (.cells #[.slice a1 kk.length c1, .slice a2 i2 c2, .bool g, .int .i64 s] 55)))
      by_cases hs : b < s
      · have HS : Hid (changedK (cs.take (k + 1)) b = changedK (cs.take k) b ++ [kk]) := by
          have h := HT.out
          simp only [hs, if_true] at h
          exact h
        have HE : Hid (kKey.rel (fun b => True ∧ (Value.slice a m c).ownBlock ≠ some b) (wr.alloc (.cells #[.slice a1 kk.length c1, .slice a2 i2 c2, .bool g, .int .i64 s] 55)) kk [.slice a1 kk.length c1]) := by
          obtain ⟨xa, xc, e1, hxo, hxb⟩ := HK1.out
          cases e1
          refine ⟨_, rfl, _, _, rfl, hxo.later HBa.out, fun hne ad e => ⟨trivial, fun e2 => ?_⟩⟩
          have h1 := hxo.blocks hne ad e
          have h2 := (rows_lt HR.out.1 _ e2).1
          omega
        have HKL : Hid (((changedK (cs.take k) b).length + 1) * 24 ≤ 140737488355328) := by
          have h1 := changedK_few (cs.take k) b
          rw [List.length_take] at h1
          have h2 := H8.out
          show _ ≤ _
          omega
        have x0 : (wr.alloc (.cells #[.slice a1 kk.length c1, .slice a2 i2 c2, .bool g, .int .i64 s] 55)).cell? ⟨wr.heap.size, 0, none⟩ = some (.slice a1 kk.length c1) := by simp
        clear HT HR HK1
        generalize kk.length = i1 at d0 HBa HRw HE x0
        go_upto_region 6 with (fail)
        generalize wr.alloc (.cells #[.slice a1 i1 c1, .slice a2 i2 c2, .bool g, .int .i64 s] 55) = W0 at HBa HRw HE x0 ⊢
        go_upto_region 7 with (first
          | (at_builtin; refine wpList_append_oneB eltK rfl (.tmp 22) (.tmp 25) rfl w.heap.size (.slice a m c) (changedK (cs.take k) b) rfl HRw.out kk [.slice a1 i1 c1] _ _ rfl rfl HE.out (fun _ _ => trivial) HKL.out (by decide) HBa.out.size ?_; intro v' w5 r1 r2 r3))
        obtain ⟨a6, c6, e6⟩ := rows_form r1
        subst e6
        have H5 : Hid (Rows kKey (fun _ => True) w5 w.heap.size 38 (.slice a6 (changedK (cs.take k) b ++ [kk]).length c6) (changedK (cs.take (k + 1)) b) ∧ Below w.heap.size w w5) := by
          rw [HS.out]
          exact ⟨r1, below_grown HBa.out HBa.out.size r2 (fun r hr => (rows_lt HRw.out r hr).1)⟩
        clear r1 r2 r3 HE HRw HBa x0
        generalize (changedK (cs.take k) b ++ [kk]).length = m6 at H5
        go_wp2
        go_roundw
        case rel => exact ⟨k + 1, a6, m6, c6, by omega, by go_num, rfl, H5.out⟩
        case measure => simp [intOf]; omega
      · have HS : Hid (changedK (cs.take (k + 1)) b = changedK (cs.take k) b) := by
          have h := HT.out
          simp only [hs, if_false, List.append_nil] at h
          exact h
        clear HT HR HK1
        generalize kk.length = i1 at d0 HBa HRw
        go_wp2
        go_roundw
        case rel => exact ⟨k + 1, a, m, c, by omega, by go_num, rfl, by rw [HS.out]; exact ⟨HRw.out, HBa.out⟩⟩
        case measure => simp [intOf]; omega
    · have hkn : k = n := by omega
      subst hkn
      have H9 : Hid (ChPost (changedK cs b) w (.returned (.slice a m c)) wr) := by
        have h := HR.out
        rw [List.take_of_length_le (by rw [← HN.out]; exact Nat.le_refl _)] at h
        obtain ⟨h1, h2, -, -⟩ := rows_lies h.1 (fun _ _ => trivial)
        exact ⟨a, m, c, rfl, h1, h2, h.2⟩
      clear HR
      go_wp2
      exact HP.out _ _ H9.out

set_option maxRecDepth 100000 in
set_option maxHeartbeats 2000000 in
theorem hasChanged_any (ok ok2 : Nat → Prop) (P : Nat) (b : Int) (cs : List Cel) (ha : AscC cs) (ca : Option Addr) (cc : Nat) (rs : List Ent) (ra : Option Addr) (rc : Nat) (w : World) (hP : w.cell? ⟨P, 1, none⟩ = some (.slice ca cs.length cc)) (hL : Lies kCel ok w ca cc cs) (hf : cs.length * 64 ≤ 140737488351232) (hR : Lies kEnt ok2 w ra rc rs) (hr : rs.length ≤ 140737488351232) :
    Calls Try.prog 77 #[.pointer (some ⟨P, 0, none⟩), .slice ra rs.length rc, .int .i64 b] w fun e w' => e = .returned (.bool (rs.any (hitK (changedK cs b)))) ∧ Below w.heap.size w w' := by
  generalize hpost : (fun (e : Ending) (w' : World) => e = .returned (.bool (rs.any (hitK (changedK cs b)))) ∧ Below w.heap.size w w') = Q
  have HP : Hid (∀ (r : Bool) w', r = rs.any (hitK (changedK cs b)) → Below w.heap.size w w' → Q (.returned (.bool r)) w') := fun r w' h1 h2 => by rw [← hpost, h1]; exact ⟨rfl, h2⟩
  clear hpost
  obtain ⟨n, hn⟩ : ∃ n, n = rs.length := ⟨_, rfl⟩
  have c0 : Hid (Calls Try.prog 100 #[.pointer (some ⟨P, 0, none⟩), .int .i64 b] w fun e w' => ∃ (a : Option Addr) (m c : Nat), e = .returned (.slice a m c) ∧ m ≤ 140737488351232 ∧ Hid (m = (changedK cs b).length ∧ Lies kKey (fun _ => True) w' a c (changedK cs b) ∧ Below w.heap.size w w')) := by
    refine (changedSince_any ok P b cs ca cc w hP hL hf).mono ?_
    rintro e w' ⟨a, m, c, h1, h2, h3, h4⟩
    exact ⟨a, m, c, h1, by have := changedK_few cs b; omega, h2, h3, h4⟩
  have HA := put_by (changedK_asc ha b)
  have HKF : Hid ((changedK cs b).length ≤ 140737488351232) := by have := changedK_few cs b; show _ ≤ _; omega
  generalize changedK cs b = ks at c0 HA HKF HP
  rw [← hn] at hr ⊢
  have HL := put_by hR
  have HN := put_by hn
  clear hP hL hf hR hn
  cases n with
  | zero =>
    have h0 : rs = [] := List.length_eq_zero_iff.1 HN.out.symm
    subst h0
    go_enter Try.func77, Try.ntmps77
    go_wp2
    exact HP.out _ _ rfl (Below.refl _ _)
  | succ n0 =>
    obtain ⟨n, hn0⟩ : ∃ n, n = n0 + 1 := ⟨_, rfl⟩
    rw [← hn0] at HN hr ⊢
    have hnz : ¬ (n : Int) = 0 := by omega
    clear hn0
    go_enter Try.func77, Try.ntmps77
    go_upto_region 5 with (first
      | (go_at_call 100; (with_reducible refine c0.out.mono ?_); clear c0; rintro e w1 ⟨a, m, c, rfl, hm9, H1⟩))
    go_loopw [20] (fun i wr => ∃ (k : Nat), k ≤ n ∧ i = .int .i64 k ∧ Hid ((rs.take k).any (hitK ks) = false ∧ Below w1.heap.size w1 wr)) (fun i _ => n - (intOf i).toNat)
    case atStart => exact ⟨0, Nat.zero_le _, rfl, rfl, Below.refl _ _⟩
    case round =>
      obtain ⟨k, hk, rfl, HR⟩ := hrel
      rename World => wr
      by_cases hlt : k < n
      · have hx : k < rs.length := by rw [← HN.out]; exact hlt
        have HB1 := put_by (H1.out.2.2.trans (HR.out.2.mono H1.out.2.2.size))
        obtain ⟨bb, off, a1, c1, a2, c2, rfl, hk1, hk2, hc⟩ := ent_at HL.out hx
        obtain ⟨d0, d1⟩ := hc wr HB1.out
        have ik : (k : Int) < (n : Int) := by omega
        obtain ⟨xa, xc, e1, hxo, -⟩ := hk1
        cases e1
        obtain ⟨ya, yc, e2, hyo, -⟩ := hk2
        cases e2
        have HT : Hid ((rs.take (k + 1)).any (hitK ks) = hitK ks rs[k] ∧ (hitK ks rs[k] = true → rs.any (hitK ks) = true)) := by
          refine ⟨?_, fun h => List.any_eq_true.2 ⟨_, List.getElem_mem hx, h⟩⟩
          rw [take_succ' hx, List.any_append, HR.out.1]
          simp
        have HXO : Hid (∀ W, Below w.heap.size w W → Octs W a1 c1 (rs[k]).1 ∧ Octs W a2 c2 (rs[k]).2) := fun W hW => ⟨hxo.later hW, hyo.later hW⟩
        obtain ⟨x, hxx⟩ : ∃ x, x = rs[k] := ⟨_, rfl⟩
        rw [← hxx] at d0 d1 HT HXO
        obtain ⟨lo, hi⟩ := x
        simp only at d0 d1 HXO
        clear hc hxo hyo hxx
        have HBw : Hid (Below w1.heap.size w1 (wr.alloc (.cells #[.slice a1 lo.length c1, .slice a2 hi.length c2] 97))) := HR.out.2.trans (((Below.refl _ wr).alloc (Nat.le_refl _) _).mono HR.out.2.size)
        have cF : Hid (∀ W, Below w1.heap.size w1 W → Calls Try.prog 101 #[.slice a m c, .slice a1 lo.length c1, .func (.func 47) #[] #[]] W fun e w' => FindPost (fun x : List Int => cmpK x lo) ks W e w') := fun W hW => by
          have := findK_any (fun _ => True) ks HKF.out HA.out a c a1 c1 lo W (H1.out.2.1.later hW) (HXO.out W (H1.out.2.2.trans (hW.mono H1.out.2.2.size))).1
          rw [← H1.out.1] at this
          exact this
        have x0 : (wr.alloc (.cells #[.slice a1 lo.length c1, .slice a2 hi.length c2] 97)).cell? ⟨wr.heap.size, 0, none⟩ = some (.slice a1 lo.length c1) := by simp
        have x1 : (wr.alloc (.cells #[.slice a1 lo.length c1, .slice a2 hi.length c2] 97)).cell? ⟨wr.heap.size, 1, none⟩ = some (.slice a2 hi.length c2) := by simp
        have hsz : wr.heap.size < (wr.alloc (.cells #[.slice a1 lo.length c1, .slice a2 hi.length c2] 97)).heap.size := by simp
        clear HR HB1
        go_upto_region 7 with (fail)
        generalize wr.alloc (.cells #[.slice a1 lo.length c1, .slice a2 hi.length c2] 97) = W0 at HBw x0 x1 hsz ⊢
        have cF2 : Hid (Calls Try.prog 101 #[.slice a m c, .slice a1 lo.length c1, .func (.func 47) #[] #[]] W0 fun e w' => ∃ (q : Nat) (t : Bool), e = .returned (.tuple #[.int .i64 q, .bool t]) ∧ w'.cell? ⟨wr.heap.size, 1, none⟩ = some (.slice a2 hi.length c2) ∧ Hid ((∃ l r, ks = l ++ r ∧ l.length = q ∧ (∀ y ∈ l, ahead y lo = true) ∧ (∀ y ∈ r, ahead y lo = false)) ∧ Below w1.heap.size w1 w')) := by
          refine (cF.out W0 HBw.out).mono ?_
          rintro e w' ⟨l, r, h1, h2, h3, h4, h5⟩
          refine ⟨l.length, _, h4, (h5.cell (p := ⟨wr.heap.size, 1, none⟩) hsz).trans x1, ⟨l, r, h1, rfl, fun y hy => cmpK_neg.1 (h2 y hy), fun y hy => ?_⟩, HBw.out.trans (h5.mono HBw.out.size)⟩
          have h6 : 0 ≤ cmpK y lo := h3 y hy
          cases q : ahead y lo with
          | false => rfl
          | true => have := cmpK_neg.2 q; omega
        have cC : Hid (∀ (ay : Option Addr) (cy : Nat) (y : List Int) (V : World), Below w1.heap.size w1 V → Octs V ay cy y → Calls Try.prog 47 #[.slice ay y.length cy, .slice a2 hi.length c2] V fun e w' => e = .returned (.int .i64 (cmpK y hi)) ∧ w' = V) := fun ay cy y V hV hy => Compare_any ay a2 cy c2 y hi V hy (HXO.out V (H1.out.2.2.trans (hV.mono H1.out.2.2.size))).2
        clear cF hsz HXO
        have HM : Hid (hitK ks (lo, hi) = true → rs.any (hitK ks) = true) := HT.out.2
        have HT2 : Hid ((rs.take (k + 1)).any (hitK ks) = hitK ks (lo, hi)) := HT.out.1
        clear HT
        generalize hi.length = i2 at x1 cF2 cC
        generalize lo.length = i1 at x0 cF2
        go_upto_region 8 with (first
          | (go_at_call 101; (with_reducible refine cF2.out.mono ?_); clear cF2; rintro e w5 ⟨q, t, rfl, y1, H5⟩))
        clear x0 x1
        obtain ⟨l, r, hks, hlq, hl1, hr1⟩ := H5.out.1
        have HHF := put_by (hit_first (x := (lo, hi)) hks HA.out hl1 hr1)
        cases r with
        | nil =>
          have hqm : ¬ (q : Int) < (m : Int) := by have := H1.out.1; rw [hks, List.append_nil] at this; omega
          have hqd : decide ((q : Int) < (m : Int)) = false := decide_eq_false hqm
          have H9 : Hid ((rs.take (k + 1)).any (hitK ks) = false) := HT2.out.trans HHF.out
          clear hks hlq hl1 hr1 HHF HM HT2
          go_quiet (fail)
          go_wp2
          go_roundw
          case rel => exact ⟨k + 1, by omega, by go_num, H9.out, drawn_below H5.out.2 _⟩
          case measure => simp [intOf]; omega
        | cons y r =>
          have hql : q < ks.length := by rw [hks, List.length_append, List.length_cons]; omega
          have hqm : (q : Int) < (m : Int) := by have := H1.out.1; omega
          have hqd : decide ((q : Int) < (m : Int)) = true := decide_eq_true hqm
          have hky : ks[q] = y := by
            subst hlq
            simp [hks]
          obtain ⟨bk, ok', ay, cy, rfl, hbk, hoy, hcy⟩ := key_at H1.out.2.1 hql
          rw [hky] at hoy hcy
          have z5 := hcy w5 H5.out.2
          have cC2 : Hid (∀ j, Calls Try.prog 47 #[.slice ay y.length cy, .slice a2 i2 c2] (w5.drewN j) fun e w' => e = .returned (.int .i64 (cmpK y hi)) ∧ w' = w5.drewN j) := fun j => cC.out ay cy y _ (drawn_below H5.out.2 j) (hoy.later (drawn_below H5.out.2 j))
          have HCM := put_by (cmpK_neg (x := y) (y := hi))
          have hcw := cmpK_wf y hi
          clear hks hlq hl1 hr1 cC hky hoy hcy hql hbk
          generalize y.length = iy at z5 cC2
          have HF : Hid (hitK ks (lo, hi) = ahead y hi) := HHF.out
          clear HHF
          generalize cmpK y hi = cm at cC2 HCM hcw
          go_quiet (first | (go_at_call 47; with_reducible exact Calls.quiet_of_same (cC2.out _)))
          by_cases hcz : cm < 0
          · have h1 := HM.out (HF.out.trans (HCM.out.1 hcz))
            have H9 := put_by h1
            clear h1 HM
            go_wp2
            exact HP.out _ _ H9.out.symm (H1.out.2.2.trans ((drawn_below H5.out.2 _).mono H1.out.2.2.size))
          · have h1 : ahead y hi = false := by
              cases q9 : ahead y hi with
              | false => rfl
              | true => exact absurd (HCM.out.2 q9) hcz
            have H9 : Hid ((rs.take (k + 1)).any (hitK ks) = false) := HT2.out.trans (HF.out.trans h1)
            clear h1
            go_wp2
            go_roundw
            case rel => exact ⟨k + 1, by omega, by go_num, H9.out, drawn_below H5.out.2 _⟩
            case measure => simp [intOf]; omega
      · have hkn : k = n := by omega
        subst hkn
        have h0 : rs.any (hitK ks) = false := by
          have h := HR.out.1
          rwa [List.take_of_length_le (by rw [← HN.out]; exact Nat.le_refl _)] at h
        have H9 := put_by h0
        have HB := put_by (H1.out.2.2.trans (HR.out.2.mono H1.out.2.2.size))
        clear HR h0
        go_wp2
        exact HP.out _ _ H9.out.symm HB.out

end Go.Proofs.Ytjjdednlddnllaa
