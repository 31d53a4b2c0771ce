/- What was fetched once is fetched ever after. -/
import Derived.Test.YtegmcpcpnjfiaaaUnSameK
import Derived.Test.YtegmcpcpnjfiaaaUnOnceP
namespace Go.Proofs.Ytegmcpcpnjfiaaa
open Go.ChangeShapes Go.WideShapes Go.ChangeAt Go.RowKit

/-- a job's kind and address -/
theorem job_at {W : World} {a : Option Addr} {c : Nat} {js : List Jb} (h : Lies kJb (fun _ => True) W a c js) {k : Nat} (hk : k < js.length) :
    ∃ b off, a = some ⟨b, off, none⟩ ∧ W.cell? ⟨b, off + k * 4, none⟩ = some (.int .i64 (js[k]).kind) ∧ W.cell? ⟨b, off + k * 4 + 2, none⟩ = some (.int .i64 (js[k]).addr) := by
  obtain ⟨b, off, e, _, _, cs, ⟨u, rfl, hu⟩, hc⟩ := h.at hk
  exact ⟨b, off, e, by simpa using hc 0 _ rfl, hc 2 _ rfl⟩

/-- what the last play asks -/
def lastJs : List Jb := [⟨1, 0, 0, [7]⟩, ⟨2, 0, 0, []⟩]

theorem last_play : (playU unit0 lastJs).1 = [rp 0, ⟨0, false, [7], 0⟩] := rfl

theorem last_jobs (W : World) (t u : TypeId) : Jbs ((W.alloc (.cells #[.int .u8 7] t)).alloc (.cells #[.int .i64 1, .int .i64 0, .int .i64 0, .slice (some ⟨W.heap.size, 0, none⟩) 1 1, .int .i64 2, .int .i64 0, .int .i64 0, .slice none 0 0] u)) (.slice (some ⟨W.heap.size + 1, 0, none⟩) 2 2) lastJs := by
  refine ⟨some ⟨W.heap.size + 1, 0, none⟩, 2, rfl, ?_⟩
  have e : (W.alloc (.cells #[.int .u8 7] t)).heap.size = W.heap.size + 1 := by simp
  have ho : Octs (W.alloc (.cells #[.int .u8 7] t)) (some ⟨W.heap.size, 0, none⟩) 1 [7] := by
    refine ⟨Nat.le_refl _, by decide, (fun h => by cases h), by simp, .inr ⟨_, 0, rfl, fun i hi => ?_⟩⟩
    have h0 : i = 0 := by
      simp only [List.length_singleton] at hi
      omega
    subst h0
    simp
  have h := lies_jobs (ok := fun _ => True) (W := W.alloc (.cells #[.int .u8 7] t)) (⟨1, 0, 0, [7]⟩ : Jb) (⟨2, 0, 0, []⟩ : Jb) (.slice (some ⟨W.heap.size, 0, none⟩) 1 1) (.slice none 0 0) ⟨_, _, rfl, ho, fun _ _ _ => trivial⟩ ⟨none, 0, rfl, Octs.nil _ _ _ (fun _ => rfl), fun h => absurd rfl h⟩ trivial u
  rw [e] at h
  exact h

set_option maxRecDepth 10000 in
set_option maxHeartbeats 1600000 in
theorem UnitOnce_any (ts : List Tsk) (ta : Option Addr) (tc len : Nat) (hlen : len = ts.length) (w : World) (hL : Lies kTs (fun _ => True) w ta tc ts) :
    Calls Try.prog 4 #[.slice ta len tc] w fun e w' => e = .returned (.bool true) ∧ Below w.heap.size w w' := by
  obtain ⟨js, hjs⟩ : ∃ js, js = (jobsOf 0 (ts.take 60)).1 := ⟨_, rfl⟩
  have hfew := jobs_few ts 60 (by omega)
  have cJ : Hid (Calls Try.prog 12 #[.slice ta len tc, .int .i64 60] w fun e w' => ∃ (a : Option Addr) (m c : Nat) (q : Int), e = .returned (.tuple #[.slice a m c, .int .i64 q]) ∧ Hid (m = js.length) ∧ Hid (RowI w js (.slice a m c) w')) := put_by ((Jobs_law ts 60 (by omega) ta tc len hlen w hL).mono fun e w' ⟨a, m, c, q, e1, e2, e3⟩ => ⟨a, m, c, q, e1, put_by (by rw [hjs]; exact e2.out.2), put_by (by rw [hjs]; exact ⟨e3.out.rows, e3.out.below⟩)⟩)
  have hlj : js.length ≤ 60 := by rw [hjs]; exact hfew.1
  have HLJ := put_by hlj
  clear hfew hjs hlen hL hlj
  go_enter Try.func4, Try.ntmps4
  go_upto_region 3 with (first
    | (go_at_call 12; (with_reducible refine cJ.out.mono ?_); clear cJ; rintro e w1 ⟨a, m, c, q, rfl, HM, HR1⟩)
    | (go_at_call 9; (with_reducible refine (Play_law js (by have := HLJ.out; omega) _ _ (Jbs.of_rows HR1.out.rows)).mono ?_); rintro e w6 ⟨a6, n6, c6, rfl, HP6, HB6⟩))
  obtain ⟨n, hn⟩ : ∃ n, n = js.length := ⟨_, rfl⟩
  have hm := HM.out
  have hn6 := HP6.out.1
  rw [← hn] at hm hn6
  subst hm hn6
  have hn60 : n6 ≤ 60 := by have := HLJ.out; omega
  have HN := put_by hn
  obtain ⟨rs, hrs⟩ : ∃ rs, rs = (playU unit0 js).1 := ⟨_, rfl⟩
  have HRL : Hid (n6 = rs.length) := put_by (by rw [hrs, playU_length, hn])
  have HA : Hid (Lies kJb (fun _ => True) w6 a c js ∧ Rps w6 a6 c6 rs) := put_by (by
    refine ⟨?_, by rw [hrs]; exact HP6.out.2⟩
    obtain ⟨p, r, e, h⟩ := rows_slice (HR1.out.later HB6.out)
    simp only [Value.slice.injEq] at e
    rw [e.1, e.2.2]
    exact h)
  have HF : Hid (∀ (i k : Nat) (_ : i < k) (hk : k < js.length) (hk2 : k < rs.length), (js[i]).kind = 2 → (js[k]).kind = 2 → (js[k]).addr = (js[i]).addr → (rs[i]).code = 0 → (rs[k]).code = 18 ∨ (rs[k]).code = 16 ∨ rs[k] = rs[i]) := put_by (by
    subst hrs
    exact fun i k hik hk hk2 h1 h2 h3 h4 => once_facts js i k hik hk h1 h2 h3 (by omega) hk2 h4)
  have HB := put_by (HR1.out.below.trans (HB6.out.mono HR1.out.below.size))
  clear hn hrs HM HP6 HB6 HR1 HLJ
  go_wp2
  go_loopw [7] (fun i wr => ∃ k : Nat, k ≤ n6 ∧ i = .int .i64 k ∧ Hid (Below w6.heap.size w6 wr)) (fun i _ => n6 - (intOf i).toNat)
  case atStart => exact ⟨0, Nat.zero_le _, rfl, Below.refl _ _⟩
  case round =>
    obtain ⟨i, hi, rfl, HW⟩ := hrel
    rename World => wr
    by_cases hlt : i < n6
    · have hi1 : i < js.length := by rw [← HN.out]; exact hlt
      have hi2 : i < rs.length := by rw [← HRL.out]; exact hlt
      obtain ⟨b1, o1, rfl, x0, x2⟩ := job_at (Lies.later HA.out.1 HW.out) hi1
      have hR : Rps wr a6 c6 rs := Lies.later HA.out.2 HW.out
      obtain ⟨b2, o2, da, dc, rfl, y0, y1, y2, y3, hd⟩ := hR.cell hi2
      have ik : (i : Int) < (n6 : Int) := by omega
      have wi : IntKind.i64.wrap ((i : Int) + 1) = (i : Int) + 1 := by rw [IntKind.wrap_i64]; omega
      by_cases hk : (js[i]).kind = 2
      · by_cases hc : (rs[i]).code = 0
        · rw [hk] at x0
          rw [hc] at y0
          have HHK := put_by (And.intro hk hc)
          obtain ⟨ad, had⟩ : ∃ ad, ad = (js[i]).addr := ⟨_, rfl⟩
          rw [← had] at x2
          have HAD := put_by had
          obtain ⟨r, hr⟩ : ∃ r, r = rs[i] := ⟨_, rfl⟩
          rw [← hr] at y1 y2 y3 hd hc
          have HRI := put_by hr
          have HRC := put_by hc
          obtain ⟨dn, hdn⟩ : ∃ dn, dn = r.data.length := ⟨_, rfl⟩
          rw [← hdn] at y2
          have HDN := put_by hdn
          have HX : Hid (∀ W, Below wr.heap.size wr W → W.cell? ⟨b1, o1 + i * 4 + 2, none⟩ = some (.int .i64 ad) ∧ W.cell? ⟨b2, o2 + i * 4, none⟩ = some (.int .i64 0) ∧ W.cell? ⟨b2, o2 + i * 4 + 1, none⟩ = some (.bool r.junk) ∧ W.cell? ⟨b2, o2 + i * 4 + 2, none⟩ = some (.slice da dn dc) ∧ W.cell? ⟨b2, o2 + i * 4 + 3, none⟩ = some (.int .i64 r.tail) ∧ Octs W da dc r.data) := put_by fun W hW =>
            ⟨(hW.cell (World.block_lt_of_cell? _ _ x2)).trans x2, (hW.cell (World.block_lt_of_cell? _ _ y0)).trans y0, (hW.cell (World.block_lt_of_cell? _ _ y1)).trans y1, (hW.cell (World.block_lt_of_cell? _ _ y2)).trans y2, (hW.cell (World.block_lt_of_cell? _ _ y3)).trans y3, hd.later hW⟩
          clear had hr hdn hd hR
          go_wp2
          go_loopw [8] (fun j w2 => ∃ k : Nat, i + 1 ≤ k ∧ k ≤ n6 ∧ j = .int .i64 k ∧ Hid (Below wr.heap.size wr w2)) (fun j _ => n6 - (intOf j).toNat)
          case atStart => exact ⟨i + 1, Nat.le_refl _, by omega, by go_num, Below.refl _ _⟩
          case round =>
            obtain ⟨k, hk1, hk2, rfl, HV⟩ := hrel
            rename World => wv
            obtain ⟨p2, q0, q1, q2, q3, qd⟩ := HX.out _ HV.out
            by_cases hkl : k < n6
            · have hk3 : k < js.length := by rw [← HN.out]; exact hkl
              have hk4 : k < rs.length := by rw [← HRL.out]; exact hkl
              obtain ⟨_, _, e5, z0, z2⟩ := job_at (Lies.later (Lies.later HA.out.1 HW.out) HV.out) hk3
              cases e5
              have hR2 : Rps wv (some ⟨b2, o2, none⟩) c6 rs := Lies.later (Lies.later HA.out.2 HW.out) HV.out
              obtain ⟨_, _, ea, ec, e5, t0, t1, t2, t3, td⟩ := hR2.cell hk4
              cases e5
              have jk : (k : Int) < (n6 : Int) := by omega
              have wk : IntKind.i64.wrap ((k : Int) + 1) = (k : Int) + 1 := by rw [IntKind.wrap_i64]; omega
              by_cases g1 : (js[k]).kind = 2
              · by_cases g2 : (js[k]).addr = ad
                · have hf := HF.out i k (by omega) hk3 hk4 HHK.out.1 g1 (by rw [g2, HAD.out]) HHK.out.2
                  rw [g1] at z0
                  rw [g2] at z2
                  have haa : (ad != ad) = false := by simp
                  have HZ : Hid (∀ W, Below wv.heap.size wv W → W.cell? ⟨b2, o2 + k * 4, none⟩ = some (.int .i64 (rs[k]).code) ∧ W.cell? ⟨b2, o2 + k * 4 + 1, none⟩ = some (.bool (rs[k]).junk) ∧ W.cell? ⟨b2, o2 + k * 4 + 2, none⟩ = some (.slice ea (rs[k]).data.length ec) ∧ W.cell? ⟨b2, o2 + k * 4 + 3, none⟩ = some (.int .i64 (rs[k]).tail) ∧ Octs W ea ec (rs[k]).data) := put_by fun W hW =>
                    ⟨(hW.cell (World.block_lt_of_cell? _ _ t0)).trans t0, (hW.cell (World.block_lt_of_cell? _ _ t1)).trans t1, (hW.cell (World.block_lt_of_cell? _ _ t2)).trans t2, (hW.cell (World.block_lt_of_cell? _ _ t3)).trans t3, td.later hW⟩
                  clear g1 g2 hR2
                  rcases hf with f | f | f
                  · rw [f] at t0
                    clear f t1 t2 t3 td q0 q1 q2 q3 qd HZ
                    go_wp2
                    go_quiet (fail)
                    go_wp2
                    go_quiet (fail)
                    go_wp2
                    go_roundw
                    case rel => exact ⟨k + 1, by omega, by omega, by go_num, belowN HV.out _⟩
                    case measure => simp [intOf]; omega
                  · rw [f] at t0
                    clear f t1 t2 t3 td q0 q1 q2 q3 qd HZ
                    go_wp2
                    go_quiet (fail)
                    go_wp2
                    go_quiet (fail)
                    go_wp2
                    go_roundw
                    case rel => exact ⟨k + 1, by omega, by omega, by go_num, belowN HV.out _⟩
                    case measure => simp [intOf]; omega
                  · rw [f, ← HRI.out] at HZ
                    rw [HRC.out, ← HDN.out] at HZ
                    clear f t0 t1 t2 t3 td q0 q1 q2 q3 qd
                    go_wp2
                    go_quiet (fail)
                    generalize hV0 : World.drewN wv _ = V0
                    have hB0 : Below wv.heap.size wv V0 := by rw [← hV0]; exact belowN (Below.refl _ _) _
                    have HB0 := put_by hB0
                    have HX2 := put_by (fun W (hW : Below V0.heap.size V0 W) => HX.out W (HV.out.trans ((hB0.trans (hW.mono hB0.size)).mono HV.out.size)))
                    have HZ2 := put_by (fun W (hW : Below V0.heap.size V0 W) => HZ.out W (hB0.trans (hW.mono hB0.size)))
                    have cK : Hid (∀ V, Below V0.heap.size V0 V → Calls Try.prog 13 #[.agg #[.int .i64 0, .bool r.junk, .slice da dn dc, .int .i64 r.tail], .agg #[.int .i64 0, .bool r.junk, .slice ea dn ec, .int .i64 r.tail]] V fun e w' => e = .returned (.bool true) ∧ Below V.heap.size V w') := put_by fun V hV =>
                      sameReplyK_yes r da ea dc ec dn HDN.out 0 r.junk r.tail V (HX2.out V hV).2.2.2.2.2 (HZ2.out V hV).2.2.2.2
                    obtain ⟨-, q0, q1, q2, q3, -⟩ := HX2.out V0 (Below.refl _ _)
                    obtain ⟨t0, t1, t2, t3, -⟩ := HZ2.out V0 (Below.refl _ _)
                    clear hB0 hV0 z0 z2 p2 HX HZ
                    generalize r.junk = rj at *
                    generalize r.tail = rt at *
                    go_wp2
                    go_region_held3 (fun W => W.cell? ⟨b2, o2 + i * 4, none⟩ = some (.int .i64 0) ∧ W.cell? ⟨b2, o2 + i * 4 + 1, none⟩ = some (.bool rj) ∧ W.cell? ⟨b2, o2 + i * 4 + 2, none⟩ = some (.slice da dn dc) ∧ W.cell? ⟨b2, o2 + i * 4 + 3, none⟩ = some (.int .i64 rt) ∧ W.cell? ⟨b2, o2 + k * 4, none⟩ = some (.int .i64 0) ∧ W.cell? ⟨b2, o2 + k * 4 + 1, none⟩ = some (.bool rj) ∧ W.cell? ⟨b2, o2 + k * 4 + 2, none⟩ = some (.slice ea dn ec) ∧ W.cell? ⟨b2, o2 + k * 4 + 3, none⟩ = some (.int .i64 rt)) (go_keep) (first
                      | (go_at_call 13; (with_reducible refine (cK.out _ (by first | exact Below.refl _ _ | exact (Below.refl _ _).drew)).mono ?_); rintro e w8 ⟨rfl, H8⟩; have HW8 := put_by (show Below V0.heap.size V0 w8 from Below.trans (by first | exact Below.refl _ _ | exact (Below.refl _ _).drew) (H8.mono (by simp))); clear H8; obtain ⟨-, q0, q1, q2, q3, -⟩ := HX2.out _ HW8.out; obtain ⟨t0, t1, t2, t3, -⟩ := HZ2.out _ HW8.out))
                    all_goals
                      go_wp2
                      go_roundw
                      case rel => exact ⟨k + 1, by omega, by omega, by go_num, HV.out.trans ((HB0.out.trans (HW8.out.mono HB0.out.size)).mono HV.out.size)⟩
                      case measure => simp [intOf]; omega
                · have g1' : ((js[k]).kind != 2) = false := by simp [g1]
                  have g2' : ((js[k]).addr != ad) = true := by simp [g2]
                  rw [g1] at z0
                  generalize (js[k]).addr = aj at *
                  clear g1 g2 t0 t1 t2 t3 td hR2 q0 q1 q2 q3 qd
                  go_wp2
                  go_quiet (fail)
                  go_wp2
                  go_roundw
                  case rel => exact ⟨k + 1, by omega, by omega, by go_num, belowN HV.out _⟩
                  case measure => simp [intOf]; omega
              · have g1' : ((js[k]).kind != 2) = true := by simp [g1]
                generalize (js[k]).kind = kj at *
                clear g1 t0 t1 t2 t3 td hR2 q0 q1 q2 q3 qd
                go_wp2
                go_quiet (fail)
                go_wp2
                go_roundw
                case rel => exact ⟨k + 1, by omega, by omega, by go_num, belowN HV.out _⟩
                case measure => simp [intOf]; omega
            · have hkn : k = n6 := by omega
              subst hkn
              go_wp2
              go_roundw
              case rel => exact ⟨i + 1, by omega, by go_num, HW.out.trans (HV.out.mono HW.out.size)⟩
              case measure => simp [intOf]; omega
        · have hc' : ((rs[i]).code != 0) = true := by simp [hc]
          rw [hk] at x0
          generalize (rs[i]).code = rc at *
          clear hk hc hd hR y1 y2 y3
          go_wp2
          go_roundw
          case rel => exact ⟨i + 1, by omega, by go_num, HW.out⟩
          case measure => simp [intOf]; omega
      · have hk' : ((js[i]).kind != 2) = true := by simp [hk]
        generalize (js[i]).kind = kk at *
        clear hk hd hR y0 y1 y2 y3
        go_wp2
        go_roundw
        case rel => exact ⟨i + 1, by omega, by go_num, HW.out⟩
        case measure => simp [intOf]; omega
    · have hin : i = n6 := by omega
      subst hin
      have hB : Below w.heap.size w wr := HB.out.trans (HW.out.mono HB.out.size)
      clear HF HA HN HRL HB HW hlt
      have HBW := put_by hB
      clear hB
      go_upto_region 16 with (first
        | (go_at_call 9; (with_reducible refine (Play_law lastJs (by decide) _ _ (last_jobs wr _ _)).mono ?_); rintro e w9 ⟨a9, n9, c9, rfl, HP9, HB9⟩))
      obtain ⟨hn9, hR9⟩ := HP9.out
      have hn92 : n9 = 2 := hn9
      subst hn92
      obtain ⟨b9, o9, da, dc, rfl, -, -, s2, -, sd⟩ := Rps.cell hR9 (k := 1) (by rw [last_play]; decide)
      obtain ⟨b8, o8, e8, s8, -, -⟩ := sd.at (k := 0) (by decide)
      subst e8
      have s2' : w9.cell? ⟨b9, o9 + 4 + 2, none⟩ = some (.slice (some ⟨b8, o8, none⟩) 1 dc) := s2
      have s8' : w9.cell? ⟨b8, o8, none⟩ = some (.int .u8 7) := s8
      have hdc : 1 ≤ dc := sd.1
      clear s2 s8 sd hR9 hn9 HP9
      go_wp2
      go_ret
      exact ⟨rfl, (((HBW.out.alloc HBW.out.size _).alloc (HBW.out.alloc HBW.out.size _).size _)).trans (HB9.out.mono ((HBW.out.alloc HBW.out.size _).alloc (HBW.out.alloc HBW.out.size _).size _).size)⟩

end Go.Proofs.Ytegmcpcpnjfiaaa
