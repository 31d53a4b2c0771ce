/- Ahead of the tail stands all that is written: the walk. -/
import Derived.Test.YtcffikfjbpeggabLyKeep
import Derived.Test.YtcffikfjbpeggabLyTail
import Derived.Deep.RegionHeld3
namespace Go.Proofs.Ytcffikfjbpeggab
open Go.ChangeShapes Go.WideShapes Go.ChangeAt Go.RowKit

theorem tail_range {n : Nat} {ts : List Int} {T : Int} (h : IsTail n ts T) : 0 ≤ T ∧ T ≤ 64 * n := by
  rcases h.2 with h2 | ⟨p, p1, _, p3⟩
  · omega
  · omega

theorem tail_ahead {n : Nat} {ts : List Int} {T : Int} (h : IsTail n ts T) {a c : Nat} (hc : c < n) (ha : a < 64) (hl : (a : Int) < ts.getD c 0) : (a : Int) * n + c < T := by
  have e1 : (a * n + c) / n = a := by rw [Nat.add_comm, Nat.add_mul_div_right _ _ (by omega), Nat.div_eq_of_lt hc, Nat.zero_add]
  have e2 : (a * n + c) % n = c := by rw [Nat.add_comm, Nat.add_mul_mod_self_right, Nat.mod_eq_of_lt hc]
  have := h.1 (a * n + c) (by
    have : (a + 1) * n ≤ 64 * n := Nat.mul_le_mul_right _ (by omega)
    rw [Nat.add_mul, Nat.one_mul] at this
    omega) (by unfold Ahead; rw [e1, e2]; exact hl)
  push_cast at this
  exact this

theorem tail_just {n : Nat} {ts : List Int} {T : Int} (h : IsTail n ts T) {b d : Nat} (hd : d < n) (h0 : T ≠ 0) (e : (b : Int) * n + d = T - 1) : (b : Int) < ts.getD d 0 := by
  rcases h.2 with h2 | ⟨p, _, p2, p3⟩
  · exact absurd h2 h0
  · have e3 : p = b * n + d := by
      have : (p : Int) = ((b * n + d : Nat) : Int) := by push_cast; omega
      exact_mod_cast this
    have e1 : (b * n + d) / n = b := by rw [Nat.add_comm, Nat.add_mul_div_right _ _ (by omega), Nat.div_eq_of_lt hd, Nat.zero_add]
    have e2 : (b * n + d) % n = d := by rw [Nat.add_comm, Nat.add_mul_mod_self_right, Nat.mod_eq_of_lt hd]
    unfold Ahead at p2
    rw [e3, e1, e2] at p2
    exact p2

/-- the tails of raw numbers -/
def tailsR (raw : List Int) (k : Nat) : List Int := (List.range k).map (fun j => if j < raw.length then raw.getD j 0 % 65 else (j : Int))

theorem tailsR_length (raw : List Int) (k : Nat) : (tailsR raw k).length = k := by simp [tailsR]

theorem tailsR_succ (raw : List Int) (k : Nat) : tailsR raw (k + 1) = tailsR raw k ++ [if k < raw.length then raw.getD k 0 % 65 else (k : Int)] := by
  unfold tailsR
  rw [List.range_succ, List.map_append]
  rfl

theorem tailsR_range {raw : List Int} {k : Nat} (hk : k ≤ 64) : ∀ t ∈ tailsR raw k, 0 ≤ t ∧ t ≤ 64 := by
  intro t ht
  simp only [tailsR, List.mem_map, List.mem_range] at ht
  obtain ⟨j, hj, rfl⟩ := ht
  split
  · omega
  · omega

theorem tail_at {V : World} {a : Option Addr} {c : Nat} {cs : List (List Int)} (h : LayAt V a c cs) (n : Nat) (hn : n = cs.length) (ta : Option Addr) (tn tc : Nat) (ts : List Int) (htn : tn = ts.length) (hts : ts.length = n) (hr : ∀ t ∈ ts, 0 ≤ t ∧ t ≤ 64) {ok : Nat → Prop} (hT : Lies kInt ok V ta tc ts) :
    Calls Try.prog 9 #[.agg #[.int .i64 0, .slice a n c], .slice ta tn tc] V fun e w' => e = .returned (.tuple #[.int .i64 (tailK n ts n), .int .i64 0]) ∧ Below V.heap.size V w' := by
  subst hn htn
  have hl := h.len
  refine (Tail_any 0 a ta c tc cs ts h.1.few (by omega) V h.2 hT).mono ?_
  rintro e w' ⟨rfl, hb⟩
  rw [h.1.may (by decide) (by decide)]
  have e2 : tlc true cs.length ts = (tailK cs.length ts cs.length, 0) := by
    unfold tlc
    rw [if_neg (by simp), if_neg (by omega), if_pos hr]
  rw [e2]
  exact ⟨rfl, hb⟩

set_option maxHeartbeats 8000000 in
theorem TailRight_any {ok ok2 : Nat → Prop} (la : Option Addr) (m lc : Nat) (ls : List Int) (turn : Int) (ra : Option Addr) (rn rc : Nat) (raw : List Int) (pos : Int) (hml : m = ls.length) (hm8 : m * 8 ≤ 140737488351232) (hrl : rn = raw.length) (hr8 : rn * 8 ≤ 140737488351232) (w : World) (hL : Lies kInt ok w la lc ls) (hR : Lies kInt ok2 w ra rc raw) :
    Calls Try.prog 4 #[.slice la m lc, .int .i64 turn, .slice ra rn rc, .int .i64 pos] w fun e w' => e = .returned (.bool true) ∧ Below w.heap.size w w' := by
  have HF := put_by (for_at la m lc ls 0 turn hml hm8 w hL)
  have HR := put_by (And.intro hR hrl)
  clear hL hml hm8 hR hrl
  go_enter Try.func4, Try.ntmps4
  go_wp2_with (go_at_call 6; refine (HF.out).mono ?_; clear HF; rintro e V1 ⟨cs, a, n, c, rfl, HA, HB1⟩; have HA1 := put_by HA; have HB1 := put_by HB1; clear HA; refine hidGoal ?_)
  obtain ⟨l1, l5⟩ := HA1.out.2.len
  rw [← HA1.out.1] at l1 l5
  have HK : Hid (∀ V, Below (V1.alloc (.cells #[.int .i64 0, .slice a n c] 25)).heap.size (V1.alloc (.cells #[.int .i64 0, .slice a n c] 25)) V → V.cell? ⟨V1.heap.size, 0, none⟩ = some (.int .i64 0) ∧ V.cell? ⟨V1.heap.size, 1, none⟩ = some (.slice a n c)) := put_by fun V hV => ⟨(hV.cell (p := ⟨V1.heap.size, 0, none⟩) (by simp)).trans (by simp), (hV.cell (p := ⟨V1.heap.size, 1, none⟩) (by simp)).trans (by simp)⟩
  have hB2 : Below V1.heap.size V1 (V1.alloc (.cells #[.int .i64 0, .slice a n c] 25)) := (Below.refl _ _).alloc (Nat.le_refl _) _
  have HA := put_by (And.intro HA1.out.1 (HA1.out.2.later hB2))
  have HBw := put_by (HB1.out.trans (hB2.mono HB1.out.size))
  clear HA1 HB1 hB2
  unfold Hid
  go_upto_region 3 with (fail)
  generalize V1.alloc (.cells #[.int .i64 0, .slice a n c] 25) = W0 at *
  obtain ⟨k0, k1⟩ := HK.out W0 (Below.refl _ _)
  have hn64 : n ≤ 64 := by omega
  go_wp2
  go_loopw [11, 12] (fun v iv wr => ∃ (i : Nat) (ta : Option Addr) (ti tc : Nat), i ≤ n ∧ iv = .int .i64 i ∧ v = .slice ta ti tc ∧ Hid (Rows kInt (fun b => W0.heap.size ≤ b) wr W0.heap.size 3 (.slice ta ti tc) (tailsR raw i) ∧ Below W0.heap.size W0 wr)) (fun _ iv _ => n - (intOf iv).toNat)
  case atStart => exact ⟨0, none, 0, 0, Nat.zero_le _, rfl, rfl, put_by ⟨Rows.nil _ _ _ _ _, Below.refl _ _⟩⟩
  case round =>
    obtain ⟨i, ta, ti, tc, hi, rfl, rfl, HJ⟩ := hrel
    by_cases hit : i < n
    · have HS := put_by (tailsR_succ raw i)
      have HL1 : Hid ((tailsR raw i).length + 1 ≤ 100000) := put_by (by rw [tailsR_length]; omega)
      by_cases hir : i < rn
      · have hic : i < raw.length := by have := HR.out.2; omega
        obtain ⟨b, off, rfl, -, -, hc⟩ := int_at' (HR.out.1.later (HBw.out.trans (HJ.out.2.mono HBw.out.size))) hic
        rw [if_pos hic] at HS
        generalize raw.getD i 0 = x at hc HS
        obtain ⟨y, hy⟩ : ∃ y, y = x % 65 := ⟨_, rfl⟩
        have HC := put_by (fun V => Picked_any x 65 (by decide) (by decide) V)
        rw [← hy] at HS HC
        clear hy
        go_wp2_with (first
          | (go_at_call 7; (with_reducible refine (HC.out _).mono ?_); clear HC; rintro e w' ⟨rfl, rfl⟩)
          | (at_builtin; refine wpList_append_one (K := kInt) (ok := fun b => W0.heap.size ≤ b) eltI rfl (.tmp 44) (.tmp 46) rfl W0.heap.size (.slice ta ti tc) _ rfl HJ.out.1 y [.int .i64 y] _ _ rfl rfl rfl (fun b hb => Nat.le_trans HJ.out.2.size hb) HL1.out (by decide) HJ.out.2.size ?_; intro v' w5 r1 r2 r3; refine hidGoal ?_))
        obtain ⟨a3, c3, e3⟩ := rows_form r1
        subst e3
        obtain ⟨n3, hn3⟩ : ∃ n3, n3 = (tailsR raw i ++ [y]).length := ⟨_, rfl⟩
        rw [← hn3] at r1 ⊢
        rw [← HS.out] at r1
        have HJ2 := put_by (And.intro r1 (HJ.out.2.grown r2 HJ.out.2.size (fun g hg => (rows_lt HJ.out.1 g hg).1)))
        clear r1 r2 r3 hn3
        unfold Hid
        go_wp2
        go_roundw
        case rel => exact ⟨i + 1, a3, n3, c3, by omega, by simp, rfl, HJ2⟩
        case measure => simp [intOf]; omega
      · rw [if_neg (by have := HR.out.2; omega)] at HS
        go_wp2_with (at_builtin; refine wpList_append_one (K := kInt) (ok := fun b => W0.heap.size ≤ b) eltI rfl (.tmp 44) (.tmp 46) rfl W0.heap.size (.slice ta ti tc) _ rfl HJ.out.1 (i : Int) [.int .i64 i] _ _ rfl rfl rfl (fun b hb => Nat.le_trans HJ.out.2.size hb) HL1.out (by decide) HJ.out.2.size ?_; intro v' w5 r1 r2 r3; refine hidGoal ?_)
        obtain ⟨a3, c3, e3⟩ := rows_form r1
        subst e3
        obtain ⟨n3, hn3⟩ : ∃ n3, n3 = (tailsR raw i ++ [(i : Int)]).length := ⟨_, rfl⟩
        rw [← hn3] at r1 ⊢
        rw [← HS.out] at r1
        have HJ2 := put_by (And.intro r1 (HJ.out.2.grown r2 HJ.out.2.size (fun g hg => (rows_lt HJ.out.1 g hg).1)))
        clear r1 r2 r3 hn3
        unfold Hid
        go_wp2
        go_roundw
        case rel => exact ⟨i + 1, a3, n3, c3, by omega, by simp, rfl, HJ2⟩
        case measure => simp [intOf]; omega
    · obtain rfl : i = n := by omega
      obtain ⟨hti, hTL, -, -⟩ := rows_lies HJ.out.1 (fun _ h => h)
      rw [tailsR_length] at hti
      subst hti
      have HT : Hid (IsTail ti (tailsR raw ti) (tailK ti (tailsR raw ti) ti)) := put_by (tail_is l1 (fun j => (getD_range (tailsR_range hn64) j).2))
      have HLs := put_by (And.intro (tailsR_length raw ti) (tailsR_range (raw := raw) hn64))
      have HTL := put_by hTL
      have HBr := put_by HJ.out.2
      clear hTL HJ HR
      generalize tailsR raw ti = ts at HT HLs HTL
      -- what the faces say in whatever world
      have HPl := put_by (fun V (hV : Below W0.heap.size W0 V) => place_at (HA.out.2.later hV) 0 (by decide) (by decide) ti HA.out.1)
      have HMa := put_by (fun V (hV : Below W0.heap.size W0 V) => may_at (HA.out.2.later hV) 0 (by decide) (by decide) ti HA.out.1)
      have HTa : Hid (∀ (V : World) (b : Option Addr) (k d : Nat), Below W0.heap.size W0 V → k = ts.length ∧ Lies kInt (fun _ => True) V b d ts → Calls Try.prog 9 #[.agg #[.int .i64 0, .slice a ti c], .slice b k d] V fun e w' => e = .returned (.tuple #[.int .i64 (tailK ti ts ti), .int .i64 0]) ∧ Below V.heap.size V w') :=
        put_by (fun V b k d hV h => tail_at (HA.out.2.later hV) ti HA.out.1 b k d ts h.1 HLs.out.1 HLs.out.2 h.2)
      obtain ⟨T, hT⟩ : ∃ T, T = tailK ti ts ti := ⟨_, rfl⟩
      rw [← hT] at HT HTa
      obtain ⟨T0, T1⟩ := tail_range HT.out
      obtain ⟨P, hP⟩ : ∃ P, P = pos % ((ti : Int) * 64) := ⟨_, rfl⟩
      have P0 : 0 ≤ P := by rw [hP]; exact Int.emod_nonneg _ (by omega)
      have P1 : P < (ti : Int) * 64 := by rw [hP]; exact Int.emod_lt_of_pos _ (by omega)
      have HC1 := put_by (fun V => Picked_any pos ((ti : Int) * 64) (by omega) (by omega) V)
      rw [← hP] at HC1
      have HCell : Hid (∀ (V : World) (k : Nat), Below wr.heap.size wr V → k < ti → ∃ b off, ta = some ⟨b, off, none⟩ ∧ V.cell? ⟨b, off + k, none⟩ = some (.int .i64 (ts.getD k 0))) := put_by (fun V k hV hk => by
        obtain ⟨b, off, e, -, -, h⟩ := int_at' (HTL.out.later hV) (show k < ts.length by rw [HLs.out.1]; exact hk)
        exact ⟨b, off, e, h⟩)
      have HTn : Hid (ti = ts.length) := put_by HLs.out.1.symm
      clear hP hT HA HLs
      obtain ⟨k0, k1⟩ := HK.out wr HBr.out
      go_upto_region 11 with (fail)
      have HT0 : Hid (Lies kInt (fun _ => True) wr.drew ta tc ts) := put_by (HTL.out.move (Kept.of_below (Below.refl _ wr).drew) (fun _ _ _ => trivial))
      have HBd : Hid (Below wr.heap.size wr wr.drew) := put_by (Below.refl _ wr).drew
      have hti9 : ti * 8 ≤ 140737488355328 := by omega
      go_region_held3 (fun V => V.cell? ⟨V1.heap.size, 0, none⟩ = some (.int .i64 0) ∧ V.cell? ⟨V1.heap.size, 1, none⟩ = some (.slice a ti c)) (go_keep) (first
        | (rw [if_pos (by rfl)]; refine wp_of_list rfl (by rintro ⟨_, _, hh⟩; cases hh.1) (wpList_append_rowsB (K := kInt) (ok := fun _ => True) (ok2 := fun _ => True) eltI rfl (.const (.slice none 0 0)) (.tmp 50) rfl wr.heap.size (.slice none 0 0) [] rfl (Rows.nil _ _ _ _ _) ta tc ti ts rfl HTn.out HT0.out (fun _ _ _ _ => trivial) (fun _ _ _ => by simp [Value.ownBlock]) (by simp only [List.length_nil]; omega) (by decide) (Nat.le_refl _) (fun v1 w1 r1 r2 r3 => ?_)); obtain ⟨b1, d1, rfl⟩ := rows_form r1; obtain ⟨-, q2, -, -⟩ := rows_lies r1 (fun _ _ => trivial); have H1 : Hid (Below wr.heap.size wr w1 ∧ ([] ++ ts).length = ts.length ∧ Lies kInt (fun _ => True) w1 b1 d1 ts) := put_by ⟨HBd.out.grown r2 (Nat.le_refl _) (fun k e => by cases e), rfl, q2⟩; clear r1 r2 r3 q2; obtain ⟨j0, j1⟩ := HK.out _ (HBr.out.trans (H1.out.1.mono HBr.out.size)); refine list_end ?_)
        | (go_at_call 9; (refine (HTa.out _ _ _ _ (HBr.out.trans (H1.out.1.mono HBr.out.size)) H1.out.2).mono ?_); clear HTa; rintro e w2 ⟨rfl, h2⟩; have H2 := put_by (H1.out.1.trans (h2.mono H1.out.1.size)); clear h2; obtain ⟨i0, i1⟩ := HK.out _ (HBr.out.trans (H2.out.mono HBr.out.size))))
      all_goals
        go_wp2_with (first
          | (go_at_call 10; (with_reducible refine (HMa.out _ (HBr.out.trans (H2.out.mono HBr.out.size))).mono ?_); clear HMa; rintro e w3 ⟨rfl, h3⟩; have H3 := put_by (H2.out.trans (h3.mono H2.out.size)); clear h3; obtain ⟨i0, i1⟩ := HK.out _ (HBr.out.trans (H3.out.mono HBr.out.size)))
          | (go_at_call 7; (with_reducible refine (HC1.out _).mono ?_); clear HC1; rintro e w' ⟨rfl, rfl⟩)
          | (go_at_call 8; (with_reducible refine (HPl.out _ (HBr.out.trans (H3.out.mono HBr.out.size)) P P0 (by omega)).mono ?_); rintro e w4 ⟨c0, a0, rfl, ⟨f0, f1, f2, f3, f4⟩, h4⟩; have H4 := put_by (H3.out.trans (h4.mono H3.out.size)); clear h4; obtain ⟨i0, i1⟩ := HK.out _ (HBr.out.trans (H4.out.mono HBr.out.size)); refine hidGoal ?_))
        unfold Hid
        obtain ⟨cn, rfl⟩ : ∃ k : Nat, c0 = k := ⟨c0.toNat, by omega⟩
        obtain ⟨an, rfl⟩ : ∃ k : Nat, a0 = k := ⟨a0.toNat, by omega⟩
        obtain ⟨b, off, rfl, hcv⟩ := HCell.out w4 cn H4.out (by omega)
        have HPT : Hid ((an : Int) < ts.getD cn 0 → P < T) := put_by (fun h => by rw [← f4]; exact tail_ahead HT.out (by omega) (by omega) h)
        generalize ts.getD cn 0 = tv at hcv HPT
        have HFin : Hid (∀ (dn bn : Nat) (V : World), Below wr.heap.size wr V → dn < ti → T ≠ 0 → (bn : Int) * ti + dn = T - 1 → ∃ y : Int, V.cell? ⟨b, off + dn, none⟩ = some (.int .i64 y) ∧ (bn : Int) < y) := put_by (fun dn bn V hV hd h0 he => by
          obtain ⟨b', off', e, h⟩ := HCell.out V dn hV hd
          cases e
          exact ⟨_, h, tail_just HT.out hd h0 he⟩)
        clear HCell HT HTL HTn HT0 HBd H1 H2 H3
        have HB4 := put_by (HBr.out.trans (H4.out.mono HBr.out.size))
        by_cases hz : T = 0
        · by_cases hl : (an : Int) < tv
          · have hlt := HPT.out hl
            omega
          · subst hz
            go_wp2
            go_ret
            exact ⟨rfl, HBw.out.trans (HB4.out.mono HBw.out.size)⟩
        · have z1 : (T == 0) = false := by simpa using hz
          by_cases hl : (an : Int) < tv
          · have hlt := HPT.out hl
            go_wp2_with (go_at_call 8; (with_reducible refine (HPl.out _ HB4.out (T - 1) (by omega) (by omega)).mono ?_); clear HPl; rintro e w5 ⟨d0, b0, rfl, ⟨g0, g1, g2, g3, g4⟩, h5⟩; have H5 := put_by (H4.out.trans (h5.mono H4.out.size)); clear h5; refine hidGoal ?_)
            unfold Hid
            obtain ⟨dn, rfl⟩ : ∃ k : Nat, d0 = k := ⟨d0.toNat, by omega⟩
            obtain ⟨bn, rfl⟩ : ∃ k : Nat, b0 = k := ⟨b0.toNat, by omega⟩
            obtain ⟨y, hy1, hy2⟩ := HFin.out dn bn w5 H5.out (by omega) hz g4
            go_wp2
            go_ret
            exact ⟨rfl, HBw.out.trans ((HBr.out.trans (H5.out.mono HBr.out.size)).mono HBw.out.size)⟩
          · go_wp2_with (go_at_call 8; (with_reducible refine (HPl.out _ HB4.out (T - 1) (by omega) (by omega)).mono ?_); clear HPl; rintro e w5 ⟨d0, b0, rfl, ⟨g0, g1, g2, g3, g4⟩, h5⟩; have H5 := put_by (H4.out.trans (h5.mono H4.out.size)); clear h5; refine hidGoal ?_)
            unfold Hid
            obtain ⟨dn, rfl⟩ : ∃ k : Nat, d0 = k := ⟨d0.toNat, by omega⟩
            obtain ⟨bn, rfl⟩ : ∃ k : Nat, b0 = k := ⟨b0.toNat, by omega⟩
            obtain ⟨y, hy1, hy2⟩ := HFin.out dn bn w5 H5.out (by omega) hz g4
            go_wp2
            go_ret
            exact ⟨rfl, HBw.out.trans ((HBr.out.trans (H5.out.mono HBr.out.size)).mono HBw.out.size)⟩

end Go.Proofs.Ytcffikfjbpeggab
