/- What Jobs comes to. -/
import Derived.Test.YtfaejcdbjcklpaaUnJobsP
import Derived.Test.YtfaejcdbjcklpaaOctetsKeep
import Derived.Test.YtfaejcdbjcklpaaPicked
import Derived.Deep.RegionHeld3
namespace Go.Proofs.Ytfaejcdbjcklpaa
open Go.ChangeShapes Go.WideShapes Go.ChangeAt Go.RowKit

/-- jobs that the call itself has laid -/
structure JbI (w : World) (js : List Jb) (v : Value) (W : World) : Prop where
  rows : Rows kJb (fun _ => True) W w.heap.size 29 v js
  below : Below w.heap.size w W

theorem JbI.later {w W W' : World} {js : List Jb} {v : Value} (h : JbI w js v W) (hb : Below W.heap.size W W') : JbI w js v W' := ⟨h.rows.later hb, h.below.trans (hb.mono h.below.size)⟩

/-- a job's variable jb beside them -/
structure JbJ (w : World) (js : List Jb) (v : Value) (jb : Nat) (W : World) : Prop where
  rows : Rows kJb (fun b => b ≠ jb) W w.heap.size 29 v js
  below : Below w.heap.size w W
  lo : w.heap.size ≤ jb
  lt : jb < W.heap.size
  ne : v.ownBlock ≠ some jb

theorem JbI.open {w W : World} {js : List Jb} {v : Value} (h : JbI w js v W) (xs : Array Value) (ty : TypeId) : JbJ w js v W.heap.size (W.alloc (.cells xs ty)).drew := by
  have hb : Below W.heap.size W (W.alloc (.cells xs ty)).drew := ((Below.refl _ W).alloc (Nat.le_refl _) _).drew
  refine ⟨(h.rows.turned (fun b hb _ => by omega)).later hb, h.below.trans (hb.mono h.below.size), h.below.size, by simp, fun e => ?_⟩
  have := (rows_lt h.rows _ e).2
  omega

theorem JbJ.later {w W W' : World} {js : List Jb} {v : Value} {jb : Nat} (h : JbJ w js v jb W) (hb : Below W.heap.size W W') : JbJ w js v jb W' :=
  ⟨h.rows.later hb, h.below.trans (hb.mono h.below.size), h.lo, Nat.lt_of_lt_of_le h.lt hb.size, h.ne⟩

theorem JbJ.set {w W : World} {js : List Jb} {v : Value} {jb : Nat} (h : JbJ w js v jb W) (i : Nat) (x : Value) : JbJ w js v jb (W.setCell ⟨jb, i, none⟩ x) :=
  ⟨h.rows.move (kept_set (fun e => e rfl) x) (fun g hg => heap_setCell_other _ _ _ _ (fun e => h.ne (by rw [hg]; exact congrArg some e))), h.below.setCell (p := ⟨jb, i, none⟩) h.lo x, h.lo, by simpa using h.lt, h.ne⟩

theorem Quad.set1 {W : World} {B : Nat} {p q r s : Value} (h : Quad W B p q r s) (x : Value) : Quad (W.setCell ⟨B, 1, none⟩ x) B p x r s := by
  refine ⟨?_, World.cell?_setCell_same' _ _ _ (by rw [h.c1]; rfl), ?_, ?_, ?_, ?_, ?_, ?_⟩
  · rw [World.cell?_setCell_other _ _ _ _ (by simp)]; exact h.c0
  · rw [World.cell?_setCell_other _ _ _ _ (by simp)]; exact h.c2
  · rw [World.cell?_setCell_other _ _ _ _ (by simp)]; exact h.c3
  · rw [World.frozen?_setCell]; exact h.f0
  · rw [World.frozen?_setCell]; exact h.f1
  · rw [World.frozen?_setCell]; exact h.f2
  · rw [World.frozen?_setCell]; exact h.f3

theorem Quad.set2 {W : World} {B : Nat} {p q r s : Value} (h : Quad W B p q r s) (x : Value) : Quad (W.setCell ⟨B, 2, none⟩ x) B p q x s := by
  refine ⟨?_, ?_, World.cell?_setCell_same' _ _ _ (by rw [h.c2]; rfl), ?_, ?_, ?_, ?_, ?_⟩
  · rw [World.cell?_setCell_other _ _ _ _ (by simp)]; exact h.c0
  · rw [World.cell?_setCell_other _ _ _ _ (by simp)]; exact h.c1
  · rw [World.cell?_setCell_other _ _ _ _ (by simp)]; exact h.c3
  · rw [World.frozen?_setCell]; exact h.f0
  · rw [World.frozen?_setCell]; exact h.f1
  · rw [World.frozen?_setCell]; exact h.f2
  · rw [World.frozen?_setCell]; exact h.f3

theorem Quad.set3 {W : World} {B : Nat} {p q r s : Value} (h : Quad W B p q r s) (x : Value) : Quad (W.setCell ⟨B, 3, none⟩ x) B p q r x := by
  refine ⟨?_, ?_, ?_, World.cell?_setCell_same' _ _ _ (by rw [h.c3]; rfl), ?_, ?_, ?_, ?_⟩
  · rw [World.cell?_setCell_other _ _ _ _ (by simp)]; exact h.c0
  · rw [World.cell?_setCell_other _ _ _ _ (by simp)]; exact h.c1
  · rw [World.cell?_setCell_other _ _ _ _ (by simp)]; exact h.c2
  · rw [World.frozen?_setCell]; exact h.f0
  · rw [World.frozen?_setCell]; exact h.f1
  · rw [World.frozen?_setCell]; exact h.f2
  · rw [World.frozen?_setCell]; exact h.f3

set_option maxRecDepth 10000 in
set_option maxHeartbeats 8000000 in
theorem Jobs_any (ok : Nat → Prop) (ts : List Tsk) (n : Nat) (hn : n ≤ 60) (ta : Option Addr) (tc : Nat) (w : World) (hL : Lies kTs ok w ta tc ts) :
    Calls Try.prog 4 #[.slice ta ts.length tc, .int .i64 n] w fun e w' => ∃ (a : Option Addr) (m c : Nat), e = .returned (.tuple #[.slice a m c, .int .i64 (jobsOf 0 (ts.take n)).2]) ∧ m = (jobsOf 0 (ts.take n)).1.length ∧ JbI w (jobsOf 0 (ts.take n)).1 (.slice a m c) w' := by
  obtain ⟨len, hlen'⟩ : ∃ len, len = ts.length := ⟨_, rfl⟩
  rw [← hlen']
  have HN := put_by hlen'
  have HL := put_by hL
  clear hL hlen'
  go_enter Try.func4, Try.ntmps4
  go_wp2
  go_loopw [6, 7, 8] (fun s ep i wr => ∃ (k : Nat) (a : Option Addr) (c : Nat) (q : Int), k ≤ len ∧ k ≤ n ∧ i = .int .i64 k ∧ s = .slice a k c ∧ ep = .int .i64 q ∧ 0 ≤ q ∧ q ≤ 2 * k ∧ Hid (q = (jobsOf 0 (ts.take k)).2 ∧ JbI w (jobsOf 0 (ts.take k)).1 (.slice a k c) wr)) (fun _ _ i _ => len - (intOf i).toNat)
  case atStart => exact ⟨0, none, 0, 0, Nat.zero_le _, Nat.zero_le _, rfl, rfl, rfl, by omega, by omega, rfl, Rows.nil _ _ _ _ _, Below.refl _ _⟩
  case round =>
    obtain ⟨k, a, c, q, hk, hkn, rfl, rfl, rfl, hq0, hq1, HR⟩ := hrel
    by_cases hlt : k < len ∧ k < n
    · obtain ⟨hlt1, hlt2⟩ := hlt
      have hx : k < ts.length := by rw [← HN.out]; exact hlt1
      obtain ⟨b4, off, rfl, hb4, _, cs, ⟨v, rfl, hv⟩, hc⟩ := HL.out.at hx
      obtain ⟨ea, ec, rfl, hvo, -⟩ := id hv
      have hI := HR.out.2
      have hcell : ∀ j x, [Value.int .i64 (ts[k]).kind, .int .i64 (ts[k]).addr, .int .i64 (ts[k]).epoch, .slice ea (ts[k]).data.length ec][j]? = some x → wr.cell? ⟨b4, off + k * 4 + j, none⟩ = some x := fun j x hj => (hI.below.cell (p := ⟨b4, off + k * 4 + j, none⟩) hb4).trans (hc j x hj)
      have d0 := hcell 0 _ rfl
      have d1 := hcell 1 _ rfl
      have d2 := hcell 2 _ rfl
      have d3 := hcell 3 _ rfl
      simp only [Nat.add_zero] at d0
      have hb4r : b4 < wr.heap.size := Nat.lt_of_lt_of_le hb4 hI.below.size
      have hsn : ts.take (k + 1) = ts.take k ++ [ts[k]] := List.take_succ_eq_append_getElem hx
      have HS : Hid (jobsOf 0 (ts.take (k + 1)) = ((jobsOf 0 (ts.take k)).1 ++ [(jobOf q ts[k]).1], (jobOf q ts[k]).2)) := put_by (by rw [hsn, jobsOf_snoc, ← HR.out.1])
      have hfk : (jobsOf 0 (ts.take k)).1.length = k := by rw [jobsOf_length, List.length_take]; omega
      have HFK := put_by hfk
      have HI := put_by hI
      have HVO := put_by (hvo.later hI.below)
      have ik : (k : Int) < (len : Int) := by omega
      have ik2 : (k : Int) < (n : Int) := by omega
      have i60 : (k : Int) ≤ 60 := by omega
      have e6 : 0 ≤ (ts[k]).kind % 6 ∧ (ts[k]).kind % 6 < 6 := ⟨Int.emod_nonneg _ (by decide), Int.emod_lt_of_pos _ (by decide)⟩
      have e2 : 0 ≤ (ts[k]).epoch % 2 ∧ (ts[k]).epoch % 2 < 2 := ⟨Int.emod_nonneg _ (by decide), Int.emod_lt_of_pos _ (by decide)⟩
      clear hcell hc hv hvo hsn hfk hI
      obtain ⟨t, ht⟩ : ∃ t, t = ts[k] := ⟨_, rfl⟩
      rw [← ht] at d0 d1 d2 d3 HS HVO e6 e2
      clear ht
      obtain ⟨tk, tad, te, td⟩ := t
      simp only at d0 d1 d2 d3 HVO e6 e2
      have cPk := fun (x y : Int) (h1 : 0 < y) (h2 : y ≤ 9223372036854775807) (W : World) => Picked_any x y h1 h2 W
      have HPK := put_by cPk
      clear cPk
      have hwq : IntKind.i64.wrap (q - 1) = q - 1 := by rw [IntKind.wrap_i64]; omega
      have HW2 : Hid (IntKind.i64.wrap (1 + te % 2) = 1 + te % 2 ∧ IntKind.i64.wrap (q + (1 + te % 2)) = q + (1 + te % 2)) := put_by ⟨by rw [IntKind.wrap_i64]; omega, by rw [IntKind.wrap_i64]; omega⟩
      obtain ⟨z6, hz6⟩ : ∃ z6, z6 = tk % 6 := ⟨_, rfl⟩
      rw [← hz6] at e6
      have hz : z6 = 0 ∨ z6 = 4 ∨ z6 = 5 ∨ z6 = 1 ∨ z6 = 2 ∨ z6 = 3 := by omega
      clear e6
      rcases hz with rfl | rfl | rfl | rfl | rfl | rfl
      · have hk6 := hz6.symm
        clear hz6
        have hwK : IntKind.i64.wrap 1 = 1 := by decide
        go_upto_region 6 with (fail)
        go_region_held3 (fun W => W.cell? ⟨b4, off + k * 4, none⟩ = some (.int .i64 tk) ∧ W.cell? ⟨b4, off + k * 4 + 1, none⟩ = some (.int .i64 tad)) (go_keep) (first
          | (go_at_call 5; (with_reducible refine (HPK.out _ _ ?_ ?_ _).mono ?_); (first | decide | omega); (first | decide | omega); rintro e w1 ⟨rfl, rfl⟩))
        all_goals
          have HJ := put_by (HI.out.open #[.int .i64 1, .int .i64 q, .int .i64 (tad % 6), .slice none 0 0] 29)
          have HQ := put_by ((Quad.new wr (.int .i64 1) (.int .i64 q) (.int .i64 (tad % 6)) (.slice none 0 0) 29).later (Below.refl _ _).drew)
          have hbV := ((Below.refl wr.heap.size wr).alloc (Nat.le_refl _) (.cells #[.int .i64 1, .int .i64 q, .int .i64 (tad % 6), .slice none 0 0] 29)).drew
          have HVO2 := put_by (HVO.out.later hbV)
          replace d0 := (hbV.cell (p := ⟨b4, off + k * 4, none⟩) hb4r).trans d0
          replace d1 := (hbV.cell (p := ⟨b4, off + k * 4 + 1, none⟩) hb4r).trans d1
          replace d2 := (hbV.cell (p := ⟨b4, off + k * 4 + 2, none⟩) hb4r).trans d2
          replace d3 := (hbV.cell (p := ⟨b4, off + k * 4 + 3, none⟩) hb4r).trans d3
          obtain ⟨jb, hjb⟩ : ∃ jb, jb = wr.heap.size := ⟨_, rfl⟩
          have hbj : b4 ≠ jb := by omega
          rw [← hjb] at HJ HQ
          rw [← hjb]
          clear hjb hbV HI HVO hb4r
          generalize (wr.alloc (.cells #[.int .i64 1, .int .i64 q, .int .i64 (tad % 6), .slice none 0 0] 29)).drew = V at *
          obtain ⟨x0, x1, x2, x3, y0, y1, y2, y3⟩ := HQ.out
          have cO : Hid (Calls Try.prog 6 #[.slice ea td.length ec, .int .i64 10] V fun e w' => ∃ (sa : Option Addr) (sc sn : Nat), e = .returned (.slice sa sn sc) ∧ Hid (sn = (td.take 10).length ∧ Octs w' sa sc (td.take 10) ∧ (∀ a, sa = some a → V.heap.size ≤ a.block)) ∧ Hid (Below V.heap.size V w')) := put_by ((Octets_new ea ec td 10 (by decide) V HVO2.out).mono fun e w' ⟨p, r, e1, e2, e3, e4⟩ => ⟨p, r, _, e1, put_by ⟨rfl, e2, e3⟩, put_by e4⟩)
          go_upto_region 15 with (go_at_call 6; (with_reducible refine cO.out.mono ?_); rintro e w1 ⟨sa, sc, sn, rfl, HO1, HB1⟩; have HJ1 := put_by (HJ.out.later HB1.out); have HQ1 := put_by (HQ.out.later HB1.out); replace d2 := (HB1.out.cell (p := ⟨b4, off + k * 4 + 2, none⟩) (World.block_lt_of_cell? _ _ d2)).trans d2; clear x0 x1 x2 x3 y0 y1 y2 y3; obtain ⟨x0, x1, x2, x3, y0, y1, y2, y3⟩ := HQ1.out)
          have HJ2 := put_by (HJ1.out.set 3 (.slice sa sn sc))
          have HQ2 := put_by (HQ1.out.set3 (.slice sa sn sc))
          have HNW : Hid (∀ ad, sa = some ad → ad.block ≠ jb ∧ (Value.slice a k c).ownBlock ≠ some ad.block) := put_by fun ad e => ⟨by have := HO1.out.2.2 ad e; have := HJ.out.lt; omega, fun e2 => by have := HO1.out.2.2 ad e; have := (rows_lt HJ.out.rows _ e2).2; omega⟩
          have hx9 : td.take 10 ≠ [] → ∀ ad, sa = some ad → ad.block ≠ jb := fun _ ad e => (HNW.out ad e).1
          have HD := put_by (HO1.out.2.1.move (ok := fun b => b ≠ jb) hx9 (kept_set (i := 3) (fun e => e rfl) (.slice sa sn sc)))
          replace d2 := (World.cell?_setCell_other w1 ⟨jb, 3, none⟩ ⟨b4, off + k * 4 + 2, none⟩ (.slice sa sn sc) (by simp)).trans d2
          clear HJ HQ HJ1 HQ1 x0 x1 x2 x3 y0 y1 y2 y3 d0 d1 d3
          have d0 := trivial
          have d1 := trivial
          have d3 := trivial
          clear HB1 HVO2 cO
          generalize w1.setCell ⟨jb, 3, none⟩ (.slice sa sn sc) = V4 at *
          have HJ := HJ2
          have HQ := HQ2
          obtain ⟨x0, x1, x2, x3, y0, y1, y2, y3⟩ := HQ.out
          by_cases h9 : te % 9 = 8
          · have HJO : Hid (jobOf q ⟨tk, tad, te, td⟩ = ((⟨1, q - 1, tad % 6, td.take 10⟩ : Jb), q)) := put_by (by simp [jobOf, hk6, h9])
            go_upto_region 17 with (go_at_call 5; (with_reducible refine (HPK.out _ _ ?_ ?_ _).mono ?_); (first | decide | omega); (first | decide | omega); rintro e w1 ⟨rfl, rfl⟩)
            have HJ9 := put_by (HJ.out.set 1 (.int .i64 (q - 1)))
            have HQ9 := put_by (HQ.out.set1 (.int .i64 (q - 1)))
            have HD9 := put_by (HD.out.move (ok := fun b => b ≠ jb) (fun hx ad e => (hx9 hx ad e)) (kept_set (i := 1) (fun e => e rfl) (.int .i64 (q - 1))))
            clear HJ HQ HD x0 x1 x2 x3 y0 y1 y2 y3 d0 d1 d2 d3
            generalize V4.setCell ⟨jb, 1, none⟩ (.int .i64 (q - 1)) = V9 at *
            have HJ := HJ9
            obtain ⟨x0, x1, x2, x3, y0, y1, y2, y3⟩ := HQ9.out
            go_wp2_with (at_builtin; refine wpList_append_one eltJb rfl (.tmp 84) (.tmp 86) rfl w.heap.size (.slice a k c) (jobsOf 0 (ts.take k)).1 rfl HJ.out.rows (⟨1, q - 1, tad % 6, td.take 10⟩ : Jb) [.int .i64 1, .int .i64 (q - 1), .int .i64 (tad % 6), .slice sa sn sc] _ _ rfl rfl ⟨_, rfl, sa, sc, by rw [HO1.out.1], HD9.out, fun _ ad e => HNW.out ad e⟩ ?_ (by rw [HFK.out]; omega) (by decide) HJ.out.below.size ?_)
            · exact fun b hb => by have := HJ.out.lt; omega
            · intro f' w3 hR3 hg3 hat3
              obtain ⟨a6, c6, e6⟩ := rows_form hR3
              have hl6 : ((jobsOf 0 (ts.take k)).1 ++ [((⟨1, q - 1, tad % 6, td.take 10⟩ : Jb) : Jb)]).length = k + 1 := by simp [HFK.out]
              rw [hl6] at e6
              subst e6
              have HI3 : Hid (q = (jobsOf 0 (ts.take (k + 1))).2 ∧ JbI w (jobsOf 0 (ts.take (k + 1))).1 (.slice a6 (k + 1) c6) w3) := put_by (by
                rw [HS.out, HJO.out]
                exact ⟨rfl, hR3.turned (fun _ _ _ => trivial), below_grown HJ.out.below HJ.out.below.size hg3 (fun r hr => (rows_lt HJ.out.rows r hr).1)⟩)
              clear hR3 hg3 hat3 hl6 HR
              go_wp2
              go_roundw
              case rel => exact ⟨k + 1, a6, c6, q, by omega, by omega, by go_num, rfl, rfl, by omega, by omega, HI3⟩
              case measure => simp [intOf]; omega
          · have HJO : Hid (jobOf q ⟨tk, tad, te, td⟩ = ((⟨1, q, tad % 6, td.take 10⟩ : Jb), q)) := put_by (by simp [jobOf, hk6, h9])
            have h9b : ((te % 9) == 8) = false := by simp [h9]
            go_upto_region 17 with (go_at_call 5; (with_reducible refine (HPK.out _ _ ?_ ?_ _).mono ?_); (first | decide | omega); (first | decide | omega); rintro e w1 ⟨rfl, rfl⟩)
            go_wp2_with (at_builtin; refine wpList_append_one eltJb rfl (.tmp 84) (.tmp 86) rfl w.heap.size (.slice a k c) (jobsOf 0 (ts.take k)).1 rfl HJ.out.rows (⟨1, q, tad % 6, td.take 10⟩ : Jb) [.int .i64 1, .int .i64 (q), .int .i64 (tad % 6), .slice sa sn sc] _ _ rfl rfl ⟨_, rfl, sa, sc, by rw [HO1.out.1], HD.out, fun _ ad e => HNW.out ad e⟩ ?_ (by rw [HFK.out]; omega) (by decide) HJ.out.below.size ?_)
            · exact fun b hb => by have := HJ.out.lt; omega
            · intro f' w3 hR3 hg3 hat3
              obtain ⟨a6, c6, e6⟩ := rows_form hR3
              have hl6 : ((jobsOf 0 (ts.take k)).1 ++ [((⟨1, q, tad % 6, td.take 10⟩ : Jb) : Jb)]).length = k + 1 := by simp [HFK.out]
              rw [hl6] at e6
              subst e6
              have HI3 : Hid (q = (jobsOf 0 (ts.take (k + 1))).2 ∧ JbI w (jobsOf 0 (ts.take (k + 1))).1 (.slice a6 (k + 1) c6) w3) := put_by (by
                rw [HS.out, HJO.out]
                exact ⟨rfl, hR3.turned (fun _ _ _ => trivial), below_grown HJ.out.below HJ.out.below.size hg3 (fun r hr => (rows_lt HJ.out.rows r hr).1)⟩)
              clear hR3 hg3 hat3 hl6 HR
              go_wp2
              go_roundw
              case rel => exact ⟨k + 1, a6, c6, q, by omega, by omega, by go_num, rfl, rfl, by omega, by omega, HI3⟩
              case measure => simp [intOf]; omega
      · have hk6 := hz6.symm
        clear hz6
        have hwK : IntKind.i64.wrap 5 = 5 := by decide
        go_upto_region 6 with (fail)
        go_region_held3 (fun W => W.cell? ⟨b4, off + k * 4, none⟩ = some (.int .i64 tk) ∧ W.cell? ⟨b4, off + k * 4 + 1, none⟩ = some (.int .i64 tad)) (go_keep) (first
          | (go_at_call 5; (with_reducible refine (HPK.out _ _ ?_ ?_ _).mono ?_); (first | decide | omega); (first | decide | omega); rintro e w1 ⟨rfl, rfl⟩))
        all_goals
          have HJ := put_by (HI.out.open #[.int .i64 5, .int .i64 q, .int .i64 (tad % 6), .slice none 0 0] 29)
          have HQ := put_by ((Quad.new wr (.int .i64 5) (.int .i64 q) (.int .i64 (tad % 6)) (.slice none 0 0) 29).later (Below.refl _ _).drew)
          have hbV := ((Below.refl wr.heap.size wr).alloc (Nat.le_refl _) (.cells #[.int .i64 5, .int .i64 q, .int .i64 (tad % 6), .slice none 0 0] 29)).drew
          have HVO2 := put_by (HVO.out.later hbV)
          replace d0 := (hbV.cell (p := ⟨b4, off + k * 4, none⟩) hb4r).trans d0
          replace d1 := (hbV.cell (p := ⟨b4, off + k * 4 + 1, none⟩) hb4r).trans d1
          replace d2 := (hbV.cell (p := ⟨b4, off + k * 4 + 2, none⟩) hb4r).trans d2
          replace d3 := (hbV.cell (p := ⟨b4, off + k * 4 + 3, none⟩) hb4r).trans d3
          obtain ⟨jb, hjb⟩ : ∃ jb, jb = wr.heap.size := ⟨_, rfl⟩
          have hbj : b4 ≠ jb := by omega
          rw [← hjb] at HJ HQ
          rw [← hjb]
          clear hjb hbV HI HVO hb4r
          generalize (wr.alloc (.cells #[.int .i64 5, .int .i64 q, .int .i64 (tad % 6), .slice none 0 0] 29)).drew = V at *
          obtain ⟨x0, x1, x2, x3, y0, y1, y2, y3⟩ := HQ.out
          have hw2 := HW2.out.1
          have hw3 := HW2.out.2
          go_upto_region 15 with (go_at_call 5; (with_reducible refine (HPK.out _ _ ?_ ?_ _).mono ?_); (first | decide | omega); (first | decide | omega); rintro e w1 ⟨rfl, rfl⟩)
          have HJ2 := put_by (HJ.out.set 1 (.int .i64 (q + (1 + te % 2))))
          have HQ2 := put_by (HQ.out.set1 (.int .i64 (q + (1 + te % 2))))
          clear HJ HQ x0 x1 x2 x3 y0 y1 y2 y3 d0 d1 d2 d3
          generalize V.setCell ⟨jb, 1, none⟩ (.int .i64 (q + (1 + te % 2))) = V2 at *
          have HJ := HJ2
          obtain ⟨x0, x1, x2, x3, y0, y1, y2, y3⟩ := HQ2.out
          have HJO : Hid (jobOf q ⟨tk, tad, te, td⟩ = ((⟨5, q + (1 + te % 2), tad % 6, []⟩ : Jb), q + (1 + te % 2))) := put_by (by simp [jobOf, hk6])
          go_wp2_with (at_builtin; refine wpList_append_one eltJb rfl (.tmp 84) (.tmp 86) rfl w.heap.size (.slice a k c) (jobsOf 0 (ts.take k)).1 rfl HJ.out.rows (⟨5, q + (1 + te % 2), tad % 6, []⟩ : Jb) [.int .i64 5, .int .i64 (q + (1 + te % 2)), .int .i64 (tad % 6), .slice none 0 0] _ _ rfl rfl ⟨_, rfl, none, 0, rfl, Octs.nil _ _ _ (fun _ => rfl), fun h => absurd rfl h⟩ ?_ (by rw [HFK.out]; omega) (by decide) HJ.out.below.size ?_)
          · exact fun b hb => by have := HJ.out.lt; omega
          · intro f' w3 hR3 hg3 hat3
            obtain ⟨a6, c6, e6⟩ := rows_form hR3
            have hl6 : ((jobsOf 0 (ts.take k)).1 ++ [((⟨5, q + (1 + te % 2), tad % 6, []⟩ : Jb) : Jb)]).length = k + 1 := by simp [HFK.out]
            rw [hl6] at e6
            subst e6
            have HI3 : Hid ((q + (1 + te % 2)) = (jobsOf 0 (ts.take (k + 1))).2 ∧ JbI w (jobsOf 0 (ts.take (k + 1))).1 (.slice a6 (k + 1) c6) w3) := put_by (by
              rw [HS.out, HJO.out]
              exact ⟨rfl, hR3.turned (fun _ _ _ => trivial), below_grown HJ.out.below HJ.out.below.size hg3 (fun r hr => (rows_lt HJ.out.rows r hr).1)⟩)
            clear hR3 hg3 hat3 hl6 HR
            go_wp2
            go_roundw
            case rel => exact ⟨k + 1, a6, c6, (q + (1 + te % 2)), by omega, by omega, by go_num, rfl, rfl, by omega, by omega, HI3⟩
            case measure => simp [intOf]; omega
      · have hk6 := hz6.symm
        clear hz6
        have hwK : IntKind.i64.wrap 6 = 6 := by decide
        go_upto_region 6 with (fail)
        go_region_held3 (fun W => W.cell? ⟨b4, off + k * 4, none⟩ = some (.int .i64 tk) ∧ W.cell? ⟨b4, off + k * 4 + 1, none⟩ = some (.int .i64 tad)) (go_keep) (first
          | (go_at_call 5; (with_reducible refine (HPK.out _ _ ?_ ?_ _).mono ?_); (first | decide | omega); (first | decide | omega); rintro e w1 ⟨rfl, rfl⟩))
        all_goals
          have HJ := put_by (HI.out.open #[.int .i64 6, .int .i64 q, .int .i64 (tad % 6), .slice none 0 0] 29)
          have HQ := put_by ((Quad.new wr (.int .i64 6) (.int .i64 q) (.int .i64 (tad % 6)) (.slice none 0 0) 29).later (Below.refl _ _).drew)
          have hbV := ((Below.refl wr.heap.size wr).alloc (Nat.le_refl _) (.cells #[.int .i64 6, .int .i64 q, .int .i64 (tad % 6), .slice none 0 0] 29)).drew
          have HVO2 := put_by (HVO.out.later hbV)
          replace d0 := (hbV.cell (p := ⟨b4, off + k * 4, none⟩) hb4r).trans d0
          replace d1 := (hbV.cell (p := ⟨b4, off + k * 4 + 1, none⟩) hb4r).trans d1
          replace d2 := (hbV.cell (p := ⟨b4, off + k * 4 + 2, none⟩) hb4r).trans d2
          replace d3 := (hbV.cell (p := ⟨b4, off + k * 4 + 3, none⟩) hb4r).trans d3
          obtain ⟨jb, hjb⟩ : ∃ jb, jb = wr.heap.size := ⟨_, rfl⟩
          have hbj : b4 ≠ jb := by omega
          rw [← hjb] at HJ HQ
          rw [← hjb]
          clear hjb hbV HI HVO hb4r
          generalize (wr.alloc (.cells #[.int .i64 6, .int .i64 q, .int .i64 (tad % 6), .slice none 0 0] 29)).drew = V at *
          obtain ⟨x0, x1, x2, x3, y0, y1, y2, y3⟩ := HQ.out
          go_upto_region 15 with (go_at_call 5; (with_reducible refine (HPK.out _ _ ?_ ?_ _).mono ?_); (first | decide | omega); (first | decide | omega); rintro e w1 ⟨rfl, rfl⟩)
          have HJ2 := put_by (HJ.out.set 2 (.int .i64 (tad % 24)))
          have HQ2 := put_by (HQ.out.set2 (.int .i64 (tad % 24)))
          replace d2 := (World.cell?_setCell_other V ⟨jb, 2, none⟩ ⟨b4, off + k * 4 + 2, none⟩ (.int .i64 (tad % 24)) (by simp)).trans d2
          clear HJ HQ x0 x1 x2 x3 y0 y1 y2 y3 d0 d1 d3
          have d0 := trivial
          have d1 := trivial
          have d3 := trivial
          generalize V.setCell ⟨jb, 2, none⟩ (.int .i64 (tad % 24)) = V at *
          have HJ := HJ2
          have HQ := HQ2
          obtain ⟨x0, x1, x2, x3, y0, y1, y2, y3⟩ := HQ.out
          have HD := put_by (Octs.nil V none 0 (fun _ => rfl))
          have hx9 : ([] : List Int) ≠ [] → ∀ ad : Addr, (none : Option Addr) = some ad → ad.block ≠ jb := fun h => absurd rfl h
          by_cases h9 : te % 9 = 8
          · have HJO : Hid (jobOf q ⟨tk, tad, te, td⟩ = ((⟨6, q - 1, tad % 24, []⟩ : Jb), q)) := put_by (by simp [jobOf, hk6, h9])
            go_upto_region 17 with (go_at_call 5; (with_reducible refine (HPK.out _ _ ?_ ?_ _).mono ?_); (first | decide | omega); (first | decide | omega); rintro e w1 ⟨rfl, rfl⟩)
            have HJ9 := put_by (HJ.out.set 1 (.int .i64 (q - 1)))
            have HQ9 := put_by (HQ.out.set1 (.int .i64 (q - 1)))
            have HD9 := put_by (HD.out.move (ok := fun b => b ≠ jb) (fun hx ad e => (hx9 hx ad e)) (kept_set (i := 1) (fun e => e rfl) (.int .i64 (q - 1))))
            clear HJ HQ HD x0 x1 x2 x3 y0 y1 y2 y3 d0 d1 d2 d3
            generalize V.setCell ⟨jb, 1, none⟩ (.int .i64 (q - 1)) = V9 at *
            have HJ := HJ9
            obtain ⟨x0, x1, x2, x3, y0, y1, y2, y3⟩ := HQ9.out
            go_wp2_with (at_builtin; refine wpList_append_one eltJb rfl (.tmp 84) (.tmp 86) rfl w.heap.size (.slice a k c) (jobsOf 0 (ts.take k)).1 rfl HJ.out.rows (⟨6, q - 1, tad % 24, []⟩ : Jb) [.int .i64 6, .int .i64 (q - 1), .int .i64 (tad % 24), .slice none 0 0] _ _ rfl rfl ⟨_, rfl, none, 0, rfl, Octs.nil _ _ _ (fun _ => rfl), fun h => absurd rfl h⟩ ?_ (by rw [HFK.out]; omega) (by decide) HJ.out.below.size ?_)
            · exact fun b hb => by have := HJ.out.lt; omega
            · intro f' w3 hR3 hg3 hat3
              obtain ⟨a6, c6, e6⟩ := rows_form hR3
              have hl6 : ((jobsOf 0 (ts.take k)).1 ++ [((⟨6, q - 1, tad % 24, []⟩ : Jb) : Jb)]).length = k + 1 := by simp [HFK.out]
              rw [hl6] at e6
              subst e6
              have HI3 : Hid (q = (jobsOf 0 (ts.take (k + 1))).2 ∧ JbI w (jobsOf 0 (ts.take (k + 1))).1 (.slice a6 (k + 1) c6) w3) := put_by (by
                rw [HS.out, HJO.out]
                exact ⟨rfl, hR3.turned (fun _ _ _ => trivial), below_grown HJ.out.below HJ.out.below.size hg3 (fun r hr => (rows_lt HJ.out.rows r hr).1)⟩)
              clear hR3 hg3 hat3 hl6 HR
              go_wp2
              go_roundw
              case rel => exact ⟨k + 1, a6, c6, q, by omega, by omega, by go_num, rfl, rfl, by omega, by omega, HI3⟩
              case measure => simp [intOf]; omega
          · have HJO : Hid (jobOf q ⟨tk, tad, te, td⟩ = ((⟨6, q, tad % 24, []⟩ : Jb), q)) := put_by (by simp [jobOf, hk6, h9])
            have h9b : ((te % 9) == 8) = false := by simp [h9]
            go_upto_region 17 with (go_at_call 5; (with_reducible refine (HPK.out _ _ ?_ ?_ _).mono ?_); (first | decide | omega); (first | decide | omega); rintro e w1 ⟨rfl, rfl⟩)
            go_wp2_with (at_builtin; refine wpList_append_one eltJb rfl (.tmp 84) (.tmp 86) rfl w.heap.size (.slice a k c) (jobsOf 0 (ts.take k)).1 rfl HJ.out.rows (⟨6, q, tad % 24, []⟩ : Jb) [.int .i64 6, .int .i64 (q), .int .i64 (tad % 24), .slice none 0 0] _ _ rfl rfl ⟨_, rfl, none, 0, rfl, Octs.nil _ _ _ (fun _ => rfl), fun h => absurd rfl h⟩ ?_ (by rw [HFK.out]; omega) (by decide) HJ.out.below.size ?_)
            · exact fun b hb => by have := HJ.out.lt; omega
            · intro f' w3 hR3 hg3 hat3
              obtain ⟨a6, c6, e6⟩ := rows_form hR3
              have hl6 : ((jobsOf 0 (ts.take k)).1 ++ [((⟨6, q, tad % 24, []⟩ : Jb) : Jb)]).length = k + 1 := by simp [HFK.out]
              rw [hl6] at e6
              subst e6
              have HI3 : Hid (q = (jobsOf 0 (ts.take (k + 1))).2 ∧ JbI w (jobsOf 0 (ts.take (k + 1))).1 (.slice a6 (k + 1) c6) w3) := put_by (by
                rw [HS.out, HJO.out]
                exact ⟨rfl, hR3.turned (fun _ _ _ => trivial), below_grown HJ.out.below HJ.out.below.size hg3 (fun r hr => (rows_lt HJ.out.rows r hr).1)⟩)
              clear hR3 hg3 hat3 hl6 HR
              go_wp2
              go_roundw
              case rel => exact ⟨k + 1, a6, c6, q, by omega, by omega, by go_num, rfl, rfl, by omega, by omega, HI3⟩
              case measure => simp [intOf]; omega
      · have hk6 := hz6.symm
        clear hz6
        have hwK : IntKind.i64.wrap 2 = 2 := by decide
        go_upto_region 6 with (fail)
        go_region_held3 (fun W => W.cell? ⟨b4, off + k * 4, none⟩ = some (.int .i64 tk) ∧ W.cell? ⟨b4, off + k * 4 + 1, none⟩ = some (.int .i64 tad)) (go_keep) (first
          | (go_at_call 5; (with_reducible refine (HPK.out _ _ ?_ ?_ _).mono ?_); (first | decide | omega); (first | decide | omega); rintro e w1 ⟨rfl, rfl⟩))
        all_goals
          have HJ := put_by (HI.out.open #[.int .i64 2, .int .i64 q, .int .i64 (tad % 6), .slice none 0 0] 29)
          have HQ := put_by ((Quad.new wr (.int .i64 2) (.int .i64 q) (.int .i64 (tad % 6)) (.slice none 0 0) 29).later (Below.refl _ _).drew)
          have hbV := ((Below.refl wr.heap.size wr).alloc (Nat.le_refl _) (.cells #[.int .i64 2, .int .i64 q, .int .i64 (tad % 6), .slice none 0 0] 29)).drew
          have HVO2 := put_by (HVO.out.later hbV)
          replace d0 := (hbV.cell (p := ⟨b4, off + k * 4, none⟩) hb4r).trans d0
          replace d1 := (hbV.cell (p := ⟨b4, off + k * 4 + 1, none⟩) hb4r).trans d1
          replace d2 := (hbV.cell (p := ⟨b4, off + k * 4 + 2, none⟩) hb4r).trans d2
          replace d3 := (hbV.cell (p := ⟨b4, off + k * 4 + 3, none⟩) hb4r).trans d3
          obtain ⟨jb, hjb⟩ : ∃ jb, jb = wr.heap.size := ⟨_, rfl⟩
          have hbj : b4 ≠ jb := by omega
          rw [← hjb] at HJ HQ
          rw [← hjb]
          clear hjb hbV HI HVO hb4r
          generalize (wr.alloc (.cells #[.int .i64 2, .int .i64 q, .int .i64 (tad % 6), .slice none 0 0] 29)).drew = V at *
          obtain ⟨x0, x1, x2, x3, y0, y1, y2, y3⟩ := HQ.out
          have HD := put_by (Octs.nil V none 0 (fun _ => rfl))
          have hx9 : ([] : List Int) ≠ [] → ∀ ad : Addr, (none : Option Addr) = some ad → ad.block ≠ jb := fun h => absurd rfl h
          by_cases h9 : te % 9 = 8
          · have HJO : Hid (jobOf q ⟨tk, tad, te, td⟩ = ((⟨2, q - 1, tad % 6, []⟩ : Jb), q)) := put_by (by simp [jobOf, hk6, h9])
            go_upto_region 17 with (go_at_call 5; (with_reducible refine (HPK.out _ _ ?_ ?_ _).mono ?_); (first | decide | omega); (first | decide | omega); rintro e w1 ⟨rfl, rfl⟩)
            have HJ9 := put_by (HJ.out.set 1 (.int .i64 (q - 1)))
            have HQ9 := put_by (HQ.out.set1 (.int .i64 (q - 1)))
            have HD9 := put_by (HD.out.move (ok := fun b => b ≠ jb) (fun hx ad e => (hx9 hx ad e)) (kept_set (i := 1) (fun e => e rfl) (.int .i64 (q - 1))))
            clear HJ HQ HD x0 x1 x2 x3 y0 y1 y2 y3 d0 d1 d2 d3
            generalize V.setCell ⟨jb, 1, none⟩ (.int .i64 (q - 1)) = V9 at *
            have HJ := HJ9
            obtain ⟨x0, x1, x2, x3, y0, y1, y2, y3⟩ := HQ9.out
            go_wp2_with (at_builtin; refine wpList_append_one eltJb rfl (.tmp 84) (.tmp 86) rfl w.heap.size (.slice a k c) (jobsOf 0 (ts.take k)).1 rfl HJ.out.rows (⟨2, q - 1, tad % 6, []⟩ : Jb) [.int .i64 2, .int .i64 (q - 1), .int .i64 (tad % 6), .slice none 0 0] _ _ rfl rfl ⟨_, rfl, none, 0, rfl, Octs.nil _ _ _ (fun _ => rfl), fun h => absurd rfl h⟩ ?_ (by rw [HFK.out]; omega) (by decide) HJ.out.below.size ?_)
            · exact fun b hb => by have := HJ.out.lt; omega
            · intro f' w3 hR3 hg3 hat3
              obtain ⟨a6, c6, e6⟩ := rows_form hR3
              have hl6 : ((jobsOf 0 (ts.take k)).1 ++ [((⟨2, q - 1, tad % 6, []⟩ : Jb) : Jb)]).length = k + 1 := by simp [HFK.out]
              rw [hl6] at e6
              subst e6
              have HI3 : Hid (q = (jobsOf 0 (ts.take (k + 1))).2 ∧ JbI w (jobsOf 0 (ts.take (k + 1))).1 (.slice a6 (k + 1) c6) w3) := put_by (by
                rw [HS.out, HJO.out]
                exact ⟨rfl, hR3.turned (fun _ _ _ => trivial), below_grown HJ.out.below HJ.out.below.size hg3 (fun r hr => (rows_lt HJ.out.rows r hr).1)⟩)
              clear hR3 hg3 hat3 hl6 HR
              go_wp2
              go_roundw
              case rel => exact ⟨k + 1, a6, c6, q, by omega, by omega, by go_num, rfl, rfl, by omega, by omega, HI3⟩
              case measure => simp [intOf]; omega
          · have HJO : Hid (jobOf q ⟨tk, tad, te, td⟩ = ((⟨2, q, tad % 6, []⟩ : Jb), q)) := put_by (by simp [jobOf, hk6, h9])
            have h9b : ((te % 9) == 8) = false := by simp [h9]
            go_upto_region 17 with (go_at_call 5; (with_reducible refine (HPK.out _ _ ?_ ?_ _).mono ?_); (first | decide | omega); (first | decide | omega); rintro e w1 ⟨rfl, rfl⟩)
            go_wp2_with (at_builtin; refine wpList_append_one eltJb rfl (.tmp 84) (.tmp 86) rfl w.heap.size (.slice a k c) (jobsOf 0 (ts.take k)).1 rfl HJ.out.rows (⟨2, q, tad % 6, []⟩ : Jb) [.int .i64 2, .int .i64 (q), .int .i64 (tad % 6), .slice none 0 0] _ _ rfl rfl ⟨_, rfl, none, 0, rfl, Octs.nil _ _ _ (fun _ => rfl), fun h => absurd rfl h⟩ ?_ (by rw [HFK.out]; omega) (by decide) HJ.out.below.size ?_)
            · exact fun b hb => by have := HJ.out.lt; omega
            · intro f' w3 hR3 hg3 hat3
              obtain ⟨a6, c6, e6⟩ := rows_form hR3
              have hl6 : ((jobsOf 0 (ts.take k)).1 ++ [((⟨2, q, tad % 6, []⟩ : Jb) : Jb)]).length = k + 1 := by simp [HFK.out]
              rw [hl6] at e6
              subst e6
              have HI3 : Hid (q = (jobsOf 0 (ts.take (k + 1))).2 ∧ JbI w (jobsOf 0 (ts.take (k + 1))).1 (.slice a6 (k + 1) c6) w3) := put_by (by
                rw [HS.out, HJO.out]
                exact ⟨rfl, hR3.turned (fun _ _ _ => trivial), below_grown HJ.out.below HJ.out.below.size hg3 (fun r hr => (rows_lt HJ.out.rows r hr).1)⟩)
              clear hR3 hg3 hat3 hl6 HR
              go_wp2
              go_roundw
              case rel => exact ⟨k + 1, a6, c6, q, by omega, by omega, by go_num, rfl, rfl, by omega, by omega, HI3⟩
              case measure => simp [intOf]; omega
      · have hk6 := hz6.symm
        clear hz6
        have hwK : IntKind.i64.wrap 3 = 3 := by decide
        go_upto_region 6 with (fail)
        go_region_held3 (fun W => W.cell? ⟨b4, off + k * 4, none⟩ = some (.int .i64 tk) ∧ W.cell? ⟨b4, off + k * 4 + 1, none⟩ = some (.int .i64 tad)) (go_keep) (first
          | (go_at_call 5; (with_reducible refine (HPK.out _ _ ?_ ?_ _).mono ?_); (first | decide | omega); (first | decide | omega); rintro e w1 ⟨rfl, rfl⟩))
        all_goals
          have HJ := put_by (HI.out.open #[.int .i64 3, .int .i64 q, .int .i64 (tad % 6), .slice none 0 0] 29)
          have HQ := put_by ((Quad.new wr (.int .i64 3) (.int .i64 q) (.int .i64 (tad % 6)) (.slice none 0 0) 29).later (Below.refl _ _).drew)
          have hbV := ((Below.refl wr.heap.size wr).alloc (Nat.le_refl _) (.cells #[.int .i64 3, .int .i64 q, .int .i64 (tad % 6), .slice none 0 0] 29)).drew
          have HVO2 := put_by (HVO.out.later hbV)
          replace d0 := (hbV.cell (p := ⟨b4, off + k * 4, none⟩) hb4r).trans d0
          replace d1 := (hbV.cell (p := ⟨b4, off + k * 4 + 1, none⟩) hb4r).trans d1
          replace d2 := (hbV.cell (p := ⟨b4, off + k * 4 + 2, none⟩) hb4r).trans d2
          replace d3 := (hbV.cell (p := ⟨b4, off + k * 4 + 3, none⟩) hb4r).trans d3
          obtain ⟨jb, hjb⟩ : ∃ jb, jb = wr.heap.size := ⟨_, rfl⟩
          have hbj : b4 ≠ jb := by omega
          rw [← hjb] at HJ HQ
          rw [← hjb]
          clear hjb hbV HI HVO hb4r
          generalize (wr.alloc (.cells #[.int .i64 3, .int .i64 q, .int .i64 (tad % 6), .slice none 0 0] 29)).drew = V at *
          obtain ⟨x0, x1, x2, x3, y0, y1, y2, y3⟩ := HQ.out
          have HD := put_by (Octs.nil V none 0 (fun _ => rfl))
          have hx9 : ([] : List Int) ≠ [] → ∀ ad : Addr, (none : Option Addr) = some ad → ad.block ≠ jb := fun h => absurd rfl h
          by_cases h9 : te % 9 = 8
          · have HJO : Hid (jobOf q ⟨tk, tad, te, td⟩ = ((⟨3, q - 1, tad % 6, []⟩ : Jb), q)) := put_by (by simp [jobOf, hk6, h9])
            go_upto_region 17 with (go_at_call 5; (with_reducible refine (HPK.out _ _ ?_ ?_ _).mono ?_); (first | decide | omega); (first | decide | omega); rintro e w1 ⟨rfl, rfl⟩)
            have HJ9 := put_by (HJ.out.set 1 (.int .i64 (q - 1)))
            have HQ9 := put_by (HQ.out.set1 (.int .i64 (q - 1)))
            have HD9 := put_by (HD.out.move (ok := fun b => b ≠ jb) (fun hx ad e => (hx9 hx ad e)) (kept_set (i := 1) (fun e => e rfl) (.int .i64 (q - 1))))
            clear HJ HQ HD x0 x1 x2 x3 y0 y1 y2 y3 d0 d1 d2 d3
            generalize V.setCell ⟨jb, 1, none⟩ (.int .i64 (q - 1)) = V9 at *
            have HJ := HJ9
            obtain ⟨x0, x1, x2, x3, y0, y1, y2, y3⟩ := HQ9.out
            go_wp2_with (at_builtin; refine wpList_append_one eltJb rfl (.tmp 84) (.tmp 86) rfl w.heap.size (.slice a k c) (jobsOf 0 (ts.take k)).1 rfl HJ.out.rows (⟨3, q - 1, tad % 6, []⟩ : Jb) [.int .i64 3, .int .i64 (q - 1), .int .i64 (tad % 6), .slice none 0 0] _ _ rfl rfl ⟨_, rfl, none, 0, rfl, Octs.nil _ _ _ (fun _ => rfl), fun h => absurd rfl h⟩ ?_ (by rw [HFK.out]; omega) (by decide) HJ.out.below.size ?_)
            · exact fun b hb => by have := HJ.out.lt; omega
            · intro f' w3 hR3 hg3 hat3
              obtain ⟨a6, c6, e6⟩ := rows_form hR3
              have hl6 : ((jobsOf 0 (ts.take k)).1 ++ [((⟨3, q - 1, tad % 6, []⟩ : Jb) : Jb)]).length = k + 1 := by simp [HFK.out]
              rw [hl6] at e6
              subst e6
              have HI3 : Hid (q = (jobsOf 0 (ts.take (k + 1))).2 ∧ JbI w (jobsOf 0 (ts.take (k + 1))).1 (.slice a6 (k + 1) c6) w3) := put_by (by
                rw [HS.out, HJO.out]
                exact ⟨rfl, hR3.turned (fun _ _ _ => trivial), below_grown HJ.out.below HJ.out.below.size hg3 (fun r hr => (rows_lt HJ.out.rows r hr).1)⟩)
              clear hR3 hg3 hat3 hl6 HR
              go_wp2
              go_roundw
              case rel => exact ⟨k + 1, a6, c6, q, by omega, by omega, by go_num, rfl, rfl, by omega, by omega, HI3⟩
              case measure => simp [intOf]; omega
          · have HJO : Hid (jobOf q ⟨tk, tad, te, td⟩ = ((⟨3, q, tad % 6, []⟩ : Jb), q)) := put_by (by simp [jobOf, hk6, h9])
            have h9b : ((te % 9) == 8) = false := by simp [h9]
            go_upto_region 17 with (go_at_call 5; (with_reducible refine (HPK.out _ _ ?_ ?_ _).mono ?_); (first | decide | omega); (first | decide | omega); rintro e w1 ⟨rfl, rfl⟩)
            go_wp2_with (at_builtin; refine wpList_append_one eltJb rfl (.tmp 84) (.tmp 86) rfl w.heap.size (.slice a k c) (jobsOf 0 (ts.take k)).1 rfl HJ.out.rows (⟨3, q, tad % 6, []⟩ : Jb) [.int .i64 3, .int .i64 (q), .int .i64 (tad % 6), .slice none 0 0] _ _ rfl rfl ⟨_, rfl, none, 0, rfl, Octs.nil _ _ _ (fun _ => rfl), fun h => absurd rfl h⟩ ?_ (by rw [HFK.out]; omega) (by decide) HJ.out.below.size ?_)
            · exact fun b hb => by have := HJ.out.lt; omega
            · intro f' w3 hR3 hg3 hat3
              obtain ⟨a6, c6, e6⟩ := rows_form hR3
              have hl6 : ((jobsOf 0 (ts.take k)).1 ++ [((⟨3, q, tad % 6, []⟩ : Jb) : Jb)]).length = k + 1 := by simp [HFK.out]
              rw [hl6] at e6
              subst e6
              have HI3 : Hid (q = (jobsOf 0 (ts.take (k + 1))).2 ∧ JbI w (jobsOf 0 (ts.take (k + 1))).1 (.slice a6 (k + 1) c6) w3) := put_by (by
                rw [HS.out, HJO.out]
                exact ⟨rfl, hR3.turned (fun _ _ _ => trivial), below_grown HJ.out.below HJ.out.below.size hg3 (fun r hr => (rows_lt HJ.out.rows r hr).1)⟩)
              clear hR3 hg3 hat3 hl6 HR
              go_wp2
              go_roundw
              case rel => exact ⟨k + 1, a6, c6, q, by omega, by omega, by go_num, rfl, rfl, by omega, by omega, HI3⟩
              case measure => simp [intOf]; omega
      · have hk6 := hz6.symm
        clear hz6
        have hwK : IntKind.i64.wrap 4 = 4 := by decide
        go_upto_region 6 with (fail)
        go_region_held3 (fun W => W.cell? ⟨b4, off + k * 4, none⟩ = some (.int .i64 tk) ∧ W.cell? ⟨b4, off + k * 4 + 1, none⟩ = some (.int .i64 tad)) (go_keep) (first
          | (go_at_call 5; (with_reducible refine (HPK.out _ _ ?_ ?_ _).mono ?_); (first | decide | omega); (first | decide | omega); rintro e w1 ⟨rfl, rfl⟩))
        all_goals
          have HJ := put_by (HI.out.open #[.int .i64 4, .int .i64 q, .int .i64 (tad % 6), .slice none 0 0] 29)
          have HQ := put_by ((Quad.new wr (.int .i64 4) (.int .i64 q) (.int .i64 (tad % 6)) (.slice none 0 0) 29).later (Below.refl _ _).drew)
          have hbV := ((Below.refl wr.heap.size wr).alloc (Nat.le_refl _) (.cells #[.int .i64 4, .int .i64 q, .int .i64 (tad % 6), .slice none 0 0] 29)).drew
          have HVO2 := put_by (HVO.out.later hbV)
          replace d0 := (hbV.cell (p := ⟨b4, off + k * 4, none⟩) hb4r).trans d0
          replace d1 := (hbV.cell (p := ⟨b4, off + k * 4 + 1, none⟩) hb4r).trans d1
          replace d2 := (hbV.cell (p := ⟨b4, off + k * 4 + 2, none⟩) hb4r).trans d2
          replace d3 := (hbV.cell (p := ⟨b4, off + k * 4 + 3, none⟩) hb4r).trans d3
          obtain ⟨jb, hjb⟩ : ∃ jb, jb = wr.heap.size := ⟨_, rfl⟩
          have hbj : b4 ≠ jb := by omega
          rw [← hjb] at HJ HQ
          rw [← hjb]
          clear hjb hbV HI HVO hb4r
          generalize (wr.alloc (.cells #[.int .i64 4, .int .i64 q, .int .i64 (tad % 6), .slice none 0 0] 29)).drew = V at *
          obtain ⟨x0, x1, x2, x3, y0, y1, y2, y3⟩ := HQ.out
          have HD := put_by (Octs.nil V none 0 (fun _ => rfl))
          have hx9 : ([] : List Int) ≠ [] → ∀ ad : Addr, (none : Option Addr) = some ad → ad.block ≠ jb := fun h => absurd rfl h
          by_cases h9 : te % 9 = 8
          · have HJO : Hid (jobOf q ⟨tk, tad, te, td⟩ = ((⟨4, q - 1, tad % 6, []⟩ : Jb), q)) := put_by (by simp [jobOf, hk6, h9])
            go_upto_region 17 with (go_at_call 5; (with_reducible refine (HPK.out _ _ ?_ ?_ _).mono ?_); (first | decide | omega); (first | decide | omega); rintro e w1 ⟨rfl, rfl⟩)
            have HJ9 := put_by (HJ.out.set 1 (.int .i64 (q - 1)))
            have HQ9 := put_by (HQ.out.set1 (.int .i64 (q - 1)))
            have HD9 := put_by (HD.out.move (ok := fun b => b ≠ jb) (fun hx ad e => (hx9 hx ad e)) (kept_set (i := 1) (fun e => e rfl) (.int .i64 (q - 1))))
            clear HJ HQ HD x0 x1 x2 x3 y0 y1 y2 y3 d0 d1 d2 d3
            generalize V.setCell ⟨jb, 1, none⟩ (.int .i64 (q - 1)) = V9 at *
            have HJ := HJ9
            obtain ⟨x0, x1, x2, x3, y0, y1, y2, y3⟩ := HQ9.out
            go_wp2_with (at_builtin; refine wpList_append_one eltJb rfl (.tmp 84) (.tmp 86) rfl w.heap.size (.slice a k c) (jobsOf 0 (ts.take k)).1 rfl HJ.out.rows (⟨4, q - 1, tad % 6, []⟩ : Jb) [.int .i64 4, .int .i64 (q - 1), .int .i64 (tad % 6), .slice none 0 0] _ _ rfl rfl ⟨_, rfl, none, 0, rfl, Octs.nil _ _ _ (fun _ => rfl), fun h => absurd rfl h⟩ ?_ (by rw [HFK.out]; omega) (by decide) HJ.out.below.size ?_)
            · exact fun b hb => by have := HJ.out.lt; omega
            · intro f' w3 hR3 hg3 hat3
              obtain ⟨a6, c6, e6⟩ := rows_form hR3
              have hl6 : ((jobsOf 0 (ts.take k)).1 ++ [((⟨4, q - 1, tad % 6, []⟩ : Jb) : Jb)]).length = k + 1 := by simp [HFK.out]
              rw [hl6] at e6
              subst e6
              have HI3 : Hid (q = (jobsOf 0 (ts.take (k + 1))).2 ∧ JbI w (jobsOf 0 (ts.take (k + 1))).1 (.slice a6 (k + 1) c6) w3) := put_by (by
                rw [HS.out, HJO.out]
                exact ⟨rfl, hR3.turned (fun _ _ _ => trivial), below_grown HJ.out.below HJ.out.below.size hg3 (fun r hr => (rows_lt HJ.out.rows r hr).1)⟩)
              clear hR3 hg3 hat3 hl6 HR
              go_wp2
              go_roundw
              case rel => exact ⟨k + 1, a6, c6, q, by omega, by omega, by go_num, rfl, rfl, by omega, by omega, HI3⟩
              case measure => simp [intOf]; omega
          · have HJO : Hid (jobOf q ⟨tk, tad, te, td⟩ = ((⟨4, q, tad % 6, []⟩ : Jb), q)) := put_by (by simp [jobOf, hk6, h9])
            have h9b : ((te % 9) == 8) = false := by simp [h9]
            go_upto_region 17 with (go_at_call 5; (with_reducible refine (HPK.out _ _ ?_ ?_ _).mono ?_); (first | decide | omega); (first | decide | omega); rintro e w1 ⟨rfl, rfl⟩)
            go_wp2_with (at_builtin; refine wpList_append_one eltJb rfl (.tmp 84) (.tmp 86) rfl w.heap.size (.slice a k c) (jobsOf 0 (ts.take k)).1 rfl HJ.out.rows (⟨4, q, tad % 6, []⟩ : Jb) [.int .i64 4, .int .i64 (q), .int .i64 (tad % 6), .slice none 0 0] _ _ rfl rfl ⟨_, rfl, none, 0, rfl, Octs.nil _ _ _ (fun _ => rfl), fun h => absurd rfl h⟩ ?_ (by rw [HFK.out]; omega) (by decide) HJ.out.below.size ?_)
            · exact fun b hb => by have := HJ.out.lt; omega
            · intro f' w3 hR3 hg3 hat3
              obtain ⟨a6, c6, e6⟩ := rows_form hR3
              have hl6 : ((jobsOf 0 (ts.take k)).1 ++ [((⟨4, q, tad % 6, []⟩ : Jb) : Jb)]).length = k + 1 := by simp [HFK.out]
              rw [hl6] at e6
              subst e6
              have HI3 : Hid (q = (jobsOf 0 (ts.take (k + 1))).2 ∧ JbI w (jobsOf 0 (ts.take (k + 1))).1 (.slice a6 (k + 1) c6) w3) := put_by (by
                rw [HS.out, HJO.out]
                exact ⟨rfl, hR3.turned (fun _ _ _ => trivial), below_grown HJ.out.below HJ.out.below.size hg3 (fun r hr => (rows_lt HJ.out.rows r hr).1)⟩)
              clear hR3 hg3 hat3 hl6 HR
              go_wp2
              go_roundw
              case rel => exact ⟨k + 1, a6, c6, q, by omega, by omega, by go_num, rfl, rfl, by omega, by omega, HI3⟩
              case measure => simp [intOf]; omega
    · have hend : Hid (ts.take k = ts.take n) := put_by (by
        by_cases h : k = n
        · rw [h]
        · have hkl : k = len := by omega
          rw [List.take_of_length_le (by rw [← HN.out]; omega), List.take_of_length_le (by rw [← HN.out]; omega)])
      by_cases h1 : k < len
      · have i1 : (k : Int) < (len : Int) := by omega
        have i2 : decide ((k : Int) < (n : Int)) = false := decide_eq_false (by omega)
        go_wp2
        refine bodyPost_ret (v := .tuple #[.slice a k c, .int .i64 q]) (by simp [results, Try.results4, go_sem]) rfl ⟨a, k, c, ?_, ?_, ?_⟩
        · rw [← hend.out, HR.out.1]
        · rw [jobsOf_length, ← hend.out, List.length_take, ← HN.out]; omega
        · rw [← hend.out]
          exact HR.out.2
      · have i1 : decide ((k : Int) < (len : Int)) = false := decide_eq_false (by omega)
        go_wp2
        refine bodyPost_ret (v := .tuple #[.slice a k c, .int .i64 q]) (by simp [results, Try.results4, go_sem]) rfl ⟨a, k, c, ?_, ?_, ?_⟩
        · rw [← hend.out, HR.out.1]
        · rw [jobsOf_length, ← hend.out, List.length_take, ← HN.out]; omega
        · rw [← hend.out]
          exact HR.out.2

end Go.Proofs.Ytfaejcdbjcklpaa
