/- Those of a log that were kept, each based on what is just ahead of it: plainly. -/
import Derived.Test.YtjjdednlddnllabMlLaw
import Derived.Test.YtjjdednlddnllabMlSnap
namespace Go.Proofs.Ytjjdednlddnllab

/-- those that were kept -/
def keptJ : Int → List Itt → List Int → List Itt
  | n, x :: l, c :: cs => if c = 0 then ⟨x.client, x.number, n, x.reads, x.writes⟩ :: keptJ (n + 1) l cs else keptJ n l cs
  | _, _, _ => []

theorem keptJ_M : ∀ (n : Int) (l : List Itt) (cs : List Int), keptM n (l.map some) cs = (keptJ n l cs).map some
  | _, [], _ => by simp [keptM, keptJ]
  | _, _ :: _, [] => by simp [keptM, keptJ]
  | n, x :: l, c :: cs => by
    simp only [List.map_cons, keptM, keptJ]
    split
    · rw [keptJ_M (n + 1) l cs, List.map_cons]
    · exact keptJ_M n l cs

theorem keptJ_snoc : ∀ (n : Int) (l : List Itt) (cs : List Int) (x : Itt) (c : Int), l.length = cs.length → keptJ n (l ++ [x]) (cs ++ [c]) = keptJ n l cs ++ (if c = 0 then [⟨x.client, x.number, n + (keptJ n l cs).length, x.reads, x.writes⟩] else [])
  | n, [], [], x, c, _ => by
    simp only [List.nil_append, keptJ]
    split <;> simp
  | n, y :: l, d :: cs, x, c, h => by
    have h' : l.length = cs.length := by simpa using h
    simp only [List.cons_append, keptJ]
    split
    · rw [keptJ_snoc (n + 1) l cs x c h', List.length_cons]
      simp only [List.cons_append]
      congr 2
      split
      · congr 2
        push_cast
        omega
      · rfl
    · exact keptJ_snoc n l cs x c h'
  | _, [], _ :: _, _, _, h => by simp at h
  | _, _ :: _, [], _, _, h => by simp at h

theorem keptJ_few : ∀ (n : Int) (l : List Itt) (cs : List Int), (keptJ n l cs).length ≤ l.length
  | _, [], _ => by simp [keptJ]
  | _, _ :: _, [] => by simp [keptJ]
  | n, x :: l, c :: cs => by
    simp only [keptJ]
    split
    · have := keptJ_few (n + 1) l cs; simp only [List.length_cons]; omega
    · have := keptJ_few n l cs; simp only [List.length_cons]; omega

theorem keptJ_mild : ∀ (n : Int) (l : List Itt) (cs : List Int), 0 ≤ n → n + l.length ≤ 1000 → (∀ x ∈ l, Mild x) → ∀ x ∈ keptJ n l cs, Mild x
  | _, [], _, _, _, _ => by simp [keptJ]
  | _, _ :: _, [], _, _, _ => by simp [keptJ]
  | n, y :: l, c :: cs, h0, h1, h => by
    have hy := h y List.mem_cons_self
    have hl : ∀ x ∈ l, Mild x := fun x hx => h x (List.mem_cons_of_mem _ hx)
    rw [List.length_cons] at h1
    simp only [keptJ]
    split
    · intro x hx
      rcases List.mem_cons.1 hx with rfl | hx
      · exact ⟨hy.client, hy.number, ⟨h0, by show n ≤ 1000; omega⟩, hy.few, hy.reads, hy.writes, hy.asc⟩
      · exact keptJ_mild (n + 1) l cs (by omega) (by omega) hl x hx
    · exact keptJ_mild n l cs h0 (by omega) hl

/-- what they come to is the same, and all are kept -/
theorem kept_serial (js : List Itt) : (∀ c ∈ (playM noSta ((keptJ 0 js (playM noSta (js.map some)).2).map some)).2, c = 0) ∧ snapK (playM noSta (js.map some)).1.cells = snapK (playM noSta ((keptJ 0 js (playM noSta (js.map some)).2).map some)).1.cells := by
  have h := serial (js.map some) noSta noSta rfl (fun c h => by cases h) (fun _ _ h => h)
  have e : keptM noSta.pos (js.map some) (playM noSta (js.map some)).2 = (keptJ 0 js (playM noSta (js.map some)).2).map some := keptJ_M 0 js _
  rw [e] at h
  exact ⟨h.1, snapK_bare h.2⟩

end Go.Proofs.Ytjjdednlddnllab

/- What was kept is as if each had been alone: the walk. -/
namespace Go.Proofs.Ytjjdednlddnllab
open Go.ChangeShapes Go.WideShapes Go.ChangeAt Go.RowKit

/-- an intent of a row -/
theorem it_at {ok : Nat → Prop} {w : World} {ao : Option Addr} {cap : Nat} {l : List Itt} (hL : Lies kItt ok w ao cap l) {k : Nat} (hk : k < l.length) :
    ∃ bb off ra rc wa wc, ao = some ⟨bb, off, none⟩ ∧ Lies kEnt ok w ra rc (l[k]).reads ∧ Lies kWt ok w wa wc (l[k]).writes ∧ ∀ W : World, Below w.heap.size w W → W.cell? ⟨bb, off + k * 5, none⟩ = some (.int .i64 (l[k]).client) ∧ W.cell? ⟨bb, off + k * 5 + 1, none⟩ = some (.int .i64 (l[k]).number) ∧ W.cell? ⟨bb, off + k * 5 + 2, none⟩ = some (.int .i64 (l[k]).base) ∧ W.cell? ⟨bb, off + k * 5 + 3, none⟩ = some (.slice ra (l[k]).reads.length rc) ∧ W.cell? ⟨bb, off + k * 5 + 4, none⟩ = some (.slice wa (l[k]).writes.length wc) := by
  obtain ⟨bb, off, e, hb, _, cs, ⟨ra, rc, wa, wc, rfl, h1, h2⟩, hc⟩ := hL.at hk
  exact ⟨bb, off, ra, rc, wa, wc, e, h1, h2, fun W hW => ⟨(hW.cell (p := ⟨bb, off + k * 5, none⟩) hb).trans (by simpa using hc 0 _ rfl), (hW.cell (p := ⟨bb, off + k * 5 + 1, none⟩) hb).trans (hc 1 _ rfl), (hW.cell (p := ⟨bb, off + k * 5 + 2, none⟩) hb).trans (hc 2 _ rfl), (hW.cell (p := ⟨bb, off + k * 5 + 3, none⟩) hb).trans (hc 3 _ rfl), (hW.cell (p := ⟨bb, off + k * 5 + 4, none⟩) hb).trans (hc 4 _ rfl)⟩⟩

/-- an intent's bytes, whatever lies else -/
theorem Encode_mild {V : World} {ok : Nat → Prop} {C N B : Int} {rs : List Ent} {ws : List Wt} {ra : Option Addr} {rn rc : Nat} {wa : Option Addr} {wn wc : Nat} (h1 : Lies kEnt ok V ra rc rs) (h2 : Lies kWt ok V wa wc ws) (h3 : rn = rs.length) (h4 : wn = ws.length) (hM : Mild ⟨C, N, B, rs, ws⟩) (L : Nat) (hL : L = (encI ⟨C, N, B, rs, ws⟩).length) :
    Calls Try.prog 23 #[.agg #[.int .i64 C, .int .i64 N, .int .i64 B, .slice ra rn rc, .slice wa wn wc]] V fun e w' => ∃ (b off k : Nat), e = .returned (.tuple #[.slice (some ⟨b, off, none⟩) L k, .int .i64 0]) ∧ Hid (kLog.rel (fun b => V.heap.size ≤ b) w' (encI ⟨C, N, B, rs, ws⟩) [.slice (some ⟨b, off, none⟩) L k] ∧ Below V.heap.size V w') := by
  subst h3 h4 hL
  refine (Encode_any ok C N B rs ws ra rc wa wc V ⟨h1, h2, by have := hM.few; have h5 : rs.length ≤ 4 := this.1; have h6 : ws.length ≤ 12 := this.2; omega⟩).mono ?_
  rintro e w' ⟨zs, ecode, a6, m6, k6, rfl, h1, h2, h3, h4, h5⟩
  have h8 : EncIs ⟨C, N, B, rs, ws⟩ (encI ⟨C, N, B, rs, ws⟩) 0 := .inr (.inr ⟨hM.may, by have := hM.short; omega, rfl, rfl⟩)
  obtain ⟨rfl, rfl⟩ := h1.one h8
  have h20 := encI_twenty ⟨C, N, B, rs, ws⟩
  obtain ⟨b, off, rfl, -⟩ := h3.at (k := 0) (by omega)
  exact ⟨b, off, k6, by rw [h2], ⟨_, k6, rfl, h3, Ples.some _ _ _, fun ad e => ⟨h4 ad e, h3.blocks (fun e => by rw [e] at h20; simp at h20) _ e⟩⟩, h5⟩

set_option maxRecDepth 100000 in
set_option maxHeartbeats 2000000 in
theorem MeldSerial_any (l : List Wsh) (la : Option Addr) (lc : Nat) (w : World) (hL : Lies kWi (fun _ => True) w la lc l) :
    Calls Try.prog 7 #[.slice la l.length lc] w fun e w' => e = .returned (.bool true) ∧ Below w.heap.size w w' := by
  generalize hpost : (fun (e : Ending) (w' : World) => e = .returned (.bool true) ∧ Below w.heap.size w w') = Q
  have HO : Hid (∀ w', ¬ Q .outgrown w') := fun w' hh => by
    rw [← hpost] at hh
    cases hh.1
  have HP : Hid (∀ w', Below w.heap.size w w' → Q (.returned (.bool true)) w') := fun w' h => by rw [← hpost]; exact ⟨rfl, h⟩
  clear hpost
  have c0 : Hid (Calls Try.prog 8 #[.slice la l.length lc, .int .i64 24] w fun e w' => ∃ (oa : Option Addr) (on oc : Nat) (xa : Option Addr) (xc : Nat), e = .returned (.tuple #[.slice oa on oc, .slice xa on xc, .bool true]) ∧ Hid (∃ js : List Itt, LogJ 24 js ∧ on = js.length ∧ Lies kLog (fun b => w.heap.size ≤ b) w' oa oc (js.map encI) ∧ Lies kItt (fun b => w.heap.size ≤ b) w' xa xc js ∧ Below w.heap.size w w')) := by
    refine (LogOf_law l la lc 24 (by omega) w w (Below.refl _ _) hL).mono ?_
    rintro e w' ⟨oa, on, oc, xa, xn, xc, rfl, js, h1, h2, h3, h4, -, h6, h7⟩
    exact ⟨oa, on, oc, xa, xc, by rw [h3, ← h2], js, h1, h2, h4, h6, h7⟩
  clear hL
  generalize l.length = nl at c0 ⊢
  go_enter Try.func7, Try.ntmps7
  go_upto_region 4 with (first
    | (go_at_call 8; (with_reducible refine c0.out.mono ?_); clear c0; rintro e w1 ⟨oa, on, oc, xa, xc, rfl, H1⟩))
  obtain ⟨js, hJ, hon, hlog, hits, hbw⟩ := H1.out
  have HJ := put_by (And.intro hJ hon)
  have HIT := put_by hits
  have HB1 := put_by hbw
  have hon24 : on ≤ 24 := by rw [hon]; exact hJ.1
  have c4 := put_by (Play_law hlog (tells_js hJ.2.1) (by rw [List.length_map, ← hon]; omega) (show on = (js.map encI).length by rw [List.length_map]; exact hon))
  clear H1 hJ hon hlog hits hbw
  go_upto_region 5 with (first
    | (go_at_call 9; (with_reducible refine c4.out.mono ?_); clear c4; rintro e w4 ⟨p1, ca, cn, cc, da, dn, dc, ta, tc, rfl, H4⟩))
  have hb4 := (Below.refl w4.heap.size w4).alloc (Nat.le_refl _) (.cells #[.int .i64 p1, .slice ca cn cc, .slice da dn dc] 30)
  have HV := put_by (Cls.new w4 [.int .i64 p1, .slice ca cn cc, .slice da dn dc] 30)
  have H5 : Hid (PlH noSta (js.map some) p1 ca cn cc da dn dc ta on tc (w4.alloc (.cells #[.int .i64 p1, .slice ca cn cc, .slice da dn dc] 30)) ∧ Below w1.heap.size w1 (w4.alloc (.cells #[.int .i64 p1, .slice ca cn cc, .slice da dn dc] 30))) := ⟨H4.out.1.later hb4, H4.out.2.trans (hb4.mono H4.out.2.size)⟩
  clear H4 hb4
  generalize w4.heap.size = A1 at HV ⊢
  generalize w4.alloc (.cells #[.int .i64 p1, .slice ca cn cc, .slice da dn dc] _) = W5 at HV H5 ⊢
  obtain ⟨C, hC⟩ : ∃ C, C = (playM noSta (js.map some)).2 := ⟨_, rfl⟩
  have HC : Hid (C = (playM noSta (js.map some)).2 ∧ C.length = on) := ⟨hC, by rw [hC, playM_length, List.length_map]; exact HJ.out.2.symm⟩
  have HTL : Hid (Lies kNum (fun _ => True) W5 ta tc C) := by have h := H5.out.1.told; rw [← hC] at h; exact h
  clear hC
  have honi : ¬ (on : Int) < 0 := by omega
  go_upto_region 9 with (fail)
  go_loopw [9, 10] (fun v i wr => ∃ (k : Nat) (a : Option Addr) (m c : Nat), k ≤ on ∧ i = .int .i64 k ∧ v = .slice a m c ∧ Hid (m = (keptJ 0 (js.take k) (C.take k)).length ∧ Rows kLog (fun _ => True) wr W5.heap.size 39 (.slice a m c) ((keptJ 0 (js.take k) (C.take k)).map encI) ∧ Below W5.heap.size W5 wr)) (fun _ i _ => on - (intOf i).toNat)
  case atStart => exact ⟨0, none, 0, 0, Nat.zero_le _, rfl, rfl, by simp [keptJ], by simp only [List.take_zero, keptJ, List.map_nil]; exact Rows.nil _ _ _ _ _, Below.refl _ _⟩
  case round =>
    obtain ⟨k, a, m, c, hk, rfl, rfl, HR⟩ := hrel
    rename World => wr
    by_cases hlt : k < on
    · have hx : k < js.length := by rw [← HJ.out.2]; exact hlt
      have hxc : k < C.length := by rw [HC.out.2]; exact hlt
      obtain ⟨tb, to', rfl, -, hz⟩ := num_at HTL.out hxc
      have z0 := hz wr HR.out.2.2
      have ik : (k : Int) < (on : Int) := by omega
      have hSN : keptJ 0 (js.take (k + 1)) (C.take (k + 1)) = keptJ 0 (js.take k) (C.take k) ++ (if C[k] = 0 then [⟨(js[k]).client, (js[k]).number, 0 + (keptJ 0 (js.take k) (C.take k)).length, (js[k]).reads, (js[k]).writes⟩] else []) := by
        rw [take_succ' hx, take_succ' hxc]
        exact keptJ_snoc 0 _ _ _ _ (by rw [List.length_take, List.length_take, HC.out.2, ← HJ.out.2])
      rw [← HR.out.1] at hSN
      have HSN := put_by hSN
      clear hz hSN
      by_cases hz0 : C[k] = 0
      · obtain ⟨b, off, ra, rc, wa, wc, rfl, hr, hw, hcell⟩ := it_at HIT.out hx
        obtain ⟨d0, d1, d2, d3, d4⟩ := hcell wr (H5.out.2.trans (HR.out.2.2.mono H5.out.2.size))
        have hbw := H5.out.2.trans (HR.out.2.2.mono H5.out.2.size)
        have hmx : Mild js[k] := HJ.out.1.2.1 _ (List.getElem_mem hx)
        have hm24 : m ≤ 24 := by have h := keptJ_few 0 (js.take k) (C.take k); rw [← HR.out.1, List.length_take] at h; omega
        have HMX : Hid (Mild ⟨(js[k]).client, (js[k]).number, (m : Int), (js[k]).reads, (js[k]).writes⟩) := ⟨hmx.client, hmx.number, ⟨by show 0 ≤ (m : Int); omega, by show (m : Int) ≤ 1000; omega⟩, hmx.few, hmx.reads, hmx.writes, hmx.asc⟩
        have HRW : Hid (Lies kEnt (fun b => w.heap.size ≤ b) wr ra rc (js[k]).reads ∧ Lies kWt (fun b => w.heap.size ≤ b) wr wa wc (js[k]).writes) := ⟨hr.later hbw, hw.later hbw⟩
        have hK : keptJ 0 (js.take (k + 1)) (C.take (k + 1)) = keptJ 0 (js.take k) (C.take k) ++ [⟨(js[k]).client, (js[k]).number, (m : Int), (js[k]).reads, (js[k]).writes⟩] := by
          rw [HSN.out, if_pos hz0, Int.zero_add]
        have HK := put_by hK
        rw [hz0] at z0
        clear hcell hr hw hbw hmx hK hz0 HSN
        obtain ⟨C1, hC1⟩ : ∃ x, x = (js[k]).client := ⟨_, rfl⟩
        obtain ⟨N1, hN1⟩ : ∃ x, x = (js[k]).number := ⟨_, rfl⟩
        obtain ⟨rs, hrs⟩ : ∃ x, x = (js[k]).reads := ⟨_, rfl⟩
        obtain ⟨ws, hws⟩ : ∃ x, x = (js[k]).writes := ⟨_, rfl⟩
        rw [← hC1] at d0 HMX HK
        rw [← hN1] at d1 HMX HK
        rw [← hrs] at d3 HMX HK HRW
        rw [← hws] at d4 HMX HK HRW
        generalize (js[k]).base = B1 at d2
        clear hC1 hN1 hrs hws
        obtain ⟨rn, hrn⟩ : ∃ n, n = rs.length := ⟨_, rfl⟩
        obtain ⟨wn, hwn⟩ : ∃ n, n = ws.length := ⟨_, rfl⟩
        rw [← hrn] at d3
        rw [← hwn] at d4
        have HRN := put_by (And.intro hrn hwn)
        clear hrn hwn
        have hb2 : Below wr.heap.size wr (wr.alloc (.cells #[.int .i64 C1, .int .i64 N1, .int .i64 B1, .slice ra rn rc, .slice wa wn wc] 38)) := (Below.refl _ wr).alloc (Nat.le_refl _) _
        have hb3 : Below wr.heap.size wr ((wr.alloc (.cells #[.int .i64 C1, .int .i64 N1, .int .i64 B1, .slice ra rn rc, .slice wa wn wc] 38)).setCell ⟨wr.heap.size, 2, none⟩ (.int .i64 m)) := hb2.setCell (Nat.le_refl _) _
        have HX2 := put_by (Cls.new wr [.int .i64 C1, .int .i64 N1, .int .i64 B1, .slice ra rn rc, .slice wa wn wc] 38)
        have HX3 : Hid (Cls ((wr.alloc (.cells #[.int .i64 C1, .int .i64 N1, .int .i64 B1, .slice ra rn rc, .slice wa wn wc] 38)).setCell ⟨wr.heap.size, 2, none⟩ (.int .i64 m)) wr.heap.size [.int .i64 C1, .int .i64 N1, .int .i64 m, .slice ra rn rc, .slice wa wn wc]) := HX2.out.set (k := 2) _
        have HRW3 : Hid (Lies kEnt (fun b => w.heap.size ≤ b) ((wr.alloc (.cells #[.int .i64 C1, .int .i64 N1, .int .i64 B1, .slice ra rn rc, .slice wa wn wc] 38)).setCell ⟨wr.heap.size, 2, none⟩ (.int .i64 m)) ra rc rs ∧ Lies kWt (fun b => w.heap.size ≤ b) ((wr.alloc (.cells #[.int .i64 C1, .int .i64 N1, .int .i64 B1, .slice ra rn rc, .slice wa wn wc] 38)).setCell ⟨wr.heap.size, 2, none⟩ (.int .i64 m)) wa wc ws) := ⟨HRW.out.1.later hb3, HRW.out.2.later hb3⟩
        have HR3 : Hid (Rows kLog (fun _ => True) ((wr.alloc (.cells #[.int .i64 C1, .int .i64 N1, .int .i64 B1, .slice ra rn rc, .slice wa wn wc] 38)).setCell ⟨wr.heap.size, 2, none⟩ (.int .i64 m)) W5.heap.size 39 (.slice a m c) ((keptJ 0 (js.take k) (C.take k)).map encI) ∧ Below W5.heap.size W5 ((wr.alloc (.cells #[.int .i64 C1, .int .i64 N1, .int .i64 B1, .slice ra rn rc, .slice wa wn wc] 38)).setCell ⟨wr.heap.size, 2, none⟩ (.int .i64 m))) := ⟨HR.out.2.1.later hb3, HR.out.2.2.trans (hb3.mono HR.out.2.2.size)⟩
        have HML : Hid (m = (keptJ 0 (js.take k) (C.take k)).length) := HR.out.1
        clear hb2 hb3 HR HRW
        go_upto_region 13 with (fail)
        generalize wr.heap.size = X at HX2 HX3 HRW3 HR3 ⊢
        generalize wr.alloc (.cells #[.int .i64 C1, .int .i64 N1, .int .i64 B1, .slice ra rn rc, .slice wa wn wc] _) = W2 at HX2 HX3 HRW3 HR3 ⊢
        obtain ⟨y2, f2⟩ := HX2.out 2 _ rfl
        go_upto_region 14 with (fail)
        clear y2 f2 HX2 d0 d1 d2 d3 d4 z0
        generalize W2.setCell ⟨X, 2, none⟩ (.int .i64 m) = W3 at HX3 HRW3 HR3 ⊢
        obtain ⟨x0, -⟩ := HX3.out 0 _ rfl
        obtain ⟨x1, -⟩ := HX3.out 1 _ rfl
        obtain ⟨x2, -⟩ := HX3.out 2 _ rfl
        obtain ⟨x3, -⟩ := HX3.out 3 _ rfl
        obtain ⟨x4, -⟩ := HX3.out 4 _ rfl
        obtain ⟨L, hL⟩ : ∃ L, L = (encI ⟨C1, N1, (m : Int), rs, ws⟩).length := ⟨_, rfl⟩
        have cE := put_by (Encode_mild HRW3.out.1 HRW3.out.2 HRN.out.1 HRN.out.2 HMX.out L hL)
        clear hL
        go_upto_region 17 with (first
          | (go_at_call 23; (with_reducible refine cE.out.mono ?_); clear cE; rintro e w8 ⟨b8, off8, q, rfl, H8⟩))
        clear x0 x1 x2 x3 x4
        have HR8 : Hid (Rows kLog (fun _ => True) w8 W5.heap.size 39 (.slice a m c) ((keptJ 0 (js.take k) (C.take k)).map encI) ∧ Below W5.heap.size W5 w8) := ⟨HR3.out.1.later H8.out.2, HR3.out.2.trans (H8.out.2.mono HR3.out.2.size)⟩
        have HE8 : Hid (kLog.rel (fun b => True ∧ (Value.slice a m c).ownBlock ≠ some b) w8 (encI ⟨C1, N1, (m : Int), rs, ws⟩) [.slice (some ⟨b8, off8, none⟩) L q]) := kLog.move (Kept.of_below (Below.refl _ _)) (fun b _ hb => ⟨trivial, fun e => by have := (rows_lt HR3.out.1 b e).2; omega⟩) H8.out.1
        have HLB : Hid (((keptJ 0 (js.take k) (C.take k)).map encI).length ≤ 24) := by show _ ≤ _; rw [List.length_map, ← HML.out]; exact hm24
        have HMP : Hid ((keptJ 0 (js.take k) (C.take k)).map encI ++ [encI ⟨C1, N1, (m : Int), rs, ws⟩] = (keptJ 0 (js.take (k + 1)) (C.take (k + 1))).map encI) := by show _ = _; rw [HK.out, List.map_append]; rfl
        go_wp2_with (first
          | (at_builtin; refine wpList_append_oneB (K := kLog) (ok := fun _ => True) eltLg rfl (.tmp 67) (.tmp 69) rfl W5.heap.size (.slice a m c) ((keptJ 0 (js.take k) (C.take k)).map encI) rfl HR8.out.1 (encI ⟨C1, N1, (m : Int), rs, ws⟩) [.slice (some ⟨b8, off8, none⟩) L q] _ _ rfl rfl HE8.out (fun _ _ => trivial) (by have := HLB.out; omega) (by decide) HR8.out.2.size ?_; intro v9 w9 r1 r2 r3; have H9 := put_by (And.intro r1 (below_grown HR8.out.2 HR8.out.2.size r2 (fun r e => (rows_lt HR8.out.1 r e).1))); obtain ⟨a9, c9, e9⟩ := rows_form r1; obtain ⟨m9, hm9⟩ : ∃ m9, m9 = ((keptJ 0 (js.take k) (C.take k)).map encI ++ [encI ⟨C1, N1, (m : Int), rs, ws⟩]).length := ⟨_, rfl⟩; rw [← hm9] at e9; subst e9; have HM9 := put_by hm9; clear hm9 r1 r2 r3))
        go_roundw
        case rel => exact ⟨k + 1, a9, m9, c9, by omega, by go_num, rfl, by rw [HM9.out, HMP.out, List.length_map], by rw [← HMP.out]; exact H9.out.1, H9.out.2⟩
        case measure => simp [intOf]; omega
      · have hK : keptJ 0 (js.take (k + 1)) (C.take (k + 1)) = keptJ 0 (js.take k) (C.take k) := by rw [HSN.out, if_neg hz0, List.append_nil]
        have HK := put_by hK
        clear hK HSN
        generalize C[k] = z at z0 hz0
        go_wp2
        go_roundw
        case rel => exact ⟨k + 1, a, m, c, by omega, by go_num, rfl, by rw [HK.out]; exact HR.out⟩
        case measure => simp [intOf]; omega
    · have hkn : k = on := by omega
      subst hkn
      obtain ⟨K, hKK⟩ : ∃ K, K = keptJ 0 js C := ⟨_, rfl⟩
      have HR2 : Hid (m = K.length ∧ Rows kLog (fun _ => True) wr W5.heap.size 39 (.slice a m c) (K.map encI) ∧ Below W5.heap.size W5 wr) := by
        have h := HR.out
        rw [List.take_of_length_le (by rw [← HJ.out.2]; exact Nat.le_refl _), List.take_of_length_le (by rw [HC.out.2]; exact Nat.le_refl _), ← hKK] at h
        exact h
      have hK24 : K.length ≤ 24 := by have h := keptJ_few 0 js C; rw [← hKK] at h; have := HJ.out.2; omega
      have HKM : Hid ((∀ x ∈ K, Mild x) ∧ (∀ c ∈ (playM noSta (K.map some)).2, c = 0) ∧ snapK (playM noSta (js.map some)).1.cells = snapK (playM noSta (K.map some)).1.cells) := by
        have h := kept_serial js
        rw [← HC.out.1, ← hKK] at h
        exact ⟨by rw [hKK]; exact keptJ_mild 0 js C (by omega) (by rw [← HJ.out.2]; omega) HJ.out.1.2.1, h⟩
      clear HR hKK
      obtain ⟨-, hlK, -, -⟩ := rows_lies HR2.out.2.1 (fun _ _ => trivial)
      have hm24 : m ≤ 24 := by rw [HR2.out.1]; exact hK24
      have c18 := put_by (Play_law hlK (tells_js HKM.out.1) (by rw [List.length_map]; omega) (show m = (K.map encI).length by rw [List.length_map]; exact HR2.out.1))
      have ikk : ¬ (k : Int) < (k : Int) := by omega
      clear hlK
      go_upto_region 19 with (first
        | (go_at_call 9; (with_reducible refine c18.out.mono ?_); clear c18; rintro e w18 ⟨p2, cb, cm, cd, db, dm, dd, tb, td, rfl, H18⟩))
      have hb18 := (Below.refl w18.heap.size w18).alloc (Nat.le_refl _) (.cells #[.int .i64 p2, .slice cb cm cd, .slice db dm dd] 30)
      have HV18 := put_by (Cls.new w18 [.int .i64 p2, .slice cb cm cd, .slice db dm dd] 30)
      have H19 : Hid (PlH noSta (K.map some) p2 cb cm cd db dm dd tb m td (w18.alloc (.cells #[.int .i64 p2, .slice cb cm cd, .slice db dm dd] 30)) ∧ Below W5.heap.size W5 (w18.alloc (.cells #[.int .i64 p2, .slice cb cm cd, .slice db dm dd] 30))) := ⟨H18.out.1.later hb18, HR2.out.2.2.trans ((H18.out.2.trans (hb18.mono H18.out.2.size)).mono HR2.out.2.2.size)⟩
      have HMK : Hid (m = K.length) := HR2.out.1
      clear H18 hb18 HR2
      generalize w18.heap.size = A2 at HV18 ⊢
      generalize w18.alloc (.cells #[.int .i64 p2, .slice cb cm cd, .slice db dm dd] _) = W19 at HV18 H19 ⊢
      have HP2 : Hid (p2 = (m : Int)) := by
        show p2 = _
        rw [H19.out.1.pos, playM_pos, List.length_map, ← HMK.out]
        show (0 : Int) + _ = _
        omega
      have HV19 : Hid (∀ V, Below W19.heap.size W19 V → Cls V A2 [.int .i64 (m : Int), .slice cb cm cd, .slice db dm dd] ∧ Cls V A1 [.int .i64 p1, .slice ca cn cc, .slice da dn dc]) := fun V hV => ⟨by have h := HV18.out.later hV; rw [HP2.out] at h; exact h, (HV.out.later H19.out.2).later hV⟩
      have HZ : Hid (∀ k (hk : k < m), ∃ bb off, tb = some ⟨bb, off, none⟩ ∧ ∀ W : World, Below W19.heap.size W19 W → W.cell? ⟨bb, off + k, none⟩ = some (.int .i64 0)) := fun k hk => by
        have hlen : (playM noSta (K.map some)).2.length = m := by rw [playM_length, List.length_map, HMK.out]
        obtain ⟨bb, off, e, -, h⟩ := num_at H19.out.1.told (k := k) (by rw [hlen]; exact hk)
        exact ⟨bb, off, e, fun W hW => by rw [h W hW, HKM.out.2.1 _ (List.getElem_mem _)]⟩
      go_upto_region 20 with (fail)
      go_loopw [17] (fun i wr => ∃ k : Nat, k ≤ m ∧ i = .int .i64 k ∧ Hid (Below W19.heap.size W19 wr)) (fun i _ => m - (intOf i).toNat)
      case atStart => exact ⟨0, Nat.zero_le _, rfl, Below.refl _ _⟩
      case round =>
        obtain ⟨j, hj, rfl, HB⟩ := hrel
        rename World => V
        by_cases hjl : j < m
        · obtain ⟨bb, off, rfl, hz⟩ := HZ.out j hjl
          have z0 := hz V HB.out
          have ij : (j : Int) < (m : Int) := by omega
          clear hz
          go_wp2
          go_roundw
          case rel => exact ⟨j + 1, by omega, by go_num, HB.out⟩
          case measure => simp [intOf]; omega
        · have hjm : j = m := by omega
          have ij : ¬ (j : Int) < (m : Int) := by omega
          clear hjm
          have hbv : Below w.heap.size w V := HB1.out.trans ((H5.out.2.trans ((H19.out.2.trans (HB.out.mono H19.out.2.size)).mono H5.out.2.size)).mono HB1.out.size)
          have HBV := put_by hbv
          have HS5 : Hid (∀ W, Below V.heap.size V W → StIs (fun _ => True) W (playM noSta (js.map some)).1.cells (playM noSta (js.map some)).1.dones ca cc da dc) := fun W hW => H5.out.1.st.later ((H19.out.2.trans (HB.out.mono H19.out.2.size)).trans (hW.mono (Nat.le_trans H19.out.2.size HB.out.size)))
          have HS6 : Hid (∀ W, Below V.heap.size V W → StIs (fun _ => True) W (playM noSta (K.map some)).1.cells (playM noSta (K.map some)).1.dones cb cd db dd) := fun W hW => H19.out.1.st.later (HB.out.trans (hW.mono HB.out.size))
          have hm1 := may_js HJ.out.1.2.1 (by rw [← HJ.out.2]; omega)
          have hm2 := may_js HKM.out.1 (by omega)
          have HN5 : Hid (p1 = (playM noSta (js.map some)).1.pos ∧ cn = (playM noSta (js.map some)).1.cells.length ∧ dn = (playM noSta (js.map some)).1.dones.length) := ⟨H5.out.1.pos, H5.out.1.cn, H5.out.1.dn⟩
          have HN6 : Hid ((m : Int) = (playM noSta (K.map some)).1.pos ∧ cm = (playM noSta (K.map some)).1.cells.length ∧ dm = (playM noSta (K.map some)).1.dones.length) := ⟨HP2.out.symm.trans H19.out.1.pos, H19.out.1.cn, H19.out.1.dn⟩
          have cM : Hid (∀ W, Below V.heap.size V W → Calls Try.prog 14 #[.agg #[.int .i64 p1, .slice ca cn cc, .slice da dn dc]] W fun e w' => e = .returned (.bool true) ∧ Hid (Below V.heap.size V w')) := fun W hW => by
            have h0 := MayS_any _ (playM noSta (js.map some)).1.pos _ _ ca cc da dc W (HS5.out W hW) true ⟨fun _ => hm1, fun _ => rfl⟩
            rw [← HN5.out.1, ← HN5.out.2.1, ← HN5.out.2.2] at h0
            exact h0.mono (fun e w' h => ⟨h.1, hW.trans (h.2.mono hW.size)⟩)
          obtain ⟨es, hes⟩ : ∃ es, es = snapK (playM noSta (js.map some)).1.cells := ⟨_, rfl⟩
          have cS1 : Hid (∀ W, Below V.heap.size V W → Calls Try.prog 12 #[.agg #[.int .i64 p1, .slice ca cn cc, .slice da dn dc]] W fun e w' => ∃ (a : Option Addr) (n c : Nat), e = .returned (.slice a n c) ∧ Hid ((n = es.length ∧ es.length * 48 ≤ 140737488351232 ∧ Lies kEnt (fun _ => True) w' a c es) ∧ Below V.heap.size V w')) := fun W hW => by
            have h0 := Snap_any _ (playM noSta (js.map some)).1.pos _ _ ca cc da dc W (HS5.out W hW) true ⟨fun _ => hm1, fun _ => rfl⟩
            rw [← HN5.out.1, ← HN5.out.2.1, ← HN5.out.2.2] at h0
            refine h0.mono ?_
            rintro e w' ⟨a, n, c, h1, h2, h3, h4, h5⟩
            rw [if_pos rfl, ← hes] at h2 h3 h4
            exact ⟨a, n, c, h1, ⟨h2, h3, h4⟩, hW.trans (h5.mono hW.size)⟩
          have cS2 : Hid (∀ W, Below V.heap.size V W → Calls Try.prog 12 #[.agg #[.int .i64 (m : Int), .slice cb cm cd, .slice db dm dd]] W fun e w' => ∃ (a : Option Addr) (n c : Nat), e = .returned (.slice a n c) ∧ Hid ((n = es.length ∧ Lies kEnt (fun _ => True) w' a c es) ∧ Below W.heap.size W w')) := fun W hW => by
            have h0 := Snap_any _ (playM noSta (K.map some)).1.pos _ _ cb cd db dd W (HS6.out W hW) true ⟨fun _ => hm2, fun _ => rfl⟩
            rw [← HN6.out.1, ← HN6.out.2.1, ← HN6.out.2.2] at h0
            refine h0.mono ?_
            rintro e w' ⟨a, n, c, h1, h2, h3, h4, h5⟩
            rw [if_pos rfl, ← HKM.out.2.2, ← hes] at h2 h4
            exact ⟨a, n, c, h1, ⟨h2, h4⟩, h5⟩
          have cE : Hid (∀ (W : World) (sa sb : Option Addr) (sn sc sm sd : Nat), sn = es.length → Lies kEnt (fun _ => True) W sa sc es → sm = es.length → Lies kEnt (fun _ => True) W sb sd es → es.length * 48 ≤ 140737488351232 → Calls Try.prog 10 #[.slice sa sn sc, .slice sb sm sd] W fun e w' => e = .returned (.bool true) ∧ Hid (Below W.heap.size W w')) := fun W sa sb sn sc sm sd h1 h2 h3 h4 h5 => by
            subst h1 h3
            refine (sameEntriesK_q (fun _ => True) (fun _ => True) es es (by omega) sa sb sc sd W h2 h4).mono ?_
            rintro e w' ⟨rfl, j, rfl⟩
            exact ⟨by simp, drawn_below (Below.refl _ _) j⟩
          clear hbv hm1 hm2 hes
          obtain ⟨hv2, hv1⟩ := HV19.out V HB.out
          obtain ⟨x0, -⟩ := hv1 0 _ rfl
          obtain ⟨x1, -⟩ := hv1 1 _ rfl
          obtain ⟨x2, -⟩ := hv1 2 _ rfl
          obtain ⟨y0, -⟩ := hv2 0 _ rfl
          obtain ⟨y1, -⟩ := hv2 1 _ rfl
          obtain ⟨y2, -⟩ := hv2 2 _ rfl
          clear hv1 hv2
          go_upto_region 24 with (fail)
          have HVW : Hid (∀ W, Below V.heap.size V W → W.cell? ⟨A1, 0, none⟩ = some (.int .i64 p1) ∧ W.cell? ⟨A1, 1, none⟩ = some (.slice ca cn cc) ∧ W.cell? ⟨A1, 2, none⟩ = some (.slice da dn dc) ∧ W.cell? ⟨A2, 0, none⟩ = some (.int .i64 (m : Int)) ∧ W.cell? ⟨A2, 1, none⟩ = some (.slice cb cm cd) ∧ W.cell? ⟨A2, 2, none⟩ = some (.slice db dm dd)) := fun W hW => by
            obtain ⟨h2, h1⟩ := HV19.out W (HB.out.trans (hW.mono HB.out.size))
            exact ⟨(h1 0 _ rfl).1, (h1 1 _ rfl).1, (h1 2 _ rfl).1, (h2 0 _ rfl).1, (h2 1 _ rfl).1, (h2 2 _ rfl).1⟩
          go_region_held3 (fun W => W.cell? ⟨A1, 0, none⟩ = some (.int .i64 p1) ∧ W.cell? ⟨A1, 1, none⟩ = some (.slice ca cn cc) ∧ W.cell? ⟨A1, 2, none⟩ = some (.slice da dn dc) ∧ W.cell? ⟨A2, 0, none⟩ = some (.int .i64 (m : Int)) ∧ W.cell? ⟨A2, 1, none⟩ = some (.slice cb cm cd) ∧ W.cell? ⟨A2, 2, none⟩ = some (.slice db dm dd)) (go_keep) (first
            | (go_at_call 14; (with_reducible refine (cM.out _ (Below.refl _ _).drew).mono ?_); clear cM; rintro e w20 ⟨rfl, H20⟩; obtain ⟨t0, t1, t2, t3, t4, t5⟩ := HVW.out _ H20.out)
            | (go_at_call 12; (with_reducible refine (cS1.out _ H20.out).mono ?_); clear cS1; rintro e w21 ⟨sa, sn, sc, rfl, H21⟩; obtain ⟨t0, t1, t2, t3, t4, t5⟩ := HVW.out _ H21.out.2)
            | (go_at_call 12; (with_reducible refine (cS2.out _ H21.out.2).mono ?_); clear cS2; rintro e w22 ⟨sb, sm, sd, rfl, H22⟩; obtain ⟨t0, t1, t2, t3, t4, t5⟩ := HVW.out _ (H21.out.2.trans (H22.out.2.mono H21.out.2.size)))
            | (go_at_call 10; (with_reducible refine (cE.out _ _ _ _ _ _ _ H21.out.1.1 (H21.out.1.2.2.later H22.out.2) H22.out.1.1 H22.out.1.2 H21.out.1.2.1).mono ?_); clear cE; rintro e w23 ⟨rfl, H23⟩; obtain ⟨t0, t1, t2, t3, t4, t5⟩ := HVW.out _ (H21.out.2.trans ((H22.out.2.trans (H23.out.mono H22.out.2.size)).mono H21.out.2.size))))
          have HBE := put_by (H21.out.2.trans ((H22.out.2.trans (H23.out.mono H22.out.2.size)).mono H21.out.2.size))
          clear t0 t1 t2 t3 t4 t5 x0 x1 x2 y0 y1 y2
          go_wp2
          exact HP.out _ (HBV.out.trans (HBE.out.mono HBV.out.size))

end Go.Proofs.Ytjjdednlddnllab
