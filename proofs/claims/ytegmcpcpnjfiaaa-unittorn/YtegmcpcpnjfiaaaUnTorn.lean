/- What was put down in part is as if it had never been; what was put down whole stays. -/
import Derived.Test.YtegmcpcpnjfiaaaUnSameK
import Derived.Test.YtegmcpcpnjfiaaaUnTornP
namespace Go.Proofs.Ytegmcpcpnjfiaaa
open Go.ChangeShapes Go.WideShapes Go.ChangeAt Go.RowKit

/-- two variables of four cells each, just laid -/
theorem two_vars (w : World) (a b c d e f g h : Value) (t1 t2 : TypeId) :
    ∃ V, V = ((w.alloc (.cells #[a, b, c, d] t1)).alloc (.cells #[e, f, g, h] t2)) ∧ Below w.heap.size w V ∧ Quad V w.heap.size a b c d ∧ Quad V (w.heap.size + 1) e f g h := by
  refine ⟨_, rfl, ?_⟩
  have b1 := (Below.refl w.heap.size w).alloc (Nat.le_refl _) (.cells #[a, b, c, d] t1)
  have q1 := Quad.new w a b c d t1
  have s1 : (w.alloc (.cells #[a, b, c, d] t1)).heap.size = w.heap.size + 1 := by simp
  generalize w.alloc (.cells #[a, b, c, d] t1) = W1 at *
  have b2 := (Below.refl W1.heap.size W1).alloc (Nat.le_refl _) (.cells #[e, f, g, h] t2)
  have q2 := Quad.new W1 e f g h t2
  rw [s1] at q2
  exact ⟨b1.trans (b2.mono (by omega)), q1.later b2, q2⟩

theorem octs_move {W W' : World} {sa : Option Addr} {sc : Nat} {d : List Int} (h : Octs W sa sc d) (hb : d ≠ [] → ∀ x, sa = some x → W'.heap[x.block]? = W.heap[x.block]?) : Octs W' sa sc d := by
  obtain ⟨h1, h2, h3, h4, h5⟩ := h
  refine ⟨h1, h2, h3, h4, ?_⟩
  by_cases hd : d = []
  · exact .inl hd
  · rcases h5 with h5 | ⟨b, off, e, hc⟩
    · exact absurd h5 hd
    · exact .inr ⟨b, off, e, fun i hi => (World.cell?_of_block (w := W) (a := ⟨b, off + i, none⟩) (show W'.heap[b]? = W.heap[b]? from hb hd _ e)).trans (hc i hi)⟩

theorem lies_job1 {ok : Nat → Prop} {W : World} (x : Jb) (u : Value) (hu : IsBody W ok u x.data) (hok : ok W.heap.size) (ty : TypeId) :
    Lies kJb ok (W.alloc (.cells #[.int .i64 x.kind, .int .i64 x.epoch, .int .i64 x.addr, u] ty)) (some ⟨W.heap.size, 0, none⟩) 1 [x] := by
  have h : All2 (kJb.rel ok W) [x] [[.int .i64 x.kind, .int .i64 x.epoch, .int .i64 x.addr, u]] := ⟨⟨u, rfl, hu⟩, trivial⟩
  exact lies_many _ rfl ty h hok 1 (Nat.le_refl _)

set_option maxRecDepth 10000 in
set_option maxHeartbeats 1600000 in
theorem UnitTorn_any (ts : List Tsk) (ta : Option Addr) (tc len : Nat) (hlen : len = ts.length) (ad : Int) (xa : Option Addr) (xc xn : Nat) (xs : List Int) (hxn : xn = xs.length) (dn : Int) (w : World) (hL : Lies kTs (fun _ => True) w ta tc ts) (hX : Octs w xa xc xs) :
    Calls Try.prog 6 #[.slice ta len tc, .int .i64 ad, .slice xa xn xc, .int .i64 dn] w fun e w' => e = .returned (.bool true) ∧ Below w.heap.size w w' := by
  obtain ⟨js, hjs⟩ : ∃ js, js = (jobsOf 0 (ts.take 30)).1 := ⟨_, rfl⟩
  have hfew := jobs_few ts 30 (by omega)
  have cJ : Hid (Calls Try.prog 12 #[.slice ta len tc, .int .i64 30] w fun e w' => ∃ (a : Option Addr) (m c : Nat) (q : Int), e = .returned (.tuple #[.slice a m c, .int .i64 q]) ∧ 0 ≤ q ∧ q ≤ 120 ∧ m ≤ 30 ∧ Hid (q = (jobsOf 0 (ts.take 30)).2 ∧ m = js.length) ∧ Hid (RowI w js (.slice a m c) w')) := put_by ((Jobs_law ts 30 (by omega) ta tc len hlen w hL).mono fun e w' ⟨a, m, c, q, e1, e2, e3⟩ => ⟨a, m, c, q, e1, by rw [e2.out.1]; exact hfew.2.1, by rw [e2.out.1]; exact hfew.2.2, by rw [e2.out.2]; exact hfew.1, put_by ⟨e2.out.1, by rw [hjs]; exact e2.out.2⟩, put_by (by rw [hjs]; exact ⟨e3.out.rows, e3.out.below⟩)⟩)
  have HPK := put_by (fun (x y : Int) (h1 : 0 < y) (h2 : y ≤ 9223372036854775807) (W : World) => Picked_any x y h1 h2 W)
  obtain ⟨an, han⟩ : ∃ an : Nat, (an : Int) = ad % 6 := ⟨(ad % 6).toNat, Int.toNat_of_nonneg (Int.emod_nonneg _ (by decide))⟩
  have han2 : an < 6 := by have := Int.emod_lt_of_pos ad (show (0 : Int) < 6 by decide); omega
  obtain ⟨z, hz⟩ : ∃ z : Int, z = dn % 40 := ⟨_, rfl⟩
  have hz0 : 0 ≤ z := by rw [hz]; exact Int.emod_nonneg _ (by decide)
  have hz1 : z < 40 := by rw [hz]; exact Int.emod_lt_of_pos dn (by decide)
  have HF := put_by (fun q e2 => torn_facts ts 30 (by omega) an han2 (xs.take 20) (by rw [List.length_take]; omega) z js q hjs e2)
  have cO : Hid (∀ W, Below w.heap.size w W → Calls Try.prog 15 #[.slice xa xn xc, .int .i64 20] W fun e w' => ∃ (sa : Option Addr) (sn sc : Nat), e = .returned (.slice sa sn sc) ∧ Hid (sn = (xs.take 20).length ∧ Octs w' sa sc (xs.take 20) ∧ ∀ x, sa = some x → W.heap.size ≤ x.block) ∧ Hid (Below W.heap.size W w')) := put_by fun W hW => by
    rw [hxn]
    exact (Octets_new xa xc xs 20 (by decide) W (hX.later hW)).mono fun e w' ⟨p, r, e1, e2, e3, e4⟩ => ⟨p, _, r, e1, put_by ⟨rfl, e2, e3⟩, put_by e4⟩
  have hlj : js.length ≤ 30 := by rw [hjs]; exact hfew.1
  have HLJ := put_by hlj
  clear hfew hjs hlen hL hlj hxn hX
  have HAN := put_by han
  have HZN := put_by hz
  clear han hz
  go_enter Try.func6, Try.ntmps6
  go_upto_region 6 with (first
    | (go_at_call 12; (with_reducible refine cJ.out.mono ?_); clear cJ; rintro e w1 ⟨a, m, c, q, rfl, hq0, hq1, hm, HQ, HR1⟩)
    | (go_at_call 14; (with_reducible refine (HPK.out _ _ ?_ ?_ _).mono ?_); (first | decide | omega); (first | decide | omega); rintro e w9 ⟨rfl, rfl⟩)
    | (go_at_call 15; (with_reducible refine (cO.out _ HR1.out.below).mono ?_); rintro e w2 ⟨sa, sn, sc, rfl, HO, HB2⟩))
  obtain ⟨V, hV, hbV, hqS, hqQ⟩ := two_vars w2 (.int .i64 1) (.int .i64 q) (.int .i64 (ad % 6)) (.slice sa sn sc) (.int .i64 2) (.int .i64 q) (.int .i64 0) (.slice none 0 0) 34 34
  rw [← hV]
  clear hV
  rw [← HAN.out] at hqS
  rw [← HAN.out, ← HZN.out]
  obtain ⟨sb, hsb⟩ : ∃ sb, sb = w2.heap.size := ⟨_, rfl⟩
  rw [← hsb] at hqS hqQ
  rw [← hsb]
  have HRV := put_by ((HR1.out.later HB2.out).later hbV)
  obtain ⟨p, hp⟩ : ∃ p, p = js.length := ⟨_, rfl⟩
  have HP := put_by hp
  obtain ⟨c0, c1, c2, c3, -, -, -, -⟩ := hqQ
  have HQS : Hid (∀ W, Below V.heap.size V W → Quad W sb (.int .i64 1) (.int .i64 q) (.int .i64 (an : Int)) (.slice sa sn sc)) := put_by fun W hW => hqS.later hW
  have HOV : Hid (∀ W, Below V.heap.size V W → Octs W sa sc (xs.take 20)) := put_by fun W hW => ((HO.out.2.1.later hbV)).later hW
  have hmp : m = p := by rw [HQ.out.2, hp]
  subst hmp
  have HSB : Hid (w1.heap.size ≤ sb ∧ sb < V.heap.size) := put_by ⟨by rw [hsb]; exact HB2.out.size, hqS.lt⟩
  clear hqS hsb hbV hp
  go_upto_region 7 with (first
    | (at_builtin; refine wpList_append_one eltJb rfl (.tmp 37) (.tmp 39) rfl w.heap.size (.slice a m c) js rfl HRV.out.rows ⟨2, q, 0, []⟩ [.int .i64 2, .int .i64 q, .int .i64 0, .slice none 0 0] _ _ rfl rfl (bare_job _ _ _ _ _) (fun _ _ => trivial) (by have := HLJ.out; omega) (by decide) HRV.out.below.size ?_; intro v2 w3 r1 r2 r3; have HR2 := put_by (HRV.out.grown r1 r2); have HS3 : Hid (∀ b, w1.heap.size ≤ b → b < V.heap.size → w3.heap[b]? = V.heap[b]?) := put_by (fun b h1 h2 => r2.block b h2 (fun e => by have := (rows_lt HR1.out.rows b (by first | exact e | exact e.symm)).2; omega)); clear r1 r2 r3; obtain ⟨a2, k2, e2, -⟩ := rows_slice HR2.out; rw [List.length_append, List.length_singleton, ← HP.out] at e2; subst e2))
  have hlt2 : m ≤ 30 := hm
  have HLN : Hid (m + 1 = (js ++ [(⟨2, q, 0, []⟩ : Jb)]).length) := put_by (by rw [List.length_append, List.length_singleton, ← HP.out])
  have HRW : Hid (∀ W, Below w3.heap.size w3 W → RowI w (js ++ [⟨2, q, 0, []⟩]) (.slice a2 (m + 1) k2) W) := put_by fun W hW => HR2.out.later hW
  have HJL : Hid (∀ W, Below w3.heap.size w3 W → Lies kJb (fun _ => True) W a2 k2 (js ++ [⟨2, q, 0, []⟩])) := put_by fun W hW => (by obtain ⟨p, r, e, h⟩ := rows_slice (HRW.out W hW); simp only [Value.slice.injEq] at e; rw [e.1, e.2.2]; exact h)
  have HQ3 : Hid (∀ W, Below w3.heap.size w3 W → Quad W sb (.int .i64 1) (.int .i64 q) (.int .i64 (an : Int)) (.slice sa sn sc)) := put_by fun W hW => ((HQS.out V (Below.refl _ _)).move (HS3.out sb HSB.out.1 HSB.out.2)).later hW
  have HO3 : Hid (∀ W, Below w3.heap.size w3 W → Octs W sa sc (xs.take 20)) := put_by fun W hW => (octs_move (HOV.out V (Below.refl _ _)) (fun hd x e => HS3.out _ (HO.out.2.2 x e) ((HOV.out V (Below.refl _ _)).blocks hd x e))).later hW
  have HOB : Hid (xs.take 20 ≠ [] → ∀ ad, sa = some ad → ad.block < w3.heap.size) := put_by (HO3.out w3 (Below.refl _ _)).blocks
  obtain ⟨x0, x1, x2, x3, -, -, -, -⟩ := HQ3.out w3 (Below.refl _ _)
  clear c0 c1 c2 c3
  go_region_held3 (fun W => W.cell? ⟨sb, 0, none⟩ = some (.int .i64 1) ∧ W.cell? ⟨sb, 1, none⟩ = some (.int .i64 q) ∧ W.cell? ⟨sb, 2, none⟩ = some (.int .i64 (an : Int)) ∧ W.cell? ⟨sb, 3, none⟩ = some (.slice sa sn sc)) (go_keep) (first
    | (rw [if_pos (by rfl)]; refine wp_of_list rfl (by rintro ⟨_, _, hh⟩; cases hh.1) (wpList_append_rows eltJb rfl (.const (.slice none 0 0)) (.tmp 42) rfl w.heap.size (.slice none 0 0) ([] : List Jb) rfl (Rows.nil kJb (fun _ => True) _ _ _) a2 k2 (m + 1) (js ++ [⟨2, q, 0, []⟩]) rfl HLN.out (ok2 := fun _ => True) (HJL.out _ (by first | exact Below.refl _ _ | exact (Below.refl _ _).drew | exact ((Below.refl _ _).alloc (Nat.le_refl _) _).drew | exact (Below.refl _ _).alloc (Nat.le_refl _) _)) (fun _ _ _ _ => trivial) (fun _ _ _ e => by cases e) (by simp only [List.length_nil]; omega) (by decide) (HRW.out _ (by first | exact Below.refl _ _ | exact (Below.refl _ _).drew | exact ((Below.refl _ _).alloc (Nat.le_refl _) _).drew | exact (Below.refl _ _).alloc (Nat.le_refl _) _)).below.size (fun v4 w4 r1 r2 r3 => ?_)); have HB4 := put_by (below_nil r2); have HV3 := put_by (own_not (d := 0) r3); have HV4 : Hid (∀ b, b < w3.heap.size → v4.ownBlock ≠ some b) := put_by (fun b hb => own_not (d := 0) r3 b (by simp; omega)); have HVW := put_by (show Below w3.heap.size w3 w4 from Below.trans (by first | exact Below.refl _ _ | exact (Below.refl _ _).drew | exact ((Below.refl _ _).alloc (Nat.le_refl _) _).drew | exact (Below.refl _ _).alloc (Nat.le_refl _) _) (HB4.out.mono (by simp))); have HR4 := put_by (RowI.mk (w := w) (v := v4) r1 ((HRW.out w3 (Below.refl _ _)).below.trans (HVW.out.mono (HRW.out w3 (Below.refl _ _)).below.size))); clear r1 r2 r3; obtain ⟨x0, x1, x2, x3, -, -, -, -⟩ := HQ3.out _ HVW.out; refine list_end ?_)
    | (rw [if_pos (by rfl)]; refine wp_of_list rfl (by rintro ⟨_, _, hh⟩; cases hh.1) (wpList_append_rows (ok := fun _ => True) eltJb rfl (.tmp 43) (.tmp 47) rfl w.heap.size v4 (js ++ [⟨2, q, 0, []⟩]) rfl (HR4.out.later (by first | exact Below.refl _ _ | exact (Below.refl _ _).drew | exact ((Below.refl _ _).alloc (Nat.le_refl _) _).drew | exact (Below.refl _ _).alloc (Nat.le_refl _) _)).rows (some ⟨w4.heap.size, 0, none⟩) 2 2 [⟨1, q, (an : Int), xs.take 20⟩, ⟨6, 0, z, []⟩] rfl rfl (Lies.later (lies_jobs (ok := fun b => v4.ownBlock ≠ some b) (W := w4) (⟨1, q, (an : Int), xs.take 20⟩ : Jb) (⟨6, 0, z, []⟩ : Jb) (.slice sa sn sc) (.slice none 0 0) ⟨sa, sc, by rw [HO.out.1], HO3.out _ HVW.out, fun hx ad e => HV4.out _ (HOB.out hx ad e)⟩ ⟨none, 0, rfl, Octs.nil _ _ _ (fun _ => rfl), fun h => absurd rfl h⟩ (fun e => Nat.lt_irrefl _ (rows_lt HR4.out.rows _ e).2) 34) (by first | exact Below.refl _ _ | exact (Below.refl _ _).drew | exact ((Below.refl _ _).alloc (Nat.le_refl _) _).drew | exact (Below.refl _ _).alloc (Nat.le_refl _) _)) (fun _ _ _ _ => trivial) (fun b _ hb => hb) (by rw [← HLN.out]; omega) (by decide) (HR4.out.later (by first | exact Below.refl _ _ | exact (Below.refl _ _).drew | exact ((Below.refl _ _).alloc (Nat.le_refl _) _).drew | exact (Below.refl _ _).alloc (Nat.le_refl _) _)).below.size (fun v5 w5 r1 r2 r3 => ?_)); have HR5 := put_by (RowI.grown (w := w) (HR4.out.later (by first | exact Below.refl _ _ | exact (Below.refl _ _).drew | exact ((Below.refl _ _).alloc (Nat.le_refl _) _).drew | exact (Below.refl _ _).alloc (Nat.le_refl _) _)) r1 r2); have HVW5 := put_by (below_grown (n := w3.heap.size) (w := w3) (HVW.out.trans (Below.mono (by first | exact Below.refl _ _ | exact (Below.refl _ _).drew | exact ((Below.refl _ _).alloc (Nat.le_refl _) _).drew | exact (Below.refl _ _).alloc (Nat.le_refl _) _) HVW.out.size)) (Nat.le_trans HVW.out.size (by simp)) r2 (fun r hr => Nat.le_of_not_lt (fun hl => HV4.out r hl hr))); have HO5 : Hid (∀ r, v5.ownBlock = some r → w3.heap.size ≤ r) := put_by (fun r hr => by { have h9 := HVW.out.size; rcases r3 with h | h; { rw [h] at hr; exact Nat.le_of_not_lt (fun hl => HV4.out r hl hr) }; { have e := Option.some.inj (h.symm.trans hr); (try simp at e); omega } }); clear r1 r2 r3; obtain ⟨x0, x1, x2, x3, -, -, -, -⟩ := HQ3.out _ HVW5.out; refine list_end ?_)
    | (rw [if_pos (by rfl)]; refine wp_of_list rfl (by rintro ⟨_, _, hh⟩; cases hh.1) (wpList_append_rows (ok := fun _ => True) eltJb rfl (.tmp 43) (.tmp 47) rfl w.heap.size v4 (js ++ [⟨2, q, 0, []⟩]) rfl HR4.out.rows (some ⟨w3.heap.size, 0, none⟩) 2 2 [⟨1, q, (an : Int), xs.take 20⟩, ⟨6, 0, z, []⟩] rfl rfl ((lies_jobs (ok := fun b => v4.ownBlock ≠ some b) (W := w3) (⟨1, q, (an : Int), xs.take 20⟩ : Jb) (⟨6, 0, z, []⟩ : Jb) (.slice sa sn sc) (.slice none 0 0) ⟨sa, sc, by rw [HO.out.1], HO3.out _ (Below.refl _ _), fun hx ad e => HV4.out _ (HOB.out hx ad e)⟩ ⟨none, 0, rfl, Octs.nil _ _ _ (fun _ => rfl), fun h => absurd rfl h⟩ (HV3.out _ (by simp)) 34).later (Below.trans (by first | exact Below.refl _ _ | exact (Below.refl _ _).drew | exact ((Below.refl _ _).alloc (Nat.le_refl _) _).drew | exact (Below.refl _ _).alloc (Nat.le_refl _) _) (HB4.out.mono (by simp)))) (fun _ _ _ _ => trivial) (fun b _ hb => hb) (by rw [← HLN.out]; omega) (by decide) HR4.out.below.size (fun v5 w5 r1 r2 r3 => ?_)); have HR5 := put_by (RowI.grown (w := w) HR4.out r1 r2); have HVW5 := put_by (below_grown (n := w3.heap.size) (w := w3) HVW.out HVW.out.size r2 (fun r hr => Nat.le_of_not_lt (fun hl => HV4.out r hl hr))); have HO5 : Hid (∀ r, v5.ownBlock = some r → w3.heap.size ≤ r) := put_by (fun r hr => by { have h9 := HVW.out.size; rcases r3 with h | h; { rw [h] at hr; exact Nat.le_of_not_lt (fun hl => HV4.out r hl hr) }; { have e := Option.some.inj (h.symm.trans hr); (try simp at e); omega } }); clear r1 r2 r3; obtain ⟨x0, x1, x2, x3, -, -, -, -⟩ := HQ3.out _ HVW5.out; refine list_end ?_)
    | (go_at_call 16; (with_reducible refine (look_law _ _).mono ?_); rintro e w6 ⟨a6, c6, rfl, HL6, HB6⟩; have HVW6 := put_by (HVW5.out.trans (HB6.out.mono HVW5.out.size)); obtain ⟨x0, x1, x2, x3, -, -, -, -⟩ := HQ3.out _ HVW6.out)
    | (rw [if_pos (by rfl)]; refine wp_of_list rfl (by rintro ⟨_, _, hh⟩; cases hh.1) (wpList_append_rows eltJb rfl (.tmp 48) (.tmp 50) rfl w.heap.size v5 ((js ++ [⟨2, q, 0, []⟩]) ++ [⟨1, q, (an : Int), xs.take 20⟩, ⟨6, 0, z, []⟩]) rfl (HR5.out.later HB6.out).rows a6 c6 6 (askK q 6) rfl (askK_length _ _).symm HL6.out (fun _ _ _ _ => trivial) (fun b _ hb e => by have := (rows_lt HR5.out.rows b e).2; omega) (by simp only [List.length_append, List.length_cons, List.length_nil, ← HP.out]; omega) (by decide) (HR5.out.later HB6.out).below.size (fun v7 w7 r1 r2 r3 => ?_)); have HR7 := put_by ((HR5.out.later HB6.out).grown r1 r2); have HVW7 := put_by (below_grown (n := w3.heap.size) (w := w3) HVW6.out HVW6.out.size r2 (fun r hr => HO5.out r hr)); clear r1 r2 r3; obtain ⟨x0, x1, x2, x3, -, -, -, -⟩ := HQ3.out _ HVW7.out; refine list_end ?_)
    | (go_at_call 9; (with_reducible refine (Play_law _ (by simp only [List.length_append, List.length_cons, List.length_nil, askK_length, ← HP.out]; omega) _ _ (Jbs.of_rows HR7.out.rows)).mono ?_); rintro e w8 ⟨aT, nT, cT, rfl, HPT, HB8⟩; have HVW8 := put_by (HVW7.out.trans (HB8.out.mono HVW7.out.size)); obtain ⟨x0, x1, x2, x3, -, -, -, -⟩ := HQ3.out _ HVW8.out))
  all_goals
    clear HR4 HR5 HR7 HB4 HVW5 HVW6 HVW7 HV3 HV4 HO5 HL6 HB6
    go_upto_region 9 with (first
      | (at_builtin; refine wpList_append_rows eltJb rfl (.const (.slice none 0 0)) (.tmp 56) rfl w.heap.size (.slice none 0 0) ([] : List Jb) rfl (Rows.nil kJb (fun _ => True) _ _ _) a2 k2 (m + 1) (js ++ [⟨2, q, 0, []⟩]) rfl HLN.out (ok2 := fun _ => True) (HJL.out _ HVW8.out) (fun _ _ _ _ => trivial) (fun _ _ _ e => by cases e) (by simp only [List.length_nil]; omega) (by decide) (HRW.out _ HVW8.out).below.size ?_; intro v9 w9 r1 r2 r3; have HB9 := put_by (below_nil r2); have HVW9 := put_by (HVW8.out.trans (HB9.out.mono HVW8.out.size)); have HR9 := put_by (RowI.mk (w := w) (v := v9) r1 (HRW.out _ HVW9.out).below); have HO9 : Hid (∀ r, v9.ownBlock = some r → w8.heap.size ≤ r) := put_by (fun r hr => Nat.le_of_not_lt (fun hl => own_not (d := 0) r3 r hl hr)); clear r1 r2 r3)
      | (go_at_call 16; (with_reducible refine (look_law _ _).mono ?_); rintro e w10 ⟨a10, c10, rfl, HL10, HB10⟩; have HE10 := put_by (HB9.out.trans (HB10.out.mono HB9.out.size)))
      | (at_builtin; refine wpList_append_rows eltJb rfl (.tmp 57) (.tmp 59) rfl w.heap.size v9 (js ++ [⟨2, q, 0, []⟩]) rfl (by have := (HR9.out.later HB10.out).rows; simpa using this) a10 c10 6 (askK q 6) rfl (askK_length _ _).symm HL10.out (fun _ _ _ _ => trivial) (fun b _ hb e => by have := (rows_lt HR9.out.rows b e).2; omega) (by rw [← HLN.out]; omega) (by decide) (HR9.out.later HB10.out).below.size ?_; intro v11 w11 r1 r2 r3; have HR11 := put_by ((HR9.out.later HB10.out).grown r1 r2); have HE11 := put_by (below_grown (n := w8.heap.size) (w := w8) HE10.out HE10.out.size r2 (fun r hr => HO9.out r hr)); clear r1 r2 r3)
      | (go_at_call 9; (with_reducible refine (Play_law _ (by rw [List.length_append, askK_length]; have := HLN.out; omega) _ _ (Jbs.of_rows HR11.out.rows)).mono ?_); rintro e wb ⟨aN, nN, cN, rfl, HPN, HB12⟩; have HEB := put_by (HE11.out.trans (HB12.out.mono HE11.out.size)); have HVB := put_by (HVW8.out.trans (HEB.out.mono HVW8.out.size))))
    have HPT2 : Hid (nT = m + 9 ∧ ∀ W, Below wb.heap.size wb W → Rps W aT cT (playU unit0 (((js ++ [⟨2, q, 0, []⟩]) ++ [⟨1, q, (an : Int), xs.take 20⟩, ⟨6, 0, z, []⟩]) ++ askK q 6)).1) := put_by ⟨by rw [HPT.out.1]; simp only [List.length_append, List.length_cons, List.length_nil, askK_length, ← HP.out], fun W hW => Lies.later HPT.out.2 (HEB.out.trans (hW.mono HEB.out.size))⟩
    have HRW := put_by (fun W (hW : Below wb.heap.size wb W) => HRW.out W (HVB.out.trans (hW.mono HVB.out.size)))
    have HJL := put_by (fun W (hW : Below wb.heap.size wb W) => HJL.out W (HVB.out.trans (hW.mono HVB.out.size)))
    have HQ3 := put_by (fun W (hW : Below wb.heap.size wb W) => HQ3.out W (HVB.out.trans (hW.mono HVB.out.size)))
    have HO3 := put_by (fun W (hW : Below wb.heap.size wb W) => HO3.out W (HVB.out.trans (hW.mono HVB.out.size)))
    have HOB : Hid (xs.take 20 ≠ [] → ∀ ad, sa = some ad → ad.block < wb.heap.size) := put_by (HO3.out wb (Below.refl _ _)).blocks
    obtain ⟨x0, x1, x2, x3, -, -, -, -⟩ := HQ3.out wb (Below.refl _ _)
    go_region_held3 (fun W => W.cell? ⟨sb, 0, none⟩ = some (.int .i64 1) ∧ W.cell? ⟨sb, 1, none⟩ = some (.int .i64 q) ∧ W.cell? ⟨sb, 2, none⟩ = some (.int .i64 (an : Int)) ∧ W.cell? ⟨sb, 3, none⟩ = some (.slice sa sn sc)) (go_keep) (first
      | (rw [if_pos (by rfl)]; refine wp_of_list rfl (by rintro ⟨_, _, hh⟩; cases hh.1) (wpList_append_rows eltJb rfl (.const (.slice none 0 0)) (.tmp 65) rfl w.heap.size (.slice none 0 0) ([] : List Jb) rfl (Rows.nil kJb (fun _ => True) _ _ _) a2 k2 (m + 1) (js ++ [⟨2, q, 0, []⟩]) rfl HLN.out (ok2 := fun _ => True) (HJL.out _ (by first | exact Below.refl _ _ | exact (Below.refl _ _).drew | exact ((Below.refl _ _).alloc (Nat.le_refl _) _).drew | exact (Below.refl _ _).alloc (Nat.le_refl _) _)) (fun _ _ _ _ => trivial) (fun _ _ _ e => by cases e) (by simp only [List.length_nil]; omega) (by decide) (HRW.out _ (by first | exact Below.refl _ _ | exact (Below.refl _ _).drew | exact ((Below.refl _ _).alloc (Nat.le_refl _) _).drew | exact (Below.refl _ _).alloc (Nat.le_refl _) _)).below.size (fun v4 w4 r1 r2 r3 => ?_)); have HB4 := put_by (below_nil r2); have HV3 := put_by (own_not (d := 0) r3); have HV4 : Hid (∀ b, b < wb.heap.size → v4.ownBlock ≠ some b) := put_by (fun b hb => own_not (d := 0) r3 b (by simp; omega)); have HVW := put_by (show Below wb.heap.size wb w4 from Below.trans (by first | exact Below.refl _ _ | exact (Below.refl _ _).drew | exact ((Below.refl _ _).alloc (Nat.le_refl _) _).drew | exact (Below.refl _ _).alloc (Nat.le_refl _) _) (HB4.out.mono (by simp))); have HR4 := put_by (RowI.mk (w := w) (v := v4) r1 ((HRW.out wb (Below.refl _ _)).below.trans (HVW.out.mono (HRW.out wb (Below.refl _ _)).below.size))); clear r1 r2 r3; obtain ⟨x0, x1, x2, x3, -, -, -, -⟩ := HQ3.out _ HVW.out; refine list_end ?_)
      | (rw [if_pos (by rfl)]; refine wp_of_list rfl (by rintro ⟨_, _, hh⟩; cases hh.1) (wpList_append_rows (ok := fun _ => True) eltJb rfl (.tmp 66) (.tmp 68) rfl w.heap.size v4 (js ++ [⟨2, q, 0, []⟩]) rfl (HR4.out.later (by first | exact Below.refl _ _ | exact (Below.refl _ _).drew | exact ((Below.refl _ _).alloc (Nat.le_refl _) _).drew | exact (Below.refl _ _).alloc (Nat.le_refl _) _)).rows (some ⟨w4.heap.size, 0, none⟩) 1 1 [⟨1, q, (an : Int), xs.take 20⟩] rfl rfl (Lies.later (lies_job1 (ok := fun b => v4.ownBlock ≠ some b) (W := w4) (⟨1, q, (an : Int), xs.take 20⟩ : Jb) (.slice sa sn sc) ⟨sa, sc, by rw [HO.out.1], HO3.out _ HVW.out, fun hx ad e => HV4.out _ (HOB.out hx ad e)⟩ (fun e => Nat.lt_irrefl _ (rows_lt HR4.out.rows _ e).2) 34) (by first | exact Below.refl _ _ | exact (Below.refl _ _).drew | exact ((Below.refl _ _).alloc (Nat.le_refl _) _).drew | exact (Below.refl _ _).alloc (Nat.le_refl _) _)) (fun _ _ _ _ => trivial) (fun b _ hb => hb) (by rw [← HLN.out]; omega) (by decide) (HR4.out.later (by first | exact Below.refl _ _ | exact (Below.refl _ _).drew | exact ((Below.refl _ _).alloc (Nat.le_refl _) _).drew | exact (Below.refl _ _).alloc (Nat.le_refl _) _)).below.size (fun v5 w5 r1 r2 r3 => ?_)); have HR5 := put_by (RowI.grown (w := w) (HR4.out.later (by first | exact Below.refl _ _ | exact (Below.refl _ _).drew | exact ((Below.refl _ _).alloc (Nat.le_refl _) _).drew | exact (Below.refl _ _).alloc (Nat.le_refl _) _)) r1 r2); have HVW5 := put_by (below_grown (n := wb.heap.size) (w := wb) (HVW.out.trans (Below.mono (by first | exact Below.refl _ _ | exact (Below.refl _ _).drew | exact ((Below.refl _ _).alloc (Nat.le_refl _) _).drew | exact (Below.refl _ _).alloc (Nat.le_refl _) _) HVW.out.size)) (Nat.le_trans HVW.out.size (by simp)) r2 (fun r hr => Nat.le_of_not_lt (fun hl => HV4.out r hl hr))); have HO5 : Hid (∀ r, v5.ownBlock = some r → wb.heap.size ≤ r) := put_by (fun r hr => by { have h9 := HVW.out.size; rcases r3 with h | h; { rw [h] at hr; exact Nat.le_of_not_lt (fun hl => HV4.out r hl hr) }; { have e := Option.some.inj (h.symm.trans hr); (try simp at e); omega } }); clear r1 r2 r3; obtain ⟨x0, x1, x2, x3, -, -, -, -⟩ := HQ3.out _ HVW5.out; refine list_end ?_)
      | (rw [if_pos (by rfl)]; refine wp_of_list rfl (by rintro ⟨_, _, hh⟩; cases hh.1) (wpList_append_rows (ok := fun _ => True) eltJb rfl (.tmp 66) (.tmp 68) rfl w.heap.size v4 (js ++ [⟨2, q, 0, []⟩]) rfl HR4.out.rows (some ⟨wb.heap.size, 0, none⟩) 1 1 [⟨1, q, (an : Int), xs.take 20⟩] rfl rfl ((lies_job1 (ok := fun b => v4.ownBlock ≠ some b) (W := wb) (⟨1, q, (an : Int), xs.take 20⟩ : Jb) (.slice sa sn sc) ⟨sa, sc, by rw [HO.out.1], HO3.out _ (Below.refl _ _), fun hx ad e => HV4.out _ (HOB.out hx ad e)⟩ (HV3.out _ (by simp)) 34).later (Below.trans (by first | exact Below.refl _ _ | exact (Below.refl _ _).drew | exact ((Below.refl _ _).alloc (Nat.le_refl _) _).drew | exact (Below.refl _ _).alloc (Nat.le_refl _) _) (HB4.out.mono (by simp)))) (fun _ _ _ _ => trivial) (fun b _ hb => hb) (by rw [← HLN.out]; omega) (by decide) HR4.out.below.size (fun v5 w5 r1 r2 r3 => ?_)); have HR5 := put_by (RowI.grown (w := w) HR4.out r1 r2); have HVW5 := put_by (below_grown (n := wb.heap.size) (w := wb) HVW.out HVW.out.size r2 (fun r hr => Nat.le_of_not_lt (fun hl => HV4.out r hl hr))); have HO5 : Hid (∀ r, v5.ownBlock = some r → wb.heap.size ≤ r) := put_by (fun r hr => by { have h9 := HVW.out.size; rcases r3 with h | h; { rw [h] at hr; exact Nat.le_of_not_lt (fun hl => HV4.out r hl hr) }; { have e := Option.some.inj (h.symm.trans hr); (try simp at e); omega } }); clear r1 r2 r3; obtain ⟨x0, x1, x2, x3, -, -, -, -⟩ := HQ3.out _ HVW5.out; refine list_end ?_)
      | (go_at_call 16; (with_reducible refine (look_law _ _).mono ?_); rintro e w6 ⟨a6, c6, rfl, HL6, HB6⟩; have HVW6 := put_by (HVW5.out.trans (HB6.out.mono HVW5.out.size)); obtain ⟨x0, x1, x2, x3, -, -, -, -⟩ := HQ3.out _ HVW6.out)
      | (rw [if_pos (by rfl)]; refine wp_of_list rfl (by rintro ⟨_, _, hh⟩; cases hh.1) (wpList_append_rows eltJb rfl (.tmp 69) (.tmp 71) rfl w.heap.size v5 ((js ++ [⟨2, q, 0, []⟩]) ++ [⟨1, q, (an : Int), xs.take 20⟩]) rfl (HR5.out.later HB6.out).rows a6 c6 6 (askK q 6) rfl (askK_length _ _).symm HL6.out (fun _ _ _ _ => trivial) (fun b _ hb e => by have := (rows_lt HR5.out.rows b e).2; omega) (by simp only [List.length_append, List.length_cons, List.length_nil, ← HP.out]; omega) (by decide) (HR5.out.later HB6.out).below.size (fun v7 w7 r1 r2 r3 => ?_)); have HR7 := put_by ((HR5.out.later HB6.out).grown r1 r2); have HVW7 := put_by (below_grown (n := wb.heap.size) (w := wb) HVW6.out HVW6.out.size r2 (fun r hr => HO5.out r hr)); clear r1 r2 r3; obtain ⟨x0, x1, x2, x3, -, -, -, -⟩ := HQ3.out _ HVW7.out; refine list_end ?_)
      | (go_at_call 9; (with_reducible refine (Play_law _ (by simp only [List.length_append, List.length_cons, List.length_nil, askK_length, ← HP.out]; omega) _ _ (Jbs.of_rows HR7.out.rows)).mono ?_); rintro e w8 ⟨aW, nW, cW, rfl, HPW, HB8⟩; have HVW8 := put_by (HVW7.out.trans (HB8.out.mono HVW7.out.size)); obtain ⟨x0, x1, x2, x3, -, -, -, -⟩ := HQ3.out _ HVW8.out))
    all_goals
      obtain ⟨p1, p2, p3, t1, t2, t3, l1, l2, l3, m1, m2, m3, e1, e2, e3, f1, f2⟩ := HF.out q HQ.out.1
      have hmj := HP.out
      have hnW : nW = m + 8 := by rw [HPW.out.1]; simp only [List.length_append, List.length_cons, List.length_nil, askK_length, ← HP.out]
      have hnN : nN = m + 7 := by rw [HPN.out.1]; simp only [List.length_append, List.length_cons, List.length_nil, askK_length, ← HP.out]
      have hnT := HPT2.out.1
      have hT : Rps w8 aT cT (p1 ++ t1) := by rw [← e1]; exact HPT2.out.2 w8 HVW8.out
      have hN : Rps w8 aN cN (p2 ++ t2) := by rw [← e2]; exact Lies.later HPN.out.2 HVW8.out
      have hW : Rps w8 aW cW (p3 ++ t3) := by rw [← e3]; exact HPW.out.2
      have HBE := put_by (HRW.out w8 HVW8.out).below
      have hsn : sn ≤ 20 := by rw [HO.out.1, List.length_take]; omega
      have hdl : ((xs.take 20).length : Int) = (sn : Int) := by rw [HO.out.1]
      have hw8 : IntKind.i64.wrap ((sn : Int) + 8) = (sn : Int) + 8 := by rw [IntKind.wrap_i64]; omega
      by_cases hz8 : z < (sn : Int) + 8
      · have hd := f1 (by rw [hdl]; exact hz8)
        have cS := put_by (sameTailK_yes p1 p2 t1 m1 p1.length p2.length nT nN rfl rfl (by omega) (by omega) (by omega) (by omega) aT aN cT cN w8 hT (by rw [hd]; exact hN))
        clear e1 e2 e3 f1 f2 hd hT hN hW l1 l2 l3 m1 m2 m3 hmj hnW hnN hnT hdl
        go_wp2_with (go_at_call 17; refine cS.out.mono ?_; rintro e w15 ⟨rfl, H15⟩)
        go_ret
        exact ⟨rfl, HBE.out.trans (H15.mono HBE.out.size)⟩
      · have hd := f2 (by rw [hdl]; omega)
        have cS := put_by (sameTailK_yes p1 p3 t1 m1 p1.length p3.length nT nW rfl rfl (by omega) (by omega) (by omega) (by omega) aT aW cT cW w8 hT (by rw [hd]; exact hW))
        clear e1 e2 e3 f1 f2 hd hT hN hW l1 l2 l3 m1 m2 m3 hmj hnW hnN hnT hdl
        go_wp2_with (go_at_call 17; refine cS.out.mono ?_; rintro e w15 ⟨rfl, H15⟩)
        go_ret
        exact ⟨rfl, HBE.out.trans (H15.mono HBE.out.size)⟩

end Go.Proofs.Ytegmcpcpnjfiaaa
