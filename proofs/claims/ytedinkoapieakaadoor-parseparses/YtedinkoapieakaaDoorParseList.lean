/- Package parse: lists of whatever kind, read by one function: contracts, at every state. -/
import Derived.Test.YtedinkoapieakaaDoorParseRow
namespace Go.Proofs.YtedinkoapieakaaDoor
open Go.ChangeShapes Go.WideShapes Go.ChangeAt Go.RowKit

theorem addOff (g j : Nat) : (⟨g, 0, none⟩ : Addr).add j = ⟨g, j, none⟩ := by unfold Addr.add; split <;> simp_all
theorem ownShape {w : World} {base n size : Nat} {e : TypeId} {v : Value} {xs : List Value} (h : w.ownsRow base e size v n xs) : ∃ ao cap, v = .slice ao n cap := by
  rcases h.2 with ⟨rfl, rfl⟩ | ⟨g, cap, cur, rfl, _⟩
  · exact ⟨_, _, rfl⟩
  · exact ⟨_, _, rfl⟩

abbrev strval (d : List UInt8) : Value := .string (str d)
abbrev colval (d : Col) : Value := .agg #[.string (str d.name), .int .i64 d.type, .bool d.notNull]
abbrev ordval (d : Int × Bool) : Value := .agg #[.int .i64 d.1, .bool d.2]
abbrev setval (d : List UInt8 × ED) : Value := .agg #[.string (str d.1), .int .i64 d.2.op, .int .i64 d.2.vk, .int .i64 d.2.vi, .string d.2.vt, .string d.2.tb, .string d.2.nm, .int .i64 0, .slice d.2.ao d.2.n d.2.cap]

theorem Tryd.infoListEx : (Tryd.prog.info? 35).map (fun i => (i.zero, i.size, i.bytes)) = some (some (.agg #[.int .i64 0, .int .i64 0, .int .i64 0, .string ⟨#[]⟩, .string ⟨#[]⟩, .string ⟨#[]⟩, .int .i64 0, .slice none 0 0]), 8, 104) := by kernel_rfl

theorem cells_newEx (w : World) (d : ED) (ty : TypeId) : ∀ j u, (kEx.cel d)[j]? = some u → (w.alloc (.cells #[.int .i64 d.op, .int .i64 d.vk, .int .i64 d.vi, .string d.vt, .string d.tb, .string d.nm, .int .i64 0, .slice d.ao d.n d.cap] ty)).cell? ((⟨w.heap.size, 0, none⟩ : Addr).add j) = some u := by
  intro j u hu
  rw [addOff]
  match j, hu with
  | 0, hu => cases hu; simp
  | 1, hu => cases hu; simp
  | 2, hu => cases hu; simp
  | 3, hu => cases hu; simp
  | 4, hu => cases hu; simp
  | 5, hu => cases hu; simp
  | 6, hu => cases hu; simp
  | 7, hu => cases hu; simp

set_option maxRecDepth 100000 in
set_option maxHeartbeats 4000000 in
theorem listEx_any {c : RC} {one : St → Ex × St} {more : St → Bool × St} (g m : Nat) (eg : ∀ args w, (callFunc g args).run Tryd.prog w = .ok (.enter g args) w) (em : ∀ args w, (callFunc m args).run Tryd.prog w = .ok (.enter m args) w) (h1 : OneOf' kEx exval g c one) (h2 : MoreOf m c more) (hsh : Shrinks one) (htk : Takes more) (w : World) (s : St) (h : On c w w s) :
    Calls Tryd.prog 78 #[.func (.func g) #[.pointer (some ⟨c.R, 0, none⟩)] #[], .func (.func m) #[.pointer (some ⟨c.R, 0, none⟩)] #[]] w fun e w' => ∃ ao n cap ds, e = .returned (.slice ao n cap) ∧ On c w w' (listP one more s).2 ∧ Rw kEx w.heap.size 35 8 w' (.slice ao n cap) (listP one more s).1 ds ∧ n = ds.length ∧ n ≤ 301 := by
  have hR := h.lt
  have H1 := hide h1
  have H2 := hide h2
  have HS := hide hsh
  have HT := hide htk
  obtain ⟨i0, hi0, hz0, hz1, hz2⟩ := info_parts Tryd.infoListEx
  have cO : Calls Tryd.prog g #[.pointer (some ⟨c.R, 0, none⟩)] w fun e w1 => ∃ d : ED, e = .returned (exval d) ∧ c.R < w1.heap.size ∧ Hid (On c w (w1.alloc (.cells #[.int .i64 d.op, .int .i64 d.vk, .int .i64 d.vi, .string d.vt, .string d.tb, .string d.nm, .int .i64 0, .slice d.ao d.n d.cap] 35)) (one s).2 ∧ Rw kEx w.heap.size 35 8 (w1.alloc (.cells #[.int .i64 d.op, .int .i64 d.vk, .int .i64 d.vi, .string d.vt, .string d.tb, .string d.nm, .int .i64 0, .slice d.ao d.n d.cap] 35)) (.slice (some ⟨w1.heap.size, 0, none⟩) 1 1) [(one s).1] [d] ∧ 1 + (one s).2.len ≤ 301) :=
    (h1 w s h).mono fun e w1 ⟨d, e1, e2, e3⟩ => ⟨d, e1, e2.lt, e2.alloc _, Rw.new e2.size _ rfl rfl e3, by have := e2.len_le; omega⟩
  have HL : Hid (listLoop one more ((one s).2.len + 1) [(one s).1] (one s).2 = listP one more s) := rfl
  generalize listP one more s = N at HL ⊢
  generalize one s = p at cO HL
  obtain ⟨x0, s0⟩ := p
  simp only at cO HL
  clear h h1 h2 hsh htk
  go_enter Tryd.func78, Tryd.ntmps78
  go_wp2_with (go_at_fn g; refine cO.mono ?_; rintro e w1 ⟨d, rfl, hR1, HB⟩)
  go_loopw [5] (fun v wr => ∃ ao n cap, v = .slice ao n cap ∧ c.R < wr.heap.size ∧ n ≤ 301 ∧ Hid (∃ l ds s1, On c w wr s1 ∧ Rw kEx w.heap.size 35 8 wr (.slice ao n cap) l ds ∧ n = ds.length ∧ n + s1.len ≤ 301 ∧ listLoop one more (s1.len + 1) l s1 = N)) (fun _ wr => lenOf c wr)
  case atStart => exact ⟨_, _, _, rfl, by simp; omega, by omega, [x0], [d], s0, HB.out.1, HB.out.2.1, rfl, HB.out.2.2, HL.out⟩
  case round =>
    obtain ⟨ao, n, cap, rfl, hRr, hn, HQ⟩ := hrel
    obtain ⟨l, ds, s1, q1, q2, q3, q4, q5⟩ := HQ.out
    have HM := hide q1.lenOf
    have cM : Calls Tryd.prog m #[.pointer (some ⟨c.R, 0, none⟩)] wr fun e w2 => e = .returned (.bool (more s1).1) ∧ c.R < w2.heap.size ∧ Hid (On c w w2 (more s1).2 ∧ Rw kEx w.heap.size 35 8 w2 (.slice ao n cap) l ds) :=
      (H2.out wr s1 q1.here).mono fun e w2 ⟨e1, e2⟩ => ⟨e1, e2.lt, q1.back e2, q2.keep e2.keeps hR⟩
    cases hb : (more s1).1 with
    | false =>
      have HE : Hid (N = (l, (more s1).2)) := by
        rw [listLoop_end hb] at q5
        exact q5.symm
      rw [hb] at cM
      generalize (more s1).2 = s2 at cM HE
      have HN := hide q3
      clear HQ q1 q2 q3 q4 q5 hb
      go_wp2_with (go_at_fn m; refine cM.mono ?_; rintro e w2 ⟨rfl, hR2, HB2⟩)
      go_ret
      rw [HE.out]
      exact ⟨_, _, _, ds, rfl, HB2.out.1, HB2.out.2, HN.out, hn⟩
    | true =>
      have hl1 := HT.out s1 hb
      have hl2 := HS.out (more s1).2
      have HE : Hid (listLoop one more ((one (more s1).2).2.len + 1) (l ++ [(one (more s1).2).1]) (one (more s1).2).2 = N) := by
        rw [listLoop_on HS.out HT.out hb] at q5
        exact q5
      rw [hb] at cM
      have cX : Hid (∀ W, Hid (On c w W (more s1).2 ∧ Rw kEx w.heap.size 35 8 W (.slice ao n cap) l ds) → Calls Tryd.prog g #[.pointer (some ⟨c.R, 0, none⟩)] W fun e w3 => ∃ d : ED, e = .returned (exval d) ∧ c.R < w3.heap.size ∧ w.heap.size ≤ w3.heap.size ∧ Hid (On c w (w3.alloc (.cells #[.int .i64 d.op, .int .i64 d.vk, .int .i64 d.vi, .string d.vt, .string d.tb, .string d.nm, .int .i64 0, .slice d.ao d.n d.cap] 35)) (one (more s1).2).2 ∧ Rw kEx w.heap.size 35 8 (w3.alloc (.cells #[.int .i64 d.op, .int .i64 d.vk, .int .i64 d.vi, .string d.vt, .string d.tb, .string d.nm, .int .i64 0, .slice d.ao d.n d.cap] 35)) (.slice ao n cap) l ds ∧ kEx.rel (fun b => w.heap.size ≤ b ∧ some b ≠ (Value.slice ao n cap).ownBlock) (w3.alloc (.cells #[.int .i64 d.op, .int .i64 d.vk, .int .i64 d.vi, .string d.vt, .string d.tb, .string d.nm, .int .i64 0, .slice d.ao d.n d.cap] 35)) (one (more s1).2).1 d)) := by
        intro W hW
        refine (H1.out W _ hW.out.1.here).mono fun e w3 ⟨d, e1, e2, e3⟩ => ⟨d, e1, e2.lt, (hW.out.1.back e2).size, (hW.out.1.back e2).alloc _, (hW.out.2.keep e2.keeps hR).keep (R := c.R) ((Keeps.refl _ _).alloc _) hR, ?_⟩
        refine kEx.move (w := w3) (by simp) (fun b _ hb => Below.heap_alloc _ _ _ hb) (fun b hb hlt => ⟨by have := hW.out.1.size; omega, fun hbk => ?_⟩) e3
        have := (hW.out.2.own.lt b hbk.symm).2
        omega
      have HN := hide q3
      generalize one (more s1).2 = r at cX HE hl2
      obtain ⟨x, s3⟩ := r
      generalize (more s1).2 = s2 at cM cX hl1 hl2
      simp only at cX HE hl2
      have hm1 : s3.len < s1.len := by omega
      have hm2 : n + 1 + s3.len ≤ 301 := by omega
      clear HQ q1 q2 q3 q4 q5 hb hl1 hl2
      go_wp2_with (first
        | (go_at_fn m; refine cM.mono ?_; rintro e w2 ⟨rfl, hR2, HB2⟩)
        | (go_at_fn g; refine (cX.out _ HB2).mono ?_; rintro e w3 ⟨d3, rfl, hR3, hs3, HB3⟩)
        | (at_builtin; refine wpList_append_own_at _ rfl (.tmp 11) (.tmp 14) 30 rfl w.heap.size 35 i0 (.agg #[.int .i64 0, .int .i64 0, .int .i64 0, .string ⟨#[]⟩, .string ⟨#[]⟩, .string ⟨#[]⟩, .int .i64 0, .slice none 0 0]) 8 104 Tryd.underlying30 hi0 hz0 hz1 hz2 rfl (by decide) (.slice ao n cap) n (ds.flatMap kEx.cel) rfl (by have := HB3.out.2.1.own; rw [← HN.out] at this; exact this) ⟨w3.heap.size, 0, none⟩ 1 1 (kEx.cel d3) rfl rfl (cells_newEx w3 d3 _) (kEx.one d3) (by unfold maxLen; omega) (by omega) (by simp; omega) ?_; intro v2 w4 hown hgrow hnil hblk; have hO4 : On c w w4 s3 := HB3.out.1.grown hgrow (fun k hk => (HB3.out.2.1.own.lt k hk).1); have hR4 := hO4.lt; have hrow : Rw kEx w.heap.size 35 8 w4 v2 (l ++ [x]) (ds ++ [d3]) := HB3.out.2.1.append HB3.out.2.2 (by rw [← HN.out]; exact hown) hgrow hblk; obtain ⟨ao2, cap2, rfl⟩ := ownShape hown; have HB4 := hide (And.intro hO4 hrow); clear hown hgrow hnil hblk hO4 hrow))
      go_roundw
      case rel => exact ⟨ao2, n + 1, cap2, rfl, hR4, by omega, _, _, s3, HB4.out.1, HB4.out.2, by have := HN.out; simp; omega, hm2, HE.out⟩
      case measure => rw [HB4.out.1.lenOf, HM.out]; exact hm1

theorem Tryd.infoListStr : (Tryd.prog.info? 9).map (fun i => (i.zero, i.size, i.bytes)) = some (some (.string ⟨#[]⟩), 1, 16) := by kernel_rfl

theorem cells_newStr (w : World) (d : (List UInt8)) (ty : TypeId) : ∀ j u, (kStr.cel d)[j]? = some u → (w.alloc (.cells #[.string (str d)] ty)).cell? ((⟨w.heap.size, 0, none⟩ : Addr).add j) = some u := by
  intro j u hu
  rw [addOff]
  match j, hu with
  | 0, hu => cases hu; simp

set_option maxRecDepth 100000 in
set_option maxHeartbeats 4000000 in
theorem listStr_any {c : RC} {one : St → (List UInt8) × St} {more : St → Bool × St} (g m : Nat) (eg : ∀ args w, (callFunc g args).run Tryd.prog w = .ok (.enter g args) w) (em : ∀ args w, (callFunc m args).run Tryd.prog w = .ok (.enter m args) w) (h1 : OneOf' kStr strval g c one) (h2 : MoreOf m c more) (hsh : Shrinks one) (htk : Takes more) (w : World) (s : St) (h : On c w w s) :
    Calls Tryd.prog 110 #[.func (.func g) #[.pointer (some ⟨c.R, 0, none⟩)] #[], .func (.func m) #[.pointer (some ⟨c.R, 0, none⟩)] #[]] w fun e w' => ∃ ao n cap ds, e = .returned (.slice ao n cap) ∧ On c w w' (listP one more s).2 ∧ Rw kStr w.heap.size 9 1 w' (.slice ao n cap) (listP one more s).1 ds ∧ n = ds.length ∧ n ≤ 301 := by
  have hR := h.lt
  have H1 := hide h1
  have H2 := hide h2
  have HS := hide hsh
  have HT := hide htk
  obtain ⟨i0, hi0, hz0, hz1, hz2⟩ := info_parts Tryd.infoListStr
  have cO : Calls Tryd.prog g #[.pointer (some ⟨c.R, 0, none⟩)] w fun e w1 => ∃ d : (List UInt8), e = .returned (strval d) ∧ c.R < w1.heap.size ∧ Hid (On c w (w1.alloc (.cells #[.string (str d)] 9)) (one s).2 ∧ Rw kStr w.heap.size 9 1 (w1.alloc (.cells #[.string (str d)] 9)) (.slice (some ⟨w1.heap.size, 0, none⟩) 1 1) [(one s).1] [d] ∧ 1 + (one s).2.len ≤ 301) :=
    (h1 w s h).mono fun e w1 ⟨d, e1, e2, e3⟩ => ⟨d, e1, e2.lt, e2.alloc _, Rw.new e2.size _ rfl rfl e3, by have := e2.len_le; omega⟩
  have HL : Hid (listLoop one more ((one s).2.len + 1) [(one s).1] (one s).2 = listP one more s) := rfl
  generalize listP one more s = N at HL ⊢
  generalize one s = p at cO HL
  obtain ⟨x0, s0⟩ := p
  simp only at cO HL
  clear h h1 h2 hsh htk
  go_enter Tryd.func110, Tryd.ntmps110
  go_wp2_with (go_at_fn g; refine cO.mono ?_; rintro e w1 ⟨d, rfl, hR1, HB⟩)
  go_loopw [5] (fun v wr => ∃ ao n cap, v = .slice ao n cap ∧ c.R < wr.heap.size ∧ n ≤ 301 ∧ Hid (∃ l ds s1, On c w wr s1 ∧ Rw kStr w.heap.size 9 1 wr (.slice ao n cap) l ds ∧ n = ds.length ∧ n + s1.len ≤ 301 ∧ listLoop one more (s1.len + 1) l s1 = N)) (fun _ wr => lenOf c wr)
  case atStart => exact ⟨_, _, _, rfl, by simp; omega, by omega, [x0], [d], s0, HB.out.1, HB.out.2.1, rfl, HB.out.2.2, HL.out⟩
  case round =>
    obtain ⟨ao, n, cap, rfl, hRr, hn, HQ⟩ := hrel
    obtain ⟨l, ds, s1, q1, q2, q3, q4, q5⟩ := HQ.out
    have HM := hide q1.lenOf
    have cM : Calls Tryd.prog m #[.pointer (some ⟨c.R, 0, none⟩)] wr fun e w2 => e = .returned (.bool (more s1).1) ∧ c.R < w2.heap.size ∧ Hid (On c w w2 (more s1).2 ∧ Rw kStr w.heap.size 9 1 w2 (.slice ao n cap) l ds) :=
      (H2.out wr s1 q1.here).mono fun e w2 ⟨e1, e2⟩ => ⟨e1, e2.lt, q1.back e2, q2.keep e2.keeps hR⟩
    cases hb : (more s1).1 with
    | false =>
      have HE : Hid (N = (l, (more s1).2)) := by
        rw [listLoop_end hb] at q5
        exact q5.symm
      rw [hb] at cM
      generalize (more s1).2 = s2 at cM HE
      have HN := hide q3
      clear HQ q1 q2 q3 q4 q5 hb
      go_wp2_with (go_at_fn m; refine cM.mono ?_; rintro e w2 ⟨rfl, hR2, HB2⟩)
      go_ret
      rw [HE.out]
      exact ⟨_, _, _, ds, rfl, HB2.out.1, HB2.out.2, HN.out, hn⟩
    | true =>
      have hl1 := HT.out s1 hb
      have hl2 := HS.out (more s1).2
      have HE : Hid (listLoop one more ((one (more s1).2).2.len + 1) (l ++ [(one (more s1).2).1]) (one (more s1).2).2 = N) := by
        rw [listLoop_on HS.out HT.out hb] at q5
        exact q5
      rw [hb] at cM
      have cX : Hid (∀ W, Hid (On c w W (more s1).2 ∧ Rw kStr w.heap.size 9 1 W (.slice ao n cap) l ds) → Calls Tryd.prog g #[.pointer (some ⟨c.R, 0, none⟩)] W fun e w3 => ∃ d : (List UInt8), e = .returned (strval d) ∧ c.R < w3.heap.size ∧ w.heap.size ≤ w3.heap.size ∧ Hid (On c w (w3.alloc (.cells #[.string (str d)] 9)) (one (more s1).2).2 ∧ Rw kStr w.heap.size 9 1 (w3.alloc (.cells #[.string (str d)] 9)) (.slice ao n cap) l ds ∧ kStr.rel (fun b => w.heap.size ≤ b ∧ some b ≠ (Value.slice ao n cap).ownBlock) (w3.alloc (.cells #[.string (str d)] 9)) (one (more s1).2).1 d)) := by
        intro W hW
        refine (H1.out W _ hW.out.1.here).mono fun e w3 ⟨d, e1, e2, e3⟩ => ⟨d, e1, e2.lt, (hW.out.1.back e2).size, (hW.out.1.back e2).alloc _, (hW.out.2.keep e2.keeps hR).keep (R := c.R) ((Keeps.refl _ _).alloc _) hR, ?_⟩
        refine kStr.move (w := w3) (by simp) (fun b _ hb => Below.heap_alloc _ _ _ hb) (fun b hb hlt => ⟨by have := hW.out.1.size; omega, fun hbk => ?_⟩) e3
        have := (hW.out.2.own.lt b hbk.symm).2
        omega
      have HN := hide q3
      generalize one (more s1).2 = r at cX HE hl2
      obtain ⟨x, s3⟩ := r
      generalize (more s1).2 = s2 at cM cX hl1 hl2
      simp only at cX HE hl2
      have hm1 : s3.len < s1.len := by omega
      have hm2 : n + 1 + s3.len ≤ 301 := by omega
      clear HQ q1 q2 q3 q4 q5 hb hl1 hl2
      go_wp2_with (first
        | (go_at_fn m; refine cM.mono ?_; rintro e w2 ⟨rfl, hR2, HB2⟩)
        | (go_at_fn g; refine (cX.out _ HB2).mono ?_; rintro e w3 ⟨d3, rfl, hR3, hs3, HB3⟩)
        | (at_builtin; refine wpList_append_own_at _ rfl (.tmp 11) (.tmp 14) 29 rfl w.heap.size 9 i0 (.string ⟨#[]⟩) 1 16 Tryd.underlying29 hi0 hz0 hz1 hz2 rfl (by decide) (.slice ao n cap) n (ds.flatMap kStr.cel) rfl (by have := HB3.out.2.1.own; rw [← HN.out] at this; exact this) ⟨w3.heap.size, 0, none⟩ 1 1 (kStr.cel d3) rfl rfl (cells_newStr w3 d3 _) (kStr.one d3) (by unfold maxLen; omega) (by omega) (by simp; omega) ?_; intro v2 w4 hown hgrow hnil hblk; have hO4 : On c w w4 s3 := HB3.out.1.grown hgrow (fun k hk => (HB3.out.2.1.own.lt k hk).1); have hR4 := hO4.lt; have hrow : Rw kStr w.heap.size 9 1 w4 v2 (l ++ [x]) (ds ++ [d3]) := HB3.out.2.1.append HB3.out.2.2 (by rw [← HN.out]; exact hown) hgrow hblk; obtain ⟨ao2, cap2, rfl⟩ := ownShape hown; have HB4 := hide (And.intro hO4 hrow); clear hown hgrow hnil hblk hO4 hrow))
      go_roundw
      case rel => exact ⟨ao2, n + 1, cap2, rfl, hR4, by omega, _, _, s3, HB4.out.1, HB4.out.2, by have := HN.out; simp; omega, hm2, HE.out⟩
      case measure => rw [HB4.out.1.lenOf, HM.out]; exact hm1

theorem Tryd.infoListCol : (Tryd.prog.info? 74).map (fun i => (i.zero, i.size, i.bytes)) = some (some (.agg #[.string ⟨#[]⟩, .int .i64 0, .bool false]), 3, 32) := by kernel_rfl

theorem cells_newCol (w : World) (d : Col) (ty : TypeId) : ∀ j u, (kCol.cel d)[j]? = some u → (w.alloc (.cells #[.string (str d.name), .int .i64 d.type, .bool d.notNull] ty)).cell? ((⟨w.heap.size, 0, none⟩ : Addr).add j) = some u := by
  intro j u hu
  rw [addOff]
  match j, hu with
  | 0, hu => cases hu; simp
  | 1, hu => cases hu; simp
  | 2, hu => cases hu; simp

set_option maxRecDepth 100000 in
set_option maxHeartbeats 4000000 in
theorem listCol_any {c : RC} {one : St → Col × St} {more : St → Bool × St} (g m : Nat) (eg : ∀ args w, (callFunc g args).run Tryd.prog w = .ok (.enter g args) w) (em : ∀ args w, (callFunc m args).run Tryd.prog w = .ok (.enter m args) w) (h1 : OneOf' kCol colval g c one) (h2 : MoreOf m c more) (hsh : Shrinks one) (htk : Takes more) (w : World) (s : St) (h : On c w w s) :
    Calls Tryd.prog 95 #[.func (.func g) #[.pointer (some ⟨c.R, 0, none⟩)] #[], .func (.func m) #[.pointer (some ⟨c.R, 0, none⟩)] #[]] w fun e w' => ∃ ao n cap ds, e = .returned (.slice ao n cap) ∧ On c w w' (listP one more s).2 ∧ Rw kCol w.heap.size 74 3 w' (.slice ao n cap) (listP one more s).1 ds ∧ n = ds.length ∧ n ≤ 301 := by
  have hR := h.lt
  have H1 := hide h1
  have H2 := hide h2
  have HS := hide hsh
  have HT := hide htk
  obtain ⟨i0, hi0, hz0, hz1, hz2⟩ := info_parts Tryd.infoListCol
  have cO : Calls Tryd.prog g #[.pointer (some ⟨c.R, 0, none⟩)] w fun e w1 => ∃ d : Col, e = .returned (colval d) ∧ c.R < w1.heap.size ∧ Hid (On c w (w1.alloc (.cells #[.string (str d.name), .int .i64 d.type, .bool d.notNull] 74)) (one s).2 ∧ Rw kCol w.heap.size 74 3 (w1.alloc (.cells #[.string (str d.name), .int .i64 d.type, .bool d.notNull] 74)) (.slice (some ⟨w1.heap.size, 0, none⟩) 1 1) [(one s).1] [d] ∧ 1 + (one s).2.len ≤ 301) :=
    (h1 w s h).mono fun e w1 ⟨d, e1, e2, e3⟩ => ⟨d, e1, e2.lt, e2.alloc _, Rw.new e2.size _ rfl rfl e3, by have := e2.len_le; omega⟩
  have HL : Hid (listLoop one more ((one s).2.len + 1) [(one s).1] (one s).2 = listP one more s) := rfl
  generalize listP one more s = N at HL ⊢
  generalize one s = p at cO HL
  obtain ⟨x0, s0⟩ := p
  simp only at cO HL
  clear h h1 h2 hsh htk
  go_enter Tryd.func95, Tryd.ntmps95
  go_wp2_with (go_at_fn g; refine cO.mono ?_; rintro e w1 ⟨d, rfl, hR1, HB⟩)
  go_loopw [5] (fun v wr => ∃ ao n cap, v = .slice ao n cap ∧ c.R < wr.heap.size ∧ n ≤ 301 ∧ Hid (∃ l ds s1, On c w wr s1 ∧ Rw kCol w.heap.size 74 3 wr (.slice ao n cap) l ds ∧ n = ds.length ∧ n + s1.len ≤ 301 ∧ listLoop one more (s1.len + 1) l s1 = N)) (fun _ wr => lenOf c wr)
  case atStart => exact ⟨_, _, _, rfl, by simp; omega, by omega, [x0], [d], s0, HB.out.1, HB.out.2.1, rfl, HB.out.2.2, HL.out⟩
  case round =>
    obtain ⟨ao, n, cap, rfl, hRr, hn, HQ⟩ := hrel
    obtain ⟨l, ds, s1, q1, q2, q3, q4, q5⟩ := HQ.out
    have HM := hide q1.lenOf
    have cM : Calls Tryd.prog m #[.pointer (some ⟨c.R, 0, none⟩)] wr fun e w2 => e = .returned (.bool (more s1).1) ∧ c.R < w2.heap.size ∧ Hid (On c w w2 (more s1).2 ∧ Rw kCol w.heap.size 74 3 w2 (.slice ao n cap) l ds) :=
      (H2.out wr s1 q1.here).mono fun e w2 ⟨e1, e2⟩ => ⟨e1, e2.lt, q1.back e2, q2.keep e2.keeps hR⟩
    cases hb : (more s1).1 with
    | false =>
      have HE : Hid (N = (l, (more s1).2)) := by
        rw [listLoop_end hb] at q5
        exact q5.symm
      rw [hb] at cM
      generalize (more s1).2 = s2 at cM HE
      have HN := hide q3
      clear HQ q1 q2 q3 q4 q5 hb
      go_wp2_with (go_at_fn m; refine cM.mono ?_; rintro e w2 ⟨rfl, hR2, HB2⟩)
      go_ret
      rw [HE.out]
      exact ⟨_, _, _, ds, rfl, HB2.out.1, HB2.out.2, HN.out, hn⟩
    | true =>
      have hl1 := HT.out s1 hb
      have hl2 := HS.out (more s1).2
      have HE : Hid (listLoop one more ((one (more s1).2).2.len + 1) (l ++ [(one (more s1).2).1]) (one (more s1).2).2 = N) := by
        rw [listLoop_on HS.out HT.out hb] at q5
        exact q5
      rw [hb] at cM
      have cX : Hid (∀ W, Hid (On c w W (more s1).2 ∧ Rw kCol w.heap.size 74 3 W (.slice ao n cap) l ds) → Calls Tryd.prog g #[.pointer (some ⟨c.R, 0, none⟩)] W fun e w3 => ∃ d : Col, e = .returned (colval d) ∧ c.R < w3.heap.size ∧ w.heap.size ≤ w3.heap.size ∧ Hid (On c w (w3.alloc (.cells #[.string (str d.name), .int .i64 d.type, .bool d.notNull] 74)) (one (more s1).2).2 ∧ Rw kCol w.heap.size 74 3 (w3.alloc (.cells #[.string (str d.name), .int .i64 d.type, .bool d.notNull] 74)) (.slice ao n cap) l ds ∧ kCol.rel (fun b => w.heap.size ≤ b ∧ some b ≠ (Value.slice ao n cap).ownBlock) (w3.alloc (.cells #[.string (str d.name), .int .i64 d.type, .bool d.notNull] 74)) (one (more s1).2).1 d)) := by
        intro W hW
        refine (H1.out W _ hW.out.1.here).mono fun e w3 ⟨d, e1, e2, e3⟩ => ⟨d, e1, e2.lt, (hW.out.1.back e2).size, (hW.out.1.back e2).alloc _, (hW.out.2.keep e2.keeps hR).keep (R := c.R) ((Keeps.refl _ _).alloc _) hR, ?_⟩
        refine kCol.move (w := w3) (by simp) (fun b _ hb => Below.heap_alloc _ _ _ hb) (fun b hb hlt => ⟨by have := hW.out.1.size; omega, fun hbk => ?_⟩) e3
        have := (hW.out.2.own.lt b hbk.symm).2
        omega
      have HN := hide q3
      generalize one (more s1).2 = r at cX HE hl2
      obtain ⟨x, s3⟩ := r
      generalize (more s1).2 = s2 at cM cX hl1 hl2
      simp only at cX HE hl2
      have hm1 : s3.len < s1.len := by omega
      have hm2 : n + 1 + s3.len ≤ 301 := by omega
      clear HQ q1 q2 q3 q4 q5 hb hl1 hl2
      go_wp2_with (first
        | (go_at_fn m; refine cM.mono ?_; rintro e w2 ⟨rfl, hR2, HB2⟩)
        | (go_at_fn g; refine (cX.out _ HB2).mono ?_; rintro e w3 ⟨d3, rfl, hR3, hs3, HB3⟩)
        | (at_builtin; refine wpList_append_own_at _ rfl (.tmp 11) (.tmp 14) 28 rfl w.heap.size 74 i0 (.agg #[.string ⟨#[]⟩, .int .i64 0, .bool false]) 3 32 Tryd.underlying28 hi0 hz0 hz1 hz2 rfl (by decide) (.slice ao n cap) n (ds.flatMap kCol.cel) rfl (by have := HB3.out.2.1.own; rw [← HN.out] at this; exact this) ⟨w3.heap.size, 0, none⟩ 1 1 (kCol.cel d3) rfl rfl (cells_newCol w3 d3 _) (kCol.one d3) (by unfold maxLen; omega) (by omega) (by simp; omega) ?_; intro v2 w4 hown hgrow hnil hblk; have hO4 : On c w w4 s3 := HB3.out.1.grown hgrow (fun k hk => (HB3.out.2.1.own.lt k hk).1); have hR4 := hO4.lt; have hrow : Rw kCol w.heap.size 74 3 w4 v2 (l ++ [x]) (ds ++ [d3]) := HB3.out.2.1.append HB3.out.2.2 (by rw [← HN.out]; exact hown) hgrow hblk; obtain ⟨ao2, cap2, rfl⟩ := ownShape hown; have HB4 := hide (And.intro hO4 hrow); clear hown hgrow hnil hblk hO4 hrow))
      go_roundw
      case rel => exact ⟨ao2, n + 1, cap2, rfl, hR4, by omega, _, _, s3, HB4.out.1, HB4.out.2, by have := HN.out; simp; omega, hm2, HE.out⟩
      case measure => rw [HB4.out.1.lenOf, HM.out]; exact hm1

theorem Tryd.infoListOrd : (Tryd.prog.info? 76).map (fun i => (i.zero, i.size, i.bytes)) = some (some (.agg #[.int .i64 0, .bool false]), 2, 16) := by kernel_rfl

theorem cells_newOrd (w : World) (d : (Int × Bool)) (ty : TypeId) : ∀ j u, (kOrd.cel d)[j]? = some u → (w.alloc (.cells #[.int .i64 d.1, .bool d.2] ty)).cell? ((⟨w.heap.size, 0, none⟩ : Addr).add j) = some u := by
  intro j u hu
  rw [addOff]
  match j, hu with
  | 0, hu => cases hu; simp
  | 1, hu => cases hu; simp

set_option maxRecDepth 100000 in
set_option maxHeartbeats 4000000 in
theorem listOrd_any {c : RC} {one : St → (Int × Bool) × St} {more : St → Bool × St} (g m : Nat) (eg : ∀ args w, (callFunc g args).run Tryd.prog w = .ok (.enter g args) w) (em : ∀ args w, (callFunc m args).run Tryd.prog w = .ok (.enter m args) w) (h1 : OneOf' kOrd ordval g c one) (h2 : MoreOf m c more) (hsh : Shrinks one) (htk : Takes more) (w : World) (s : St) (h : On c w w s) :
    Calls Tryd.prog 80 #[.func (.func g) #[.pointer (some ⟨c.R, 0, none⟩)] #[], .func (.func m) #[.pointer (some ⟨c.R, 0, none⟩)] #[]] w fun e w' => ∃ ao n cap ds, e = .returned (.slice ao n cap) ∧ On c w w' (listP one more s).2 ∧ Rw kOrd w.heap.size 76 2 w' (.slice ao n cap) (listP one more s).1 ds ∧ n = ds.length ∧ n ≤ 301 := by
  have hR := h.lt
  have H1 := hide h1
  have H2 := hide h2
  have HS := hide hsh
  have HT := hide htk
  obtain ⟨i0, hi0, hz0, hz1, hz2⟩ := info_parts Tryd.infoListOrd
  have cO : Calls Tryd.prog g #[.pointer (some ⟨c.R, 0, none⟩)] w fun e w1 => ∃ d : (Int × Bool), e = .returned (ordval d) ∧ c.R < w1.heap.size ∧ Hid (On c w (w1.alloc (.cells #[.int .i64 d.1, .bool d.2] 76)) (one s).2 ∧ Rw kOrd w.heap.size 76 2 (w1.alloc (.cells #[.int .i64 d.1, .bool d.2] 76)) (.slice (some ⟨w1.heap.size, 0, none⟩) 1 1) [(one s).1] [d] ∧ 1 + (one s).2.len ≤ 301) :=
    (h1 w s h).mono fun e w1 ⟨d, e1, e2, e3⟩ => ⟨d, e1, e2.lt, e2.alloc _, Rw.new e2.size _ rfl rfl e3, by have := e2.len_le; omega⟩
  have HL : Hid (listLoop one more ((one s).2.len + 1) [(one s).1] (one s).2 = listP one more s) := rfl
  generalize listP one more s = N at HL ⊢
  generalize one s = p at cO HL
  obtain ⟨x0, s0⟩ := p
  simp only at cO HL
  clear h h1 h2 hsh htk
  go_enter Tryd.func80, Tryd.ntmps80
  go_wp2_with (go_at_fn g; refine cO.mono ?_; rintro e w1 ⟨d, rfl, hR1, HB⟩)
  go_loopw [5] (fun v wr => ∃ ao n cap, v = .slice ao n cap ∧ c.R < wr.heap.size ∧ n ≤ 301 ∧ Hid (∃ l ds s1, On c w wr s1 ∧ Rw kOrd w.heap.size 76 2 wr (.slice ao n cap) l ds ∧ n = ds.length ∧ n + s1.len ≤ 301 ∧ listLoop one more (s1.len + 1) l s1 = N)) (fun _ wr => lenOf c wr)
  case atStart => exact ⟨_, _, _, rfl, by simp; omega, by omega, [x0], [d], s0, HB.out.1, HB.out.2.1, rfl, HB.out.2.2, HL.out⟩
  case round =>
    obtain ⟨ao, n, cap, rfl, hRr, hn, HQ⟩ := hrel
    obtain ⟨l, ds, s1, q1, q2, q3, q4, q5⟩ := HQ.out
    have HM := hide q1.lenOf
    have cM : Calls Tryd.prog m #[.pointer (some ⟨c.R, 0, none⟩)] wr fun e w2 => e = .returned (.bool (more s1).1) ∧ c.R < w2.heap.size ∧ Hid (On c w w2 (more s1).2 ∧ Rw kOrd w.heap.size 76 2 w2 (.slice ao n cap) l ds) :=
      (H2.out wr s1 q1.here).mono fun e w2 ⟨e1, e2⟩ => ⟨e1, e2.lt, q1.back e2, q2.keep e2.keeps hR⟩
    cases hb : (more s1).1 with
    | false =>
      have HE : Hid (N = (l, (more s1).2)) := by
        rw [listLoop_end hb] at q5
        exact q5.symm
      rw [hb] at cM
      generalize (more s1).2 = s2 at cM HE
      have HN := hide q3
      clear HQ q1 q2 q3 q4 q5 hb
      go_wp2_with (go_at_fn m; refine cM.mono ?_; rintro e w2 ⟨rfl, hR2, HB2⟩)
      go_ret
      rw [HE.out]
      exact ⟨_, _, _, ds, rfl, HB2.out.1, HB2.out.2, HN.out, hn⟩
    | true =>
      have hl1 := HT.out s1 hb
      have hl2 := HS.out (more s1).2
      have HE : Hid (listLoop one more ((one (more s1).2).2.len + 1) (l ++ [(one (more s1).2).1]) (one (more s1).2).2 = N) := by
        rw [listLoop_on HS.out HT.out hb] at q5
        exact q5
      rw [hb] at cM
      have cX : Hid (∀ W, Hid (On c w W (more s1).2 ∧ Rw kOrd w.heap.size 76 2 W (.slice ao n cap) l ds) → Calls Tryd.prog g #[.pointer (some ⟨c.R, 0, none⟩)] W fun e w3 => ∃ d : (Int × Bool), e = .returned (ordval d) ∧ c.R < w3.heap.size ∧ w.heap.size ≤ w3.heap.size ∧ Hid (On c w (w3.alloc (.cells #[.int .i64 d.1, .bool d.2] 76)) (one (more s1).2).2 ∧ Rw kOrd w.heap.size 76 2 (w3.alloc (.cells #[.int .i64 d.1, .bool d.2] 76)) (.slice ao n cap) l ds ∧ kOrd.rel (fun b => w.heap.size ≤ b ∧ some b ≠ (Value.slice ao n cap).ownBlock) (w3.alloc (.cells #[.int .i64 d.1, .bool d.2] 76)) (one (more s1).2).1 d)) := by
        intro W hW
        refine (H1.out W _ hW.out.1.here).mono fun e w3 ⟨d, e1, e2, e3⟩ => ⟨d, e1, e2.lt, (hW.out.1.back e2).size, (hW.out.1.back e2).alloc _, (hW.out.2.keep e2.keeps hR).keep (R := c.R) ((Keeps.refl _ _).alloc _) hR, ?_⟩
        refine kOrd.move (w := w3) (by simp) (fun b _ hb => Below.heap_alloc _ _ _ hb) (fun b hb hlt => ⟨by have := hW.out.1.size; omega, fun hbk => ?_⟩) e3
        have := (hW.out.2.own.lt b hbk.symm).2
        omega
      have HN := hide q3
      generalize one (more s1).2 = r at cX HE hl2
      obtain ⟨x, s3⟩ := r
      generalize (more s1).2 = s2 at cM cX hl1 hl2
      simp only at cX HE hl2
      have hm1 : s3.len < s1.len := by omega
      have hm2 : n + 1 + s3.len ≤ 301 := by omega
      clear HQ q1 q2 q3 q4 q5 hb hl1 hl2
      go_wp2_with (first
        | (go_at_fn m; refine cM.mono ?_; rintro e w2 ⟨rfl, hR2, HB2⟩)
        | (go_at_fn g; refine (cX.out _ HB2).mono ?_; rintro e w3 ⟨d3, rfl, hR3, hs3, HB3⟩)
        | (at_builtin; refine wpList_append_own_at _ rfl (.tmp 11) (.tmp 14) 36 rfl w.heap.size 76 i0 (.agg #[.int .i64 0, .bool false]) 2 16 Tryd.underlying36 hi0 hz0 hz1 hz2 rfl (by decide) (.slice ao n cap) n (ds.flatMap kOrd.cel) rfl (by have := HB3.out.2.1.own; rw [← HN.out] at this; exact this) ⟨w3.heap.size, 0, none⟩ 1 1 (kOrd.cel d3) rfl rfl (cells_newOrd w3 d3 _) (kOrd.one d3) (by unfold maxLen; omega) (by omega) (by simp; omega) ?_; intro v2 w4 hown hgrow hnil hblk; have hO4 : On c w w4 s3 := HB3.out.1.grown hgrow (fun k hk => (HB3.out.2.1.own.lt k hk).1); have hR4 := hO4.lt; have hrow : Rw kOrd w.heap.size 76 2 w4 v2 (l ++ [x]) (ds ++ [d3]) := HB3.out.2.1.append HB3.out.2.2 (by rw [← HN.out]; exact hown) hgrow hblk; obtain ⟨ao2, cap2, rfl⟩ := ownShape hown; have HB4 := hide (And.intro hO4 hrow); clear hown hgrow hnil hblk hO4 hrow))
      go_roundw
      case rel => exact ⟨ao2, n + 1, cap2, rfl, hR4, by omega, _, _, s3, HB4.out.1, HB4.out.2, by have := HN.out; simp; omega, hm2, HE.out⟩
      case measure => rw [HB4.out.1.lenOf, HM.out]; exact hm1

theorem Tryd.infoListSet : (Tryd.prog.info? 71).map (fun i => (i.zero, i.size, i.bytes)) = some (some (.agg #[.string ⟨#[]⟩, .int .i64 0, .int .i64 0, .int .i64 0, .string ⟨#[]⟩, .string ⟨#[]⟩, .string ⟨#[]⟩, .int .i64 0, .slice none 0 0]), 9, 120) := by kernel_rfl

theorem cells_newSet (w : World) (d : (List UInt8 × ED)) (ty : TypeId) : ∀ j u, (kSet.cel d)[j]? = some u → (w.alloc (.cells #[.string (str d.1), .int .i64 d.2.op, .int .i64 d.2.vk, .int .i64 d.2.vi, .string d.2.vt, .string d.2.tb, .string d.2.nm, .int .i64 0, .slice d.2.ao d.2.n d.2.cap] ty)).cell? ((⟨w.heap.size, 0, none⟩ : Addr).add j) = some u := by
  intro j u hu
  rw [addOff]
  match j, hu with
  | 0, hu => cases hu; simp
  | 1, hu => cases hu; simp
  | 2, hu => cases hu; simp
  | 3, hu => cases hu; simp
  | 4, hu => cases hu; simp
  | 5, hu => cases hu; simp
  | 6, hu => cases hu; simp
  | 7, hu => cases hu; simp
  | 8, hu => cases hu; simp

set_option maxRecDepth 100000 in
set_option maxHeartbeats 4000000 in
theorem listSet_any {c : RC} {one : St → (List UInt8 × Ex) × St} {more : St → Bool × St} (g m : Nat) (eg : ∀ args w, (callFunc g args).run Tryd.prog w = .ok (.enter g args) w) (em : ∀ args w, (callFunc m args).run Tryd.prog w = .ok (.enter m args) w) (h1 : OneOf' kSet setval g c one) (h2 : MoreOf m c more) (hsh : Shrinks one) (htk : Takes more) (w : World) (s : St) (h : On c w w s) :
    Calls Tryd.prog 72 #[.func (.func g) #[.pointer (some ⟨c.R, 0, none⟩)] #[], .func (.func m) #[.pointer (some ⟨c.R, 0, none⟩)] #[]] w fun e w' => ∃ ao n cap ds, e = .returned (.slice ao n cap) ∧ On c w w' (listP one more s).2 ∧ Rw kSet w.heap.size 71 9 w' (.slice ao n cap) (listP one more s).1 ds ∧ n = ds.length ∧ n ≤ 301 := by
  have hR := h.lt
  have H1 := hide h1
  have H2 := hide h2
  have HS := hide hsh
  have HT := hide htk
  obtain ⟨i0, hi0, hz0, hz1, hz2⟩ := info_parts Tryd.infoListSet
  have cO : Calls Tryd.prog g #[.pointer (some ⟨c.R, 0, none⟩)] w fun e w1 => ∃ d : (List UInt8 × ED), e = .returned (setval d) ∧ c.R < w1.heap.size ∧ Hid (On c w (w1.alloc (.cells #[.string (str d.1), .int .i64 d.2.op, .int .i64 d.2.vk, .int .i64 d.2.vi, .string d.2.vt, .string d.2.tb, .string d.2.nm, .int .i64 0, .slice d.2.ao d.2.n d.2.cap] 71)) (one s).2 ∧ Rw kSet w.heap.size 71 9 (w1.alloc (.cells #[.string (str d.1), .int .i64 d.2.op, .int .i64 d.2.vk, .int .i64 d.2.vi, .string d.2.vt, .string d.2.tb, .string d.2.nm, .int .i64 0, .slice d.2.ao d.2.n d.2.cap] 71)) (.slice (some ⟨w1.heap.size, 0, none⟩) 1 1) [(one s).1] [d] ∧ 1 + (one s).2.len ≤ 301) :=
    (h1 w s h).mono fun e w1 ⟨d, e1, e2, e3⟩ => ⟨d, e1, e2.lt, e2.alloc _, Rw.new e2.size _ rfl rfl e3, by have := e2.len_le; omega⟩
  have HL : Hid (listLoop one more ((one s).2.len + 1) [(one s).1] (one s).2 = listP one more s) := rfl
  generalize listP one more s = N at HL ⊢
  generalize one s = p at cO HL
  obtain ⟨x0, s0⟩ := p
  simp only at cO HL
  clear h h1 h2 hsh htk
  go_enter Tryd.func72, Tryd.ntmps72
  go_wp2_with (go_at_fn g; refine cO.mono ?_; rintro e w1 ⟨d, rfl, hR1, HB⟩)
  go_loopw [5] (fun v wr => ∃ ao n cap, v = .slice ao n cap ∧ c.R < wr.heap.size ∧ n ≤ 301 ∧ Hid (∃ l ds s1, On c w wr s1 ∧ Rw kSet w.heap.size 71 9 wr (.slice ao n cap) l ds ∧ n = ds.length ∧ n + s1.len ≤ 301 ∧ listLoop one more (s1.len + 1) l s1 = N)) (fun _ wr => lenOf c wr)
  case atStart => exact ⟨_, _, _, rfl, by simp; omega, by omega, [x0], [d], s0, HB.out.1, HB.out.2.1, rfl, HB.out.2.2, HL.out⟩
  case round =>
    obtain ⟨ao, n, cap, rfl, hRr, hn, HQ⟩ := hrel
    obtain ⟨l, ds, s1, q1, q2, q3, q4, q5⟩ := HQ.out
    have HM := hide q1.lenOf
    have cM : Calls Tryd.prog m #[.pointer (some ⟨c.R, 0, none⟩)] wr fun e w2 => e = .returned (.bool (more s1).1) ∧ c.R < w2.heap.size ∧ Hid (On c w w2 (more s1).2 ∧ Rw kSet w.heap.size 71 9 w2 (.slice ao n cap) l ds) :=
      (H2.out wr s1 q1.here).mono fun e w2 ⟨e1, e2⟩ => ⟨e1, e2.lt, q1.back e2, q2.keep e2.keeps hR⟩
    cases hb : (more s1).1 with
    | false =>
      have HE : Hid (N = (l, (more s1).2)) := by
        rw [listLoop_end hb] at q5
        exact q5.symm
      rw [hb] at cM
      generalize (more s1).2 = s2 at cM HE
      have HN := hide q3
      clear HQ q1 q2 q3 q4 q5 hb
      go_wp2_with (go_at_fn m; refine cM.mono ?_; rintro e w2 ⟨rfl, hR2, HB2⟩)
      go_ret
      rw [HE.out]
      exact ⟨_, _, _, ds, rfl, HB2.out.1, HB2.out.2, HN.out, hn⟩
    | true =>
      have hl1 := HT.out s1 hb
      have hl2 := HS.out (more s1).2
      have HE : Hid (listLoop one more ((one (more s1).2).2.len + 1) (l ++ [(one (more s1).2).1]) (one (more s1).2).2 = N) := by
        rw [listLoop_on HS.out HT.out hb] at q5
        exact q5
      rw [hb] at cM
      have cX : Hid (∀ W, Hid (On c w W (more s1).2 ∧ Rw kSet w.heap.size 71 9 W (.slice ao n cap) l ds) → Calls Tryd.prog g #[.pointer (some ⟨c.R, 0, none⟩)] W fun e w3 => ∃ d : (List UInt8 × ED), e = .returned (setval d) ∧ c.R < w3.heap.size ∧ w.heap.size ≤ w3.heap.size ∧ Hid (On c w (w3.alloc (.cells #[.string (str d.1), .int .i64 d.2.op, .int .i64 d.2.vk, .int .i64 d.2.vi, .string d.2.vt, .string d.2.tb, .string d.2.nm, .int .i64 0, .slice d.2.ao d.2.n d.2.cap] 71)) (one (more s1).2).2 ∧ Rw kSet w.heap.size 71 9 (w3.alloc (.cells #[.string (str d.1), .int .i64 d.2.op, .int .i64 d.2.vk, .int .i64 d.2.vi, .string d.2.vt, .string d.2.tb, .string d.2.nm, .int .i64 0, .slice d.2.ao d.2.n d.2.cap] 71)) (.slice ao n cap) l ds ∧ kSet.rel (fun b => w.heap.size ≤ b ∧ some b ≠ (Value.slice ao n cap).ownBlock) (w3.alloc (.cells #[.string (str d.1), .int .i64 d.2.op, .int .i64 d.2.vk, .int .i64 d.2.vi, .string d.2.vt, .string d.2.tb, .string d.2.nm, .int .i64 0, .slice d.2.ao d.2.n d.2.cap] 71)) (one (more s1).2).1 d)) := by
        intro W hW
        refine (H1.out W _ hW.out.1.here).mono fun e w3 ⟨d, e1, e2, e3⟩ => ⟨d, e1, e2.lt, (hW.out.1.back e2).size, (hW.out.1.back e2).alloc _, (hW.out.2.keep e2.keeps hR).keep (R := c.R) ((Keeps.refl _ _).alloc _) hR, ?_⟩
        refine kSet.move (w := w3) (by simp) (fun b _ hb => Below.heap_alloc _ _ _ hb) (fun b hb hlt => ⟨by have := hW.out.1.size; omega, fun hbk => ?_⟩) e3
        have := (hW.out.2.own.lt b hbk.symm).2
        omega
      have HN := hide q3
      generalize one (more s1).2 = r at cX HE hl2
      obtain ⟨x, s3⟩ := r
      generalize (more s1).2 = s2 at cM cX hl1 hl2
      simp only at cX HE hl2
      have hm1 : s3.len < s1.len := by omega
      have hm2 : n + 1 + s3.len ≤ 301 := by omega
      clear HQ q1 q2 q3 q4 q5 hb hl1 hl2
      go_wp2_with (first
        | (go_at_fn m; refine cM.mono ?_; rintro e w2 ⟨rfl, hR2, HB2⟩)
        | (go_at_fn g; refine (cX.out _ HB2).mono ?_; rintro e w3 ⟨d3, rfl, hR3, hs3, HB3⟩)
        | (at_builtin; refine wpList_append_own_at _ rfl (.tmp 11) (.tmp 14) 31 rfl w.heap.size 71 i0 (.agg #[.string ⟨#[]⟩, .int .i64 0, .int .i64 0, .int .i64 0, .string ⟨#[]⟩, .string ⟨#[]⟩, .string ⟨#[]⟩, .int .i64 0, .slice none 0 0]) 9 120 Tryd.underlying31 hi0 hz0 hz1 hz2 rfl (by decide) (.slice ao n cap) n (ds.flatMap kSet.cel) rfl (by have := HB3.out.2.1.own; rw [← HN.out] at this; exact this) ⟨w3.heap.size, 0, none⟩ 1 1 (kSet.cel d3) rfl rfl (cells_newSet w3 d3 _) (kSet.one d3) (by unfold maxLen; omega) (by omega) (by simp; omega) ?_; intro v2 w4 hown hgrow hnil hblk; have hO4 : On c w w4 s3 := HB3.out.1.grown hgrow (fun k hk => (HB3.out.2.1.own.lt k hk).1); have hR4 := hO4.lt; have hrow : Rw kSet w.heap.size 71 9 w4 v2 (l ++ [x]) (ds ++ [d3]) := HB3.out.2.1.append HB3.out.2.2 (by rw [← HN.out]; exact hown) hgrow hblk; obtain ⟨ao2, cap2, rfl⟩ := ownShape hown; have HB4 := hide (And.intro hO4 hrow); clear hown hgrow hnil hblk hO4 hrow))
      go_roundw
      case rel => exact ⟨ao2, n + 1, cap2, rfl, hR4, by omega, _, _, s3, HB4.out.1, HB4.out.2, by have := HN.out; simp; omega, hm2, HE.out⟩
      case measure => rw [HB4.out.1.lenOf, HM.out]; exact hm1

end Go.Proofs.YtedinkoapieakaaDoor
