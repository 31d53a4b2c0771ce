/- One job of the document's own unit. -/
import Derived.Test.YtegmcpcpnjfiaaaUnRef0
namespace Go.Proofs.Ytegmcpcpnjfiaaa
open Go.ChangeShapes Go.WideShapes Go.ChangeAt Go.RowKit Go.Maps

set_option maxRecDepth 10000 in
set_option maxHeartbeats 800000 in
theorem one_fetch (P M n : Nat) (ok : Nat → Prop) (u : Un) (w : World) (hu : RefI P M n ok u w) (j : Jb) (da : Option Addr) (m dc : Nat) (i : Nat) (hi : i < 64) (hk : j.kind = 2) (he : j.epoch = u.ep) (hm : j.addr = i) (hs12 : (u.sl i).kind = 1 ∨ (u.sl i).kind = 2) :
    Calls Try.prog 21 #[.pointer (some ⟨P, 0, none⟩), .agg #[.int .i64 j.kind, .int .i64 j.epoch, .int .i64 j.addr, .slice da m dc]] w fun x w' => SrPost P M n ok w (hasR (u.sl i), u.calm) x w' := by
  have HI := put_by (RfJ.start hu j.kind j.epoch j.addr da m dc)
  rw [hk, he, hm] at HI
  rw [hk, he, hm]
  have hne : (u.ep != u.ep) = false := by simp
  have hl1 : ¬ (63 : Int) < (i : Int) := by omega
  clear hu hk he hm
  go_enter Try.func21, Try.ntmps21
  go_upto_region 1 with (fail)
  generalize (w.alloc (.cells #[.int .i64 _, .int .i64 _, .int .i64 _, .slice da m dc] 34)).alloc (.cells #[.int .i64 0, .bool false, .slice none 0 0, .int .i64 0] 36) = V at *
  have c2 := HI.out.un.fr
  have f2 := HI.out.un.f2
  go_upto_region 3 with (fail)
  have HP := put_by HI.out.calm
  clear HI c2 f2
  generalize V.setCell ⟨P, 2, none⟩ (.int .i64 (-1)) = V2 at *
  obtain ⟨d0, d1, d2, d3, g0, g1, g2, g3⟩ := HP.out.job
  have hep : V2.cell? ⟨P, 0, none⟩ = some (.int .i64 u.ep) := HP.out.un.ep
  go_upto_region 22 with (fail)
  go_quiet (fail)
  have HQ := put_by (HP.out.later (belowR (Below.refl _ _) nq))
  clear HP d0 d1 d2 d3 g0 g1 g2 g3 hep
  generalize V2.drewN nq = V3 at *
  obtain ⟨d0, d1, d2, d3, g0, g1, g2, g3⟩ := HQ.out.job
  have hmp := HQ.out.un.mp
  obtain ⟨v, ⟨fa, fc, rfl, hbb, hbl⟩, hlk⟩ := HQ.out.un.map.look i hi
  have hlk2 : ∀ V : World, V.heap[M]? = V3.heap[M]? → (Instr.lookup 60 (.map (some M)) (.int .i64 (i : Int)) false).run Try.prog V = .ok (.agg #[.int .i64 (u.sl i).kind, .slice fa (u.sl i).data.length fc]) V := hlk
  have hlk3 := hlk2 V3 rfl
  have hlk4 := hlk2 V3.drew rfl
  have hM3 := HQ.out.un.map.lt
  have hP3 := HQ.out.un.lt
  have hJ3 := HQ.out.job.lt
  have hlk5 := hlk2 (V3.alloc (.cells #[.int .i64 0, .slice none 0 0] 64)).drew (Below.heap_alloc _ _ _ hM3)
  have hlk6 := hlk2 (V3.alloc (.cells #[.int .i64 0, .slice none 0 0] 64)) (Below.heap_alloc _ _ _ hM3)
  clear hlk hlk2
  go_upto_region 26 with (fail)
  go_region
  all_goals
    have HV := put_by (HQ.out.later (((Below.refl _ V3).alloc (Nat.le_refl _) (.cells #[.int .i64 (u.sl i).kind, .slice fa (u.sl i).data.length fc] 64)).drew))
    have ht : Two (V3.alloc (.cells #[.int .i64 (u.sl i).kind, .slice fa (u.sl i).data.length fc] 64)).drew V3.heap.size (.int .i64 (u.sl i).kind) (.slice fa (u.sl i).data.length fc) := (Two.new V3 (.int .i64 (u.sl i).kind) (.slice fa (u.sl i).data.length fc) 64).later (Below.refl _ _).drew
    have hsb0 := HQ.out.res.lt
    clear hlk3 hlk4 hlk5 hlk6 hmp hbb hM3 hP3 hJ3 d0 d1 d2 d3 g0 g1 g2 g3
    obtain ⟨sb, hsb⟩ : ∃ sb, sb = V3.heap.size := ⟨_, rfl⟩
    rw [← hsb] at ht hsb0
    rw [← hsb]
    clear hsb
    generalize (V3.alloc (.cells #[.int .i64 (u.sl i).kind, .slice fa (u.sl i).data.length fc] 64)).drew = V5 at *
    clear HQ
    have HT := put_by ht
    obtain ⟨t0, t1, -, -⟩ := ht
    obtain ⟨d0, d1, d2, d3, g0, g1, g2, g3⟩ := HV.out.job
    have hmp := HV.out.un.mp
    have hJs : w.heap.size ≠ sb := by omega
    have cH : Hid (∀ W, RfJ P M n ok u.calm w 2 u.ep (i : Int) da m dc W → Calls Try.prog 26 #[.pointer (some ⟨P, 0, none⟩), .int .i64 (i : Int)] W fun y w' => ∃ p t q, y = .returned (.agg #[.int .i64 (hasR (u.sl i)).code, .bool (hasR (u.sl i)).junk, .slice p t q, .int .i64 (hasR (u.sl i)).tail]) ∧ RfJ P M n ok u.calm w 2 u.ep (i : Int) da m dc w' ∧ Hid (Below W.heap.size W w') ∧ Hid (∀ (W2 : World) (c : Int), Below w'.heap.size w' W2 →
      Quad (set4 W2 (w.heap.size + 1) (.int .i64 c) (.bool (hasR (u.sl i)).junk) (.slice p t q) (.int .i64 (hasR (u.sl i)).tail)) (w.heap.size + 1) (.int .i64 c) (.bool (hasR (u.sl i)).junk) (.slice p t q) (.int .i64 (hasR (u.sl i)).tail) ∧
      SrPost P M n ok w (⟨c, (hasR (u.sl i)).junk, (hasR (u.sl i)).data, (hasR (u.sl i)).tail⟩, u.calm) (.returned (.agg #[.int .i64 c, .bool (hasR (u.sl i)).junk, .slice p t q, .int .i64 (hasR (u.sl i)).tail])) (set4 W2 (w.heap.size + 1) (.int .i64 c) (.bool (hasR (u.sl i)).junk) (.slice p t q) (.int .i64 (hasR (u.sl i)).tail)))) := put_by fun W hW =>
      (has_any P M n _ u.calm W hW.un i hi).mono fun y w' ⟨h1, h2⟩ => by
        obtain ⟨p, t, q, e, h3, h4⟩ := hW.told h1 h2
        exact ⟨p, t, q, e, h3, put_by h2, h4⟩
    obtain ⟨rs, hrs⟩ : ∃ rs, rs = hasR (u.sl i) := ⟨_, rfl⟩
    rw [← hrs] at cH
    have HE := put_by hrs
    have hsk : (((u.sl i).kind : Int) == 3) = false ∧ (((u.sl i).kind : Int) == 0) = false ∧ (((u.sl i).kind : Int) != 0) = true := by
      rcases hs12 with h | h <;> rw [h] <;> exact ⟨rfl, rfl, rfl⟩
    obtain ⟨hk3, hk0, hk0'⟩ := hsk
    have HS := put_by hs12
    clear hs12 hrs hbl
    generalize (u.sl i).data.length = dl at *
    generalize (u.sl i).kind = dk at *
    go_wp2_with (go_at_call 26; (with_reducible refine (cH.out _ HV.out).mono ?_); (rintro y w' ⟨p, t, q, rfl, hj, -, HZ⟩; obtain ⟨c0, c1, c2, c3, f0, f1, f2, f3⟩ := hj.res))
    have hz := HZ.out w' rs.code (Below.refl _ _)
    show bodyPost _ _ _ _ _ (set4 w' (w.heap.size + 1) (.int .i64 rs.code) (.bool rs.junk) (.slice p t q) (.int .i64 rs.tail))
    exact bodyPost_ret (v := .agg #[.int .i64 rs.code, .bool rs.junk, .slice p t q, .int .i64 rs.tail]) (by simp [results, Try.results21, go_sem, hz.1.c0, hz.1.c1, hz.1.c2, hz.1.c3]) rfl (by rw [← HE.out]; exact hz.2)

set_option maxRecDepth 10000 in
set_option maxHeartbeats 800000 in
theorem one_written1 (P M n : Nat) (ok : Nat → Prop) (u : Un) (w : World) (hu : RefI P M n ok u w) (j : Jb) (da : Option Addr) (m dc : Nat) (i : Nat) (hi : i < 64) (hd : ¬ 4000 < m) (hk : j.kind = 1) (he : j.epoch = u.ep) (hm : j.addr = i) (hs12 : (u.sl i).kind = 1 ∨ (u.sl i).kind = 2) :
    Calls Try.prog 21 #[.pointer (some ⟨P, 0, none⟩), .agg #[.int .i64 j.kind, .int .i64 j.epoch, .int .i64 j.addr, .slice da m dc]] w fun x w' => SrPost P M n ok w ((⟨15, (hasR (u.sl i)).junk, (hasR (u.sl i)).data, (hasR (u.sl i)).tail⟩ : Rp), u.calm) x w' := by
  have HI := put_by (RfJ.start hu j.kind j.epoch j.addr da m dc)
  rw [hk, he, hm] at HI
  rw [hk, he, hm]
  have hne : (u.ep != u.ep) = false := by simp
  have hl1 : ¬ (63 : Int) < (i : Int) := by omega
  have hdn : decide ((4000 : Int) < (m : Int)) = false := decide_eq_false (by omega)
  clear hu hk he hm
  go_enter Try.func21, Try.ntmps21
  go_upto_region 1 with (fail)
  generalize (w.alloc (.cells #[.int .i64 _, .int .i64 _, .int .i64 _, .slice da m dc] 34)).alloc (.cells #[.int .i64 0, .bool false, .slice none 0 0, .int .i64 0] 36) = V at *
  have c2 := HI.out.un.fr
  have f2 := HI.out.un.f2
  go_upto_region 3 with (fail)
  have HP := put_by HI.out.calm
  clear HI c2 f2
  generalize V.setCell ⟨P, 2, none⟩ (.int .i64 (-1)) = V2 at *
  obtain ⟨d0, d1, d2, d3, g0, g1, g2, g3⟩ := HP.out.job
  have hep : V2.cell? ⟨P, 0, none⟩ = some (.int .i64 u.ep) := HP.out.un.ep
  go_upto_region 22 with (fail)
  go_quiet (fail)
  have HQ := put_by (HP.out.later (belowR (Below.refl _ _) nq))
  clear HP d0 d1 d2 d3 g0 g1 g2 g3 hep
  generalize V2.drewN nq = V3 at *
  obtain ⟨d0, d1, d2, d3, g0, g1, g2, g3⟩ := HQ.out.job
  have hmp := HQ.out.un.mp
  obtain ⟨v, ⟨fa, fc, rfl, hbb, hbl⟩, hlk⟩ := HQ.out.un.map.look i hi
  have hlk2 : ∀ V : World, V.heap[M]? = V3.heap[M]? → (Instr.lookup 60 (.map (some M)) (.int .i64 (i : Int)) false).run Try.prog V = .ok (.agg #[.int .i64 (u.sl i).kind, .slice fa (u.sl i).data.length fc]) V := hlk
  have hlk3 := hlk2 V3 rfl
  have hlk4 := hlk2 V3.drew rfl
  have hM3 := HQ.out.un.map.lt
  have hP3 := HQ.out.un.lt
  have hJ3 := HQ.out.job.lt
  have hlk5 := hlk2 (V3.alloc (.cells #[.int .i64 0, .slice none 0 0] 64)).drew (Below.heap_alloc _ _ _ hM3)
  have hlk6 := hlk2 (V3.alloc (.cells #[.int .i64 0, .slice none 0 0] 64)) (Below.heap_alloc _ _ _ hM3)
  clear hlk hlk2
  go_upto_region 26 with (fail)
  go_region
  all_goals
    have HV := put_by (HQ.out.later (((Below.refl _ V3).alloc (Nat.le_refl _) (.cells #[.int .i64 (u.sl i).kind, .slice fa (u.sl i).data.length fc] 64)).drew))
    have ht : Two (V3.alloc (.cells #[.int .i64 (u.sl i).kind, .slice fa (u.sl i).data.length fc] 64)).drew V3.heap.size (.int .i64 (u.sl i).kind) (.slice fa (u.sl i).data.length fc) := (Two.new V3 (.int .i64 (u.sl i).kind) (.slice fa (u.sl i).data.length fc) 64).later (Below.refl _ _).drew
    have hsb0 := HQ.out.res.lt
    clear hlk3 hlk4 hlk5 hlk6 hmp hbb hM3 hP3 hJ3 d0 d1 d2 d3 g0 g1 g2 g3
    obtain ⟨sb, hsb⟩ : ∃ sb, sb = V3.heap.size := ⟨_, rfl⟩
    rw [← hsb] at ht hsb0
    rw [← hsb]
    clear hsb
    generalize (V3.alloc (.cells #[.int .i64 (u.sl i).kind, .slice fa (u.sl i).data.length fc] 64)).drew = V5 at *
    clear HQ
    have HT := put_by ht
    obtain ⟨t0, t1, -, -⟩ := ht
    obtain ⟨d0, d1, d2, d3, g0, g1, g2, g3⟩ := HV.out.job
    have hmp := HV.out.un.mp
    have hJs : w.heap.size ≠ sb := by omega
    have cH : Hid (∀ W, RfJ P M n ok u.calm w 1 u.ep (i : Int) da m dc W → Calls Try.prog 26 #[.pointer (some ⟨P, 0, none⟩), .int .i64 (i : Int)] W fun y w' => ∃ p t q, y = .returned (.agg #[.int .i64 (hasR (u.sl i)).code, .bool (hasR (u.sl i)).junk, .slice p t q, .int .i64 (hasR (u.sl i)).tail]) ∧ RfJ P M n ok u.calm w 1 u.ep (i : Int) da m dc w' ∧ Hid (Below W.heap.size W w') ∧ Hid (∀ (W2 : World) (c : Int), Below w'.heap.size w' W2 →
      Quad (set4 W2 (w.heap.size + 1) (.int .i64 c) (.bool (hasR (u.sl i)).junk) (.slice p t q) (.int .i64 (hasR (u.sl i)).tail)) (w.heap.size + 1) (.int .i64 c) (.bool (hasR (u.sl i)).junk) (.slice p t q) (.int .i64 (hasR (u.sl i)).tail) ∧
      SrPost P M n ok w (⟨c, (hasR (u.sl i)).junk, (hasR (u.sl i)).data, (hasR (u.sl i)).tail⟩, u.calm) (.returned (.agg #[.int .i64 c, .bool (hasR (u.sl i)).junk, .slice p t q, .int .i64 (hasR (u.sl i)).tail])) (set4 W2 (w.heap.size + 1) (.int .i64 c) (.bool (hasR (u.sl i)).junk) (.slice p t q) (.int .i64 (hasR (u.sl i)).tail)))) := put_by fun W hW =>
      (has_any P M n _ u.calm W hW.un i hi).mono fun y w' ⟨h1, h2⟩ => by
        obtain ⟨p, t, q, e, h3, h4⟩ := hW.told h1 h2
        exact ⟨p, t, q, e, h3, put_by h2, h4⟩
    obtain ⟨rs, hrs⟩ : ∃ rs, rs = hasR (u.sl i) := ⟨_, rfl⟩
    rw [← hrs] at cH
    have HE := put_by hrs
    have hsk : (((u.sl i).kind : Int) == 3) = false ∧ (((u.sl i).kind : Int) == 0) = false ∧ (((u.sl i).kind : Int) != 0) = true := by
      rcases hs12 with h | h <;> rw [h] <;> exact ⟨rfl, rfl, rfl⟩
    obtain ⟨hk3, hk0, hk0'⟩ := hsk
    have HS := put_by hs12
    clear hs12 hrs hbl
    generalize (u.sl i).data.length = dl at *
    generalize (u.sl i).kind = dk at *
    go_upto_region 40 with (go_at_call 26; (with_reducible refine (cH.out _ HV.out).mono ?_); (rintro y w' ⟨p, t, q, rfl, hj, -, HZ⟩; have HJ := put_by hj; clear hj))
    have hb := (Below.refl w'.heap.size w').alloc (Nat.le_refl _) (.cells #[.int .i64 rs.code, .bool rs.junk, .slice p t q, .int .i64 rs.tail] 36)
    have hq := Quad.new w' (.int .i64 rs.code) (.bool rs.junk) (.slice p t q) (.int .i64 rs.tail) 36
    have HB := put_by hb
    have hjl := HJ.out.later hb
    have hrl := HJ.out.res.lt
    obtain ⟨sr, hsr⟩ : ∃ sr, sr = w'.heap.size := ⟨_, rfl⟩
    rw [← hsr] at hq hrl
    rw [← hsr]
    have HSR := put_by hsr
    clear hsr hb
    generalize w'.alloc (.cells #[.int .i64 rs.code, .bool rs.junk, .slice p t q, .int .i64 rs.tail] 36) = V6 at *
    obtain ⟨c0, c1, c2, c3, f0, f1, f2, f3⟩ := hjl.res
    obtain ⟨e0, e1, e2, e3, h0, h1, h2, h3⟩ := hq
    have hne : sr ≠ w.heap.size + 1 := by omega
    clear hjl
    go_wp2
    have hz := HZ.out (V6.setCell ⟨sr, 0, none⟩ (.int .i64 15)) 15 (HB.out.setCell (p := ⟨sr, 0, none⟩) (by rw [HSR.out]; exact Nat.le_refl _) _)
    show bodyPost _ _ _ _ _ (set4 (V6.setCell ⟨sr, 0, none⟩ (.int .i64 15)) (w.heap.size + 1) (.int .i64 15) (.bool rs.junk) (.slice p t q) (.int .i64 rs.tail))
    exact bodyPost_ret (v := .agg #[.int .i64 15, .bool rs.junk, .slice p t q, .int .i64 rs.tail]) (by simp [results, Try.results21, go_sem, hz.1.c0, hz.1.c1, hz.1.c2, hz.1.c3]) rfl (by rw [← HE.out]; exact hz.2)

set_option maxRecDepth 10000 in
set_option maxHeartbeats 800000 in
theorem one_written3 (P M n : Nat) (ok : Nat → Prop) (u : Un) (w : World) (hu : RefI P M n ok u w) (j : Jb) (da : Option Addr) (m dc : Nat) (i : Nat) (hi : i < 64) (hk : j.kind = 3) (he : j.epoch = u.ep) (hm : j.addr = i) (hs12 : (u.sl i).kind = 1 ∨ (u.sl i).kind = 2) :
    Calls Try.prog 21 #[.pointer (some ⟨P, 0, none⟩), .agg #[.int .i64 j.kind, .int .i64 j.epoch, .int .i64 j.addr, .slice da m dc]] w fun x w' => SrPost P M n ok w ((⟨15, (hasR (u.sl i)).junk, (hasR (u.sl i)).data, (hasR (u.sl i)).tail⟩ : Rp), u.calm) x w' := by
  have HI := put_by (RfJ.start hu j.kind j.epoch j.addr da m dc)
  rw [hk, he, hm] at HI
  rw [hk, he, hm]
  have hne : (u.ep != u.ep) = false := by simp
  have hl1 : ¬ (63 : Int) < (i : Int) := by omega
  clear hu hk he hm
  go_enter Try.func21, Try.ntmps21
  go_upto_region 1 with (fail)
  generalize (w.alloc (.cells #[.int .i64 _, .int .i64 _, .int .i64 _, .slice da m dc] 34)).alloc (.cells #[.int .i64 0, .bool false, .slice none 0 0, .int .i64 0] 36) = V at *
  have c2 := HI.out.un.fr
  have f2 := HI.out.un.f2
  go_upto_region 3 with (fail)
  have HP := put_by HI.out.calm
  clear HI c2 f2
  generalize V.setCell ⟨P, 2, none⟩ (.int .i64 (-1)) = V2 at *
  obtain ⟨d0, d1, d2, d3, g0, g1, g2, g3⟩ := HP.out.job
  have hep : V2.cell? ⟨P, 0, none⟩ = some (.int .i64 u.ep) := HP.out.un.ep
  go_upto_region 22 with (fail)
  go_quiet (fail)
  have HQ := put_by (HP.out.later (belowR (Below.refl _ _) nq))
  clear HP d0 d1 d2 d3 g0 g1 g2 g3 hep
  generalize V2.drewN nq = V3 at *
  obtain ⟨d0, d1, d2, d3, g0, g1, g2, g3⟩ := HQ.out.job
  have hmp := HQ.out.un.mp
  obtain ⟨v, ⟨fa, fc, rfl, hbb, hbl⟩, hlk⟩ := HQ.out.un.map.look i hi
  have hlk2 : ∀ V : World, V.heap[M]? = V3.heap[M]? → (Instr.lookup 60 (.map (some M)) (.int .i64 (i : Int)) false).run Try.prog V = .ok (.agg #[.int .i64 (u.sl i).kind, .slice fa (u.sl i).data.length fc]) V := hlk
  have hlk3 := hlk2 V3 rfl
  have hlk4 := hlk2 V3.drew rfl
  have hM3 := HQ.out.un.map.lt
  have hP3 := HQ.out.un.lt
  have hJ3 := HQ.out.job.lt
  have hlk5 := hlk2 (V3.alloc (.cells #[.int .i64 0, .slice none 0 0] 64)).drew (Below.heap_alloc _ _ _ hM3)
  have hlk6 := hlk2 (V3.alloc (.cells #[.int .i64 0, .slice none 0 0] 64)) (Below.heap_alloc _ _ _ hM3)
  clear hlk hlk2
  go_upto_region 26 with (fail)
  go_region
  all_goals
    have HV := put_by (HQ.out.later (((Below.refl _ V3).alloc (Nat.le_refl _) (.cells #[.int .i64 (u.sl i).kind, .slice fa (u.sl i).data.length fc] 64)).drew))
    have ht : Two (V3.alloc (.cells #[.int .i64 (u.sl i).kind, .slice fa (u.sl i).data.length fc] 64)).drew V3.heap.size (.int .i64 (u.sl i).kind) (.slice fa (u.sl i).data.length fc) := (Two.new V3 (.int .i64 (u.sl i).kind) (.slice fa (u.sl i).data.length fc) 64).later (Below.refl _ _).drew
    have hsb0 := HQ.out.res.lt
    clear hlk3 hlk4 hlk5 hlk6 hmp hbb hM3 hP3 hJ3 d0 d1 d2 d3 g0 g1 g2 g3
    obtain ⟨sb, hsb⟩ : ∃ sb, sb = V3.heap.size := ⟨_, rfl⟩
    rw [← hsb] at ht hsb0
    rw [← hsb]
    clear hsb
    generalize (V3.alloc (.cells #[.int .i64 (u.sl i).kind, .slice fa (u.sl i).data.length fc] 64)).drew = V5 at *
    clear HQ
    have HT := put_by ht
    obtain ⟨t0, t1, -, -⟩ := ht
    obtain ⟨d0, d1, d2, d3, g0, g1, g2, g3⟩ := HV.out.job
    have hmp := HV.out.un.mp
    have hJs : w.heap.size ≠ sb := by omega
    have cH : Hid (∀ W, RfJ P M n ok u.calm w 3 u.ep (i : Int) da m dc W → Calls Try.prog 26 #[.pointer (some ⟨P, 0, none⟩), .int .i64 (i : Int)] W fun y w' => ∃ p t q, y = .returned (.agg #[.int .i64 (hasR (u.sl i)).code, .bool (hasR (u.sl i)).junk, .slice p t q, .int .i64 (hasR (u.sl i)).tail]) ∧ RfJ P M n ok u.calm w 3 u.ep (i : Int) da m dc w' ∧ Hid (Below W.heap.size W w') ∧ Hid (∀ (W2 : World) (c : Int), Below w'.heap.size w' W2 →
      Quad (set4 W2 (w.heap.size + 1) (.int .i64 c) (.bool (hasR (u.sl i)).junk) (.slice p t q) (.int .i64 (hasR (u.sl i)).tail)) (w.heap.size + 1) (.int .i64 c) (.bool (hasR (u.sl i)).junk) (.slice p t q) (.int .i64 (hasR (u.sl i)).tail) ∧
      SrPost P M n ok w (⟨c, (hasR (u.sl i)).junk, (hasR (u.sl i)).data, (hasR (u.sl i)).tail⟩, u.calm) (.returned (.agg #[.int .i64 c, .bool (hasR (u.sl i)).junk, .slice p t q, .int .i64 (hasR (u.sl i)).tail])) (set4 W2 (w.heap.size + 1) (.int .i64 c) (.bool (hasR (u.sl i)).junk) (.slice p t q) (.int .i64 (hasR (u.sl i)).tail)))) := put_by fun W hW =>
      (has_any P M n _ u.calm W hW.un i hi).mono fun y w' ⟨h1, h2⟩ => by
        obtain ⟨p, t, q, e, h3, h4⟩ := hW.told h1 h2
        exact ⟨p, t, q, e, h3, put_by h2, h4⟩
    obtain ⟨rs, hrs⟩ : ∃ rs, rs = hasR (u.sl i) := ⟨_, rfl⟩
    rw [← hrs] at cH
    have HE := put_by hrs
    have hsk : (((u.sl i).kind : Int) == 3) = false ∧ (((u.sl i).kind : Int) == 0) = false ∧ (((u.sl i).kind : Int) != 0) = true := by
      rcases hs12 with h | h <;> rw [h] <;> exact ⟨rfl, rfl, rfl⟩
    obtain ⟨hk3, hk0, hk0'⟩ := hsk
    have HS := put_by hs12
    clear hs12 hrs hbl
    generalize (u.sl i).data.length = dl at *
    generalize (u.sl i).kind = dk at *
    go_upto_region 40 with (go_at_call 26; (with_reducible refine (cH.out _ HV.out).mono ?_); (rintro y w' ⟨p, t, q, rfl, hj, -, HZ⟩; have HJ := put_by hj; clear hj))
    have hb := (Below.refl w'.heap.size w').alloc (Nat.le_refl _) (.cells #[.int .i64 rs.code, .bool rs.junk, .slice p t q, .int .i64 rs.tail] 36)
    have hq := Quad.new w' (.int .i64 rs.code) (.bool rs.junk) (.slice p t q) (.int .i64 rs.tail) 36
    have HB := put_by hb
    have hjl := HJ.out.later hb
    have hrl := HJ.out.res.lt
    obtain ⟨sr, hsr⟩ : ∃ sr, sr = w'.heap.size := ⟨_, rfl⟩
    rw [← hsr] at hq hrl
    rw [← hsr]
    have HSR := put_by hsr
    clear hsr hb
    generalize w'.alloc (.cells #[.int .i64 rs.code, .bool rs.junk, .slice p t q, .int .i64 rs.tail] 36) = V6 at *
    obtain ⟨c0, c1, c2, c3, f0, f1, f2, f3⟩ := hjl.res
    obtain ⟨e0, e1, e2, e3, h0, h1, h2, h3⟩ := hq
    have hne : sr ≠ w.heap.size + 1 := by omega
    clear hjl
    go_wp2
    have hz := HZ.out (V6.setCell ⟨sr, 0, none⟩ (.int .i64 15)) 15 (HB.out.setCell (p := ⟨sr, 0, none⟩) (by rw [HSR.out]; exact Nat.le_refl _) _)
    show bodyPost _ _ _ _ _ (set4 (V6.setCell ⟨sr, 0, none⟩ (.int .i64 15)) (w.heap.size + 1) (.int .i64 15) (.bool rs.junk) (.slice p t q) (.int .i64 rs.tail))
    exact bodyPost_ret (v := .agg #[.int .i64 15, .bool rs.junk, .slice p t q, .int .i64 rs.tail]) (by simp [results, Try.results21, go_sem, hz.1.c0, hz.1.c1, hz.1.c2, hz.1.c3]) rfl (by rw [← HE.out]; exact hz.2)

end Go.Proofs.Ytegmcpcpnjfiaaa
