/- One job of the document's own unit. -/
import Derived.Test.YtegmcpcpnjfiaaaUnRef0
namespace Go.Proofs.Ytegmcpcpnjfiaaa
open Go.ChangeShapes Go.WideShapes Go.ChangeAt Go.RowKit Go.Maps

set_option maxRecDepth 10000 in
set_option maxHeartbeats 800000 in
theorem one_trim (P M n : Nat) (ok : Nat → Prop) (u : Un) (w : World) (hu : RefI P M n ok u w) (j : Jb) (da : Option Addr) (m dc : Nat) (i : Nat) (hi : i < 64) (hn : n < 1000000) (hk : j.kind = 4) (he : j.epoch = u.ep) (hm : j.addr = i) :
    Calls Try.prog 21 #[.pointer (some ⟨P, 0, none⟩), .agg #[.int .i64 j.kind, .int .i64 j.epoch, .int .i64 j.addr, .slice da m dc]] w fun x w' => SrPost P M n ok w (rp 0, u.calm.put i ⟨3, []⟩) x w' := by
  have HI := put_by (RfJ.start hu j.kind j.epoch j.addr da m dc)
  rw [hk, he, hm] at HI
  rw [hk, he, hm]
  have hne : (u.ep != u.ep) = false := by simp
  have hl1 : ¬ (63 : Int) < (i : Int) := by omega
  clear hu hk he hm
  go_enter Try.func21, Try.ntmps21
  go_upto_region 1 with (fail)
  generalize (w.alloc (.cells #[.int .i64 _, .int .i64 _, .int .i64 _, .slice da m dc] 34)).alloc (.cells #[.int .i64 0, .bool false, .slice none 0 0, .int .i64 0] 36) = V at *
  have c2 := HI.out.un.fr
  have f2 := HI.out.un.f2
  go_upto_region 3 with (fail)
  have HP := put_by HI.out.calm
  clear HI c2 f2
  generalize V.setCell ⟨P, 2, none⟩ (.int .i64 (-1)) = V2 at *
  obtain ⟨d0, d1, d2, d3, g0, g1, g2, g3⟩ := HP.out.job
  have hep : V2.cell? ⟨P, 0, none⟩ = some (.int .i64 u.ep) := HP.out.un.ep
  go_upto_region 22 with (fail)
  go_quiet (fail)
  have HQ := put_by (HP.out.later (belowR (Below.refl _ _) nq))
  clear HP d0 d1 d2 d3 g0 g1 g2 g3 hep
  generalize V2.drewN nq = V3 at *
  obtain ⟨d0, d1, d2, d3, g0, g1, g2, g3⟩ := HQ.out.job
  have hmp := HQ.out.un.mp
  obtain ⟨v, ⟨fa, fc, rfl, hbb, hbl⟩, hlk⟩ := HQ.out.un.map.look i hi
  have hlk2 : ∀ V : World, V.heap[M]? = V3.heap[M]? → (Instr.lookup 60 (.map (some M)) (.int .i64 (i : Int)) false).run Try.prog V = .ok (.agg #[.int .i64 (u.sl i).kind, .slice fa (u.sl i).data.length fc]) V := hlk
  have hlk3 := hlk2 V3 rfl
  have hlk4 := hlk2 V3.drew rfl
  have hM3 := HQ.out.un.map.lt
  have hP3 := HQ.out.un.lt
  have hJ3 := HQ.out.job.lt
  have hlk5 := hlk2 (V3.alloc (.cells #[.int .i64 0, .slice none 0 0] 64)).drew (Below.heap_alloc _ _ _ hM3)
  have hlk6 := hlk2 (V3.alloc (.cells #[.int .i64 0, .slice none 0 0] 64)) (Below.heap_alloc _ _ _ hM3)
  clear hlk hlk2
  go_upto_region 26 with (fail)
  go_region
  all_goals
    have HV := put_by (HQ.out.later (((Below.refl _ V3).alloc (Nat.le_refl _) (.cells #[.int .i64 (u.sl i).kind, .slice fa (u.sl i).data.length fc] 64)).drew))
    have ht : Two (V3.alloc (.cells #[.int .i64 (u.sl i).kind, .slice fa (u.sl i).data.length fc] 64)).drew V3.heap.size (.int .i64 (u.sl i).kind) (.slice fa (u.sl i).data.length fc) := (Two.new V3 (.int .i64 (u.sl i).kind) (.slice fa (u.sl i).data.length fc) 64).later (Below.refl _ _).drew
    have hsb0 := HQ.out.res.lt
    clear hlk3 hlk4 hlk5 hlk6 hmp hbb hM3 hP3 hJ3 d0 d1 d2 d3 g0 g1 g2 g3
    obtain ⟨sb, hsb⟩ : ∃ sb, sb = V3.heap.size := ⟨_, rfl⟩
    rw [← hsb] at ht hsb0
    rw [← hsb]
    clear hsb
    generalize (V3.alloc (.cells #[.int .i64 (u.sl i).kind, .slice fa (u.sl i).data.length fc] 64)).drew = V5 at *
    clear HQ
    have HT := put_by ht
    obtain ⟨t0, t1, -, -⟩ := ht
    obtain ⟨d0, d1, d2, d3, g0, g1, g2, g3⟩ := HV.out.job
    have hmp := HV.out.un.mp
    have hJs : w.heap.size ≠ sb := by omega
    obtain ⟨w2, hrun2, hj2⟩ := (HV.out.later (Below.refl _ V5).drew).put rfl hn i hi ⟨3, []⟩ (by simp) (.agg #[.int .i64 3, .slice none 0 0]) ⟨none, 0, rfl, ⟨none, 0, rfl, Octs.nil _ _ _ (fun _ => rfl), fun h => absurd rfl h⟩, by simp⟩
    have HJ := put_by hj2
    clear hj2
    go_upto_region 30 with (fail)
    go_region
    all_goals
      obtain ⟨c0, c1, c2, c3, f0, f1, f2, f3⟩ := HJ.out.res
      go_wp2
      have hz := HJ.out.quiet (n := n) (Nat.le_refl _)
      show bodyPost _ _ _ _ _ (set4 w2 (w.heap.size + 1) (.int .i64 0) (.bool false) (.slice none 0 0) (.int .i64 0))
      exact bodyPost_ret (v := .agg #[.int .i64 0, .bool false, .slice none 0 0, .int .i64 0]) (by simp [results, Try.results21, go_sem, hz.1.c0, hz.1.c1, hz.1.c2, hz.1.c3]) rfl hz.2

set_option maxRecDepth 10000 in
set_option maxHeartbeats 800000 in
theorem one_trimmed1 (P M n : Nat) (ok : Nat → Prop) (u : Un) (w : World) (hu : RefI P M n ok u w) (j : Jb) (da : Option Addr) (m dc : Nat) (i : Nat) (hi : i < 64) (hd : ¬ 4000 < m) (hk : j.kind = 1) (he : j.epoch = u.ep) (hm : j.addr = i) (hs3 : (u.sl i).kind = 3) :
    Calls Try.prog 21 #[.pointer (some ⟨P, 0, none⟩), .agg #[.int .i64 j.kind, .int .i64 j.epoch, .int .i64 j.addr, .slice da m dc]] w fun x w' => SrPost P M n ok w (rp 16, u.calm) x w' := by
  have HS0 := put_by hs3
  clear hs3
  have HI := put_by (RfJ.start hu j.kind j.epoch j.addr da m dc)
  rw [hk, he, hm] at HI
  rw [hk, he, hm]
  have hne : (u.ep != u.ep) = false := by simp
  have hl1 : ¬ (63 : Int) < (i : Int) := by omega
  have hdn : decide ((4000 : Int) < (m : Int)) = false := decide_eq_false (by omega)
  clear hu hk he hm
  go_enter Try.func21, Try.ntmps21
  go_upto_region 1 with (fail)
  generalize (w.alloc (.cells #[.int .i64 _, .int .i64 _, .int .i64 _, .slice da m dc] 34)).alloc (.cells #[.int .i64 0, .bool false, .slice none 0 0, .int .i64 0] 36) = V at *
  have c2 := HI.out.un.fr
  have f2 := HI.out.un.f2
  go_upto_region 3 with (fail)
  have HP := put_by HI.out.calm
  clear HI c2 f2
  generalize V.setCell ⟨P, 2, none⟩ (.int .i64 (-1)) = V2 at *
  obtain ⟨d0, d1, d2, d3, g0, g1, g2, g3⟩ := HP.out.job
  have hep : V2.cell? ⟨P, 0, none⟩ = some (.int .i64 u.ep) := HP.out.un.ep
  go_upto_region 22 with (fail)
  go_quiet (fail)
  have HQ := put_by (HP.out.later (belowR (Below.refl _ _) nq))
  clear HP d0 d1 d2 d3 g0 g1 g2 g3 hep
  generalize V2.drewN nq = V3 at *
  obtain ⟨d0, d1, d2, d3, g0, g1, g2, g3⟩ := HQ.out.job
  have hmp := HQ.out.un.mp
  obtain ⟨v, ⟨fa, fc, rfl, hbb, hbl⟩, hlk⟩ := HQ.out.un.map.look i hi
  have hlk2 : ∀ V : World, V.heap[M]? = V3.heap[M]? → (Instr.lookup 60 (.map (some M)) (.int .i64 (i : Int)) false).run Try.prog V = .ok (.agg #[.int .i64 (u.sl i).kind, .slice fa (u.sl i).data.length fc]) V := hlk
  have hlk3 := hlk2 V3 rfl
  have hlk4 := hlk2 V3.drew rfl
  have hM3 := HQ.out.un.map.lt
  have hP3 := HQ.out.un.lt
  have hJ3 := HQ.out.job.lt
  have hlk5 := hlk2 (V3.alloc (.cells #[.int .i64 0, .slice none 0 0] 64)).drew (Below.heap_alloc _ _ _ hM3)
  have hlk6 := hlk2 (V3.alloc (.cells #[.int .i64 0, .slice none 0 0] 64)) (Below.heap_alloc _ _ _ hM3)
  clear hlk hlk2
  go_upto_region 26 with (fail)
  go_region
  all_goals
    have HV := put_by (HQ.out.later (((Below.refl _ V3).alloc (Nat.le_refl _) (.cells #[.int .i64 (u.sl i).kind, .slice fa (u.sl i).data.length fc] 64)).drew))
    have ht : Two (V3.alloc (.cells #[.int .i64 (u.sl i).kind, .slice fa (u.sl i).data.length fc] 64)).drew V3.heap.size (.int .i64 (u.sl i).kind) (.slice fa (u.sl i).data.length fc) := (Two.new V3 (.int .i64 (u.sl i).kind) (.slice fa (u.sl i).data.length fc) 64).later (Below.refl _ _).drew
    have hsb0 := HQ.out.res.lt
    clear hlk3 hlk4 hlk5 hlk6 hmp hbb hM3 hP3 hJ3 d0 d1 d2 d3 g0 g1 g2 g3
    obtain ⟨sb, hsb⟩ : ∃ sb, sb = V3.heap.size := ⟨_, rfl⟩
    rw [← hsb] at ht hsb0
    rw [← hsb]
    clear hsb
    generalize (V3.alloc (.cells #[.int .i64 (u.sl i).kind, .slice fa (u.sl i).data.length fc] 64)).drew = V5 at *
    clear HQ
    have HT := put_by ht
    obtain ⟨t0, t1, -, -⟩ := ht
    obtain ⟨d0, d1, d2, d3, g0, g1, g2, g3⟩ := HV.out.job
    have hmp := HV.out.un.mp
    have hJs : w.heap.size ≠ sb := by omega
    replace t0 : V5.cell? ⟨sb, 0, none⟩ = some (.int .i64 3) := by rw [t0, HS0.out]; rfl
    obtain ⟨c0, c1, c2, c3, f0, f1, f2, f3⟩ := HV.out.res
    go_wp2
    have hz := HV.out.bare 16
    show bodyPost _ _ _ _ _ (set4 V5 (w.heap.size + 1) (.int .i64 16) (.bool false) (.slice none 0 0) (.int .i64 0))
    exact bodyPost_ret (v := .agg #[.int .i64 16, .bool false, .slice none 0 0, .int .i64 0]) (by simp [results, Try.results21, go_sem, hz.1.c0, hz.1.c1, hz.1.c2, hz.1.c3]) rfl hz.2

set_option maxRecDepth 10000 in
set_option maxHeartbeats 800000 in
theorem one_trimmed2 (P M n : Nat) (ok : Nat → Prop) (u : Un) (w : World) (hu : RefI P M n ok u w) (j : Jb) (da : Option Addr) (m dc : Nat) (i : Nat) (hi : i < 64) (hk : j.kind = 2) (he : j.epoch = u.ep) (hm : j.addr = i) (hs3 : (u.sl i).kind = 3) :
    Calls Try.prog 21 #[.pointer (some ⟨P, 0, none⟩), .agg #[.int .i64 j.kind, .int .i64 j.epoch, .int .i64 j.addr, .slice da m dc]] w fun x w' => SrPost P M n ok w (rp 16, u.calm) x w' := by
  have HS0 := put_by hs3
  clear hs3
  have HI := put_by (RfJ.start hu j.kind j.epoch j.addr da m dc)
  rw [hk, he, hm] at HI
  rw [hk, he, hm]
  have hne : (u.ep != u.ep) = false := by simp
  have hl1 : ¬ (63 : Int) < (i : Int) := by omega
  clear hu hk he hm
  go_enter Try.func21, Try.ntmps21
  go_upto_region 1 with (fail)
  generalize (w.alloc (.cells #[.int .i64 _, .int .i64 _, .int .i64 _, .slice da m dc] 34)).alloc (.cells #[.int .i64 0, .bool false, .slice none 0 0, .int .i64 0] 36) = V at *
  have c2 := HI.out.un.fr
  have f2 := HI.out.un.f2
  go_upto_region 3 with (fail)
  have HP := put_by HI.out.calm
  clear HI c2 f2
  generalize V.setCell ⟨P, 2, none⟩ (.int .i64 (-1)) = V2 at *
  obtain ⟨d0, d1, d2, d3, g0, g1, g2, g3⟩ := HP.out.job
  have hep : V2.cell? ⟨P, 0, none⟩ = some (.int .i64 u.ep) := HP.out.un.ep
  go_upto_region 22 with (fail)
  go_quiet (fail)
  have HQ := put_by (HP.out.later (belowR (Below.refl _ _) nq))
  clear HP d0 d1 d2 d3 g0 g1 g2 g3 hep
  generalize V2.drewN nq = V3 at *
  obtain ⟨d0, d1, d2, d3, g0, g1, g2, g3⟩ := HQ.out.job
  have hmp := HQ.out.un.mp
  obtain ⟨v, ⟨fa, fc, rfl, hbb, hbl⟩, hlk⟩ := HQ.out.un.map.look i hi
  have hlk2 : ∀ V : World, V.heap[M]? = V3.heap[M]? → (Instr.lookup 60 (.map (some M)) (.int .i64 (i : Int)) false).run Try.prog V = .ok (.agg #[.int .i64 (u.sl i).kind, .slice fa (u.sl i).data.length fc]) V := hlk
  have hlk3 := hlk2 V3 rfl
  have hlk4 := hlk2 V3.drew rfl
  have hM3 := HQ.out.un.map.lt
  have hP3 := HQ.out.un.lt
  have hJ3 := HQ.out.job.lt
  have hlk5 := hlk2 (V3.alloc (.cells #[.int .i64 0, .slice none 0 0] 64)).drew (Below.heap_alloc _ _ _ hM3)
  have hlk6 := hlk2 (V3.alloc (.cells #[.int .i64 0, .slice none 0 0] 64)) (Below.heap_alloc _ _ _ hM3)
  clear hlk hlk2
  go_upto_region 26 with (fail)
  go_region
  all_goals
    have HV := put_by (HQ.out.later (((Below.refl _ V3).alloc (Nat.le_refl _) (.cells #[.int .i64 (u.sl i).kind, .slice fa (u.sl i).data.length fc] 64)).drew))
    have ht : Two (V3.alloc (.cells #[.int .i64 (u.sl i).kind, .slice fa (u.sl i).data.length fc] 64)).drew V3.heap.size (.int .i64 (u.sl i).kind) (.slice fa (u.sl i).data.length fc) := (Two.new V3 (.int .i64 (u.sl i).kind) (.slice fa (u.sl i).data.length fc) 64).later (Below.refl _ _).drew
    have hsb0 := HQ.out.res.lt
    clear hlk3 hlk4 hlk5 hlk6 hmp hbb hM3 hP3 hJ3 d0 d1 d2 d3 g0 g1 g2 g3
    obtain ⟨sb, hsb⟩ : ∃ sb, sb = V3.heap.size := ⟨_, rfl⟩
    rw [← hsb] at ht hsb0
    rw [← hsb]
    clear hsb
    generalize (V3.alloc (.cells #[.int .i64 (u.sl i).kind, .slice fa (u.sl i).data.length fc] 64)).drew = V5 at *
    clear HQ
    have HT := put_by ht
    obtain ⟨t0, t1, -, -⟩ := ht
    obtain ⟨d0, d1, d2, d3, g0, g1, g2, g3⟩ := HV.out.job
    have hmp := HV.out.un.mp
    have hJs : w.heap.size ≠ sb := by omega
    replace t0 : V5.cell? ⟨sb, 0, none⟩ = some (.int .i64 3) := by rw [t0, HS0.out]; rfl
    obtain ⟨c0, c1, c2, c3, f0, f1, f2, f3⟩ := HV.out.res
    go_wp2
    have hz := HV.out.bare 16
    show bodyPost _ _ _ _ _ (set4 V5 (w.heap.size + 1) (.int .i64 16) (.bool false) (.slice none 0 0) (.int .i64 0))
    exact bodyPost_ret (v := .agg #[.int .i64 16, .bool false, .slice none 0 0, .int .i64 0]) (by simp [results, Try.results21, go_sem, hz.1.c0, hz.1.c1, hz.1.c2, hz.1.c3]) rfl hz.2

set_option maxRecDepth 10000 in
set_option maxHeartbeats 800000 in
theorem one_trimmed3 (P M n : Nat) (ok : Nat → Prop) (u : Un) (w : World) (hu : RefI P M n ok u w) (j : Jb) (da : Option Addr) (m dc : Nat) (i : Nat) (hi : i < 64) (hk : j.kind = 3) (he : j.epoch = u.ep) (hm : j.addr = i) (hs3 : (u.sl i).kind = 3) :
    Calls Try.prog 21 #[.pointer (some ⟨P, 0, none⟩), .agg #[.int .i64 j.kind, .int .i64 j.epoch, .int .i64 j.addr, .slice da m dc]] w fun x w' => SrPost P M n ok w (rp 16, u.calm) x w' := by
  have HS0 := put_by hs3
  clear hs3
  have HI := put_by (RfJ.start hu j.kind j.epoch j.addr da m dc)
  rw [hk, he, hm] at HI
  rw [hk, he, hm]
  have hne : (u.ep != u.ep) = false := by simp
  have hl1 : ¬ (63 : Int) < (i : Int) := by omega
  clear hu hk he hm
  go_enter Try.func21, Try.ntmps21
  go_upto_region 1 with (fail)
  generalize (w.alloc (.cells #[.int .i64 _, .int .i64 _, .int .i64 _, .slice da m dc] 34)).alloc (.cells #[.int .i64 0, .bool false, .slice none 0 0, .int .i64 0] 36) = V at *
  have c2 := HI.out.un.fr
  have f2 := HI.out.un.f2
  go_upto_region 3 with (fail)
  have HP := put_by HI.out.calm
  clear HI c2 f2
  generalize V.setCell ⟨P, 2, none⟩ (.int .i64 (-1)) = V2 at *
  obtain ⟨d0, d1, d2, d3, g0, g1, g2, g3⟩ := HP.out.job
  have hep : V2.cell? ⟨P, 0, none⟩ = some (.int .i64 u.ep) := HP.out.un.ep
  go_upto_region 22 with (fail)
  go_quiet (fail)
  have HQ := put_by (HP.out.later (belowR (Below.refl _ _) nq))
  clear HP d0 d1 d2 d3 g0 g1 g2 g3 hep
  generalize V2.drewN nq = V3 at *
  obtain ⟨d0, d1, d2, d3, g0, g1, g2, g3⟩ := HQ.out.job
  have hmp := HQ.out.un.mp
  obtain ⟨v, ⟨fa, fc, rfl, hbb, hbl⟩, hlk⟩ := HQ.out.un.map.look i hi
  have hlk2 : ∀ V : World, V.heap[M]? = V3.heap[M]? → (Instr.lookup 60 (.map (some M)) (.int .i64 (i : Int)) false).run Try.prog V = .ok (.agg #[.int .i64 (u.sl i).kind, .slice fa (u.sl i).data.length fc]) V := hlk
  have hlk3 := hlk2 V3 rfl
  have hlk4 := hlk2 V3.drew rfl
  have hM3 := HQ.out.un.map.lt
  have hP3 := HQ.out.un.lt
  have hJ3 := HQ.out.job.lt
  have hlk5 := hlk2 (V3.alloc (.cells #[.int .i64 0, .slice none 0 0] 64)).drew (Below.heap_alloc _ _ _ hM3)
  have hlk6 := hlk2 (V3.alloc (.cells #[.int .i64 0, .slice none 0 0] 64)) (Below.heap_alloc _ _ _ hM3)
  clear hlk hlk2
  go_upto_region 26 with (fail)
  go_region
  all_goals
    have HV := put_by (HQ.out.later (((Below.refl _ V3).alloc (Nat.le_refl _) (.cells #[.int .i64 (u.sl i).kind, .slice fa (u.sl i).data.length fc] 64)).drew))
    have ht : Two (V3.alloc (.cells #[.int .i64 (u.sl i).kind, .slice fa (u.sl i).data.length fc] 64)).drew V3.heap.size (.int .i64 (u.sl i).kind) (.slice fa (u.sl i).data.length fc) := (Two.new V3 (.int .i64 (u.sl i).kind) (.slice fa (u.sl i).data.length fc) 64).later (Below.refl _ _).drew
    have hsb0 := HQ.out.res.lt
    clear hlk3 hlk4 hlk5 hlk6 hmp hbb hM3 hP3 hJ3 d0 d1 d2 d3 g0 g1 g2 g3
    obtain ⟨sb, hsb⟩ : ∃ sb, sb = V3.heap.size := ⟨_, rfl⟩
    rw [← hsb] at ht hsb0
    rw [← hsb]
    clear hsb
    generalize (V3.alloc (.cells #[.int .i64 (u.sl i).kind, .slice fa (u.sl i).data.length fc] 64)).drew = V5 at *
    clear HQ
    have HT := put_by ht
    obtain ⟨t0, t1, -, -⟩ := ht
    obtain ⟨d0, d1, d2, d3, g0, g1, g2, g3⟩ := HV.out.job
    have hmp := HV.out.un.mp
    have hJs : w.heap.size ≠ sb := by omega
    replace t0 : V5.cell? ⟨sb, 0, none⟩ = some (.int .i64 3) := by rw [t0, HS0.out]; rfl
    obtain ⟨c0, c1, c2, c3, f0, f1, f2, f3⟩ := HV.out.res
    go_wp2
    have hz := HV.out.bare 16
    show bodyPost _ _ _ _ _ (set4 V5 (w.heap.size + 1) (.int .i64 16) (.bool false) (.slice none 0 0) (.int .i64 0))
    exact bodyPost_ret (v := .agg #[.int .i64 16, .bool false, .slice none 0 0, .int .i64 0]) (by simp [results, Try.results21, go_sem, hz.1.c0, hz.1.c1, hz.1.c2, hz.1.c3]) rfl hz.2

set_option maxRecDepth 10000 in
set_option maxHeartbeats 800000 in
theorem one_size (P M n : Nat) (ok : Nat → Prop) (u : Un) (w : World) (hu : RefI P M n ok u w) (j : Jb) (da : Option Addr) (m dc : Nat) (i : Nat) (hi : i < 64) (hd : 4000 < m) (hk : j.kind = 1) (he : j.epoch = u.ep) (hm : j.addr = i) :
    Calls Try.prog 21 #[.pointer (some ⟨P, 0, none⟩), .agg #[.int .i64 j.kind, .int .i64 j.epoch, .int .i64 j.addr, .slice da m dc]] w fun x w' => SrPost P M n ok w (rp 1, u.calm) x w' := by
  have HI := put_by (RfJ.start hu j.kind j.epoch j.addr da m dc)
  rw [hk, he, hm] at HI
  rw [hk, he, hm]
  have hne : (u.ep != u.ep) = false := by simp
  have hl1 : ¬ (63 : Int) < (i : Int) := by omega
  have hdn : (4000 : Int) < (m : Int) := by omega
  clear hu hk he hm
  go_enter Try.func21, Try.ntmps21
  go_upto_region 1 with (fail)
  generalize (w.alloc (.cells #[.int .i64 _, .int .i64 _, .int .i64 _, .slice da m dc] 34)).alloc (.cells #[.int .i64 0, .bool false, .slice none 0 0, .int .i64 0] 36) = V at *
  have c2 := HI.out.un.fr
  have f2 := HI.out.un.f2
  go_upto_region 3 with (fail)
  have HP := put_by HI.out.calm
  clear HI c2 f2
  generalize V.setCell ⟨P, 2, none⟩ (.int .i64 (-1)) = V2 at *
  obtain ⟨d0, d1, d2, d3, g0, g1, g2, g3⟩ := HP.out.job
  have hep : V2.cell? ⟨P, 0, none⟩ = some (.int .i64 u.ep) := HP.out.un.ep
  go_upto_region 22 with (fail)
  go_quiet (fail)
  have HQ := put_by (HP.out.later (belowR (Below.refl _ _) nq))
  clear HP d0 d1 d2 d3 g0 g1 g2 g3 hep
  generalize V2.drewN nq = V3 at *
  obtain ⟨d0, d1, d2, d3, g0, g1, g2, g3⟩ := HQ.out.job
  have hmp := HQ.out.un.mp
  obtain ⟨v, ⟨fa, fc, rfl, hbb, hbl⟩, hlk⟩ := HQ.out.un.map.look i hi
  have hlk2 : ∀ V : World, V.heap[M]? = V3.heap[M]? → (Instr.lookup 60 (.map (some M)) (.int .i64 (i : Int)) false).run Try.prog V = .ok (.agg #[.int .i64 (u.sl i).kind, .slice fa (u.sl i).data.length fc]) V := hlk
  have hlk3 := hlk2 V3 rfl
  have hlk4 := hlk2 V3.drew rfl
  have hM3 := HQ.out.un.map.lt
  have hP3 := HQ.out.un.lt
  have hJ3 := HQ.out.job.lt
  have hlk5 := hlk2 (V3.alloc (.cells #[.int .i64 0, .slice none 0 0] 64)).drew (Below.heap_alloc _ _ _ hM3)
  have hlk6 := hlk2 (V3.alloc (.cells #[.int .i64 0, .slice none 0 0] 64)) (Below.heap_alloc _ _ _ hM3)
  clear hlk hlk2
  go_upto_region 26 with (fail)
  go_region
  all_goals
    have HV := put_by (HQ.out.later (((Below.refl _ V3).alloc (Nat.le_refl _) (.cells #[.int .i64 (u.sl i).kind, .slice fa (u.sl i).data.length fc] 64)).drew))
    have ht : Two (V3.alloc (.cells #[.int .i64 (u.sl i).kind, .slice fa (u.sl i).data.length fc] 64)).drew V3.heap.size (.int .i64 (u.sl i).kind) (.slice fa (u.sl i).data.length fc) := (Two.new V3 (.int .i64 (u.sl i).kind) (.slice fa (u.sl i).data.length fc) 64).later (Below.refl _ _).drew
    have hsb0 := HQ.out.res.lt
    clear hlk3 hlk4 hlk5 hlk6 hmp hbb hM3 hP3 hJ3 d0 d1 d2 d3 g0 g1 g2 g3
    obtain ⟨sb, hsb⟩ : ∃ sb, sb = V3.heap.size := ⟨_, rfl⟩
    rw [← hsb] at ht hsb0
    rw [← hsb]
    clear hsb
    generalize (V3.alloc (.cells #[.int .i64 (u.sl i).kind, .slice fa (u.sl i).data.length fc] 64)).drew = V5 at *
    clear HQ
    have HT := put_by ht
    obtain ⟨t0, t1, -, -⟩ := ht
    obtain ⟨d0, d1, d2, d3, g0, g1, g2, g3⟩ := HV.out.job
    have hmp := HV.out.un.mp
    have hJs : w.heap.size ≠ sb := by omega
    obtain ⟨c0, c1, c2, c3, f0, f1, f2, f3⟩ := HV.out.res
    go_wp2
    have hz := HV.out.bare 1
    show bodyPost _ _ _ _ _ (set4 V5 (w.heap.size + 1) (.int .i64 1) (.bool false) (.slice none 0 0) (.int .i64 0))
    exact bodyPost_ret (v := .agg #[.int .i64 1, .bool false, .slice none 0 0, .int .i64 0]) (by simp [results, Try.results21, go_sem, hz.1.c0, hz.1.c1, hz.1.c2, hz.1.c3]) rfl hz.2

set_option maxRecDepth 10000 in
set_option maxHeartbeats 800000 in
theorem one_unwritten (P M n : Nat) (ok : Nat → Prop) (u : Un) (w : World) (hu : RefI P M n ok u w) (j : Jb) (da : Option Addr) (m dc : Nat) (i : Nat) (hi : i < 64) (hk : j.kind = 2) (he : j.epoch = u.ep) (hm : j.addr = i) (hs0 : (u.sl i).kind = 0) :
    Calls Try.prog 21 #[.pointer (some ⟨P, 0, none⟩), .agg #[.int .i64 j.kind, .int .i64 j.epoch, .int .i64 j.addr, .slice da m dc]] w fun x w' => SrPost P M n ok w (rp 17, u.calm) x w' := by
  have HS0 := put_by hs0
  clear hs0
  have HI := put_by (RfJ.start hu j.kind j.epoch j.addr da m dc)
  rw [hk, he, hm] at HI
  rw [hk, he, hm]
  have hne : (u.ep != u.ep) = false := by simp
  have hl1 : ¬ (63 : Int) < (i : Int) := by omega
  clear hu hk he hm
  go_enter Try.func21, Try.ntmps21
  go_upto_region 1 with (fail)
  generalize (w.alloc (.cells #[.int .i64 _, .int .i64 _, .int .i64 _, .slice da m dc] 34)).alloc (.cells #[.int .i64 0, .bool false, .slice none 0 0, .int .i64 0] 36) = V at *
  have c2 := HI.out.un.fr
  have f2 := HI.out.un.f2
  go_upto_region 3 with (fail)
  have HP := put_by HI.out.calm
  clear HI c2 f2
  generalize V.setCell ⟨P, 2, none⟩ (.int .i64 (-1)) = V2 at *
  obtain ⟨d0, d1, d2, d3, g0, g1, g2, g3⟩ := HP.out.job
  have hep : V2.cell? ⟨P, 0, none⟩ = some (.int .i64 u.ep) := HP.out.un.ep
  go_upto_region 22 with (fail)
  go_quiet (fail)
  have HQ := put_by (HP.out.later (belowR (Below.refl _ _) nq))
  clear HP d0 d1 d2 d3 g0 g1 g2 g3 hep
  generalize V2.drewN nq = V3 at *
  obtain ⟨d0, d1, d2, d3, g0, g1, g2, g3⟩ := HQ.out.job
  have hmp := HQ.out.un.mp
  obtain ⟨v, ⟨fa, fc, rfl, hbb, hbl⟩, hlk⟩ := HQ.out.un.map.look i hi
  have hlk2 : ∀ V : World, V.heap[M]? = V3.heap[M]? → (Instr.lookup 60 (.map (some M)) (.int .i64 (i : Int)) false).run Try.prog V = .ok (.agg #[.int .i64 (u.sl i).kind, .slice fa (u.sl i).data.length fc]) V := hlk
  have hlk3 := hlk2 V3 rfl
  have hlk4 := hlk2 V3.drew rfl
  have hM3 := HQ.out.un.map.lt
  have hP3 := HQ.out.un.lt
  have hJ3 := HQ.out.job.lt
  have hlk5 := hlk2 (V3.alloc (.cells #[.int .i64 0, .slice none 0 0] 64)).drew (Below.heap_alloc _ _ _ hM3)
  have hlk6 := hlk2 (V3.alloc (.cells #[.int .i64 0, .slice none 0 0] 64)) (Below.heap_alloc _ _ _ hM3)
  clear hlk hlk2
  go_upto_region 26 with (fail)
  go_region
  all_goals
    have HV := put_by (HQ.out.later (((Below.refl _ V3).alloc (Nat.le_refl _) (.cells #[.int .i64 (u.sl i).kind, .slice fa (u.sl i).data.length fc] 64)).drew))
    have ht : Two (V3.alloc (.cells #[.int .i64 (u.sl i).kind, .slice fa (u.sl i).data.length fc] 64)).drew V3.heap.size (.int .i64 (u.sl i).kind) (.slice fa (u.sl i).data.length fc) := (Two.new V3 (.int .i64 (u.sl i).kind) (.slice fa (u.sl i).data.length fc) 64).later (Below.refl _ _).drew
    have hsb0 := HQ.out.res.lt
    clear hlk3 hlk4 hlk5 hlk6 hmp hbb hM3 hP3 hJ3 d0 d1 d2 d3 g0 g1 g2 g3
    obtain ⟨sb, hsb⟩ : ∃ sb, sb = V3.heap.size := ⟨_, rfl⟩
    rw [← hsb] at ht hsb0
    rw [← hsb]
    clear hsb
    generalize (V3.alloc (.cells #[.int .i64 (u.sl i).kind, .slice fa (u.sl i).data.length fc] 64)).drew = V5 at *
    clear HQ
    have HT := put_by ht
    obtain ⟨t0, t1, -, -⟩ := ht
    obtain ⟨d0, d1, d2, d3, g0, g1, g2, g3⟩ := HV.out.job
    have hmp := HV.out.un.mp
    have hJs : w.heap.size ≠ sb := by omega
    replace t0 : V5.cell? ⟨sb, 0, none⟩ = some (.int .i64 0) := by rw [t0, HS0.out]; rfl
    obtain ⟨c0, c1, c2, c3, f0, f1, f2, f3⟩ := HV.out.res
    go_wp2
    have hz := HV.out.bare 17
    show bodyPost _ _ _ _ _ (set4 V5 (w.heap.size + 1) (.int .i64 17) (.bool false) (.slice none 0 0) (.int .i64 0))
    exact bodyPost_ret (v := .agg #[.int .i64 17, .bool false, .slice none 0 0, .int .i64 0]) (by simp [results, Try.results21, go_sem, hz.1.c0, hz.1.c1, hz.1.c2, hz.1.c3]) rfl hz.2

end Go.Proofs.Ytegmcpcpnjfiaaa
