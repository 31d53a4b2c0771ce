/- One job of the document's own unit. -/
import Derived.Test.YtegmcpcpnjfiaaaUnRef0
namespace Go.Proofs.Ytegmcpcpnjfiaaa
open Go.ChangeShapes Go.WideShapes Go.ChangeAt Go.RowKit Go.Maps

set_option maxRecDepth 10000 in
set_option maxHeartbeats 800000 in
theorem one_seal1 (P M n : Nat) (ok : Nat → Prop) (u : Un) (w : World) (hu : RefI P M n ok u w) (j : Jb) (da : Option Addr) (m dc : Nat) (hk : j.kind = 5) (he : j.epoch ≤ u.ep) :
    Calls Try.prog 21 #[.pointer (some ⟨P, 0, none⟩), .agg #[.int .i64 j.kind, .int .i64 j.epoch, .int .i64 j.addr, .slice da m dc]] w fun x w' => SrPost P M n ok w (rp 18, u.calm) x w' := by
  have HI := put_by (RfJ.start hu j.kind j.epoch j.addr da m dc)
  rw [hk] at HI ⊢
  clear hu hk
  generalize j.epoch = e at *
  generalize j.addr = a at *
  have he2 : e ≤ u.calm.ep := he
  clear he
  go_enter Try.func21, Try.ntmps21
  go_upto_region 1 with (fail)
  generalize (w.alloc (.cells #[.int .i64 _, .int .i64 _, .int .i64 _, .slice da m dc] 34)).alloc (.cells #[.int .i64 0, .bool false, .slice none 0 0, .int .i64 0] 36) = V at *
  have c2 := HI.out.un.fr
  have f2 := HI.out.un.f2
  go_upto_region 3 with (fail)
  have HP := put_by HI.out.calm
  clear HI c2 f2
  generalize V.setCell ⟨P, 2, none⟩ (.int .i64 (-1)) = V2 at *
  obtain ⟨d0, d1, d2, d3, g0, g1, g2, g3⟩ := HP.out.job
  have hep := HP.out.un.ep
  go_upto_region 8 with (fail)
  go_quiet (fail)
  have HQ := put_by (HP.out.later (belowR (Below.refl _ _) nq))
  clear HP d0 d1 d2 d3 g0 g1 g2 g3 hep
  generalize V2.drewN nq = V3 at *
  obtain ⟨d0, d1, d2, d3, g0, g1, g2, g3⟩ := HQ.out.job
  obtain ⟨c0, c1, c2, c3, f0, f1, f2, f3⟩ := HQ.out.res
  go_wp2
  have hz := HQ.out.bare 18
  show bodyPost _ _ _ _ _ (set4 V3 (w.heap.size + 1) (.int .i64 18) (.bool false) (.slice none 0 0) (.int .i64 0))
  exact bodyPost_ret (v := .agg #[.int .i64 18, .bool false, .slice none 0 0, .int .i64 0]) (by simp [results, Try.results21, go_sem, hz.1.c0, hz.1.c1, hz.1.c2, hz.1.c3]) rfl hz.2

set_option maxRecDepth 10000 in
set_option maxHeartbeats 800000 in
theorem one_seal2 (P M n : Nat) (ok : Nat → Prop) (u : Un) (w : World) (hu : RefI P M n ok u w) (j : Jb) (da : Option Addr) (m dc : Nat) (hk : j.kind = 5) (he : ¬ j.epoch ≤ u.ep) (h2 : 1000000 < j.epoch) :
    Calls Try.prog 21 #[.pointer (some ⟨P, 0, none⟩), .agg #[.int .i64 j.kind, .int .i64 j.epoch, .int .i64 j.addr, .slice da m dc]] w fun x w' => SrPost P M n ok w (rp 2, u.calm) x w' := by
  have HI := put_by (RfJ.start hu j.kind j.epoch j.addr da m dc)
  rw [hk] at HI ⊢
  clear hu hk
  generalize j.epoch = e at *
  generalize j.addr = a at *
  have he2 : decide (e ≤ u.calm.ep) = false := decide_eq_false he
  clear he
  go_enter Try.func21, Try.ntmps21
  go_upto_region 1 with (fail)
  generalize (w.alloc (.cells #[.int .i64 _, .int .i64 _, .int .i64 _, .slice da m dc] 34)).alloc (.cells #[.int .i64 0, .bool false, .slice none 0 0, .int .i64 0] 36) = V at *
  have c2 := HI.out.un.fr
  have f2 := HI.out.un.f2
  go_upto_region 3 with (fail)
  have HP := put_by HI.out.calm
  clear HI c2 f2
  generalize V.setCell ⟨P, 2, none⟩ (.int .i64 (-1)) = V2 at *
  obtain ⟨d0, d1, d2, d3, g0, g1, g2, g3⟩ := HP.out.job
  have hep := HP.out.un.ep
  go_upto_region 8 with (fail)
  go_quiet (fail)
  have HQ := put_by (HP.out.later (belowR (Below.refl _ _) nq))
  clear HP d0 d1 d2 d3 g0 g1 g2 g3 hep
  generalize V2.drewN nq = V3 at *
  obtain ⟨d0, d1, d2, d3, g0, g1, g2, g3⟩ := HQ.out.job
  obtain ⟨c0, c1, c2, c3, f0, f1, f2, f3⟩ := HQ.out.res
  go_wp2
  have hz := HQ.out.bare 2
  show bodyPost _ _ _ _ _ (set4 V3 (w.heap.size + 1) (.int .i64 2) (.bool false) (.slice none 0 0) (.int .i64 0))
  exact bodyPost_ret (v := .agg #[.int .i64 2, .bool false, .slice none 0 0, .int .i64 0]) (by simp [results, Try.results21, go_sem, hz.1.c0, hz.1.c1, hz.1.c2, hz.1.c3]) rfl hz.2

end Go.Proofs.Ytegmcpcpnjfiaaa
