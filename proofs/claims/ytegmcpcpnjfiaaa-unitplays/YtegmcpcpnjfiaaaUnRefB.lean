/- One job of the document's own unit. -/
import Derived.Test.YtegmcpcpnjfiaaaUnRef0
namespace Go.Proofs.Ytegmcpcpnjfiaaa
open Go.ChangeShapes Go.WideShapes Go.ChangeAt Go.RowKit Go.Maps

set_option maxRecDepth 10000 in
set_option maxHeartbeats 800000 in
theorem one_crash1 (P M n : Nat) (ok : Nat → Prop) (u : Un) (w : World) (hu : RefI P M n ok u w) (j : Jb) (da : Option Addr) (m dc : Nat) (f : Nat) (hk : j.kind = 6) (hf : u.fr = f) (hf64 : f < 64) (ha : ¬ j.addr < 8 + ((u.sl f).data.length : Int)) :
    Calls Try.prog 21 #[.pointer (some ⟨P, 0, none⟩), .agg #[.int .i64 j.kind, .int .i64 j.epoch, .int .i64 j.addr, .slice da m dc]] w fun x w' => SrPost P M n ok w (rp 0, u.calm) x w' := by
  have HI := put_by (RfJ.start hu j.kind j.epoch j.addr da m dc)
  rw [hk] at HI ⊢
  have hfr := hf
  have HF := put_by hf
  have HM := put_by hu.map
  clear hu hk hf
  generalize j.epoch = e at *
  generalize j.addr = a at *
  go_enter Try.func21, Try.ntmps21
  go_upto_region 1 with (fail)
  generalize (w.alloc (.cells #[.int .i64 _, .int .i64 _, .int .i64 _, .slice da m dc] 34)).alloc (.cells #[.int .i64 0, .bool false, .slice none 0 0, .int .i64 0] 36) = V at *
  have c2 := HI.out.un.fr
  rw [hfr] at c2
  have f2 := HI.out.un.f2
  go_upto_region 3 with (fail)
  have HP := put_by HI.out.calm
  clear HI c2 f2
  generalize V.setCell ⟨P, 2, none⟩ (.int .i64 (-1)) = V2 at *
  obtain ⟨d0, d1, d2, d3, g0, g1, g2, g3⟩ := HP.out.job
  clear hfr
  have hmp := HP.out.un.mp
  obtain ⟨v, ⟨fa, fc, rfl, -, -⟩, hlk⟩ := HP.out.un.map.look f hf64
  have hlk2 : ∀ i, (Instr.lookup 60 (.map (some M)) (.int .i64 (f : Int)) false).run Try.prog (V2.drewN i) = .ok (.agg #[.int .i64 (u.calm.sl f).kind, .slice fa (u.calm.sl f).data.length fc]) (V2.drewN i) := fun i => hlk _ rfl
  have hls : ((u.calm.sl f).data.length : Int) < 100000 := by
    obtain ⟨v, ⟨_, _, _, _, h⟩, _⟩ := HP.out.un.map.look f hf64
    omega
  clear hlk HM
  have ha2 : ¬ a < ((u.calm.sl f).data.length : Int) + 8 := by have := ha; simp only [Un.calm]; omega
  have ha3 := decide_eq_false ha2
  clear ha ha2
  generalize (u.calm.sl f).data.length = dl at *
  generalize (u.calm.sl f).kind = dk at *
  go_upto_region 4 with (fail)
  refine wp_region_quiet_lit (by kernel_rfl) (by kernel_rfl) ?_
  repeat (first | (go_big_quiet_step (fail)) | (go_big_quiet_want; refine quiet_fld 64 (.tmp 30) 1 rfl (.agg #[.int .i64 dk, .slice fa dl fc]) (.slice fa dl fc) rfl (fun w => (fld w _ _).2) ?_; simp only [Act.put, List.setIfInBounds_toArray, List.set_cons_zero, List.set_cons_succ]; go_big_quiet_on))
  refine wpQuiet_nil ?_
  intro _ hw'
  obtain ⟨nq, hw''⟩ := hw'
  subst hw''
  have HQ := put_by (HP.out.later (belowR (Below.refl _ _) nq))
  clear HP d0 d1 d2 d3 g0 g1 g2 g3 hlk2 hmp
  generalize V2.drewN nq = V3 at *
  obtain ⟨c0, c1, c2, c3, f0, f1, f2, f3⟩ := HQ.out.res
  go_wp2
  have hz := HQ.out.bare 0
  show bodyPost _ _ _ _ _ (set4 V3 (w.heap.size + 1) (.int .i64 0) (.bool false) (.slice none 0 0) (.int .i64 0))
  exact bodyPost_ret (v := .agg #[.int .i64 0, .bool false, .slice none 0 0, .int .i64 0]) (by simp [results, Try.results21, go_sem, hz.1.c0, hz.1.c1, hz.1.c2, hz.1.c3]) rfl hz.2

set_option maxRecDepth 10000 in
set_option maxHeartbeats 800000 in
theorem one_crash2 (P M n : Nat) (ok : Nat → Prop) (u : Un) (w : World) (hu : RefI P M n ok u w) (j : Jb) (da : Option Addr) (m dc : Nat) (f : Nat) (hk : j.kind = 6) (hf : u.fr = f) (hf64 : f < 64) (ha : j.addr < 8 + ((u.sl f).data.length : Int)) (hn : n < 1000000) :
    Calls Try.prog 21 #[.pointer (some ⟨P, 0, none⟩), .agg #[.int .i64 j.kind, .int .i64 j.epoch, .int .i64 j.addr, .slice da m dc]] w fun x w' => SrPost P M n ok w (rp 0, u.calm.put f ⟨0, []⟩) x w' := by
  have HI := put_by (RfJ.start hu j.kind j.epoch j.addr da m dc)
  rw [hk] at HI ⊢
  have hfr := hf
  have HF := put_by hf
  have HM := put_by hu.map
  clear hu hk hf
  generalize j.epoch = e at *
  generalize j.addr = a at *
  go_enter Try.func21, Try.ntmps21
  go_upto_region 1 with (fail)
  generalize (w.alloc (.cells #[.int .i64 _, .int .i64 _, .int .i64 _, .slice da m dc] 34)).alloc (.cells #[.int .i64 0, .bool false, .slice none 0 0, .int .i64 0] 36) = V at *
  have c2 := HI.out.un.fr
  rw [hfr] at c2
  have f2 := HI.out.un.f2
  go_upto_region 3 with (fail)
  have HP := put_by HI.out.calm
  clear HI c2 f2
  generalize V.setCell ⟨P, 2, none⟩ (.int .i64 (-1)) = V2 at *
  obtain ⟨d0, d1, d2, d3, g0, g1, g2, g3⟩ := HP.out.job
  clear hfr
  have hmp := HP.out.un.mp
  obtain ⟨v, ⟨fa, fc, rfl, -, -⟩, hlk⟩ := HP.out.un.map.look f hf64
  have hlk2 : ∀ i, (Instr.lookup 60 (.map (some M)) (.int .i64 (f : Int)) false).run Try.prog (V2.drewN i) = .ok (.agg #[.int .i64 (u.calm.sl f).kind, .slice fa (u.calm.sl f).data.length fc]) (V2.drewN i) := fun i => hlk _ rfl
  have hls : ((u.calm.sl f).data.length : Int) < 100000 := by
    obtain ⟨v, ⟨_, _, _, _, h⟩, _⟩ := HP.out.un.map.look f hf64
    omega
  clear hlk HM
  have ha2 : a < ((u.calm.sl f).data.length : Int) + 8 := by have := ha; simp only [Un.calm]; omega
  clear ha
  generalize (u.calm.sl f).data.length = dl at *
  generalize (u.calm.sl f).kind = dk at *
  go_upto_region 4 with (fail)
  refine wp_region_quiet_lit (by kernel_rfl) (by kernel_rfl) ?_
  repeat (first | (go_big_quiet_step (fail)) | (go_big_quiet_want; refine quiet_fld 64 (.tmp 30) 1 rfl (.agg #[.int .i64 dk, .slice fa dl fc]) (.slice fa dl fc) rfl (fun w => (fld w _ _).2) ?_; simp only [Act.put, List.setIfInBounds_toArray, List.set_cons_zero, List.set_cons_succ]; go_big_quiet_on))
  refine wpQuiet_nil ?_
  intro _ hw'
  obtain ⟨nq, hw''⟩ := hw'
  subst hw''
  have HQ := put_by (HP.out.later (belowR (Below.refl _ _) nq))
  clear HP d0 d1 d2 d3 g0 g1 g2 g3 hlk2 hmp
  generalize V2.drewN nq = V3 at *
  have hmp := HQ.out.un.mp
  obtain ⟨w', hrun, hu', hg'⟩ := HQ.out.un.put rfl hn f hf64 ⟨0, []⟩ (by simp) (.agg #[.int .i64 0, .slice none 0 0]) ⟨none, 0, rfl, ⟨none, 0, rfl, Octs.nil _ _ _ (fun _ => rfl), fun h => absurd rfl h⟩, by simp⟩
  have HU := put_by hu'
  have HG := put_by hg'
  have hq := HQ.out.res.move (hg'.block _ HQ.out.res.lt (by have := HQ.out.lt; intro e; have := Option.some.inj e; omega))
  have HR := put_by hq
  obtain ⟨c0, c1, c2, c3, f0, f1, f2, f3⟩ := hq
  clear hu' hg'
  go_wp2
  have hz := ref_done HR.out rfl HQ.out.lt HQ.out.notP HQ.out.notM HU.out (Nat.le_refl _) (HQ.out.trn.trans (Trn.of_map HG.out)) (rp 0) none 0 (Octs.nil _ _ _ (fun _ => rfl)) (fun hx => absurd rfl hx)
  simp only [rp, List.length_nil] at hz
  show bodyPost _ _ _ _ _ (set4 w' (w.heap.size + 1) (.int .i64 0) (.bool false) (.slice none 0 0) (.int .i64 0))
  exact bodyPost_ret (v := .agg #[.int .i64 0, .bool false, .slice none 0 0, .int .i64 0]) (by simp [results, Try.results21, go_sem, hz.1.c0, hz.1.c1, hz.1.c2, hz.1.c3]) rfl hz.2

end Go.Proofs.Ytegmcpcpnjfiaaa
