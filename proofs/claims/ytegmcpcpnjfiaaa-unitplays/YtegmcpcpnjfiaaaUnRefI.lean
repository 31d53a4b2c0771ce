/- One job of the document's own unit. -/
import Derived.Test.YtegmcpcpnjfiaaaUnRef0
namespace Go.Proofs.Ytegmcpcpnjfiaaa
open Go.ChangeShapes Go.WideShapes Go.ChangeAt Go.RowKit Go.Maps

set_option maxRecDepth 10000 in
set_option maxHeartbeats 800000 in
theorem one_store (P M n : Nat) (ok : Nat → Prop) (u : Un) (w : World) (hu : RefI P M n ok u w) (j : Jb) (da : Option Addr) (m dc : Nat) (i : Nat) (hi : i < 64) (hn : n < 1000000) (hd : m = j.data.length ∧ Octs w da dc j.data ∧ (j.data ≠ [] → ∀ ad, da = some ad → ad.block ≠ P ∧ ad.block ≠ M)) (hok : Fresh ok w) (hd4 : ¬ 4000 < m) (hk : j.kind = 1) (he : j.epoch = u.ep) (hm : j.addr = i) (hs0 : (u.sl i).kind = 0) :
    Calls Try.prog 21 #[.pointer (some ⟨P, 0, none⟩), .agg #[.int .i64 j.kind, .int .i64 j.epoch, .int .i64 j.addr, .slice da m dc]] w fun x w' => SrPost P M n ok w (rp 0, (⟨(u.put i ⟨1, j.data⟩).sl, u.ep, i⟩ : Un)) x w' := by
  have HS0 := put_by hs0
  clear hs0
  have HD := put_by hd
  have HF := put_by hok
  clear hd hok
  have HI := put_by (RfJ.start hu j.kind j.epoch j.addr da m dc)
  rw [hk, he, hm] at HI
  rw [hk, he, hm]
  have hne : (u.ep != u.ep) = false := by simp
  have hl1 : ¬ (63 : Int) < (i : Int) := by omega
  have hdn : decide ((4000 : Int) < (m : Int)) = false := decide_eq_false (by omega)
  clear hu hk he hm
  go_enter Try.func21, Try.ntmps21
  go_upto_region 1 with (fail)
  generalize (w.alloc (.cells #[.int .i64 _, .int .i64 _, .int .i64 _, .slice da m dc] 34)).alloc (.cells #[.int .i64 0, .bool false, .slice none 0 0, .int .i64 0] 36) = V at *
  have c2 := HI.out.un.fr
  have f2 := HI.out.un.f2
  go_upto_region 3 with (fail)
  have HP := put_by HI.out.calm
  clear HI c2 f2
  generalize V.setCell ⟨P, 2, none⟩ (.int .i64 (-1)) = V2 at *
  obtain ⟨d0, d1, d2, d3, g0, g1, g2, g3⟩ := HP.out.job
  have hep : V2.cell? ⟨P, 0, none⟩ = some (.int .i64 u.ep) := HP.out.un.ep
  go_upto_region 22 with (fail)
  go_quiet (fail)
  have HQ := put_by (HP.out.later (belowR (Below.refl _ _) nq))
  clear HP d0 d1 d2 d3 g0 g1 g2 g3 hep
  generalize V2.drewN nq = V3 at *
  obtain ⟨d0, d1, d2, d3, g0, g1, g2, g3⟩ := HQ.out.job
  have hmp := HQ.out.un.mp
  obtain ⟨v, ⟨fa, fc, rfl, hbb, hbl⟩, hlk⟩ := HQ.out.un.map.look i hi
  have hlk2 : ∀ V : World, V.heap[M]? = V3.heap[M]? → (Instr.lookup 60 (.map (some M)) (.int .i64 (i : Int)) false).run Try.prog V = .ok (.agg #[.int .i64 (u.sl i).kind, .slice fa (u.sl i).data.length fc]) V := hlk
  have hlk3 := hlk2 V3 rfl
  have hlk4 := hlk2 V3.drew rfl
  have hM3 := HQ.out.un.map.lt
  have hP3 := HQ.out.un.lt
  have hJ3 := HQ.out.job.lt
  have hlk5 := hlk2 (V3.alloc (.cells #[.int .i64 0, .slice none 0 0] 64)).drew (Below.heap_alloc _ _ _ hM3)
  have hlk6 := hlk2 (V3.alloc (.cells #[.int .i64 0, .slice none 0 0] 64)) (Below.heap_alloc _ _ _ hM3)
  clear hlk hlk2
  go_upto_region 26 with (fail)
  go_region
  all_goals
    have HV := put_by (HQ.out.later (((Below.refl _ V3).alloc (Nat.le_refl _) (.cells #[.int .i64 (u.sl i).kind, .slice fa (u.sl i).data.length fc] 64)).drew))
    have ht : Two (V3.alloc (.cells #[.int .i64 (u.sl i).kind, .slice fa (u.sl i).data.length fc] 64)).drew V3.heap.size (.int .i64 (u.sl i).kind) (.slice fa (u.sl i).data.length fc) := (Two.new V3 (.int .i64 (u.sl i).kind) (.slice fa (u.sl i).data.length fc) 64).later (Below.refl _ _).drew
    have hsb0 := HQ.out.res.lt
    clear hlk3 hlk4 hlk5 hlk6 hmp hbb hM3 hP3 hJ3 d0 d1 d2 d3 g0 g1 g2 g3
    obtain ⟨sb, hsb⟩ : ∃ sb, sb = V3.heap.size := ⟨_, rfl⟩
    rw [← hsb] at ht hsb0
    rw [← hsb]
    clear hsb
    generalize (V3.alloc (.cells #[.int .i64 (u.sl i).kind, .slice fa (u.sl i).data.length fc] 64)).drew = V5 at *
    clear HQ
    have HT := put_by ht
    obtain ⟨t0, t1, -, -⟩ := ht
    obtain ⟨d0, d1, d2, d3, g0, g1, g2, g3⟩ := HV.out.job
    have hmp := HV.out.un.mp
    have hJs : w.heap.size ≠ sb := by omega
    replace t0 : V5.cell? ⟨sb, 0, none⟩ = some (.int .i64 0) := by rw [t0, HS0.out]; rfl
    have hmp5 := HV.out.un.mp
    have hbo : ∀ W, Trn P M w W → Octs W da dc j.data := fun W hT => HD.out.2.1.move (ok := fun b => b ≠ P ∧ b ≠ M) HD.out.2.2 ⟨hT.size, fun b hb ho => hT.block b hb ho.1 ho.2⟩
    have cO : Hid (∀ W, RfJ P M n ok u.calm w 1 u.ep (i : Int) da m dc W → Calls Try.prog 27 #[.slice da m dc] W fun y w' => ∃ p q, y = .returned (.slice p m q) ∧ RfJ P M n ok u.calm w 1 u.ep (i : Int) da m dc w' ∧ Hid (IsSr (fun b => ok b ∧ b ≠ w.heap.size + 1) w' (.agg #[.int .i64 1, .slice p m q]) ⟨1, j.data⟩)) := put_by fun W hW => by
      rw [HD.out.1]
      refine (ownBytes_any da dc j.data W (hbo W hW.trn)).mono fun y w' ⟨p, q, e, h1, h2, h3⟩ => ⟨p, q, e, ?_, put_by ⟨p, q, rfl, ⟨p, q, rfl, h1, fun _ ad ea => ?_⟩, ?_⟩⟩
      · rw [← HD.out.1]
        exact hW.later h3
      · have := h2 ad ea
        have := hW.res.lt
        have := hW.trn.size
        exact ⟨HF.out _ (by omega), by omega⟩
      · have := HD.out.1
        show j.data.length ≤ 4000
        omega
    go_upto_region 45 with (fail)
    go_region_held3 (fun W => W.cell? ⟨P, 1, none⟩ = some (.map (some M)) ∧ W.cell? ⟨w.heap.size, 2, none⟩ = some (.int .i64 (i : Int)) ∧ W.cell? ⟨w.heap.size, 3, none⟩ = some (.slice da m dc)) (go_keep) (first
      | (go_at_call 27; (with_reducible refine (cO.out _ (HV.out.later (by first | exact (Below.refl _ _).drew | exact Below.refl _ _))).mono ?_); rintro y w1 ⟨p, q, rfl, hj1, HS1⟩; have k1 := hj1.un.mp; have k2 := hj1.job.c2; have k3 := hj1.job.c3; obtain ⟨w2, hrun2, hj2⟩ := hj1.put rfl hn i hi ⟨1, j.data⟩ (by simp) _ HS1.out; have HJ2 := put_by hj2; have k4 := hj2.un.mp; have k5 := hj2.job.c2; have k6 := hj2.job.c3; clear hj1 hj2))
    all_goals
      have f2 := HJ2.out.un.f2
      have c2 := HJ2.out.un.fr
      have hPR : P ≠ w.heap.size + 1 := by have := HJ2.out.lt; omega
      have hPR' : w.heap.size + 1 ≠ P := by have := HJ2.out.lt; omega
      have hPJ : P ≠ w.heap.size := by have := HJ2.out.lt; omega
      go_upto_region 47 with (fail)
      have HE := put_by (HJ2.out.mark (i : Int) (.inr ⟨by omega, by omega, by simp [Un.put]⟩))
      generalize w2.setCell ⟨P, 2, none⟩ (.int .i64 (i : Int)) = V7 at *
      obtain ⟨c0, c1, c2, c3, f0, f1, f2, f3⟩ := HE.out.res
      go_wp2
      have hz := HE.out.quiet (n := n) (Nat.le_refl _)
      show bodyPost _ _ _ _ _ (set4 V7 (w.heap.size + 1) (.int .i64 0) (.bool false) (.slice none 0 0) (.int .i64 0))
      exact bodyPost_ret (v := .agg #[.int .i64 0, .bool false, .slice none 0 0, .int .i64 0]) (by simp [results, Try.results21, go_sem, hz.1.c0, hz.1.c1, hz.1.c2, hz.1.c3]) rfl hz.2

end Go.Proofs.Ytegmcpcpnjfiaaa
