/- One job of the document's own unit. -/
import Derived.Test.YtegmcpcpnjfiaaaUnRef0
namespace Go.Proofs.Ytegmcpcpnjfiaaa
open Go.ChangeShapes Go.WideShapes Go.ChangeAt Go.RowKit Go.Maps

set_option maxRecDepth 10000 in
set_option maxHeartbeats 800000 in
theorem one_seal3 (P M n : Nat) (ok : Nat → Prop) (u : Un) (w : World) (hu : RefI P M n ok u w) (j : Jb) (da : Option Addr) (m dc : Nat) (hk : j.kind = 5) (he : ¬ j.epoch ≤ u.ep) (h2 : ¬ 1000000 < j.epoch) :
    Calls Try.prog 21 #[.pointer (some ⟨P, 0, none⟩), .agg #[.int .i64 j.kind, .int .i64 j.epoch, .int .i64 j.addr, .slice da m dc]] w fun x w' => SrPost P M n ok w ((⟨0, false, [], tailTo u.sl 64⟩ : Rp), (⟨u.sl, j.epoch, -1⟩ : Un)) x w' := by
  have HI := put_by (RfJ.start hu j.kind j.epoch j.addr da m dc)
  rw [hk] at HI ⊢
  clear hu hk
  generalize j.epoch = e at *
  generalize j.addr = a at *
  have he2 : decide (e ≤ u.calm.ep) = false := decide_eq_false he
  have h3 : decide (1000000 < e) = false := decide_eq_false h2
  clear he
  go_enter Try.func21, Try.ntmps21
  go_upto_region 1 with (fail)
  generalize (w.alloc (.cells #[.int .i64 _, .int .i64 _, .int .i64 _, .slice da m dc] 34)).alloc (.cells #[.int .i64 0, .bool false, .slice none 0 0, .int .i64 0] 36) = V at *
  have c2 := HI.out.un.fr
  have f2 := HI.out.un.f2
  go_upto_region 3 with (fail)
  have HP := put_by HI.out.calm
  clear HI c2 f2
  generalize V.setCell ⟨P, 2, none⟩ (.int .i64 (-1)) = V2 at *
  obtain ⟨d0, d1, d2, d3, g0, g1, g2, g3⟩ := HP.out.job
  have hep := HP.out.un.ep
  go_upto_region 8 with (fail)
  go_quiet (fail)
  have HQ := put_by (HP.out.later (belowR (Below.refl _ _) nq))
  clear HP d0 d1 d2 d3 g0 g1 g2 g3 hep
  generalize V2.drewN nq = V3 at *
  obtain ⟨d0, d1, d2, d3, g0, g1, g2, g3⟩ := HQ.out.job
  have hep := HQ.out.un.ep
  have hf0 := HQ.out.un.f0
  go_upto_region 13 with (fail)
  have hne : w.heap.size + 1 ≠ P := by have := HQ.out.lt; omega
  have HU := put_by (HQ.out.un.setEp e)
  have HT := put_by (HQ.out.trn.trans (Trn.of_var (M := M) (grown_set2 (B := P) (i := 0) (w := V3) (.int .i64 e))))
  have HR := put_by (HQ.out.res.move (W' := V3.setCell ⟨P, 0, none⟩ (.int .i64 e)) (heap_setCell_other _ _ _ _ hne))
  have HL := put_by HQ.out.lt
  have HN := put_by (And.intro HQ.out.notP HQ.out.notM)
  clear HQ d0 d1 d2 d3 g0 g1 g2 g3 hep hf0 hne
  generalize V3.setCell ⟨P, 0, none⟩ (.int .i64 e) = V4 at *
  go_wp2
  go_loopw [6, 7] (fun s i wr => ∃ k : Nat, k ≤ 64 ∧ i = .int .i64 k ∧ s = .int .i64 (tailTo u.sl k) ∧ wr = V4) (fun _ i _ => 64 - (intOf i).toNat)
  case atStart => exact ⟨0, by omega, rfl, rfl, by first | rfl | trivial⟩
  case round =>
    obtain ⟨k, hk, rfl, rfl, rfl⟩ := hrel
    by_cases hlt : k < 64
    · have hi : (k : Int) < 64 := by omega
      have hmp := HU.out.mp
      obtain ⟨v, ⟨fa, fc, rfl, -, -⟩, hlk⟩ := HU.out.map.look k hlt
      have hlk2 := hlk _ rfl
      clear hlk
      by_cases hz : (u.sl k).kind = 0
      · have hz2 : (((u.sl k).kind : Int) != 0) = false := by simp [hz]
        have ht : tailTo u.sl (k + 1) = tailTo u.sl k := by simp [tailTo, hz]
        simp only [Un.calm] at hlk2
        generalize (u.sl k).kind = dk at *
        generalize (u.sl k).data.length = dl at *
        have HTT := put_by ht
        clear ht hz
        go_wp2_with (refine wpList_fld rfl 64 (.tmp 72) 0 rfl (.agg #[.int .i64 dk, .slice fa dl fc]) (.int .i64 dk) rfl (fun w => (fld w _ _).1) ?_)
        go_roundw
        case rel => exact ⟨k + 1, by omega, by go_num, by rw [HTT.out], by first | rfl | trivial⟩
        case measure => simp [intOf]; omega
      · have hz2 : (((u.sl k).kind : Int) != 0) = true := by simp; omega
        have ht : tailTo u.sl (k + 1) = k + 1 := by simp [tailTo, hz]
        simp only [Un.calm] at hlk2
        generalize (u.sl k).kind = dk at *
        generalize (u.sl k).data.length = dl at *
        have HTT := put_by ht
        clear ht hz
        go_wp2_with (refine wpList_fld rfl 64 (.tmp 72) 0 rfl (.agg #[.int .i64 dk, .slice fa dl fc]) (.int .i64 dk) rfl (fun w => (fld w _ _).1) ?_)
        go_roundw
        case rel => exact ⟨k + 1, by omega, by go_num, by rw [HTT.out]; go_num, by first | rfl | trivial⟩
        case measure => simp [intOf]; omega
    · have hk64 : k = 64 := by omega
      subst hk64
      obtain ⟨c0, c1, c2, c3, f0, f1, f2, f3⟩ := HR.out
      obtain ⟨t, ht⟩ : ∃ t : Int, t = tailTo u.sl 64 := ⟨_, rfl⟩
      have HTT := put_by ht
      rw [← ht]
      clear ht
      go_wp2
      have hz := ref_done HR.out rfl HL.out HN.out.1 HN.out.2 HU.out (Nat.le_succ _) HT.out ⟨0, false, [], t⟩ none 0 (Octs.nil _ _ _ (fun _ => rfl)) (fun hx => absurd rfl hx)
      simp only [List.length_nil] at hz
      show bodyPost _ _ _ _ _ (set4 wr (w.heap.size + 1) (.int .i64 0) (.bool false) (.slice none 0 0) (.int .i64 t))
      exact bodyPost_ret (v := .agg #[.int .i64 0, .bool false, .slice none 0 0, .int .i64 t]) (by simp [results, Try.results21, go_sem, hz.1.c0, hz.1.c1, hz.1.c2, hz.1.c3]) rfl (by rw [← HTT.out]; exact hz.2)

end Go.Proofs.Ytegmcpcpnjfiaaa
