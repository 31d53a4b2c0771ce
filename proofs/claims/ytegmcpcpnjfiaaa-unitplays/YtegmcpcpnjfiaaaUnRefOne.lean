/- Any job of the document's own unit; all jobs, one by one. -/
import Derived.Test.YtegmcpcpnjfiaaaUnRefA
import Derived.Test.YtegmcpcpnjfiaaaUnRefB
import Derived.Test.YtegmcpcpnjfiaaaUnRefC
import Derived.Test.YtegmcpcpnjfiaaaUnRefD
import Derived.Test.YtegmcpcpnjfiaaaUnRefE
import Derived.Test.YtegmcpcpnjfiaaaUnRefF
import Derived.Test.YtegmcpcpnjfiaaaUnRefG
import Derived.Test.YtegmcpcpnjfiaaaUnRefH
import Derived.Test.YtegmcpcpnjfiaaaUnRefI
import Derived.Test.YtegmcpcpnjfiaaaUnRun
namespace Go.Proofs.Ytegmcpcpnjfiaaa
open Go.ChangeShapes Go.WideShapes Go.ChangeAt Go.RowKit Go.Maps

theorem SrPost.to {P M n : Nat} {ok : Nat → Prop} {w : World} {x y : Rp × Un} {e : Ending} {w' : World} (h : SrPost P M n ok w x e w') (hxy : x = y) : SrPost P M n ok w y e w' := hxy ▸ h

theorem read_has {s : Sl} (h : s.kind = 1 ∨ s.kind = 2) : readSl s = hasR s := by
  rcases h with h | h <;> simp [readSl, hasR, h]

theorem hasSl_has {s : Sl} (h : s.kind = 1 ∨ s.kind = 2) : hasSl s = ⟨15, (hasR s).junk, (hasR s).data, (hasR s).tail⟩ := by
  rcases h with h | h <;> simp [hasSl, readSl, hasR, h]

theorem hasSl_trim {s : Sl} (h : s.kind = 3) : hasSl s = rp 16 := by
  simp [hasSl, readSl, rp, h]

theorem one_any (P M n : Nat) (ok : Nat → Prop) (u : Un) (w : World) (hu : RefI P M n ok u w) (hn : n < 1000000) (hok : Fresh ok w) (j : Jb) (da : Option Addr) (m dc : Nat) (hd : m = j.data.length ∧ Octs w da dc j.data ∧ (j.data ≠ [] → ∀ ad, da = some ad → ad.block ≠ P ∧ ad.block ≠ M)) :
    Calls Try.prog 21 #[.pointer (some ⟨P, 0, none⟩), .agg #[.int .i64 j.kind, .int .i64 j.epoch, .int .i64 j.addr, .slice da m dc]] w fun x w' => SrPost P M n ok w (stepU u j) x w' := by
  by_cases h6 : j.kind = 6
  · have e : stepU u j = (rp 0, crashU u.calm u.fr j.addr) := by simp [stepU, h6]
    rw [e]
    rcases hu.frok with hf | ⟨hf0, hf1, hf2⟩
    · rw [show crashU u.calm u.fr j.addr = u.calm by simp [crashU, hf]]
      exact one_crash0 P M n ok u w hu j da m dc h6 hf
    · obtain ⟨f, hf⟩ : ∃ f : Nat, u.fr = f := ⟨u.fr.toNat, by omega⟩
      have hk : (u.sl f).kind = 1 := by rw [hf] at hf2; simpa using hf2
      by_cases ha : j.addr < 8 + ((u.sl f).data.length : Int)
      · refine (one_crash2 P M n ok u w hu j da m dc f h6 hf (by omega) ha hn).mono fun x w' h => h.to ?_
        have hne : ¬ (f : Int) = -1 := by omega
        simp [crashU, hf, Un.calm, hk, ha]
      · refine (one_crash1 P M n ok u w hu j da m dc f h6 hf (by omega) ha).mono fun x w' h => h.to ?_
        simp [crashU, hf, Un.calm, ha]
  · by_cases h5 : j.kind = 5
    · have e : stepU u j = sealU u.calm j.epoch := by simp [stepU, h5]
      rw [e]
      by_cases he : j.epoch ≤ u.ep
      · refine (one_seal1 P M n ok u w hu j da m dc h5 he).mono fun x w' h => h.to ?_
        simp [sealU, Un.calm, he]
      · by_cases h2 : 1000000 < j.epoch
        · refine (one_seal2 P M n ok u w hu j da m dc h5 he h2).mono fun x w' h => h.to ?_
          simp [sealU, Un.calm, he, h2]
        · refine (one_seal3 P M n ok u w hu j da m dc h5 he h2).mono fun x w' h => h.to ?_
          simp [sealU, Un.calm, he, h2]
    · by_cases h14 : j.kind = 1 ∨ j.kind = 2 ∨ j.kind = 3 ∨ j.kind = 4
      · have e : stepU u j = atU u.calm j := by simp [stepU, h14]
        rw [e]
        have hep : u.calm.ep = u.ep := rfl
        by_cases he : j.epoch = u.ep
        · by_cases ha : j.addr < 0 ∨ 64 ≤ j.addr
          · have e2 : (rp 2, u.calm) = atU u.calm j := by simp [atU, hep, he, ha]
            rcases ha with ha | ha
            · rcases h14 with h | h | h | h
              · exact (one_range1 P M n ok u w hu j da m dc h he ha).mono fun x w' h => h.to e2
              · exact (one_range2 P M n ok u w hu j da m dc h he ha).mono fun x w' h => h.to e2
              · exact (one_range3 P M n ok u w hu j da m dc h he ha).mono fun x w' h => h.to e2
              · exact (one_range4 P M n ok u w hu j da m dc h he ha).mono fun x w' h => h.to e2
            · rcases h14 with h | h | h | h
              · exact (one_rang21 P M n ok u w hu j da m dc h he ha).mono fun x w' h => h.to e2
              · exact (one_rang22 P M n ok u w hu j da m dc h he ha).mono fun x w' h => h.to e2
              · exact (one_rang23 P M n ok u w hu j da m dc h he ha).mono fun x w' h => h.to e2
              · exact (one_rang24 P M n ok u w hu j da m dc h he ha).mono fun x w' h => h.to e2
          · obtain ⟨i, hi⟩ : ∃ i : Nat, j.addr = i := ⟨j.addr.toNat, by omega⟩
            have hi64 : i < 64 := by omega
            have hti : j.addr.toNat = i := by omega
            have hki := (hu.kinds i hi64).1
            have hkk : (u.sl i).kind = 0 ∨ ((u.sl i).kind = 1 ∨ (u.sl i).kind = 2) ∨ (u.sl i).kind = 3 := by omega
            rcases h14 with h | h | h | h
            · have e3 : atU u.calm j = storeU u.calm i j.data := by simp [atU, hep, he, ha, h, hti]
              rw [e3]
              by_cases h4 : 4000 < m
              · refine (one_size P M n ok u w hu j da m dc i hi64 h4 h he hi).mono fun x w' h => h.to ?_
                have : 4000 < j.data.length := by rw [← hd.1]; exact h4
                simp [storeU, this]
              · have h4' : ¬ 4000 < j.data.length := by rw [← hd.1]; exact h4
                rcases hkk with hk | hk | hk
                · refine (one_store P M n ok u w hu j da m dc i hi64 hn hd hok h4 h he hi hk).mono fun x w' h => h.to ?_
                  simp [storeU, h4', Un.calm, hk, Un.put]
                · refine (one_written1 P M n ok u w hu j da m dc i hi64 h4 h he hi hk).mono fun x w' h => h.to ?_
                  rw [← hasSl_has hk]
                  have : ¬ (u.sl i).kind = 0 := by omega
                  simp [storeU, h4', Un.calm, this]
                · refine (one_trimmed1 P M n ok u w hu j da m dc i hi64 h4 h he hi hk).mono fun x w' h => h.to ?_
                  rw [← hasSl_trim hk]
                  simp [storeU, h4', Un.calm, hk]
            · have e3 : atU u.calm j = (readSl (u.sl i), u.calm) := by simp [atU, he, ha, h, hti, Un.calm]
              rw [e3]
              rcases hkk with hk | hk | hk
              · refine (one_unwritten P M n ok u w hu j da m dc i hi64 h he hi hk).mono fun x w' h => h.to ?_
                simp [readSl, hk]
              · rw [read_has hk]
                exact one_fetch P M n ok u w hu j da m dc i hi64 h he hi hk
              · refine (one_trimmed2 P M n ok u w hu j da m dc i hi64 h he hi hk).mono fun x w' h => h.to ?_
                simp [readSl, hk]
            · have e3 : atU u.calm j = putU u.calm i ⟨2, []⟩ := by simp [atU, hep, he, ha, h, hti]
              rw [e3]
              rcases hkk with hk | hk | hk
              · refine (one_fill P M n ok u w hu j da m dc i hi64 hn h he hi hk).mono fun x w' h => h.to ?_
                simp [putU, Un.calm, hk]
              · refine (one_written3 P M n ok u w hu j da m dc i hi64 h he hi hk).mono fun x w' h => h.to ?_
                rw [← hasSl_has hk]
                have : ¬ (u.sl i).kind = 0 := by omega
                simp [putU, Un.calm, this]
              · refine (one_trimmed3 P M n ok u w hu j da m dc i hi64 h he hi hk).mono fun x w' h => h.to ?_
                rw [← hasSl_trim hk]
                simp [putU, Un.calm, hk]
            · refine (one_trim P M n ok u w hu j da m dc i hi64 hn h he hi).mono fun x w' hh => hh.to ?_
              simp [atU, hep, he, ha, h, hti]
        · have e2 : (rp 18, u.calm) = atU u.calm j := by simp [atU, hep, he]
          rcases h14 with h | h | h | h
          · exact (one_sealed1 P M n ok u w hu j da m dc h he).mono fun x w' h => h.to e2
          · exact (one_sealed2 P M n ok u w hu j da m dc h he).mono fun x w' h => h.to e2
          · exact (one_sealed3 P M n ok u w hu j da m dc h he).mono fun x w' h => h.to e2
          · exact (one_sealed4 P M n ok u w hu j da m dc h he).mono fun x w' h => h.to e2
      · have e : stepU u j = (rp 3, u.calm) := by simp [stepU, h14, h5, h6]
        rw [e]
        exact one_none P M n ok u w hu j da m dc (by omega)

end Go.Proofs.Ytegmcpcpnjfiaaa
