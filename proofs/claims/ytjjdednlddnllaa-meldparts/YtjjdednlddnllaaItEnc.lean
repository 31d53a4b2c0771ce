/- What Encode comes to at every intent. -/
import Derived.Test.YtjjdednlddnllaaItMayI
import Derived.Test.YtjjdednlddnllaaItTellI
namespace Go.Proofs.Ytjjdednlddnllaa
open Go.ChangeShapes Go.WideShapes Go.ChangeAt Go.RowKit

/-- what the bytes of an intent are, and what is refused -/
def EncIs (x : Itt) (ys : List Int) (code : Int) : Prop := (¬ MayI x ∧ ys = [] ∧ code = 4) ∨ (MayI x ∧ 4000 < (encI x).length ∧ ys = [] ∧ code = 1) ∨ (MayI x ∧ (encI x).length ≤ 4000 ∧ ys = encI x ∧ code = 0)

theorem EncIs.one {x : Itt} {ys zs : List Int} {c d : Int} (h : EncIs x ys c) (k : EncIs x zs d) : ys = zs ∧ c = d := by
  rcases h with ⟨h1, h2, h3⟩ | ⟨h1, h2, h3, h4⟩ | ⟨h1, h2, h3, h4⟩
  · rcases k with ⟨k1, k2, k3⟩ | ⟨k1, _⟩ | ⟨k1, _⟩
    · exact ⟨h2.trans k2.symm, h3.trans k3.symm⟩
    · exact absurd k1 h1
    · exact absurd k1 h1
  · rcases k with ⟨k1, _⟩ | ⟨k1, k2, k3, k4⟩ | ⟨k1, k2, _⟩
    · exact absurd h1 k1
    · exact ⟨h3.trans k3.symm, h4.trans k4.symm⟩
    · omega
  · rcases k with ⟨k1, _⟩ | ⟨k1, k2, _⟩ | ⟨k1, k2, k3, k4⟩
    · exact absurd h1 k1
    · omega
    · exact ⟨h3.trans k3.symm, h4.trans k4.symm⟩

theorem EncIs.few {x : Itt} {ys : List Int} {c : Int} (h : EncIs x ys c) : ys.length ≤ 4000 := by
  rcases h with ⟨_, h2, _⟩ | ⟨_, _, h2, _⟩ | ⟨_, h1, h2, _⟩
  · rw [h2]; simp
  · rw [h2]; simp
  · rw [h2]; exact h1

/-- what Encode comes to -/
def EPost (x : Itt) (w : World) (e : Ending) (w' : World) : Prop := ∃ (ys : List Int) (code : Int) (a : Option Addr) (m k : Nat), e = .returned (.tuple #[.slice a m k, .int .i64 code]) ∧ EncIs x ys code ∧ m = ys.length ∧ Octs w' a k ys ∧ (∀ ad, a = some ad → w.heap.size ≤ ad.block) ∧ Below w.heap.size w w'

set_option maxRecDepth 100000 in
set_option maxHeartbeats 4000000 in
theorem Encode_any (ok : Nat → Prop) (c n s : Int) (rs : List Ent) (ws : List Wt) (ra : Option Addr) (rc : Nat) (wa : Option Addr) (wc : Nat) (w : World) (hI : ItIs ok w rs ws ra rc wa wc) :
    Calls Try.prog 44 #[.agg #[.int .i64 c, .int .i64 n, .int .i64 s, .slice ra rs.length rc, .slice wa ws.length wc]] w fun e w' => EPost ⟨c, n, s, rs, ws⟩ w e w' := by
  generalize hpost : (fun e w' => EPost ⟨c, n, s, rs, ws⟩ w e w') = R
  have HP : Hid (∀ e w', EPost ⟨c, n, s, rs, ws⟩ w e w' → R e w') := fun e w' h => by rw [← hpost]; exact h
  clear hpost
  obtain ⟨r, hr⟩ := bool_of (MayI ⟨c, n, s, rs, ws⟩)
  have HI := put_by hI
  have HR := put_by hr
  obtain ⟨nr, hnr⟩ : ∃ nr, nr = rs.length := ⟨_, rfl⟩
  obtain ⟨nw, hnw⟩ : ∃ nw, nw = ws.length := ⟨_, rfl⟩
  rw [← hnr, ← hnw]
  have HN := put_by (And.intro hnr hnw)
  have HA := put_by ((Below.refl w.heap.size w).alloc (Nat.le_refl _) (.cells #[.int .i64 c, .int .i64 n, .int .i64 s, .slice ra nr rc, .slice wa nw wc] 77))
  have HK : Hid (∀ V, Below (w.alloc (.cells #[.int .i64 c, .int .i64 n, .int .i64 s, .slice ra nr rc, .slice wa nw wc] 77)).heap.size (w.alloc (.cells #[.int .i64 c, .int .i64 n, .int .i64 s, .slice ra nr rc, .slice wa nw wc] 77)) V → V.cell? ⟨w.heap.size, 0, none⟩ = some (.int .i64 c) ∧ V.cell? ⟨w.heap.size, 1, none⟩ = some (.int .i64 n) ∧ V.cell? ⟨w.heap.size, 2, none⟩ = some (.int .i64 s) ∧ V.cell? ⟨w.heap.size, 3, none⟩ = some (.slice ra nr rc) ∧ V.cell? ⟨w.heap.size, 4, none⟩ = some (.slice wa nw wc)) := fun V hV => by
    have hb : w.heap.size < (w.alloc (.cells #[.int .i64 c, .int .i64 n, .int .i64 s, .slice ra nr rc, .slice wa nw wc] 77)).heap.size := by simp
    exact ⟨(hV.cell (p := ⟨w.heap.size, 0, none⟩) hb).trans (by simp), (hV.cell (p := ⟨w.heap.size, 1, none⟩) hb).trans (by simp), (hV.cell (p := ⟨w.heap.size, 2, none⟩) hb).trans (by simp), (hV.cell (p := ⟨w.heap.size, 3, none⟩) hb).trans (by simp), (hV.cell (p := ⟨w.heap.size, 4, none⟩) hb).trans (by simp)⟩
  clear hI hr hnr hnw
  have c1 : Hid (Calls Try.prog 70 #[.agg #[.int .i64 c, .int .i64 n, .int .i64 s, .slice ra nr rc, .slice wa nw wc]] (w.alloc (.cells #[.int .i64 c, .int .i64 n, .int .i64 s, .slice ra nr rc, .slice wa nw wc] 77)) fun e w' => e = .returned (.bool r) ∧ (w'.cell? ⟨w.heap.size, 0, none⟩ = some (.int .i64 c) ∧ w'.cell? ⟨w.heap.size, 1, none⟩ = some (.int .i64 n) ∧ w'.cell? ⟨w.heap.size, 2, none⟩ = some (.int .i64 s) ∧ w'.cell? ⟨w.heap.size, 3, none⟩ = some (.slice ra nr rc) ∧ w'.cell? ⟨w.heap.size, 4, none⟩ = some (.slice wa nw wc)) ∧ Hid (Below w.heap.size w w')) := by
    have h := May_any ok c n s rs ws ra rc wa wc (w.alloc (.cells #[.int .i64 c, .int .i64 n, .int .i64 s, .slice ra nr rc, .slice wa nw wc] 77)) (HI.out.later HA.out) r HR.out
    rw [← HN.out.1, ← HN.out.2] at h
    exact h.mono (fun e w' h => ⟨h.1, HK.out _ h.2, HA.out.trans (h.2.mono HA.out.size)⟩)
  cases r with
  | false =>
    have HF : Hid (¬ MayI ⟨c, n, s, rs, ws⟩) := fun h => by cases HR.out.2 h
    go_enter Try.func44, Try.ntmps44
    go_wp2_with (first
      | (go_at_call 70; refine c1.out.mono ?_; clear c1; rintro e w1 ⟨rfl, ⟨k0, k1, k2, k3, k4⟩, H1⟩))
    refine HP.out _ _ ⟨[], 4, none, 0, 0, rfl, .inl ⟨HF.out, rfl, rfl⟩, rfl, Octs.nil _ _ _ (fun _ => rfl), (fun _ h => by cases h), H1.out⟩
  | true =>
    have hM := HR.out.1 rfl
    obtain ⟨c', rfl⟩ := Int.eq_ofNat_of_zero_le (show 0 ≤ c by have := hM.client.1; simp only at this; omega)
    obtain ⟨n', rfl⟩ := Int.eq_ofNat_of_zero_le (show 0 ≤ n by have := hM.number.1; simp only at this; omega)
    obtain ⟨s', rfl⟩ := Int.eq_ofNat_of_zero_le (show 0 ≤ s by have := hM.base.1; simp only at this; omega)
    have HM := put_by hM
    have c2 : Hid (∀ V, Below w.heap.size w V → Calls Try.prog 71 #[.agg #[.int .i64 (c' : Int), .int .i64 (n' : Int), .int .i64 (s' : Int), .slice ra nr rc, .slice wa nw wc]] V fun e w' => ∃ (a : Option Addr) (m k : Nat), e = .returned (.slice a m k) ∧ Hid (m = (encI ⟨c', n', s', rs, ws⟩).length ∧ Octs w' a k (encI ⟨c', n', s', rs, ws⟩) ∧ (∀ ad, a = some ad → w.heap.size ≤ ad.block) ∧ Below w.heap.size w w')) := fun V hV => by
      have h := tellIntent_any ok c' n' s' rs ws ra rc wa wc V (HI.out.later hV) HM.out
      rw [← HN.out.1, ← HN.out.2] at h
      refine h.mono ?_
      rintro e w' ⟨a, m, k, rfl, h1, h2, h3, h4⟩
      exact ⟨a, m, k, rfl, h1, h2, fun ad had => Nat.le_trans hV.size (h3 ad had), hV.trans (h4.mono hV.size)⟩
    clear hM HI HK HN
    go_enter Try.func44, Try.ntmps44
    go_upto_region 4 with (first
      | (go_at_call 70; refine c1.out.mono ?_; clear c1; rintro e w1 ⟨rfl, ⟨k0, k1, k2, k3, k4⟩, H1⟩)
      | (go_at_call 71; refine (c2.out _ H1.out).mono ?_; clear c2; rintro e w2 ⟨a, m, k, rfl, H2⟩))
    by_cases h4 : 4000 < m
    · have HT : Hid (EPost ⟨c', n', s', rs, ws⟩ w (.returned (.tuple #[.slice none 0 0, .int .i64 1])) w2) := ⟨[], 1, none, 0, 0, rfl, .inr (.inl ⟨HM.out, by have := H2.out.1; omega, rfl, rfl⟩), rfl, Octs.nil _ _ _ (fun _ => rfl), (fun _ h => by cases h), H2.out.2.2.2⟩
      go_wp2
      exact HP.out _ _ HT.out
    · have HT : Hid (EPost ⟨c', n', s', rs, ws⟩ w (.returned (.tuple #[.slice a m k, .int .i64 0])) w2) := ⟨_, 0, a, m, k, rfl, .inr (.inr ⟨HM.out, by have := H2.out.1; omega, rfl, rfl⟩), H2.out.1, H2.out.2.1, H2.out.2.2.1, H2.out.2.2.2⟩
      go_wp2
      exact HP.out _ _ HT.out

end Go.Proofs.Ytjjdednlddnllaa
