/- Whether an intent is kept, and if not, why: judge; and where a key stands: findCell. -/
import Derived.Test.YtjjdednlddnllaaMlChg
import Derived.Test.YtjjdednlddnllaaRdAll
namespace Go.Proofs.Ytjjdednlddnllaa
open Go.ChangeShapes Go.WideShapes Go.ChangeAt Go.RowKit

/-- what an intent that is not done is told -/
def judgeK (p s : Int) (rs : List Ent) (cs : List Cel) : Int := if p ≤ s then 2 else if rs.any (hitK (changedK cs s)) then 19 else 0

set_option maxRecDepth 100000 in
set_option maxHeartbeats 2000000 in
theorem judge_any (ok ok2 : Nat → Prop) (P : Nat) (p : Int) (cs : List Cel) (ha : AscC cs) (ca : Option Addr) (cc : Nat) (c n s : Int) (rs : List Ent) (ra : Option Addr) (rc : Nat) (wa : Option Addr) (wn wc : Nat) (w : World) (hPl : P < w.heap.size) (hP0 : w.cell? ⟨P, 0, none⟩ = some (.int .i64 p)) (hP : w.cell? ⟨P, 1, none⟩ = some (.slice ca cs.length cc)) (hL : Lies kCel ok w ca cc cs) (hf : cs.length * 64 ≤ 140737488351232) (hR : Lies kEnt ok2 w ra rc rs) (hr : rs.length ≤ 140737488351232) :
    Calls Try.prog 53 #[.pointer (some ⟨P, 0, none⟩), .agg #[.int .i64 c, .int .i64 n, .int .i64 s, .slice ra rs.length rc, .slice wa wn wc]] w fun e w' => e = .returned (.int .i64 (judgeK p s rs cs)) ∧ Below w.heap.size w w' := by
  have hB := (Below.refl w.heap.size w).alloc (Nat.le_refl _) (.cells #[.int .i64 c, .int .i64 n, .int .i64 s, .slice ra rs.length rc, .slice wa wn wc] 77)
  have c0 : Hid (∀ W, Below (w.alloc (.cells #[.int .i64 c, .int .i64 n, .int .i64 s, .slice ra rs.length rc, .slice wa wn wc] 77)).heap.size (w.alloc (.cells #[.int .i64 c, .int .i64 n, .int .i64 s, .slice ra rs.length rc, .slice wa wn wc] 77)) W → Calls Try.prog 77 #[.pointer (some ⟨P, 0, none⟩), .slice ra rs.length rc, .int .i64 s] W fun e w' => e = .returned (.bool (rs.any (hitK (changedK cs s)))) ∧ Hid (Below w.heap.size w w')) := fun W hW => by
    have h1 := hB.trans (hW.mono hB.size)
    refine (hasChanged_any ok ok2 P s cs ha ca cc rs ra rc W ((h1.cell (p := ⟨P, 1, none⟩) hPl).trans hP) (hL.later h1) hf (hR.later h1) hr).mono ?_
    rintro e w' ⟨rfl, h⟩
    exact ⟨rfl, h1.trans (h.mono h1.size)⟩
  have HX := put_by (Cls.new w [.int .i64 c, .int .i64 n, .int .i64 s, .slice ra rs.length rc, .slice wa wn wc] 77)
  have HB := put_by hB
  have p0 : (w.alloc (.cells #[.int .i64 c, .int .i64 n, .int .i64 s, .slice ra rs.length rc, .slice wa wn wc] 77)).cell? ⟨P, 0, none⟩ = some (.int .i64 p) := (hB.cell (p := ⟨P, 0, none⟩) hPl).trans hP0
  have HJ : Hid (∀ r, r = judgeK p s rs cs → ∀ w', Below w.heap.size w w' → (fun e w' => e = Ending.returned (.int .i64 (judgeK p s rs cs)) ∧ Below w.heap.size w w') (.returned (.int .i64 r)) w') := fun r h w' h2 => by rw [h]; exact ⟨rfl, h2⟩
  generalize hpost : (fun (e : Ending) (w' : World) => e = .returned (.int .i64 (judgeK p s rs cs)) ∧ Below w.heap.size w w') = Q at HJ ⊢
  clear hP0 hP hL hf hR hr hB hpost
  unfold judgeK at HJ
  generalize rs.any (hitK (changedK cs s)) = t at c0 HJ
  generalize rs.length = rn at c0 HX HB p0 ⊢
  go_enter Try.func53, Try.ntmps53
  go_upto_region 1 with (fail)
  generalize w.alloc (.cells #[.int .i64 c, .int .i64 n, .int .i64 s, .slice ra rn rc, .slice wa wn wc] 77) = W0 at HX HB p0 c0 ⊢
  obtain ⟨x2, -⟩ := HX.out 2 _ rfl
  obtain ⟨x3, -⟩ := HX.out 3 _ rfl
  by_cases hps : p ≤ s
  · have HF : Hid (2 = if p ≤ s then (2 : Int) else if t then 19 else 0) := (if_pos hps).symm
    go_quiet (fail)
    go_wp2
    exact HJ.out _ HF.out _ (drawn_below HB.out _)
  · go_quiet (fail)
    have cD : Hid (∀ j, Calls Try.prog 77 #[.pointer (some ⟨P, 0, none⟩), .slice ra rn rc, .int .i64 s] (W0.drewN j) fun e w' => e = .returned (.bool t) ∧ Hid (Below w.heap.size w w')) := fun j => c0.out _ (drawn_below (Below.refl _ _) j)
    cases t with
    | true =>
      have HF : Hid (19 = if p ≤ s then (2 : Int) else if true then 19 else 0) := by rw [if_neg hps]; exact rfl
      go_wp2_with (go_at_call 77; (with_reducible refine (cD.out _).mono ?_); rintro e w1 ⟨rfl, H1⟩)
      exact HJ.out _ HF.out _ H1.out
    | false =>
      have HF : Hid (0 = if p ≤ s then (2 : Int) else if false then 19 else 0) := by rw [if_neg hps]; exact rfl
      go_wp2_with (go_at_call 77; (with_reducible refine (cD.out _).mono ?_); rintro e w1 ⟨rfl, H1⟩)
      exact HJ.out _ HF.out _ H1.out

theorem headF_C (r : List Cel) (ks : List Int) : headF (fun c : Cel => cmpK c.key ks) r = headC r ks := by
  cases r with
  | nil => rfl
  | cons c r => exact cmpK_eq c.key ks

/-- where a key stands among cells, told -/
def FcPost (es : List Cel) (ks : List Int) (w : World) (e : Ending) (w' : World) : Prop := ∃ (q : Nat) (t : Bool), e = .returned (.tuple #[.int .i64 q, .bool t]) ∧ Hid ((∃ l r, es = l ++ r ∧ l.length = q ∧ headC r ks = t ∧ (∀ y ∈ l, ahead y.key ks = true) ∧ (∀ y ∈ r, ahead y.key ks = false)) ∧ Below w.heap.size w w')

set_option maxRecDepth 100000 in
set_option maxHeartbeats 1000000 in
theorem findCell_any (ok : Nat → Prop) (es : List Cel) (hl : es.length ≤ 140737488351232) (ha : AscC es) (ao : Option Addr) (cap : Nat) (ko : Option Addr) (kc : Nat) (ks : List Int) (w : World) (he : Lies kCel ok w ao cap es) (hf : Octs w ko kc ks) :
    Calls Try.prog 78 #[.slice ao es.length cap, .slice ko ks.length kc] w fun e w' => FcPost es ks w e w' := by
  generalize hpost : (fun e w' => FcPost es ks w e w') = Q
  have HP : Hid (∀ e w', FcPost es ks w e w' → Q e w') := fun e w' h => by rw [← hpost]; exact h
  clear hpost
  have c : Hid (Calls Try.prog 102 #[.slice ao es.length cap, .slice ko ks.length kc, .func (.func 103) #[] #[]] w fun e w' => FcPost es ks w e w') := by
    refine (findC_any ok es hl ha ao cap ko kc ks w he hf).mono ?_
    rintro e w' ⟨l, r, h1, h2, h3, rfl, h4⟩
    refine ⟨_, _, rfl, ⟨l, r, h1, rfl, (headF_C r ks).symm, fun y hy => cmpK_neg.1 (h2 y hy), fun y hy => ?_⟩, h4⟩
    have h6 : 0 ≤ cmpK y.key ks := h3 y hy
    cases q : ahead y.key ks with
    | false => rfl
    | true => have := cmpK_neg.2 q; omega
  clear he hf
  generalize es.length = n at c
  generalize ks.length = m at c
  go_enter Try.func78, Try.ntmps78
  go_wp2_with (go_at_call 102; (with_reducible refine c.out.mono ?_); rintro e w1 ⟨p, q, rfl, H⟩)
  exact HP.out _ _ ⟨p, q, rfl, H⟩

end Go.Proofs.Ytjjdednlddnllaa
