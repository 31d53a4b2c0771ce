/- The law's sameIntent of two that are the same; octets: a row of its own. -/
import Derived.Test.YtjilcljchdmbjaaSameItt
import Derived.Test.YtjilcljchdmbjaaOctAppendAt
namespace Go.Proofs.Ytjilcljchdmbjaa
open Go.ChangeShapes Go.WideShapes Go.ChangeAt Go.RowKit

set_option maxRecDepth 100000 in
set_option maxHeartbeats 2000000 in
theorem sameIntent_yes (ok ok2 : Nat → Prop) (c n s : Int) (rs : List Ent) (ws : List Wt) (ra rb wa wb : Option Addr) (rc rd wc wd : Nat) (w : World) (h1 : ItIs ok w rs ws ra rc wa wc) (h2 : ItIs ok2 w rs ws rb rd wb wd) :
    Calls Try.prog 9 #[.agg #[.int .i64 c, .int .i64 n, .int .i64 s, .slice ra rs.length rc, .slice wa ws.length wc], .agg #[.int .i64 c, .int .i64 n, .int .i64 s, .slice rb rs.length rd, .slice wb ws.length wd]] w fun e w' => e = .returned (.bool true) ∧ Below w.heap.size w w' := by
  have c1 : Hid (∀ V, Below w.heap.size w V → Calls Try.prog 21 #[.slice ra rs.length rc, .slice rb rs.length rd] V fun e w' => e = .returned (.bool true) ∧ Below V.heap.size V w') := fun V hV => sameRanges_yes ok ok2 rs h1.few.1 ra rb rc rd V (h1.reads.later hV) (h2.reads.later hV)
  have c2 : Hid (∀ V, Below w.heap.size w V → Calls Try.prog 22 #[.slice wa ws.length wc, .slice wb ws.length wd] V fun e w' => e = .returned (.bool true) ∧ Below V.heap.size V w') := fun V hV => sameWrites_yes ok ok2 ws h1.few.2 wa wb wc wd V (h1.writes.later hV) (h2.writes.later hV)
  clear h1 h2
  generalize rs.length = nr at c1 ⊢
  generalize ws.length = nw at c2 ⊢
  have HB := put_by (((Below.refl w.heap.size w).alloc (Nat.le_refl _) (.cells #[.int .i64 c, .int .i64 n, .int .i64 s, .slice ra nr rc, .slice wa nw wc] 26)).alloc (by simp) (.cells #[.int .i64 c, .int .i64 n, .int .i64 s, .slice rb nr rd, .slice wb nw wd] 26))
  obtain ⟨V, hV⟩ : ∃ V, V = (w.alloc (.cells #[.int .i64 c, .int .i64 n, .int .i64 s, .slice ra nr rc, .slice wa nw wc] 26)).alloc (.cells #[.int .i64 c, .int .i64 n, .int .i64 s, .slice rb nr rd, .slice wb nw wd] 26) := ⟨_, rfl⟩
  have HK : Hid (∀ V', Below V.heap.size V V' → V'.cell? ⟨w.heap.size, 4, none⟩ = some (.slice wa nw wc) ∧ V'.cell? ⟨w.heap.size + 1, 4, none⟩ = some (.slice wb nw wd)) := fun V' hV' => by
    subst hV
    exact ⟨(hV'.cell (p := ⟨w.heap.size, 4, none⟩) (by simp; omega)).trans (by simp), (hV'.cell (p := ⟨w.heap.size + 1, 4, none⟩) (by simp)).trans (by simp)⟩
  have x0 : V.cell? ⟨w.heap.size, 0, none⟩ = some (.int .i64 c) := by subst hV; simp
  have x1 : V.cell? ⟨w.heap.size, 1, none⟩ = some (.int .i64 n) := by subst hV; simp
  have x2 : V.cell? ⟨w.heap.size, 2, none⟩ = some (.int .i64 s) := by subst hV; simp
  have x3 : V.cell? ⟨w.heap.size, 3, none⟩ = some (.slice ra nr rc) := by subst hV; simp
  have z0 : V.cell? ⟨w.heap.size + 1, 0, none⟩ = some (.int .i64 c) := by subst hV; simp
  have z1 : V.cell? ⟨w.heap.size + 1, 1, none⟩ = some (.int .i64 n) := by subst hV; simp
  have z2 : V.cell? ⟨w.heap.size + 1, 2, none⟩ = some (.int .i64 s) := by subst hV; simp
  have z3 : V.cell? ⟨w.heap.size + 1, 3, none⟩ = some (.slice rb nr rd) := by subst hV; simp
  rw [← hV] at HB
  have HV := put_by hV
  clear hV
  go_enter Try.func9, Try.ntmps9
  go_upto_region 1 with (fail)
  rw [← HV.out]
  clear HV
  go_wp2_with (first
    | (go_at_call 21; (with_reducible refine (c1.out _ HB.out).mono ?_); clear c1; rintro e w1 ⟨rfl, b1⟩; obtain ⟨k1, k2⟩ := HK.out _ b1; have HB1 := put_by (HB.out.trans (b1.mono HB.out.size)); clear b1)
    | (go_at_call 22; (with_reducible refine (c2.out _ HB1.out).mono ?_); clear c2; rintro e w2 ⟨rfl, b2⟩; have HB2 := put_by (HB1.out.trans (b2.mono HB1.out.size)); clear b2))
  go_ret
  exact ⟨rfl, HB2.out⟩

theorem own_plesL {w : World} {base n size : Nat} {e : TypeId} {a : Option Addr} {m c : Nat} {vs : List Value} (h : w.ownsRow base e size (.slice a m c) n vs) : Ples a c ∧ ∀ ad, a = some ad → ad.block < w.heap.size := by
  rcases h.2 with ⟨h1, h2⟩ | ⟨g, cap, cur, h1, -⟩
  · simp only [Value.slice.injEq] at h1
    obtain ⟨rfl, -, rfl⟩ := h1
    exact ⟨Ples.none, fun ad e => by cases e⟩
  · simp only [Value.slice.injEq] at h1
    obtain ⟨rfl, rfl, rfl⟩ := h1
    exact ⟨Ples.some _ _ _, fun ad e => by cases e; exact (h.lt g rfl).2⟩

set_option maxRecDepth 100000 in
set_option maxHeartbeats 1000000 in
theorem octets_all (ao : Option Addr) (cap : Nat) (xs : List Int) (w : World) (he : Octs w ao cap xs) :
    Calls Try.prog 7 #[.slice ao xs.length cap] w fun e w' => ∃ ao' cap', e = .returned (.slice ao' xs.length cap') ∧ Octs w' ao' cap' xs ∧ Ples ao' cap' ∧ (∀ a, ao' = some a → a.block < w'.heap.size) ∧ Below w.heap.size w w' := by
  have hb := he.2.2.2.1
  have hl := he.2.1
  obtain ⟨n, hn⟩ : ∃ n, n = xs.length := ⟨_, rfl⟩
  rw [← hn] at hl ⊢
  have HN : Hid (n = xs.length) := hn
  clear hn
  go_enter Try.func7, Try.ntmps7
  go_wp2_with (at_builtin; refine wpList_append_oct rfl (.const (.slice none 0 0)) (.tmp 3) rfl w.heap.size (.slice none 0 0) 0 [] rfl (World.ownsRow_nil _ _ _ _) ao cap n xs rfl HN.out he (by omega) (Nat.le_refl _) ?_; intro v' w' hown hg)
  rw [Nat.zero_add, List.nil_append] at hown
  obtain ⟨ao', cap', rfl, ho⟩ := own_octs HN.out rfl (by rw [← HN.out]; exact hl) hb hown
  obtain ⟨g1, g2⟩ := own_plesL hown
  rw [← HN.out]
  go_wp2
  go_ret
  exact ⟨_, _, rfl, ho, g1, g2, (Below.refl _ w).grown hg (Nat.le_refl _) (fun g h => by cases h)⟩

end Go.Proofs.Ytjilcljchdmbjaa
