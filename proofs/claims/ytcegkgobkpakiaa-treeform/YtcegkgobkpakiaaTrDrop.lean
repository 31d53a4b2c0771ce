/- A tree without a key: what the program's without comes to, at a leaf. -/
import Derived.Test.YtcegkgobkpakiaaTrDropP
namespace Go.Proofs.Ytcegkgobkpakiaa
open Go.ChangeShapes Go.WideShapes Go.ChangeAt Go.RowKit

/-- what without comes to -/
def DropPost (ok : Nat → Prop) (h : Nat) (t : Tr h) (key : List Int) (w : World) (e : Ending) (w' : World) : Prop :=
  ∃ r u v, Shrunk h t key r ∧ e = .returned (.agg #[u, v]) ∧ (kNd h).rel ok w' r [u, v] ∧ Below w.heap.size w w'

theorem kept_two {p : Nat → Prop} (W : World) (B : Nat) (u v : Value) : Kept (fun b => p b ∧ b ≠ B) W ((W.setCell ⟨B, 0, none⟩ u).setCell ⟨B, 1, none⟩ v) :=
  ⟨by simp, fun b _ ho => (heap_setCell_other _ _ _ _ ho.2).trans (heap_setCell_other _ _ _ _ ho.2)⟩

set_option maxHeartbeats 8000000 in
theorem without_leaf (ok : Nat → Prop) (key : List Int) (es : List Ent) (hq : Wd 0 es) (hh : hasK es key = true) (u v : Value) (ka : Option Addr) (kc : Nat) (w : World) (hok : Fresh ok w) (hr : (kNd 0).rel ok w es [u, v]) (ho : Octs w ka kc key) :
    Calls Try.prog 30 #[.agg #[u, v], .slice ka key.length kc] w fun e w' => DropPost ok 0 es key w e w' := by
  obtain ⟨a, c, b, d, e, hL, hP, -, -⟩ := (show Both kEnt ok w es [] _ from hr)
  simp only [List.cons.injEq, List.length_nil, and_true] at e
  obtain ⟨rfl, rfl⟩ := e
  have h4 : es.length ≤ 4 := hq.most
  have hasc : Asc es := hq.asc
  obtain ⟨n, hn⟩ : ∃ n, n = es.length := ⟨_, rfl⟩
  obtain ⟨km, hkm⟩ : ∃ km, km = key.length := ⟨_, rfl⟩
  have cI : Hid (∀ W : World, Four w (.slice a n c) (.slice b 0 d) (.slice none 0 0) (.slice none 0 0) W → Calls Try.prog 33 #[.agg #[.slice a n c, .slice b 0 d]] W fun e w' => e = .returned (.bool true) ∧ Hid (Four w (.slice a n c) (.slice b 0 d) (.slice none 0 0) (.slice none 0 0) w')) := fun W hW =>
    (isLeaf_any a b n 0 c d W).mono fun e w' hh => ⟨hh.1, hW.later hh.2⟩
  have cF : Hid (∀ W : World, Four w (.slice a n c) (.slice b 0 d) (.slice none 0 0) (.slice none 0 0) W → Calls Try.prog 34 #[.agg #[.slice a n c, .slice b 0 d], .slice ka km kc] W fun e w' =>
      ∃ (i : Nat) (y : Bool), e = .returned (.tuple #[.int .i64 i, .bool y]) ∧ i + 1 ≤ n ∧ Hid (∀ es' : List Ent, es' = es.take i ++ [] ++ es.drop (i + 1) → Shrunk 0 es key es') ∧ Hid (Four w (.slice a n c) (.slice b 0 d) (.slice none 0 0) (.slice none 0 0) w')) := fun W hW => by
    have := find_any ok es (by omega) hasc a b c 0 d ka kc key W (hL.later hW.below) (ho.later hW.below)
    rw [← hn, ← hkm] at this
    refine this.mono ?_
    rintro e w' ⟨l, r, e1, e2, e3, rfl, hb⟩
    obtain ⟨g1, g2⟩ := drop_leaf hq hh e1 e2 e3
    exact ⟨l.length, _, rfl, by omega, g2, hW.later hb⟩
  have cR : Hid (∀ (W : World) (f : Nat) (tI : Int), tI = (f : Int) + 1 → Four w (.slice a n c) (.slice b 0 d) (.slice none 0 0) (.slice none 0 0) W → f + 1 ≤ n → (∀ es' : List Ent, es' = es.take f ++ [] ++ es.drop (f + 1) → Shrunk 0 es key es') → Calls Try.prog 35 #[.slice a n c, .int .i64 f, .int .i64 tI, .slice none 0 0] W fun e w' =>
      ∃ (a' : Option Addr) (q c' : Nat), e = .returned (.slice a' q c') ∧ Hid (∃ es' : List Ent, q = es'.length ∧ Lies kEnt (fun b => ok b ∧ b ≠ w.heap.size + 1) w' a' c' es' ∧ Ples a' c' ∧ Shrunk 0 es key es') ∧ Hid (Four w (.slice a n c) (.slice b 0 d) (.slice none 0 0) (.slice none 0 0) w')) := fun W f tI htI hW hf hs => by
    have hsz := World.block_lt_of_cell? _ _ hW.two.c0
    have hWf : Fresh (fun b => ok b ∧ b ≠ w.heap.size + 1) W := fun b hb => ⟨hok b (Nat.le_trans hW.below.size hb), fun e => by subst e; exact absurd hsz (by simpa using hb)⟩
    have := replacedE_any kEnt (fun b => ok b ∧ b ≠ w.heap.size + 1) es [] f (f + 1) (by omega) (by omega) (by omega) (by simp) a none c 0 W hWf (hL.move (Kept.of_below hW.below) (fun b hb ho => ⟨ho, by omega⟩)) hP (Lies.nil _ _ _ (fun _ => rfl)) Ples.none
    rw [← hn, show ((f + 1 : Nat) : Int) = tI by omega] at this
    refine this.mono ?_
    rintro e w' ⟨a', c', rfl, q1, q2, q3⟩
    exact ⟨a', _, c', rfl, ⟨_, rfl, q1, q2, hs _ rfl⟩, hW.later q3⟩
  have H0 := put_by (Four.new w (.slice a n c) (.slice b 0 d) (.slice none 0 0) (.slice none 0 0) 53 53)
  rw [← hn, ← hkm]
  rw [← hn] at h4
  clear hL hP hr ho hn hkm hasc hq hok hh
  go_enter Try.func30, Try.ntmps30
  go_wp2_with (first
    | (go_at_call 33; (with_reducible refine (cI.out _ H0.out).mono ?_); rintro e w1 ⟨rfl, hF1⟩; obtain ⟨k0, k1, -, -⟩ := id hF1.out.one)
    | (go_at_call 34; (with_reducible refine (cF.out _ hF1.out).mono ?_); rintro e w2 ⟨i, y, rfl, hi, HP, hF2⟩; obtain ⟨k4, k5, -, -⟩ := id hF2.out.one)
    | (go_at_call 35; (with_reducible refine (cR.out _ _ _ (by first | omega | (rw [IntKind.wrap_i64]; omega)) hF2.out hi HP.out).mono ?_); rintro e w3 ⟨a', q, c', rfl, h3, hF3⟩; obtain ⟨k6, k7, k8, k9⟩ := id hF3.out.two))
  have h2 := hF3.out.two.set (.slice a' q c') (.slice none 0 0)
  have h5 := below_two hF3.out.below (Nat.le_succ _) (.slice a' q c') (.slice none 0 0)
  have h6 := kept_two (p := ok) w3 (w.heap.size + 1) (.slice a' q c') (.slice none 0 0)
  have z0 := h2.c0
  have z1 := h2.c1
  obtain ⟨es', g1, g2, g3, g4⟩ := h3.out
  generalize (w3.setCell _ _).setCell _ _ = W9 at h2 h5 h6 z0 z1 ⊢
  subst g1
  exact bodyPost_ret (v := .agg #[.slice a' es'.length c', .slice none 0 0]) (by simp [results, Try.results30, go_sem, asAddr, z0, z1]) rfl
    ⟨es', _, _, g4, rfl, (show Both kEnt ok W9 es' [] _ from ⟨a', c', none, 0, rfl, g2.move h6 (fun _ _ ho => ho.1), g3, Lies.nil _ _ _ (fun _ => rfl), Ples.none⟩), h5⟩

end Go.Proofs.Ytcegkgobkpakiaa
