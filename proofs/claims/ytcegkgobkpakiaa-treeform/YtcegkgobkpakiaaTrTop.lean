/- The root of a tree; a tree without a key, of whatever height. -/
import Derived.Test.YtcegkgobkpakiaaTrDrop2
namespace Go.Proofs.Ytcegkgobkpakiaa
open Go.ChangeShapes Go.WideShapes Go.ChangeAt Go.RowKit

theorem without_any (key : List Int) (ka : Option Addr) (kc : Nat) : ∀ (h : Nat) (ok : Nat → Prop) (t : Tr h) (_ : Wd h t) (_ : hasK (flat h t) key = true) (u v : Value) (W : World) (_ : Fresh ok W) (_ : (kNd h).rel ok W t [u, v]) (_ : Octs W ka kc key),
    Calls Try.prog 30 #[.agg #[u, v], .slice ka key.length kc] W fun e w' => DropPost ok h t key W e w'
  | 0, ok, es, hq, hh, u, v, w, hok, hr, ho => without_leaf ok key es hq hh u v ka kc w hok hr ho
  | h + 1, ok, ks, hq, hh, u, v, w, hok, hr, ho => without_inner ok key h ks hq hh u v ka kc w hok hr ho (without_any key ka kc h)

theorem topped_same (a b : Option Addr) (n c m d : Nat) (hm : ¬ m = 1) (w : World) :
    Calls Try.prog 28 #[.agg #[.slice a n c, .slice b m d]] w fun e w' => e = .returned (.agg #[.slice a n c, .slice b m d]) ∧ Below w.heap.size w w' := by
  have hm1 : ((m : Int) == 1) = false := by
    rw [beq_eq_false_iff_ne]
    omega
  clear hm
  go_enter Try.func28, Try.ntmps28
  go_wp2
  refine bodyPost_ret (v := .agg #[.slice a n c, .slice b m d]) (by simp [results, Try.results28, go_sem]) rfl ⟨rfl, ?_⟩
  have hb : Below w.heap.size w (w.alloc (.cells #[.slice a n c, .slice b m d] 53)) := (Below.refl _ w).alloc (Nat.le_refl _) _
  exact hb.alloc (by simp) _

theorem topped_one (a : Option Addr) (n c bb off d : Nat) (x1 x2 : Option Addr) (y1 z1 y2 z2 : Nat) (w : World) (hb : bb < w.heap.size) (h0 : w.cell? ⟨bb, off, none⟩ = some (.slice x1 y1 z1)) (h1 : w.cell? ⟨bb, off + 1, none⟩ = some (.slice x2 y2 z2)) :
    Calls Try.prog 28 #[.agg #[.slice a n c, .slice (some ⟨bb, off, none⟩) 1 d]] w fun e w' => e = .returned (.agg #[.slice x1 y1 z1, .slice x2 y2 z2]) ∧ Below w.heap.size w w' := by
  have hb2 : bb < w.heap.size + 1 := by omega
  have hb3 : ¬ bb = w.heap.size := by omega
  have hb4 : ¬ bb = w.heap.size + 1 := by omega
  go_enter Try.func28, Try.ntmps28
  go_wp2
  refine bodyPost_ret (v := .agg #[.slice x1 y1 z1, .slice x2 y2 z2]) (by simp [results, Try.results28, go_sem]) rfl ⟨rfl, ?_⟩
  have hb : Below w.heap.size w (w.alloc (.cells #[.slice a n c, .slice (some ⟨bb, off, none⟩) 1 d] 53)) := (Below.refl _ w).alloc (Nat.le_refl _) _
  exact hb.alloc (by simp) _

/-- a version: the root of a tree, in memory, and what it holds -/
def Vers (ok : Nat → Prop) (w : World) (l : List Ent) (cs : List Value) : Prop := ∃ (h : Nat) (t : Tr h), (kNd h).rel ok w t cs ∧ Wd h t ∧ flat h t = l

/-- a node of kids that were put an entry into, topped -/
theorem topped_put (ok : Nat → Prop) (h : Nat) (t : Tr h) (x : Ent) (rs : List (Tr h)) (hd : Wd h t) (hg : Grown h t x rs) (a : Option Addr) (c : Nat) (w : World) (hL : Lies (kNd h) ok w a c rs) (hP : Ples a c) :
    Calls Try.prog 28 #[.agg #[.slice none 0 0, .slice a rs.length c]] w fun e w' => ∃ a1 n1 c1 b1 m1 d1, e = .returned (.agg #[.slice a1 n1 c1, .slice b1 m1 d1]) ∧ Vers ok w' (putK (flat h t) x) [.slice a1 n1 c1, .slice b1 m1 d1] ∧ Below w.heap.size w w' := by
  rcases root_put hd hg with ⟨r, rfl, e1, e2⟩ | ⟨r, s, rfl, e1, e2⟩
  · obtain ⟨bb, off, a1, n1, c1, b1, m1, d1, rfl, hb, _, hr, hc⟩ := kid_cells hL (k := 0) (by simp)
    obtain ⟨q0, q1⟩ := hc w (Below.refl _ _)
    refine (topped_one none 0 0 bb off c a1 b1 n1 c1 m1 d1 w hb (by simpa using q0) (by simpa using q1)).mono ?_
    rintro e w' ⟨rfl, hb'⟩
    exact ⟨a1, n1, c1, b1, m1, d1, rfl, ⟨h, r, (kNd h).move (Kept.of_below hb') (fun _ _ q => q) hr, e2, e1⟩, hb'⟩
  · refine (topped_same none a 0 0 2 c (by decide) w).mono ?_
    rintro e w' ⟨rfl, hb'⟩
    refine ⟨none, 0, 0, a, 2, c, rfl, ⟨h + 1, [r, s], ?_, e2, e1⟩, hb'⟩
    exact (show Both (kNd h) ok w' [] [r, s] _ from ⟨none, 0, a, c, rfl, Lies.nil _ _ _ (fun _ => rfl), Ples.none, hL.later hb', hP⟩)

/-- a node that a key was dropped from, topped -/
theorem topped_drop (ok : Nat → Prop) (key : List Int) (w : World) : ∀ (h : Nat) (t r : Tr h) (_ : Wd h t) (_ : Shrunk h t key r) (a b : Option Addr) (n c m d : Nat) (_ : (kNd h).rel ok w r [.slice a n c, .slice b m d]),
    Calls Try.prog 28 #[.agg #[.slice a n c, .slice b m d]] w fun e w' => ∃ a1 n1 c1 b1 m1 d1, e = .returned (.agg #[.slice a1 n1 c1, .slice b1 m1 d1]) ∧ Vers ok w' (dropK (flat h t) key) [.slice a1 n1 c1, .slice b1 m1 d1] ∧ Below w.heap.size w w'
  | 0, t, r, hd, hs, a, b, n, c, m, d, hr => by
    have hm : m = 0 := by
      obtain ⟨_, _, _, _, e, _⟩ := (show Both kEnt ok w (show List Ent from r) [] _ from hr)
      simp only [List.cons.injEq, Value.slice.injEq, and_true, List.length_nil] at e
      exact e.2.2.1
    refine (topped_same a b n c m d (by omega) w).mono ?_
    rintro e w' ⟨rfl, hb'⟩
    refine ⟨a, n, c, b, m, d, rfl, ⟨0, r, (kNd 0).move (Kept.of_below hb') (fun _ _ q => q) hr, ⟨hs.most, (fun h => absurd h (Nat.lt_irrefl 0)), hs.kids, ?_⟩, hs.flat⟩, hb'⟩
    rw [hs.flat]
    exact hd.asc.drop key
  | h + 1, t, r, hd, hs, a, b, n, c, m, d, hr => by
    change List (Tr h) at r
    have ha : Asc (flat (h + 1) r) := by rw [hs.flat]; exact hd.asc.drop key
    have h2 := hd.some (Nat.succ_pos _)
    have h1 := hs.least
    have hrl : deg (h + 1) r = r.length := rfl
    obtain ⟨a', c', b', d', e, -, -, hL, hP⟩ := (show Both (kNd h) ok w [] r _ from hr)
    simp only [List.cons.injEq, Value.slice.injEq, and_true, List.length_nil] at e
    obtain ⟨⟨rfl, rfl, rfl⟩, rfl, rfl, rfl⟩ := e
    by_cases h9 : r.length = 1
    · match r, h9, hs, ha, hL with
      | [k], _, hs, ha, hL =>
        obtain ⟨bb, off, a1, n1, c1, b1, m1, d1, rfl, hb, _, hr, hc⟩ := kid_cells hL (k := 0) (by simp)
        obtain ⟨q0, q1⟩ := hc w (Below.refl _ _)
        refine (topped_one a 0 c bb off d a1 b1 n1 c1 m1 d1 w hb (by simpa using q0) (by simpa using q1)).mono ?_
        rintro e w' ⟨rfl, hb'⟩
        have hk := (Wk_node [k]).1 hs.kids k List.mem_cons_self
        have ef : flat h k = flat (h + 1) [k] := by rw [flat_node]; simp
        refine ⟨a1, n1, c1, b1, m1, d1, rfl, ⟨h, k, (kNd h).move (Kept.of_below hb') (fun _ _ q => q) hr, ⟨hk.2.1, fun _ => hk.1, hk.2.2, by rw [ef]; exact ha⟩, by rw [ef]; exact hs.flat⟩, hb'⟩
    · refine (topped_same a b 0 c r.length d h9 w).mono ?_
      rintro e w' ⟨rfl, hb'⟩
      exact ⟨a, 0, c, b, _, d, rfl, ⟨h + 1, r, (kNd (h + 1)).move (Kept.of_below hb') (fun _ _ q => q) hr, ⟨hs.most, fun _ => by omega, hs.kids, ha⟩, hs.flat⟩, hb'⟩

end Go.Proofs.Ytcegkgobkpakiaa
