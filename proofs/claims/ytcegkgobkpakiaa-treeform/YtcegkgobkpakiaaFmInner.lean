/- Between which keys the kids of a node lie; which nodes have been met. -/
import Derived.Test.YtcegkgobkpakiaaFmListed
import Derived.Test.YtcegkgobkpakiaaFmCells
import Derived.Test.YtcegkgobkpakiaaLessBytes
import Derived.Deep.Cut
namespace Go.Proofs.Ytcegkgobkpakiaa
open Go.ChangeShapes Go.WideShapes Go.ChangeAt Go.RowKit

/-- all keys from one on, ahead of another one; none is no bound -/
def Bnd (lo hi : List Int) (l : List Ent) : Prop := ∀ e ∈ l, (lo = [] ∨ ahead e.1 lo = false) ∧ (hi = [] ∨ ahead e.1 hi = true)

theorem flat_mid {h : Nat} {ks : List (Tr h)} {c : Nat} (hc : c < ks.length) : ∃ A B, ks.flatMap (flat h) = A ++ (flat h ks[c] ++ B) ∧ (∀ hc2 : c + 1 < ks.length, ∃ B2, B = flat h ks[c + 1] ++ B2) := by
  refine ⟨(ks.take c).flatMap (flat h), (ks.drop (c + 1)).flatMap (flat h), ?_, fun hc2 => ?_⟩
  · have : ks = ks.take c ++ ks[c] :: ks.drop (c + 1) := by rw [← List.drop_eq_getElem_cons hc, List.take_append_drop]
    have h2 := congrArg (List.flatMap (flat h)) this
    rw [List.flatMap_append, List.flatMap_cons] at h2
    exact h2
  · rw [List.drop_eq_getElem_cons hc2, List.flatMap_cons]
    exact ⟨_, rfl⟩

theorem kid_asc {h : Nat} {ks : List (Tr h)} {c : Nat} (hc : c < ks.length) (ha : Asc (ks.flatMap (flat h))) : Asc (flat h ks[c]) := by
  obtain ⟨A, B, e, -⟩ := flat_mid hc
  rw [e] at ha
  exact (List.pairwise_append.1 (List.pairwise_append.1 ha).2.1).1

theorem kid_mem {h : Nat} {ks : List (Tr h)} {c : Nat} (hc : c < ks.length) : ∀ e ∈ flat h ks[c], e ∈ ks.flatMap (flat h) := fun _ he => List.mem_flatMap.2 ⟨_, List.getElem_mem hc, he⟩

theorem kid_bnd {h : Nat} {ks : List (Tr h)} (hw : ∀ k ∈ ks, Wn h k) (ha : Asc (ks.flatMap (flat h))) {lo hi : List Int} (hb : Bnd lo hi (ks.flatMap (flat h))) {c : Nat} (hc : c < ks.length) {lo2 hi2 : List Int} (h1 : lo2 = lo ∨ lo2 = leastK h ks[c]) (h2 : hi2 = hi ∨ ∃ hc2 : c + 1 < ks.length, hi2 = leastK h ks[c + 1]) : Bnd lo2 hi2 (flat h ks[c]) := by
  intro e he
  have hm := hb e (kid_mem hc e he)
  refine ⟨?_, ?_⟩
  · rcases h1 with rfl | rfl
    · exact hm.1
    · exact .inr (least_le (kid_asc hc ha) e he)
  · rcases h2 with rfl | ⟨hc2, rfl⟩
    · exact hm.2
    · right
      obtain ⟨A, B, e1, e2⟩ := flat_mid hc
      obtain ⟨B2, rfl⟩ := e2 hc2
      rw [e1] at ha
      have h3 := (List.pairwise_append.1 (List.pairwise_append.1 ha).2.1).2.2
      have hwn := hw _ (List.getElem_mem hc2)
      obtain ⟨y, hy, hye⟩ := least_mem (flat_pos h ks[c + 1] (by have := hwn.1; omega) hwn.2.2)
      rw [← hye]
      exact h3 e he y (List.mem_append_left _ hy)

/-- how often each node has been met -/
structure Used (W : World) (gb n : Nat) (u : Nat → Int) : Prop where
  cell : ∀ j, j < n → W.cell? ⟨gb, j, none⟩ = some (.int .i64 (u j))
  frozen : ∀ j, j < n → W.frozen? ⟨gb, j, none⟩ = false

theorem Used.move {W W' : World} {gb n : Nat} {u : Nat → Int} (h : Used W gb n u) (e : W'.heap[gb]? = W.heap[gb]?) : Used W' gb n u :=
  ⟨fun j hj => (World.cell?_of_block (w := W) e).trans (h.cell j hj), fun j hj => (World.frozen?_of_block (w := W) e).trans (h.frozen j hj)⟩

theorem Used.stored {W : World} {gb n : Nat} {u : Nat → Int} (h : Used W gb n u) (j : Nat) (hj : j < n) (x : Int) : Used (W.setCell ⟨gb, j, none⟩ (.int .i64 x)) gb n (fun i => if i = j then x else u i) := by
  refine ⟨fun i hi => ?_, fun i hi => by simp only [World.frozen?_setCell]; exact h.frozen i hi⟩
  by_cases e : i = j
  · subst e
    rw [if_pos rfl]
    exact World.cell?_setCell_same' _ _ _ (by rw [h.cell i hi]; rfl)
  · rw [if_neg e, World.cell?_setCell_other _ _ _ _ (by intro q; cases q; exact e rfl)]
    exact h.cell i hi

/-- one of the first kids, or below it -/
def Met (s : Nat → Nat) (n i c j : Nat) : Prop := ∃ c', c' < c ∧ (s i + c' = j ∨ Und s n (s i + c') j)

/-- what has been met when the first kids have been gone through -/
def MetU (s : Nat → Nat) (n i c : Nat) (u u' : Nat → Int) : Prop := (∀ j, Met s n i c j → u' j = 1) ∧ (∀ j, ¬ Met s n i c j → u' j = u j)

theorem metU_zero (s : Nat → Nat) (n i : Nat) (u : Nat → Int) : MetU s n i 0 u u := ⟨fun _ ⟨_, h, _⟩ => absurd h (Nat.not_lt_zero _), fun _ _ => rfl⟩

section
variable {F : List Nd} {s : Nat → Nat} {i c : Nat} {u u' u'' : Nat → Int}

theorem met_all (hB : Bfs F s) (hi : i < F.length) (j : Nat) : Met s F.length i (kidsOf F[i]).length j ↔ Und s F.length i j := by
  have hs := hB.step i hi
  refine ⟨fun ⟨c', h1, h2⟩ => ?_, fun h => ?_⟩
  · rcases h2 with h2 | h2
    · exact .kid hi (by omega) (by omega)
    · exact .more hi (by omega) (by omega) h2
  · obtain ⟨m, h1, h2, h3⟩ := h.cases_kid
    refine ⟨m - s i, by omega, ?_⟩
    rw [show s i + (m - s i) = m by omega]
    exact h3

theorem met_not (hB : Bfs F s) (hi : i < F.length) (hc : c < (kidsOf F[i]).length) {j : Nat} (hj : s i + c = j ∨ Und s F.length (s i + c) j) : ¬ Met s F.length i c j := by
  have hs := hB.step i hi
  rintro ⟨c', h1, h2⟩
  exact hB.apart hi (m := s i + c') (m' := s i + c) ⟨by omega, by omega⟩ ⟨by omega, by omega⟩ (by omega) j h2 hj

/-- the next kid has not been met -/
theorem metU_next (hB : Bfs F s) (hi : i < F.length) (hc : c < (kidsOf F[i]).length) (h0 : ∀ j, Und s F.length i j → u j = 0) (h : MetU s F.length i c u u') : u' (s i + c) = 0 ∧ ∀ j, Und s F.length (s i + c) j → (if j = s i + c then (1 : Int) else u' j) = 0 := by
  have hs := hB.step i hi
  refine ⟨?_, fun j hj => ?_⟩
  · rw [h.2 _ (met_not hB hi hc (.inl rfl))]
    exact h0 _ (.kid hi (by omega) (by omega))
  · have := (hB.und_lt hj).1
    rw [if_neg (by omega), h.2 _ (met_not hB hi hc (.inr hj))]
    exact h0 _ (.more hi (by omega) (by omega) hj)

theorem metU_step (h : MetU s F.length i c u u') (h1 : ∀ j, Und s F.length (s i + c) j → u'' j = 1) (h2 : ∀ j, ¬ Und s F.length (s i + c) j → u'' j = (if j = s i + c then (1 : Int) else u' j)) : MetU s F.length i (c + 1) u u'' := by
  refine ⟨fun j ⟨c', hc', hj⟩ => ?_, fun j hj => ?_⟩
  · by_cases hu : Und s F.length (s i + c) j
    · exact h1 j hu
    · rw [h2 j hu]
      by_cases e : j = s i + c
      · rw [if_pos e]
      · rw [if_neg e]
        refine h.1 j ⟨c', ?_, hj⟩
        rcases Nat.lt_or_ge c' c with q | q
        · exact q
        · have : c' = c := by omega
          subst this
          rcases hj with hj | hj
          · exact absurd hj.symm e
          · exact absurd hj hu
  · have hu : ¬ Und s F.length (s i + c) j := fun hu => hj ⟨c, Nat.lt_succ_self _, .inr hu⟩
    have e : ¬ j = s i + c := fun e => hj ⟨c, Nat.lt_succ_self _, .inl e.symm⟩
    rw [h2 j hu, if_neg e]
    exact h.2 j (fun ⟨c', a, b⟩ => hj ⟨c', Nat.lt_succ_of_lt a, b⟩)

end

end Go.Proofs.Ytcegkgobkpakiaa

/- A leaf, looked through. -/
namespace Go.Proofs.Ytcegkgobkpakiaa
open Go.ChangeShapes Go.WideShapes Go.ChangeAt Go.RowKit

/-- a node in its variable, all else as it was -/
def LeafI (W : World) (p q r : Value) (V : World) : Prop := Below W.heap.size W V ∧ Three V W.heap.size p q r

theorem LeafI.later {W V V' : World} {p q r : Value} (h : LeafI W p q r V) (hb : Below V.heap.size V V') : LeafI W p q r V' := ⟨h.1.trans (hb.mono h.1.size), h.2.later hb⟩

set_option maxRecDepth 100000 in
set_option maxHeartbeats 16000000 in
theorem below_leaf (tl : List Tn) (gb n : Nat) (la : Option Addr) (lc : Nat) (i : Nat) (es : List Ent) (root : Bool) (hi : i < tl.length) (hget : tl[i] = ⟨es, [], []⟩) (hn : tl.length = n) (hd : es.length ≤ 4) (hroot : root = false → 2 ≤ es.length) (lo hi' : List Int) (hb : Bnd lo hi' es) (loa hia : Option Addr) (loc hic : Nat) (W : World) (hL : Lies kTn (fun b => b < gb) W la lc tl) (hlo : Octs W loa loc lo) (hhi : Octs W hia hic hi') :
    Calls Try.prog 9 #[.slice la n lc, .int .i64 i, .bool root, .slice (some ⟨gb, 0, none⟩) n n, .slice loa lo.length loc, .slice hia hi'.length hic] W fun e w' => ∃ (a : Option Addr) (m c : Nat), e = .returned (.tuple #[.slice a m c, .int .i64 1]) ∧ m = es.length ∧ Lies kEnt (fun b => b < gb) w' a c es ∧ Below W.heap.size W w' := by
  obtain ⟨b4, off, rfl, hb4, hok4, cs, hr, hc⟩ := hL.at hi
  rw [hget] at hr
  obtain ⟨ea, ec, ka, kc, ia, ic, rfl, lE, -, -⟩ := hr
  have d0 : W.cell? ⟨b4, off + i * 3, none⟩ = some (.slice ea es.length ec) := by simpa using hc 0 _ rfl
  have d1 : W.cell? ⟨b4, off + i * 3 + 1, none⟩ = some (.slice ka 0 kc) := hc 1 _ rfl
  have d2 : W.cell? ⟨b4, off + i * 3 + 2, none⟩ = some (.slice ia 0 ic) := hc 2 _ rfl
  have HL := put_by (And.intro lE (And.intro hlo hhi))
  have HB := put_by hb
  obtain ⟨en, hen⟩ : ∃ en, en = es.length := ⟨_, rfl⟩
  have HEN := put_by hen
  rw [← hen] at d0 hd hroot
  obtain ⟨lol, hlol⟩ : ∃ lol, lol = lo.length := ⟨_, rfl⟩
  have HLO := put_by hlol
  obtain ⟨hil, hhil⟩ : ∃ hil, hil = hi'.length := ⟨_, rfl⟩
  have HHI := put_by hhil
  have ii : (i : Int) < (n : Int) := by omega
  rw [← hlol, ← hhil]
  have he4 : (en : Int) ≤ 4 := by omega
  have hx4 : ¬ (4 : Int) < (en : Int) := by omega
  have H0 : Hid (LeafI W (.slice ea en ec) (.slice ka 0 kc) (.slice ia 0 ic) (W.alloc (.cells #[.slice ea en ec, .slice ka 0 kc, .slice ia 0 ic] 60))) := ⟨(Below.refl _ W).alloc (Nat.le_refl _) _, Three.new _ _ _ _ _⟩
  clear hc lE hlo hhi hb hen hlol hhil hget hL hi hn
  cases root
  all_goals
    have h2 : False ∨ True := .inr trivial
    try have h22 : ¬ (en : Int) < 2 := by have := hroot rfl; omega
    clear h2 hroot
    go_enter Try.func9, Try.ntmps9
    go_wp2
    generalize W.alloc (.cells #[.slice ea en ec, .slice ka 0 kc, .slice ia 0 ic] 60) = W1 at H0 ⊢
    go_loopw [15] (fun v wr => ∃ j : Nat, j ≤ en ∧ v = .int .i64 j ∧ Hid (LeafI W (.slice ea en ec) (.slice ka 0 kc) (.slice ia 0 ic) wr)) (fun v _ => en - (intOf v).toNat)
    case atStart => exact ⟨0, Nat.zero_le _, rfl, H0.out⟩
    case round =>
      clear H0
      obtain ⟨j, hj, rfl, HI⟩ := hrel
      by_cases hjl : j < en
      · have hx : j < es.length := by rw [← HEN.out]; exact hjl
        obtain ⟨b5, off5, rfl, hb5, _, cs, ⟨u, v, rfl, ⟨xa, xc, rfl, hxo, -⟩, -⟩, hc⟩ := HL.out.1.at hx
        have k0 : wr.cell? ⟨b5, off5 + j * 2, none⟩ = some (.slice xa (es[j]).1.length xc) := (HI.out.1.cell (p := ⟨b5, off5 + j * 2, none⟩) hb5).trans (by simpa using hc 0 _ rfl)
        have c1 : Hid (∀ V, LeafI W (.slice (some ⟨b5, off5, none⟩) en ec) (.slice ka 0 kc) (.slice ia 0 ic) V → Calls Try.prog 16 #[.slice xa (es[j]).1.length xc, .slice loa lol loc] V fun e w2 => e = .returned (.bool (ahead (es[j]).1 lo)) ∧ Hid (LeafI W (.slice (some ⟨b5, off5, none⟩) en ec) (.slice ka 0 kc) (.slice ia 0 ic) w2)) := fun V hV => by
          have := lessBytes_any xa loa xc loc (es[j]).1 lo V (hxo.later hV.1) (HL.out.2.1.later hV.1)
          rw [← HLO.out] at this
          exact this.mono fun e w2 hh => ⟨hh.1, hV.later hh.2⟩
        have c2 : Hid (∀ V, LeafI W (.slice (some ⟨b5, off5, none⟩) en ec) (.slice ka 0 kc) (.slice ia 0 ic) V → Calls Try.prog 16 #[.slice xa (es[j]).1.length xc, .slice hia hil hic] V fun e w2 => e = .returned (.bool (ahead (es[j]).1 hi')) ∧ Hid (LeafI W (.slice (some ⟨b5, off5, none⟩) en ec) (.slice ka 0 kc) (.slice ia 0 ic) w2)) := fun V hV => by
          have := lessBytes_any xa hia xc hic (es[j]).1 hi' V (hxo.later hV.1) (HL.out.2.2.later hV.1)
          rw [← HHI.out] at this
          exact this.mono fun e w2 hh => ⟨hh.1, hV.later hh.2⟩
        have hbj := HB.out (es[j]) (List.getElem_mem hx)
        have hcase : ((lol = 0 ∧ hil = 0) ∨ (lol = 0 ∧ (0 : Int) < (hil : Int) ∧ ahead (es[j]).1 hi' = true)) ∨ (((0 : Int) < (lol : Int) ∧ ahead (es[j]).1 lo = false ∧ hil = 0) ∨ ((0 : Int) < (lol : Int) ∧ ahead (es[j]).1 lo = false ∧ (0 : Int) < (hil : Int) ∧ ahead (es[j]).1 hi' = true)) := by
          by_cases h1 : lo = []
          · have e1 : lol = 0 := by rw [HLO.out, h1]; rfl
            by_cases h2 : hi' = []
            · exact .inl (.inl ⟨e1, by rw [HHI.out, h2]; rfl⟩)
            · exact .inl (.inr ⟨e1, by have := List.length_pos_iff.2 h2; rw [← HHI.out] at this; omega, hbj.2.resolve_left h2⟩)
          · have e1 : (0 : Int) < (lol : Int) := by have := List.length_pos_iff.2 h1; rw [← HLO.out] at this; omega
            by_cases h2 : hi' = []
            · exact .inr (.inl ⟨e1, hbj.1.resolve_left h1, by rw [HHI.out, h2]; rfl⟩)
            · exact .inr (.inr ⟨e1, hbj.1.resolve_left h1, by have := List.length_pos_iff.2 h2; rw [← HHI.out] at this; omega, hbj.2.resolve_left h2⟩)
        obtain ⟨y0, y1, y2, -, -, -⟩ := id HI.out.2
        have ik : (j : Int) < (en : Int) := by omega
        generalize (es[j]).1.length = xl at k0 c1 c2
        generalize ahead (es[j]).1 lo = b1 at c1 hcase
        generalize ahead (es[j]).1 hi' = b2 at c2 hcase
        clear hc hxo hbj
        rcases hcase with (⟨rfl, rfl⟩ | ⟨rfl, hp2, rfl⟩) | (⟨hp1, rfl, rfl⟩ | ⟨hp1, rfl, hp2, rfl⟩)
        · go_wp2
          go_roundw
          case rel => exact ⟨j + 1, by omega, by go_num, HI.out⟩
          case measure => simp [intOf]; omega
        · go_wp2_with (first
            | (go_at_call 16; (with_reducible refine (c2.out _ HI.out).mono ?_); clear c2; rintro e w2 ⟨rfl, H2⟩))
          go_roundw
          case rel => exact ⟨j + 1, by omega, by go_num, H2.out⟩
          case measure => simp [intOf]; omega
        · go_wp2_with (first
            | (go_at_call 16; (with_reducible refine (c1.out _ HI.out).mono ?_); clear c1; rintro e w2 ⟨rfl, H2⟩))
          go_roundw
          case rel => exact ⟨j + 1, by omega, by go_num, H2.out⟩
          case measure => simp [intOf]; omega
        · go_wp2_with (first
            | (go_at_call 16; (with_reducible refine (c1.out _ HI.out).mono ?_); clear c1; rintro e w2 ⟨rfl, H2⟩)
            | (go_at_call 16; (with_reducible refine (c2.out _ H2.out).mono ?_); clear c2 H2; rintro e w3 ⟨rfl, H2⟩))
          go_roundw
          case rel => exact ⟨j + 1, by omega, by go_num, H2.out⟩
          case measure => simp [intOf]; omega
      · obtain rfl : j = en := by omega
        obtain ⟨y0, y1, y2, -, -, -⟩ := id HI.out.2
        have ik : ¬ (j : Int) < (j : Int) := by omega
        go_wp2
        exact bodyPost_ret (v := .tuple #[.slice ea j ec, .int .i64 1]) (by simp [results, Try.results9, go_sem]) rfl ⟨ea, j, ec, rfl, HEN.out, HL.out.1.later HI.out.1, HI.out.1⟩

end Go.Proofs.Ytcegkgobkpakiaa

/- A node with kids, in the midst of being looked through. -/
namespace Go.Proofs.Ytcegkgobkpakiaa
open Go.ChangeShapes Go.WideShapes Go.ChangeAt Go.RowKit

theorem below_grownBy {w w' : World} {row : Option Nat} (h : Below w.heap.size w w') : w.grownBy w' row := ⟨h.os, h.tape, h.output, h.size, fun b hb _ => h.block b hb⟩

/-- what looking through a node comes to -/
def BelPost (gb n : Nat) (s : Nat → Nat) (i h : Nat) (fl : List Ent) (u : Nat → Int) (W : World) (e : Ending) (w' : World) : Prop :=
  ∃ (a : Option Addr) (m c : Nat), e = .returned (.tuple #[.slice a m c, .int .i64 ((h + 1 : Nat) : Int)]) ∧ m = fl.length ∧ Lies kEnt (fun b => b < gb ∨ W.heap.size ≤ b) w' a c fl ∧ (∃ u', Used w' gb n u' ∧ (∀ j, Und s n i j → u' j = 1) ∧ (∀ j, ¬ Und s n i j → u' j = u j)) ∧ W.grownBy w' (some gb)

/-- when so many kids have been looked through -/
structure BelI (gb n : Nat) (s : Nat → Nat) (i c : Nat) (u : Nat → Int) (W : World) (p q r ov : Value) (fl : List Ent) (V : World) : Prop where
  grown : W.grownBy V (some gb)
  var : Three V W.heap.size p q r
  rows : Rows kEnt (fun b => b < gb ∨ W.heap.size + 1 ≤ b) V (W.heap.size + 1) 62 ov fl
  used : ∃ uc, Used V gb n uc ∧ MetU s n i c u uc
  lt : gb < W.heap.size

section
variable {gb n i c k : Nat} {s : Nat → Nat} {u : Nat → Int} {W V V1 w2 w3 : World} {p q r ov ov' : Value} {fl fl' : List Ent}

theorem grownBy_trans {a b d : World} {g : Nat} {row : Option Nat} (h : a.grownBy b (some g)) (k : b.grownBy d row) (hr : ∀ r, row = some r → a.heap.size ≤ r ∨ r = g) : a.grownBy d (some g) :=
  ⟨k.os.trans h.os, k.tape.trans h.tape, k.output.trans h.output, Nat.le_trans h.size k.size, fun b' hb hne => (k.block b' (Nat.lt_of_lt_of_le hb h.size) (fun e => by
    rcases hr b' e.symm with h' | h'
    · omega
    · exact hne (by rw [h']))).trans (h.block b' hb hne)⟩

theorem grownBy_set {W : World} (g k : Nat) (x : Value) : W.grownBy (W.setCell ⟨g, k, none⟩ x) (some g) := ⟨rfl, rfl, rfl, by simp, fun _ _ hne => heap_setCell_other _ _ _ _ (fun e => hne (by rw [e]))⟩

theorem kept_grown {ok : Nat → Prop} {a b : World} {g : Nat} (h : a.grownBy b (some g)) (hok : ∀ x, ok x → x ≠ g) : Kept ok a b := ⟨h.size, fun x hx ho => h.block x hx (fun e => hok x ho (Option.some.inj e))⟩

/-- one more has been met, and is gone through -/
theorem BelI.called (h : BelI gb n s i c u W p q r ov fl V) (h2 : V.grownBy w2 (some gb)) : W.grownBy w2 (some gb) ∧ Three w2 W.heap.size p q r ∧ Rows kEnt (fun b => b < gb ∨ W.heap.size + 1 ≤ b) w2 (W.heap.size + 1) 62 ov fl := by
  have hl := h.lt
  refine ⟨grownBy_trans h.grown h2 (fun r e => .inr (Option.some.inj e).symm), h.var.move (h2.block _ h.var.lt (fun e => by have := Option.some.inj e; omega)), ?_⟩
  exact h.rows.move (kept_grown h2 (fun b hb => by omega)) (fun g hg => h2.block g (rows_lt h.rows g hg).2 (fun e => by have := (rows_lt h.rows g hg).1; have := Option.some.inj e; omega))

theorem BelI.next (h : BelI gb n s i c u W p q r ov fl V) (h2 : V.grownBy w2 (some gb)) {u' : Nat → Int} (hu : Used w2 gb n u') (hm : MetU s n i (c + 1) u u') (q1 : Rows kEnt (fun b => b < gb ∨ W.heap.size + 1 ≤ b) w3 (W.heap.size + 1) 62 ov' fl') (q2 : w2.grownBy w3 ov.ownBlock) : BelI gb n s i (c + 1) u W p q r ov' fl' w3 := by
  obtain ⟨a1, a2, a3⟩ := h.called h2
  have hl := h.lt
  have hu0 := rows_lt a3
  have hgb : gb < w2.heap.size := Nat.lt_of_lt_of_le hl a1.size
  exact ⟨grownBy_trans a1 q2 (fun r e => .inl (by have := (hu0 r e).1; omega)), a2.move (q2.block _ a2.lt (fun e => by have := (hu0 _ e.symm).1; omega)), q1, ⟨u', hu.move (q2.block gb hgb (fun e => by have := (hu0 _ e.symm).1; omega)), hm⟩, hl⟩

end

theorem belI_new {gb n : Nat} {s : Nat → Nat} {i : Nat} {u : Nat → Int} {W : World} (p q r : Value) (ty : TypeId) (hl : gb < W.heap.size) (hu : Used W gb n u) : BelI gb n s i 0 u W p q r (.slice none 0 0) [] (W.alloc (.cells #[p, q, r] ty)) := by
  have hb : Below W.heap.size W (W.alloc (.cells #[p, q, r] ty)) := (Below.refl _ W).alloc (Nat.le_refl _) _
  exact ⟨below_grownBy hb, Three.new _ _ _ _ _, Rows.nil _ _ _ _ _, ⟨u, hu.move (hb.block gb hl), metU_zero _ _ _ _⟩, hl⟩

/-- a number of a row of numbers, a key of a row of keys -/
theorem nums_at {ok : Nat → Prop} {W : World} {a : Option Addr} {cap : Nat} {l : List Int} (h : Lies kInt ok W a cap l) {k : Nat} (hk : k < l.length) : ∃ b off, a = some ⟨b, off, none⟩ ∧ b < W.heap.size ∧ ok b ∧ W.cell? ⟨b, off + k, none⟩ = some (.int .i64 l[k]) := by
  obtain ⟨b, off, e, hb, ho, cs, rfl, hc⟩ := h.at hk
  exact ⟨b, off, e, hb, ho, by simpa using hc 0 _ rfl⟩

theorem keys_at {ok : Nat → Prop} {W : World} {a : Option Addr} {cap : Nat} {l : List (List Int)} (h : Lies kOct ok W a cap l) {k : Nat} (hk : k < l.length) : ∃ b off x y, a = some ⟨b, off, none⟩ ∧ b < W.heap.size ∧ ok b ∧ W.cell? ⟨b, off + k, none⟩ = some (.slice x (l[k]).length y) ∧ IsBody W ok (.slice x (l[k]).length y) l[k] := by
  obtain ⟨b, off, e, hb, ho, cs, ⟨u, rfl, hu⟩, hc⟩ := h.at hk
  obtain ⟨x, y, rfl, -, -⟩ := id hu
  exact ⟨b, off, x, y, e, hb, ho, by simpa using hc 0 _ rfl, hu⟩

/-- what is told of a node with kids -/
theorem told_inner {h : Nat} (ks : List (Tr h)) (s0 : Nat) : toldN ⟨h + 1, ks⟩ s0 = ⟨[], (ks.drop 1).map (leastK h), (List.range ks.length).map (fun i => ((s0 + i : Nat) : Int))⟩ := by
  show Tn.mk [] (((List.map (fun k => (⟨h, k⟩ : Nd)) ks).drop 1).map (fun y => leastK y.h y.t)) ((List.range (List.map (fun k => (⟨h, k⟩ : Nd)) ks).length).map (fun i => ((s0 + i : Nat) : Int))) = _
  rw [← List.map_drop, List.map_map, List.length_map]
  rfl

theorem told_leaf (es : List Ent) (s0 : Nat) : toldN ⟨0, es⟩ s0 = ⟨es, [], []⟩ := rfl

theorem kids_inner {h : Nat} (ks : List (Tr h)) : kidsOf ⟨h + 1, ks⟩ = ks.map (fun k => (⟨h, k⟩ : Nd)) := rfl

theorem leaf_und {F : List Nd} {s : Nat → Nat} (hB : Bfs F s) {i : Nat} (hi : i < F.length) {es : Tr 0} (he : F[i] = ⟨0, es⟩) (j : Nat) : ¬ Und s F.length i j := fun hu => by
  have hs := hB.step i hi
  rw [he] at hs
  obtain ⟨m, h1, h2, -⟩ := hu.cases_kid
  have h3 : (kidsOf (⟨0, es⟩ : Nd)).length = 0 := rfl
  omega

end Go.Proofs.Ytcegkgobkpakiaa
