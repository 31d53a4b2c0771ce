/- What Picked comes to: the rest from 0 on, at every whole number of 64 bits and every number above 0. -/
import Derived.Test.YtjjdednlddnllaaChecked
import Derived.WalkKit
import Derived.ProofKit
import Derived.OpenShut
import Derived.Deep.RegionWith
import Derived.Test.YtjjdednlddnllaaRdAll
import Derived.Test.YtjjdednlddnllaaItDec
import Derived.Test.YtjjdednlddnllaaAnyU
import Derived.Test.YtjjdednlddnllaaItTell
import Derived.Test.YtjjdednlddnllaaItArg
import Derived.Test.YtjjdednlddnllaaFourPlain
import Derived.BigQuiet
import Derived.Deep.QuietTactic
import Derived.LoopTactic
import Derived.Handy
namespace Go.Proofs.Ytjjdednlddnllaa
open Go.ChangeShapes Go.WideShapes Go.ChangeAt Go.RowKit

theorem tmod_parts (a n : Int) (hn : 0 < n) : (a.tmod n < 0 → a.tmod n + n = a % n) ∧ (¬ a.tmod n < 0 → a.tmod n = a % n) ∧ - n < a.tmod n ∧ a.tmod n < n := by
  have h1 := Int.emod_nonneg a (Int.ne_of_gt hn)
  have h2 := Int.emod_lt_of_pos a hn
  rw [Int.tmod_eq_emod]
  split
  · omega
  · rename_i h
    have h3 : a % n ≠ 0 := fun e => h (.inr (Int.dvd_of_emod_eq_zero e))
    omega

theorem Picked_any (a n : Int) (n0 : 0 < n) (n1 : n ≤ 9223372036854775807) (w : World) :
    Calls Try.prog 25 #[.int .i64 a, .int .i64 n] w fun e w' => e = .returned (.int .i64 (a % n)) ∧ w = w' := by
  have h := tmod_parts a n n0
  have hn2 : ¬ n = 0 := by omega
  obtain ⟨r, hr⟩ : ∃ r, r = a % n := ⟨_, rfl⟩
  rw [← hr] at h
  rw [← hr]
  clear hr
  obtain ⟨h1, h2, b1, b2⟩ := h
  by_cases hneg : a.tmod n < 0
  · obtain rfl := h1 hneg
    clear h1 h2
    go_enter Try.func25, Try.ntmps25
    go_wp2
    go_ret
    exact ⟨rfl, rfl⟩
  · obtain rfl := h2 hneg
    clear h1 h2
    go_enter Try.func25, Try.ntmps25
    go_wp2
    go_ret
    exact ⟨rfl, rfl⟩

end Go.Proofs.Ytjjdednlddnllaa

/- Intents that are made of wishes: what is known of them; their variables in memory. -/
namespace Go.Proofs.Ytjjdednlddnllaa
open Go.ChangeShapes Go.WideShapes Go.ChangeAt Go.RowKit

def MildR (r : Ent) : Prop := r.1.length ≤ 2 ∧ r.2.length ≤ 2
def MildW (y : Wt) : Prop := y.key.length = 2 ∧ y.val.length ≤ 3 ∧ (y.gone = true → y.val = [])

/-- an intent of a wish -/
structure Mild (x : Itt) : Prop where
  client : 1 ≤ x.client ∧ x.client ≤ 5
  number : 1 ≤ x.number ∧ x.number ≤ 6
  base : 0 ≤ x.base ∧ x.base ≤ 1000
  few : x.reads.length ≤ 4 ∧ x.writes.length ≤ 12
  reads : ∀ r ∈ x.reads, MildR r
  writes : ∀ y ∈ x.writes, MildW y
  asc : AscW x.writes

theorem Mild.may {x : Itt} (h : Mild x) : MayI x := by
  have h1 := h.client
  have h2 := h.number
  have h3 := h.base
  have h4 := h.few
  exact ⟨⟨h1.1, by omega⟩, ⟨h2.1, by omega⟩, ⟨h3.1, by omega⟩, ⟨by omega, by omega⟩, fun r hr => ⟨by have := (h.reads r hr).1; omega, by have := (h.reads r hr).2; omega⟩, fun y hy => ⟨by have := (h.writes y hy).1; omega, by have := (h.writes y hy).1; omega, by have := (h.writes y hy).2.1; omega, (h.writes y hy).2.2⟩, h.asc⟩

theorem flat_short {α : Type} (f : α → List Int) (k : Nat) : ∀ (l : List α), (∀ x ∈ l, (f x).length ≤ k) → (l.flatMap f).length ≤ l.length * k
  | [], _ => by simp
  | x :: l, h => by
    have h1 := h x List.mem_cons_self
    have h2 := flat_short f k l (fun y hy => h y (List.mem_cons_of_mem _ hy))
    rw [List.flatMap_cons, List.length_append, List.length_cons, Nat.succ_mul]
    omega

theorem Mild.short {x : Itt} (h : Mild x) : (encI x).length ≤ 300 := by
  have h1 := flat_short encRd 12 x.reads (fun r hr => by obtain ⟨q1, q2⟩ := h.reads r hr; simp only [encRd, txt4, List.length_append, le4_length]; omega)
  have h2 := flat_short encWt 14 x.writes (fun y hy => by obtain ⟨q1, q2, -⟩ := h.writes y hy; simp only [encWt, txt4, List.length_append, le4_length, List.length_cons]; omega)
  have h4 := h.few
  simp only [encI, List.length_append, le4_length]
  have h5 : x.reads.length * 12 ≤ 4 * 12 := Nat.mul_le_mul h4.1 (Nat.le_refl _)
  have h6 : x.writes.length * 14 ≤ 12 * 14 := Nat.mul_le_mul h4.2 (Nat.le_refl _)
  omega

/-- writes of the first n spots -/
def WsI (n : Nat) (l : List Wt) : Prop := l.length ≤ n ∧ (∀ y ∈ l, MildW y ∧ ∃ m : Nat, m < n ∧ y.key = [115, (m : Int)]) ∧ AscW l

theorem WsI.skip {n : Nat} {l : List Wt} (h : WsI n l) : WsI (n + 1) l :=
  ⟨by have := h.1; omega, fun y hy => ⟨(h.2.1 y hy).1, let ⟨m, h1, h2⟩ := (h.2.1 y hy).2; ⟨m, by omega, h2⟩⟩, h.2.2⟩

theorem WsI.more {n : Nat} {l : List Wt} (h : WsI n l) {y : Wt} (hy : MildW y) (hk : y.key = [115, (n : Int)]) : WsI (n + 1) (l ++ [y]) := by
  refine ⟨by have := h.1; simp; omega, fun z hz => ?_, ?_⟩
  · rcases List.mem_append.1 hz with hz | hz
    · exact ⟨(h.2.1 z hz).1, let ⟨m, h1, h2⟩ := (h.2.1 z hz).2; ⟨m, by omega, h2⟩⟩
    · rw [List.mem_singleton.1 hz]
      exact ⟨hy, n, by omega, hk⟩
  · refine List.pairwise_append.2 ⟨h.2.2, List.pairwise_singleton _ _, fun a ha b hb => ?_⟩
    rw [List.mem_singleton.1 hb, hk]
    obtain ⟨m, h1, h2⟩ := (h.2.1 a ha).2
    rw [h2]
    have h3 : ¬ (m : Int) = (n : Int) := by omega
    have h4 : (m : Int) < (n : Int) := by omega
    simp [ahead, h3, h4]

/-- numbers in memory -/
def kI : Kd Int 1 where
  rel _ _ x cs := cs = [.int .i64 x]
  move _ _ _ _ := fun h => h
  len := by
    rintro _ _ _ _ rfl
    rfl
  one := by
    rintro _ _ _ _ rfl x hx
    simp only [List.mem_cons, List.not_mem_nil, or_false] at hx
    subst hx
    rfl

theorem int_at {ok : Nat → Prop} {w : World} {ao : Option Addr} {cap : Nat} {l : List Int} (hL : Lies kI ok w ao cap l) {k : Nat} (hk : k < l.length) :
    ∃ bb off, ao = some ⟨bb, off, none⟩ ∧ bb < w.heap.size ∧ ∀ W : World, Below w.heap.size w W → W.cell? ⟨bb, off + k, none⟩ = some (.int .i64 l[k]) := by
  obtain ⟨bb, off, e, hb, _, cs, rfl, hc⟩ := hL.at hk
  exact ⟨bb, off, e, hb, fun W hW => (hW.cell (p := ⟨bb, off + k, none⟩) hb).trans (by simpa using hc 0 _ rfl)⟩

def zero5 : List Value := [.int .i64 0, .int .i64 0, .int .i64 0, .slice none 0 0, .slice none 0 0]

/-- the variables: the wish's, the result's, the intent's -/
structure WJ (w : World) (X : Nat) (wv vs : List Value) (W : World) : Prop where
  ord : w.heap.size + 1 < X ∧ X < W.heap.size
  below : Below w.heap.size w W
  wish : Cls W w.heap.size wv
  res : Cls W (w.heap.size + 1) [.int .i64 0, .int .i64 0, .int .i64 0, .slice none 0 0, .slice none 0 0]
  var : Cls W X vs

theorem WJ.later {w W W' : World} {X : Nat} {wv vs : List Value} (h : WJ w X wv vs W) (hb : Below W.heap.size W W') : WJ w X wv vs W' :=
  ⟨⟨h.ord.1, Nat.lt_of_lt_of_le h.ord.2 hb.size⟩, h.below.trans (hb.mono h.below.size), h.wish.later hb, h.res.later hb, h.var.later hb⟩

theorem WJ.own {w W W' : World} {X : Nat} {o : Option Nat} {wv vs : List Value} (h : WJ w X wv vs W) (hg : W.grownBy W' o) (hn : ∀ g, o = some g → X < g) : WJ w X wv vs W' := by
  have ho := h.ord
  have hb : ∀ b, b ≤ X → W'.heap[b]? = W.heap[b]? := fun b hb => hg.block b (by omega) (fun e => by have := hn b e.symm; omega)
  exact ⟨⟨h.ord.1, Nat.lt_of_lt_of_le h.ord.2 hg.size⟩, below_grown h.below h.below.size hg (fun r hr => by have := hn r hr; omega), h.wish.block (fun _ => hb _ (by omega)), h.res.block (fun _ => hb _ (by omega)), h.var.block (fun _ => hb _ (Nat.le_refl _))⟩

theorem WJ.store {w W : World} {X k : Nat} {wv vs : List Value} (h : WJ w X wv vs W) (u : Value) : WJ w X wv (vs.set k u) (W.setCell ⟨X, k, none⟩ u) := by
  have ho := h.ord
  have hb : Below X W (W.setCell ⟨X, k, none⟩ u) := (Below.refl X W).setCell (Nat.le_refl X) _
  exact ⟨⟨h.ord.1, by simpa using h.ord.2⟩, h.below.trans (hb.mono (by omega)), h.wish.block (fun _ => hb.block _ (by omega)), h.res.block (fun _ => hb.block _ (by omega)), h.var.set u⟩

/-- what IntentOf comes to -/
def WPost (w : World) (e : Ending) (w' : World) : Prop := ∃ (c n s : Int) (ra : Option Addr) (rn rc : Nat) (wa : Option Addr) (wn wc : Nat), e = .returned (.agg #[.int .i64 c, .int .i64 n, .int .i64 s, .slice ra rn rc, .slice wa wn wc]) ∧ Below w.heap.size w w' ∧ ∃ (rs : List Ent) (ws : List Wt), rn = rs.length ∧ wn = ws.length ∧ ItIs (fun b => w.heap.size ≤ b) w' rs ws ra rc wa wc ∧ Mild ⟨c, n, s, rs, ws⟩

set_option maxRecDepth 100000 in
set_option maxHeartbeats 1000000 in
theorem spot_any (n : Int) (h0 : 0 ≤ n) (h1 : n < 12) (w : World) :
    Calls Try.prog 69 #[.int .i64 n] w fun e w' => ∃ b c : Nat, e = .returned (.slice (some ⟨b, 0, none⟩) 2 c) ∧ Octs w' (some ⟨b, 0, none⟩) c [115, n] ∧ w.heap.size ≤ b ∧ Below w.heap.size w w' := by
  have c1 : Hid (∀ V, Calls Try.prog 25 #[.int .i64 n, .int .i64 12] V fun e w' => e = .returned (.int .i64 n) ∧ V = w') := fun V => (Picked_any n 12 (by omega) (by omega) V).mono (fun e w' h => ⟨by rw [h.1, Int.emod_eq_of_lt h0 h1], h.2⟩)
  have hw : IntKind.u8.wrap n = n := by rw [IntKind.wrap_u8]; omega
  have HO := put_by (octs_alloc w [115, n] 2 5 (0, 0) #[.int .u8 115, .int .u8 n] rfl (by simp) (by simp) (fun y hy => by simp only [List.mem_cons, List.not_mem_nil, or_false] at hy; rcases hy with rfl | rfl <;> omega))
  have HB := put_by ((Below.refl w.heap.size w).alloc (Nat.le_refl _) (.cells #[.int .u8 115, .int .u8 n] 5))
  go_enter Try.func69, Try.ntmps69
  go_wp2_with (first
    | (go_at_call 25; (with_reducible refine (c1.out _).mono ?_); clear c1; rintro e w1 ⟨rfl, rfl⟩))
  go_ret
  exact ⟨_, _, rfl, HO.out, Nat.le_refl _, HB.out⟩

end Go.Proofs.Ytjjdednlddnllaa

/- Wishes that came in as arguments: what they hold. -/
namespace Go.Proofs.Ytjjdednlddnllaa
open Go.ChangeShapes Go.WideShapes Go.ChangeAt Go.RowKit Go.Deep

section
variable {H : Type} {enc : TypeId × Value → H} {W : World} {base : Nat} {sp : Nat → Bool} {held : Bool}

set_option maxRecDepth 100000 in
theorem nums_in {fuel : Nat} {cs : List Value} {x : DataW H × List MemPlace} (hf : DataW.trod enc Try.prog W base sp held fuel 79 cs = some x) :
    ∃ (a : Option Addr) (ls : List Int) (cap : Nat), cs = [.slice a ls.length cap] ∧ Lies kI (fun _ => True) W a cap ls := by
  rcases open_slice Try.underlying79 hf with ⟨hcs, _⟩ | ⟨ad, len, cap, m, n, D, Pl, hcs, _, hl, hm, hmm, hxx, hx⟩
  · exact ⟨none, [], 0, hcs, Lies.nil _ _ _ (fun _ => rfl)⟩
  · subst hxx
    have hlm : len ≤ m := by rw [hmm]; split <;> omega
    have each : ∀ i, i < len → ∃ d : Int, ∃ cs', kI.rel (fun _ => True) W d cs' ∧ cs'.length = 1 ∧ ∀ j, j < 1 → W.cell? ((ad.add (i * 1)).add j) = cs'[j]? := by
      intro i hi
      obtain ⟨cs', h1, h2⟩ := hx i (by omega)
      rw [show Try.prog.cellsOf 3 = 1 by kernel_rfl] at h1
      obtain ⟨_, hlen, hcell⟩ := World.cells?_some h1
      obtain ⟨k, e, _⟩ := DataW.trod_int Try.underlying3 h2
      subst e
      exact ⟨k, _, rfl, rfl, hcell⟩
    have : Inhabited Int := ⟨0⟩
    obtain ⟨Q, hQ⟩ := choose_lt each
    refine ⟨some ad, (List.range len).map Q, cap, by simpa using hcs, ?_⟩
    by_cases h0 : len = 0
    · subst h0
      exact Lies.nil _ _ _ (fun h => by cases h)
    · obtain ⟨b, off, spot⟩ := ad
      obtain ⟨cs0, _, hl0, hc0⟩ := hQ 0 (by omega)
      have hc1 := hc0 0 (by omega)
      rw [List.getElem?_eq_getElem (by omega)] at hc1
      have hspot : spot = none := by
        have := World.cell?_spot hc1
        simpa [Addr.add] using this
      subst hspot
      have ea : ∀ i j, ((⟨b, off, none⟩ : Addr).add i).add j = ⟨b, off + i + j, none⟩ := fun i j => by
        rw [Addr.add_mid, Addr.add_mid]
      refine lies_of (by decide) (by simpa using hl) (by rw [ea] at hc1; exact World.block_lt_of_cell? _ _ hc1) trivial (fun i hi => ?_)
      have hi2 : i < len := by simpa using hi
      obtain ⟨cs', h1, h2, h3⟩ := hQ i hi2
      simp only [List.getElem_map, List.getElem_range]
      refine ⟨cs', h1, fun j u hu => ?_⟩
      have hj : j < 1 := by
        have := (List.getElem?_eq_some_iff.1 hu).1
        omega
      have := h3 j hj
      rw [ea] at this
      rw [this, hu]

theorem Try.cells_nums : Try.prog.cellsOf 79 = 1 := by kernel_rfl

/-- a wish, as a value -/
def WishArg (w : World) (v : Value) : Prop := ∃ (c n s : Int) (xs ys : List Int) (xa : Option Addr) (xc : Nat) (ya : Option Addr) (yc : Nat) (g : Bool), v = .agg #[.int .i64 c, .int .i64 n, .int .i64 s, .slice xa xs.length xc, .slice ya ys.length yc, .bool g] ∧ Lies kI (fun _ => True) w xa xc xs ∧ Lies kI (fun _ => True) w ya yc ys

set_option maxRecDepth 100000 in
theorem wish_arg {r : Reach} {b0 j : Nat} {ts : List TypeId} {ds : List (DataW H)} {v : Value} {d : DataW H} {ps : List MemPlace}
    (_ : (DataW.weightsEach Try.prog ts ds).all (· ≤ reachBytes) = true) (_ : ts[j]? = some 81) (_ : ds[j]? = some d) (hval : Value.okWide Try.prog W r b0 81 v) (hf : DataW.Trod enc Try.prog W base sp held 81 v d ps) : WishArg W v := by
  obtain ⟨cs, rfl, hcs⟩ := okWide_struct Try.underlying81 hval
  obtain ⟨fuel, hf⟩ := hf
  obtain ⟨xs, n', _, hxs, _, hxl, hg⟩ := DataW.trod_struct Try.underlying81 hf
  rw [show Try.prog.cellsOf 81 = 6 by kernel_rfl] at hcs
  match xs, hxl with
  | [y0, y1, y2, y3, y4, y5], _ =>
    have g0 : DataW.trod enc Try.prog W base sp held n' 3 (((Value.agg cs).cells.toList.drop 0).take (Try.prog.cellsOf 3)) = some y0 := hg 0 _ rfl
    have g1 : DataW.trod enc Try.prog W base sp held n' 3 (((Value.agg cs).cells.toList.drop 1).take (Try.prog.cellsOf 3)) = some y1 := hg 1 _ rfl
    have g2 : DataW.trod enc Try.prog W base sp held n' 3 (((Value.agg cs).cells.toList.drop 2).take (Try.prog.cellsOf 3)) = some y2 := hg 2 _ rfl
    have g3 : DataW.trod enc Try.prog W base sp held n' 79 (((Value.agg cs).cells.toList.drop 3).take (Try.prog.cellsOf 79)) = some y3 := hg 3 _ rfl
    have g4 : DataW.trod enc Try.prog W base sp held n' 79 (((Value.agg cs).cells.toList.drop 4).take (Try.prog.cellsOf 79)) = some y4 := hg 4 _ rfl
    have g5 : DataW.trod enc Try.prog W base sp held n' 4 (((Value.agg cs).cells.toList.drop 5).take (Try.prog.cellsOf 4)) = some y5 := hg 5 _ rfl
    rw [Try.cells_intD] at g0 g1 g2
    rw [Try.cells_nums] at g3 g4
    rw [Try.cells_boolD] at g5
    obtain ⟨c, e0, _⟩ := DataW.trod_int Try.underlying3 g0
    obtain ⟨n, e1, _⟩ := DataW.trod_int Try.underlying3 g1
    obtain ⟨s, e2, _⟩ := DataW.trod_int Try.underlying3 g2
    obtain ⟨xa, xls, xc, e3, l3⟩ := nums_in g3
    obtain ⟨ya, yls, yc, e4, l4⟩ := nums_in g4
    obtain ⟨g, e5, _⟩ := DataW.trod_bool Try.underlying4 g5
    obtain ⟨l⟩ := cs
    match l, hcs with
    | [v0, v1, v2, v3, v4, v5], _ =>
      simp [Value.cells] at e0 e1 e2 e3 e4 e5
      subst e0 e1 e2 e3 e4 e5
      exact ⟨c, n, s, xls, yls, xa, xc, ya, yc, g, rfl, l3, l4⟩

end
end Go.Proofs.Ytjjdednlddnllaa

/- Rows taken one by one. -/
namespace Go.Proofs.Ytjjdednlddnllaa
open Go.ChangeShapes Go.WideShapes Go.ChangeAt Go.RowKit

theorem takeX_ext {α : Type} {xs ys : List α} {k : Nat} (hx : k < xs.length) (hy : k < ys.length) (h : xs.take k = ys.take k) (e : xs[k] = ys[k]) : xs.take (k + 1) = ys.take (k + 1) := by
  rw [List.take_succ_eq_append_getElem hx, List.take_succ_eq_append_getElem hy, h, e]

theorem octs_cell {w : World} {ao : Option Addr} {cap : Nat} {xs : List Int} (h : Octs w ao cap xs) {k : Nat} (hk : k < xs.length) : ∃ b off, ao = some ⟨b, off, none⟩ ∧ w.cell? ⟨b, off + k, none⟩ = some (.int .u8 xs[k]) := by
  obtain ⟨b, off, e, hc, -, -⟩ := h.at hk
  refine ⟨b, off, e, ?_⟩
  rw [hc]
  simp [List.getD, List.getElem?_eq_getElem hk]

theorem octs_drawn {w : World} {ao : Option Addr} {cap : Nat} {xs : List Int} (h : Octs w ao cap xs) (j : Nat) : Octs (w.drewN j) ao cap xs := h

end Go.Proofs.Ytjjdednlddnllaa
