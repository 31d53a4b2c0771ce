/- Intents that are made of wishes: what is known of them; their variables in memory. -/
import Derived.Test.YtjilcljchdmbjaaRdAll
import Derived.Test.YtjilcljchdmbjaaItDec
import Derived.Test.YtjilcljchdmbjaaAnyU
import Derived.Test.YtjilcljchdmbjaaPicked
import Derived.Test.YtjilcljchdmbjaaLitOcts
namespace Go.Proofs.Ytjilcljchdmbjaa
open Go.ChangeShapes Go.WideShapes Go.ChangeAt Go.RowKit

def MildR (r : Ent) : Prop := r.1.length ≤ 2 ∧ r.2.length ≤ 2
def MildW (y : Wt) : Prop := y.key.length = 2 ∧ y.val.length ≤ 3 ∧ (y.gone = true → y.val = [])

/-- an intent of a wish -/
structure Mild (x : Itt) : Prop where
  client : 1 ≤ x.client ∧ x.client ≤ 5
  number : 1 ≤ x.number ∧ x.number ≤ 6
  base : 0 ≤ x.base ∧ x.base ≤ 1000
  few : x.reads.length ≤ 4 ∧ x.writes.length ≤ 12
  reads : ∀ r ∈ x.reads, MildR r
  writes : ∀ y ∈ x.writes, MildW y
  asc : AscW x.writes

theorem Mild.may {x : Itt} (h : Mild x) : MayI x := by
  have h1 := h.client
  have h2 := h.number
  have h3 := h.base
  have h4 := h.few
  exact ⟨⟨h1.1, by omega⟩, ⟨h2.1, by omega⟩, ⟨h3.1, by omega⟩, ⟨by omega, by omega⟩, fun r hr => ⟨by have := (h.reads r hr).1; omega, by have := (h.reads r hr).2; omega⟩, fun y hy => ⟨by have := (h.writes y hy).1; omega, by have := (h.writes y hy).1; omega, by have := (h.writes y hy).2.1; omega, (h.writes y hy).2.2⟩, h.asc⟩

theorem flat_short {α : Type} (f : α → List Int) (k : Nat) : ∀ (l : List α), (∀ x ∈ l, (f x).length ≤ k) → (l.flatMap f).length ≤ l.length * k
  | [], _ => by simp
  | x :: l, h => by
    have h1 := h x List.mem_cons_self
    have h2 := flat_short f k l (fun y hy => h y (List.mem_cons_of_mem _ hy))
    rw [List.flatMap_cons, List.length_append, List.length_cons, Nat.succ_mul]
    omega

theorem Mild.short {x : Itt} (h : Mild x) : (encI x).length ≤ 300 := by
  have h1 := flat_short encRd 12 x.reads (fun r hr => by obtain ⟨q1, q2⟩ := h.reads r hr; simp only [encRd, txt4, List.length_append, le4_length]; omega)
  have h2 := flat_short encWt 14 x.writes (fun y hy => by obtain ⟨q1, q2, -⟩ := h.writes y hy; simp only [encWt, txt4, List.length_append, le4_length, List.length_cons]; omega)
  have h4 := h.few
  simp only [encI, List.length_append, le4_length]
  have h5 : x.reads.length * 12 ≤ 4 * 12 := Nat.mul_le_mul h4.1 (Nat.le_refl _)
  have h6 : x.writes.length * 14 ≤ 12 * 14 := Nat.mul_le_mul h4.2 (Nat.le_refl _)
  omega

/-- writes of the first n spots -/
def WsI (n : Nat) (l : List Wt) : Prop := l.length ≤ n ∧ (∀ y ∈ l, MildW y ∧ ∃ m : Nat, m < n ∧ y.key = [115, (m : Int)]) ∧ AscW l

theorem WsI.skip {n : Nat} {l : List Wt} (h : WsI n l) : WsI (n + 1) l :=
  ⟨by have := h.1; omega, fun y hy => ⟨(h.2.1 y hy).1, let ⟨m, h1, h2⟩ := (h.2.1 y hy).2; ⟨m, by omega, h2⟩⟩, h.2.2⟩

theorem WsI.more {n : Nat} {l : List Wt} (h : WsI n l) {y : Wt} (hy : MildW y) (hk : y.key = [115, (n : Int)]) : WsI (n + 1) (l ++ [y]) := by
  refine ⟨by have := h.1; simp; omega, fun z hz => ?_, ?_⟩
  · rcases List.mem_append.1 hz with hz | hz
    · exact ⟨(h.2.1 z hz).1, let ⟨m, h1, h2⟩ := (h.2.1 z hz).2; ⟨m, by omega, h2⟩⟩
    · rw [List.mem_singleton.1 hz]
      exact ⟨hy, n, by omega, hk⟩
  · refine List.pairwise_append.2 ⟨h.2.2, List.pairwise_singleton _ _, fun a ha b hb => ?_⟩
    rw [List.mem_singleton.1 hb, hk]
    obtain ⟨m, h1, h2⟩ := (h.2.1 a ha).2
    rw [h2]
    have h3 : ¬ (m : Int) = (n : Int) := by omega
    have h4 : (m : Int) < (n : Int) := by omega
    simp [ahead, h3, h4]

/-- numbers in memory -/
def kI : Kd Int 1 where
  rel _ _ x cs := cs = [.int .i64 x]
  move _ _ _ _ := fun h => h
  len := by
    rintro _ _ _ _ rfl
    rfl
  one := by
    rintro _ _ _ _ rfl x hx
    simp only [List.mem_cons, List.not_mem_nil, or_false] at hx
    subst hx
    rfl

theorem int_at {ok : Nat → Prop} {w : World} {ao : Option Addr} {cap : Nat} {l : List Int} (hL : Lies kI ok w ao cap l) {k : Nat} (hk : k < l.length) :
    ∃ bb off, ao = some ⟨bb, off, none⟩ ∧ bb < w.heap.size ∧ ∀ W : World, Below w.heap.size w W → W.cell? ⟨bb, off + k, none⟩ = some (.int .i64 l[k]) := by
  obtain ⟨bb, off, e, hb, _, cs, rfl, hc⟩ := hL.at hk
  exact ⟨bb, off, e, hb, fun W hW => (hW.cell (p := ⟨bb, off + k, none⟩) hb).trans (by simpa using hc 0 _ rfl)⟩

def zero5 : List Value := [.int .i64 0, .int .i64 0, .int .i64 0, .slice none 0 0, .slice none 0 0]

/-- the variables: the wish's, the result's, the intent's -/
structure WJ (w : World) (X : Nat) (wv vs : List Value) (W : World) : Prop where
  ord : w.heap.size + 1 < X ∧ X < W.heap.size
  below : Below w.heap.size w W
  wish : Cls W w.heap.size wv
  res : Cls W (w.heap.size + 1) [.int .i64 0, .int .i64 0, .int .i64 0, .slice none 0 0, .slice none 0 0]
  var : Cls W X vs

theorem WJ.later {w W W' : World} {X : Nat} {wv vs : List Value} (h : WJ w X wv vs W) (hb : Below W.heap.size W W') : WJ w X wv vs W' :=
  ⟨⟨h.ord.1, Nat.lt_of_lt_of_le h.ord.2 hb.size⟩, h.below.trans (hb.mono h.below.size), h.wish.later hb, h.res.later hb, h.var.later hb⟩

theorem WJ.own {w W W' : World} {X : Nat} {o : Option Nat} {wv vs : List Value} (h : WJ w X wv vs W) (hg : W.grownBy W' o) (hn : ∀ g, o = some g → X < g) : WJ w X wv vs W' := by
  have ho := h.ord
  have hb : ∀ b, b ≤ X → W'.heap[b]? = W.heap[b]? := fun b hb => hg.block b (by omega) (fun e => by have := hn b e.symm; omega)
  exact ⟨⟨h.ord.1, Nat.lt_of_lt_of_le h.ord.2 hg.size⟩, below_grown h.below h.below.size hg (fun r hr => by have := hn r hr; omega), h.wish.block (fun _ => hb _ (by omega)), h.res.block (fun _ => hb _ (by omega)), h.var.block (fun _ => hb _ (Nat.le_refl _))⟩

theorem WJ.store {w W : World} {X k : Nat} {wv vs : List Value} (h : WJ w X wv vs W) (u : Value) : WJ w X wv (vs.set k u) (W.setCell ⟨X, k, none⟩ u) := by
  have ho := h.ord
  have hb : Below X W (W.setCell ⟨X, k, none⟩ u) := (Below.refl X W).setCell (Nat.le_refl X) _
  exact ⟨⟨h.ord.1, by simpa using h.ord.2⟩, h.below.trans (hb.mono (by omega)), h.wish.block (fun _ => hb.block _ (by omega)), h.res.block (fun _ => hb.block _ (by omega)), h.var.set u⟩

/-- what IntentOf comes to -/
def WPost (w : World) (e : Ending) (w' : World) : Prop := ∃ (c n s : Int) (ra : Option Addr) (rn rc : Nat) (wa : Option Addr) (wn wc : Nat), e = .returned (.agg #[.int .i64 c, .int .i64 n, .int .i64 s, .slice ra rn rc, .slice wa wn wc]) ∧ Below w.heap.size w w' ∧ ∃ (rs : List Ent) (ws : List Wt), rn = rs.length ∧ wn = ws.length ∧ ItIs (fun b => w.heap.size ≤ b) w' rs ws ra rc wa wc ∧ Mild ⟨c, n, s, rs, ws⟩

set_option maxRecDepth 100000 in
set_option maxHeartbeats 1000000 in
theorem spot_any (n : Int) (h0 : 0 ≤ n) (h1 : n < 12) (w : World) :
    Calls Try.prog 23 #[.int .i64 n] w fun e w' => ∃ b c : Nat, e = .returned (.slice (some ⟨b, 0, none⟩) 2 c) ∧ Octs w' (some ⟨b, 0, none⟩) c [115, n] ∧ w.heap.size ≤ b ∧ Below w.heap.size w w' := by
  have c1 : Hid (∀ V, Calls Try.prog 14 #[.int .i64 n, .int .i64 12] V fun e w' => e = .returned (.int .i64 n) ∧ V = w') := fun V => (Picked_any n 12 (by omega) (by omega) V).mono (fun e w' h => ⟨by rw [h.1, Int.emod_eq_of_lt h0 h1], h.2⟩)
  have hw : IntKind.u8.wrap n = n := by rw [IntKind.wrap_u8]; omega
  have HO := put_by (octs_alloc w [115, n] 2 5 (0, 0) #[.int .u8 115, .int .u8 n] rfl (by simp) (by simp) (fun y hy => by simp only [List.mem_cons, List.not_mem_nil, or_false] at hy; rcases hy with rfl | rfl <;> omega))
  have HB := put_by ((Below.refl w.heap.size w).alloc (Nat.le_refl _) (.cells #[.int .u8 115, .int .u8 n] 5))
  go_enter Try.func23, Try.ntmps23
  go_wp2_with (first
    | (go_at_call 14; (with_reducible refine (c1.out _).mono ?_); clear c1; rintro e w1 ⟨rfl, rfl⟩))
  go_ret
  exact ⟨_, _, rfl, HO.out, Nat.le_refl _, HB.out⟩

end Go.Proofs.Ytjilcljchdmbjaa
