/- What is told of an intent, as far as it has come. -/
import Derived.Test.YtjjdednlddnllaaItTell
namespace Go.Proofs.Ytjjdednlddnllaa
open Go.ChangeShapes Go.WideShapes Go.ChangeAt Go.RowKit

theorem Told.nil (B : Nat) (w : World) : Told B w w (.slice none 0 0) (.slice none 0 0) 0 [] :=
  ⟨World.ownsRow_nil _ _ _ _, rfl, ⟨rfl, rfl, rfl, Nat.le_refl _, fun _ _ _ => rfl⟩, .inl rfl⟩

theorem Told.later {B : Nat} {w V V' : World} {v v' : Value} {m : Nat} {xs : List Int} (h : Told B w V v v' m xs) (hb : Below V.heap.size V V') : Told B w V' v v' m xs :=
  ⟨own_stays h.own hb, h.len, ⟨hb.os.trans h.grown.os, hb.tape.trans h.grown.tape, hb.output.trans h.grown.output, Nat.le_trans h.grown.size hb.size, fun b hlt hne => (hb.block b (Nat.lt_of_lt_of_le hlt h.grown.size)).trans (h.grown.block b hlt hne)⟩, h.«at»⟩

/-- a row that was begun with nothing: all that was there stays -/
theorem Told.from {B : Nat} {W V : World} {v : Value} {m : Nat} {xs : List Int} (h : Told B W V (.slice none 0 0) v m xs) : Below W.heap.size W V :=
  ⟨h.grown.os, h.grown.tape, h.grown.output, h.grown.size, fun b hb => h.grown.block b hb (fun e => by cases e)⟩

/-- a row so far, a variable at L beside it -/
structure InL (B : Nat) (W1 : World) (L : Nat) (cells : List Value) (v : Value) (m : Nat) (xs : List Int) (K : Nat) (V : World) : Prop where
  told : Told B W1 V (.slice none 0 0) v m xs
  few : xs.length ≤ K
  ne : v.ownBlock ≠ some L
  lt : L < V.heap.size
  cell : ∀ (j : Nat) (u : Value), cells[j]? = some u → V.cell? ⟨L, j, none⟩ = some u

theorem InL.next {B L : Nat} {W1 V V' : World} {cells : List Value} {v v' : Value} {m m' K K' : Nat} {xs ys : List Int} (h : InL B W1 L cells v m xs K V) (k : Told B V V' v v' m' ys) (hK : ys.length ≤ K') : InL B W1 L cells v' m' ys K' V' :=
  ⟨h.told.trans k, hK, k.ne h.lt h.ne, Nat.lt_of_lt_of_le h.lt k.grown.size, fun j u hu => (k.cell h.lt h.ne).trans (h.cell j u hu)⟩

theorem InL.start {B : Nat} {W1 V : World} {v : Value} {m K : Nat} {xs : List Int} (h : Told B W1 V (.slice none 0 0) v m xs) (hK : xs.length ≤ K) (C : Array Value) (T : TypeId) : InL B W1 V.heap.size C.toList v m xs K (V.alloc (.cells C T)) := by
  have hb := (Below.refl _ V).alloc (Nat.le_refl _) (.cells C T)
  refine ⟨h.later hb, hK, fun e => ?_, by simp, fun j u hu => ?_⟩
  · have := (h.own.lt _ e).2
    omega
  · have e : (V.alloc (.cells C T)).heap[V.heap.size]? = some (.cells C T) := by
      show (V.heap.push _)[V.heap.size]? = _
      simp
    unfold World.cell?
    rw [e]
    simpa using hu

theorem flatMap_le {α : Type} {f : α → List Int} {N : Nat} : ∀ (l : List α), (∀ x ∈ l, (f x).length ≤ N) → (l.flatMap f).length ≤ l.length * N
  | [], _ => by simp
  | x :: l, h => by
    have h1 := h x List.mem_cons_self
    have h2 := flatMap_le l (fun y hy => h y (List.mem_cons_of_mem _ hy))
    rw [List.flatMap_cons, List.length_append, List.length_cons, Nat.succ_mul]
    omega

theorem txt4_length (ts : List Int) : (txt4 ts).length = 4 + ts.length := by rw [txt4, List.length_append, le4_length]

theorem encRd_le {x : List Int × List Int} (h : OkRd x) : (encRd x).length ≤ 2410 := by
  have := h.1
  have := h.2
  rw [encRd, List.length_append, txt4_length, txt4_length]
  omega

theorem encWt_le {x : Wt} (h : OkWt x) : (encWt x).length ≤ 5209 := by
  have := h.2.1
  have := h.2.2.1
  rw [encWt, List.length_append, List.length_cons, txt4_length, txt4_length]
  omega

theorem flagB_byte (g : Bool) : 0 ≤ flagB g ∧ flagB g ≤ 255 := by cases g <;> simp [flagB]

theorem encI_byte {x : Itt} (h1 : ∀ r ∈ x.reads, (∀ y ∈ r.1, 0 ≤ y ∧ y ≤ 255) ∧ ∀ y ∈ r.2, 0 ≤ y ∧ y ≤ 255) (h2 : ∀ z ∈ x.writes, (∀ y ∈ z.key, 0 ≤ y ∧ y ≤ 255) ∧ ∀ y ∈ z.val, 0 ≤ y ∧ y ≤ 255) : ∀ y ∈ encI x, 0 ≤ y ∧ y ≤ 255 := by
  have ht : ∀ ts : List Int, (∀ y ∈ ts, 0 ≤ y ∧ y ≤ 255) → ∀ y ∈ txt4 ts, 0 ≤ y ∧ y ≤ 255 := fun ts h y hy => by
    rcases List.mem_append.1 hy with k | k
    · exact le4_byte _ y k
    · exact h y k
  intro y hy
  simp only [encI, List.mem_append] at hy
  rcases hy with k | k | k | k | k | k | k
  · exact le4_byte _ y k
  · exact le4_byte _ y k
  · exact le4_byte _ y k
  · exact le4_byte _ y k
  · obtain ⟨r, hr, k⟩ := List.mem_flatMap.1 k
    rcases List.mem_append.1 k with k | k
    · exact ht _ (h1 r hr).1 y k
    · exact ht _ (h1 r hr).2 y k
  · exact le4_byte _ y k
  · obtain ⟨z, hz, k⟩ := List.mem_flatMap.1 k
    rcases List.mem_append.1 k with k | k
    · exact ht _ (h2 z hz).1 y k
    · rcases List.mem_cons.1 k with k | k
      · rw [k]; exact flagB_byte _
      · exact ht _ (h2 z hz).2 y k

theorem encI_le {x : Itt} (h : MayI x) : (encI x).length ≤ 4000000 := by
  have h1 := flatMap_le (f := encRd) (N := 2410) x.reads (fun r hr => encRd_le (h.reads r hr))
  have h2 := flatMap_le (f := encWt) (N := 5209) x.writes (fun r hr => encWt_le (h.writes r hr))
  have h3 := h.few.1
  have h4 := h.few.2
  have h5 := Nat.mul_le_mul_right 2410 h3
  have h6 := Nat.mul_le_mul_right 5209 h4
  simp only [encI, List.length_append, le4_length]
  omega

/-- all bytes of an intent in memory are bytes -/
theorem ItIs.bytes {ok : Nat → Prop} {w : World} {rs : List (List Int × List Int)} {ws : List Wt} {ra : Option Addr} {rc : Nat} {wa : Option Addr} {wc : Nat} (h : ItIs ok w rs ws ra rc wa wc) (c n s : Int) : ∀ y ∈ encI ⟨c, n, s, rs, ws⟩, 0 ≤ y ∧ y ≤ 255 := by
  refine encI_byte (fun r hr => ?_) (fun z hz => ?_)
  · obtain ⟨i, hi, e⟩ := List.mem_iff_getElem.1 hr
    obtain ⟨b4, off, _, _, _, cs, ⟨u, v, rfl, ⟨_, _, _, ho, _⟩, ⟨_, _, _, ho2, _⟩⟩, hc⟩ := h.reads.at hi
    rw [← e]
    exact ⟨ho.2.2.2.1, ho2.2.2.2.1⟩
  · obtain ⟨i, hi, e⟩ := List.mem_iff_getElem.1 hz
    obtain ⟨b4, off, _, _, _, cs, ⟨u, v, rfl, ⟨_, _, _, ho, _⟩, ⟨_, _, _, ho2, _⟩⟩, hc⟩ := h.writes.at hi
    rw [← e]
    exact ⟨ho.2.2.2.1, ho2.2.2.2.1⟩

end Go.Proofs.Ytjjdednlddnllaa

/- Bytes that are read, one behind the other: the reader in memory. -/
namespace Go.Proofs.Ytjjdednlddnllaa
open Go.ChangeShapes Go.WideShapes Go.ChangeAt Go.RowKit

/-- nothing is changed but one block -/
theorem grown_refl (w : World) (r : Option Nat) : w.grownBy w r := ⟨rfl, rfl, rfl, Nat.le_refl _, fun _ _ _ => rfl⟩

theorem grown_trans {a b c : World} {r : Option Nat} (h : a.grownBy b r) (k : b.grownBy c r) : a.grownBy c r :=
  ⟨k.os.trans h.os, k.tape.trans h.tape, k.output.trans h.output, Nat.le_trans h.size k.size, fun x hx hne => (k.block x (Nat.lt_of_lt_of_le hx h.size) hne).trans (h.block x hx hne)⟩

theorem grown_below {a b : World} (h : Below a.heap.size a b) (r : Option Nat) : a.grownBy b r := ⟨h.os, h.tape, h.output, h.size, fun x hx _ => h.block x hx⟩

theorem grown_set {w : World} {R j : Nat} (u : Value) : w.grownBy (w.setCell ⟨R, j, none⟩ u) (some R) := by
  have hb : Below R w (w.setCell ⟨R, j, none⟩ u) := (Below.refl R w).setCell (Nat.le_refl R) _
  exact ⟨hb.os, hb.tape, hb.output, hb.size, fun x hx hne => Below.heap_setCell _ _ _ _ (fun e => hne (by rw [e]))⟩

theorem Two.set0 {W : World} {B : Nat} {x y : Value} (h : Two W B x y) (u : Value) : Two (W.setCell ⟨B, 0, none⟩ u) B u y := by
  obtain ⟨h1, h2, h3, h4⟩ := h
  refine ⟨?_, ?_, ?_, ?_⟩
  · exact World.cell?_setCell_same' _ _ _ (by rw [h1]; rfl)
  · rw [World.cell?_setCell_other _ _ _ _ (by simp)]; exact h2
  · rw [World.frozen?_setCell]; exact h3
  · rw [World.frozen?_setCell]; exact h4

theorem Two.set1 {W : World} {B : Nat} {x y : Value} (h : Two W B x y) (u : Value) : Two (W.setCell ⟨B, 1, none⟩ u) B x u := by
  obtain ⟨h1, h2, h3, h4⟩ := h
  refine ⟨?_, ?_, ?_, ?_⟩
  · rw [World.cell?_setCell_other _ _ _ _ (by simp)]; exact h1
  · exact World.cell?_setCell_same' _ _ _ (by rw [h2]; rfl)
  · rw [World.frozen?_setCell]; exact h3
  · rw [World.frozen?_setCell]; exact h4

/-- the reader: xs still to be read, or torn -/
structure Rdr (w : World) (R : Nat) (a : Option Addr) (m cap : Nat) (t : Bool) (xs : List Int) : Prop where
  two : Two w R (.slice a m cap) (.bool t)
  len : m = xs.length
  octs : Octs w a cap xs
  ples : Ples a cap
  ne : ∀ ad, a = some ad → ad.block < R
  few : xs.length ≤ 4000

theorem Octs.set {w : World} {a : Option Addr} {cap R j : Nat} {xs : List Int} (h : Octs w a cap xs) (hne : ∀ ad, a = some ad → ad.block < R) (u : Value) : Octs (w.setCell ⟨R, j, none⟩ u) a cap xs :=
  h.grown (grown_set u) (fun _ ad had e => Nat.ne_of_lt (hne ad had) (Option.some.inj e).symm)

theorem Rdr.tear {w : World} {R : Nat} {a : Option Addr} {m cap : Nat} {t : Bool} {xs : List Int} (h : Rdr w R a m cap t xs) : Rdr (w.setCell ⟨R, 1, none⟩ (.bool true)) R a m cap true xs :=
  ⟨h.two.set1 _, h.len, h.octs.set h.ne _, h.ples, h.ne, h.few⟩

theorem Rdr.later {w w' : World} {R : Nat} {a : Option Addr} {m cap : Nat} {t : Bool} {xs : List Int} (h : Rdr w R a m cap t xs) (hb : Below w.heap.size w w') : Rdr w' R a m cap t xs :=
  ⟨h.two.later hb, h.len, h.octs.later hb, h.ples, h.ne, h.few⟩

end Go.Proofs.Ytjjdednlddnllaa

/- The next bytes of a reader. -/
namespace Go.Proofs.Ytjjdednlddnllaa
open Go.ChangeShapes Go.WideShapes Go.ChangeAt Go.RowKit

/-- the bytes behind the first ones -/
theorem Octs.drop {w : World} {b off cap : Nat} {xs : List Int} (h : Octs w (some ⟨b, off, none⟩) cap xs) {k : Nat} (hk : k ≤ xs.length) : Octs w (some ⟨b, off + k, none⟩) (cap - k) (xs.drop k) := by
  have h1 := h.1
  have h2 := h.2.1
  refine ⟨by rw [List.length_drop]; omega, by rw [List.length_drop]; omega, (fun h => by cases h), fun y hy => h.2.2.2.1 y (List.mem_of_mem_drop hy), ?_⟩
  rcases h.2.2.2.2 with h' | ⟨b', off', e, hc⟩
  · left; subst h'; simp
  · cases e
    right
    refine ⟨b, off + k, rfl, fun i hi => ?_⟩
    rw [List.length_drop] at hi
    rw [Nat.add_assoc, hc (k + i) (by omega)]
    simp [List.getD]

theorem Octs.cut {w : World} {ao : Option Addr} {cap cap' : Nat} {xs : List Int} (h : Octs w ao cap xs) (h1 : xs.length ≤ cap') (h2 : ao = none → cap' = 0) : Octs w ao cap' xs :=
  ⟨h1, h.2.1, h2, h.2.2.2⟩

set_option maxHeartbeats 1000000 in
theorem take_torn (R : Nat) (a : Option Addr) (m cap : Nat) (t : Bool) (n : Int) (w : World) (h : Two w R (.slice a m cap) (.bool t)) (hn : t = true ∨ (m : Int) < n) :
    Calls Try.prog 106 #[.pointer (some ⟨R, 0, none⟩), .int .i64 n] w fun e w' => e = .returned (.slice none 0 0) ∧ w' = w.setCell ⟨R, 1, none⟩ (.bool true) := by
  obtain ⟨k0, k1, f0, f1⟩ := h
  cases t with
  | true =>
    clear hn
    go_enter Try.func106, Try.ntmps106
    go_wp2
    go_ret
    exact ⟨rfl, rfl⟩
  | false =>
    have hn : (m : Int) < n := by rcases hn with e | e; cases e; exact e
    go_enter Try.func106, Try.ntmps106
    go_wp2
    go_ret
    exact ⟨rfl, rfl⟩

/-- what is taken, and what is left -/
def TakePost (R n : Nat) (xs : List Int) (w : World) (e : Ending) (w' : World) : Prop := ∃ (a1 : Option Addr) (c1 : Nat) (a2 : Option Addr) (m2 c2 : Nat), e = .returned (.slice a1 n c1) ∧ w.grownBy w' (some R) ∧ Octs w' a1 c1 (xs.take n) ∧ (∀ ad, a1 = some ad → ad.block < R) ∧ Rdr w' R a2 m2 c2 false (xs.drop n)

theorem rdr_rest {w : World} {R : Nat} {a : Option Addr} {m cap n : Nat} {xs : List Int} (h : Rdr w R a m cap false xs) {a2 : Option Addr} {m2 c2 : Nat} (hm2 : m2 = (xs.drop n).length) (ho : Octs w a2 c2 (xs.drop n)) (hp : Ples a2 c2) (hne : ∀ ad, a2 = some ad → ad.block < R) : Rdr (w.setCell ⟨R, 0, none⟩ (.slice a2 m2 c2)) R a2 m2 c2 false (xs.drop n) :=
  ⟨h.two.set0 _, hm2, ho.set hne _, hp, hne, by rw [List.length_drop]; have := h.few; omega⟩

set_option maxHeartbeats 1000000 in
theorem take_ok (R : Nat) (a : Option Addr) (m cap : Nat) (xs : List Int) (n : Nat) (w : World) (h : Rdr w R a m cap false xs) (hn : n ≤ xs.length) :
    Calls Try.prog 106 #[.pointer (some ⟨R, 0, none⟩), .int .i64 n] w fun e w' => TakePost R n xs w e w' := by
  have HR := put_by h
  obtain ⟨k0, k1, f0, f1⟩ := h.two
  have hm := h.len
  have hcap := h.octs.1
  have h40 := h.few
  rcases h.ples with ⟨rfl, rfl⟩ | ⟨b, off, rfl⟩
  · have hm0 : m = 0 := by omega
    have hn0 : n = 0 := by omega
    subst hm0 hn0
    clear hm hcap hn h h40
    go_enter Try.func106, Try.ntmps106
    go_wp2
    go_ret
    have hx : xs = [] := List.length_eq_zero_iff.1 HR.out.len.symm
    subst hx
    exact ⟨none, 0, none, 0, 0, rfl, grown_set _, Octs.nil _ _ _ (fun _ => rfl), (fun _ h => by cases h), rdr_rest (n := 0) HR.out rfl (Octs.nil _ _ _ (fun _ => rfl)) Ples.none (fun _ h => by cases h)⟩
  · rw [← hm] at hn hcap h40
    clear hm h
    by_cases hc : cap = n
    · subst hc
      go_enter Try.func106, Try.ntmps106
      go_wp2
      go_ret
      have hl : xs.length = cap := by have := HR.out.len; omega
      have hd : xs.drop cap = [] := List.drop_eq_nil_of_le (by omega)
      refine ⟨_, cap, _, 0, 0, rfl, grown_set _, ((HR.out.octs.take cap).cut (by rw [List.length_take]; omega) (fun e => by cases e)).set HR.out.ne _, HR.out.ne, rdr_rest (n := cap) HR.out (by rw [hd]; rfl) (by rw [hd]; exact Octs.nil _ _ _ (fun e => by cases e)) (Ples.some _ _ _) HR.out.ne⟩
    · go_enter Try.func106, Try.ntmps106
      go_wp2
      go_ret
      have hl := HR.out.len
      refine ⟨_, n, _, m - n, cap - n, rfl, grown_set _, ((HR.out.octs.take n).cut (by rw [List.length_take]; omega) (fun e => by cases e)).set HR.out.ne _, HR.out.ne, rdr_rest (n := n) HR.out (by rw [List.length_drop]; omega) (HR.out.octs.drop (by omega)) (Ples.some _ _ _) (fun ad h => ?_)⟩
      have h1 := HR.out.ne _ rfl
      cases h
      exact h1

end Go.Proofs.Ytjjdednlddnllaa
