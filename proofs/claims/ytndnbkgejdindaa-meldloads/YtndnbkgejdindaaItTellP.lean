/- What is told of an intent, as far as it has come. -/
import Derived.Test.YtndnbkgejdindaaItTell
namespace Go.Proofs.Ytndnbkgejdindaa
open Go.ChangeShapes Go.WideShapes Go.ChangeAt Go.RowKit

theorem Told.nil (B : Nat) (w : World) : Told B w w (.slice none 0 0) (.slice none 0 0) 0 [] :=
  ⟨World.ownsRow_nil _ _ _ _, rfl, ⟨rfl, rfl, rfl, Nat.le_refl _, fun _ _ _ => rfl⟩, .inl rfl⟩

theorem Told.later {B : Nat} {w V V' : World} {v v' : Value} {m : Nat} {xs : List Int} (h : Told B w V v v' m xs) (hb : Below V.heap.size V V') : Told B w V' v v' m xs :=
  ⟨own_stays h.own hb, h.len, ⟨hb.os.trans h.grown.os, hb.tape.trans h.grown.tape, hb.output.trans h.grown.output, Nat.le_trans h.grown.size hb.size, fun b hlt hne => (hb.block b (Nat.lt_of_lt_of_le hlt h.grown.size)).trans (h.grown.block b hlt hne)⟩, h.«at»⟩

/-- a row that was begun with nothing: all that was there stays -/
theorem Told.from {B : Nat} {W V : World} {v : Value} {m : Nat} {xs : List Int} (h : Told B W V (.slice none 0 0) v m xs) : Below W.heap.size W V :=
  ⟨h.grown.os, h.grown.tape, h.grown.output, h.grown.size, fun b hb => h.grown.block b hb (fun e => by cases e)⟩

/-- a row so far, a variable at L beside it -/
structure InL (B : Nat) (W1 : World) (L : Nat) (cells : List Value) (v : Value) (m : Nat) (xs : List Int) (K : Nat) (V : World) : Prop where
  told : Told B W1 V (.slice none 0 0) v m xs
  few : xs.length ≤ K
  ne : v.ownBlock ≠ some L
  lt : L < V.heap.size
  cell : ∀ (j : Nat) (u : Value), cells[j]? = some u → V.cell? ⟨L, j, none⟩ = some u

theorem InL.next {B L : Nat} {W1 V V' : World} {cells : List Value} {v v' : Value} {m m' K K' : Nat} {xs ys : List Int} (h : InL B W1 L cells v m xs K V) (k : Told B V V' v v' m' ys) (hK : ys.length ≤ K') : InL B W1 L cells v' m' ys K' V' :=
  ⟨h.told.trans k, hK, k.ne h.lt h.ne, Nat.lt_of_lt_of_le h.lt k.grown.size, fun j u hu => (k.cell h.lt h.ne).trans (h.cell j u hu)⟩

theorem InL.start {B : Nat} {W1 V : World} {v : Value} {m K : Nat} {xs : List Int} (h : Told B W1 V (.slice none 0 0) v m xs) (hK : xs.length ≤ K) (C : Array Value) (T : TypeId) : InL B W1 V.heap.size C.toList v m xs K (V.alloc (.cells C T)) := by
  have hb := (Below.refl _ V).alloc (Nat.le_refl _) (.cells C T)
  refine ⟨h.later hb, hK, fun e => ?_, by simp, fun j u hu => ?_⟩
  · have := (h.own.lt _ e).2
    omega
  · have e : (V.alloc (.cells C T)).heap[V.heap.size]? = some (.cells C T) := by
      show (V.heap.push _)[V.heap.size]? = _
      simp
    unfold World.cell?
    rw [e]
    simpa using hu

theorem flatMap_le {α : Type} {f : α → List Int} {N : Nat} : ∀ (l : List α), (∀ x ∈ l, (f x).length ≤ N) → (l.flatMap f).length ≤ l.length * N
  | [], _ => by simp
  | x :: l, h => by
    have h1 := h x List.mem_cons_self
    have h2 := flatMap_le l (fun y hy => h y (List.mem_cons_of_mem _ hy))
    rw [List.flatMap_cons, List.length_append, List.length_cons, Nat.succ_mul]
    omega

theorem txt4_length (ts : List Int) : (txt4 ts).length = 4 + ts.length := by rw [txt4, List.length_append, le4_length]

theorem encRd_le {x : List Int × List Int} (h : OkRd x) : (encRd x).length ≤ 2410 := by
  have := h.1
  have := h.2
  rw [encRd, List.length_append, txt4_length, txt4_length]
  omega

theorem encWt_le {x : Wt} (h : OkWt x) : (encWt x).length ≤ 5209 := by
  have := h.2.1
  have := h.2.2.1
  rw [encWt, List.length_append, List.length_cons, txt4_length, txt4_length]
  omega

theorem flagB_byte (g : Bool) : 0 ≤ flagB g ∧ flagB g ≤ 255 := by cases g <;> simp [flagB]

theorem encI_byte {x : Itt} (h1 : ∀ r ∈ x.reads, (∀ y ∈ r.1, 0 ≤ y ∧ y ≤ 255) ∧ ∀ y ∈ r.2, 0 ≤ y ∧ y ≤ 255) (h2 : ∀ z ∈ x.writes, (∀ y ∈ z.key, 0 ≤ y ∧ y ≤ 255) ∧ ∀ y ∈ z.val, 0 ≤ y ∧ y ≤ 255) : ∀ y ∈ encI x, 0 ≤ y ∧ y ≤ 255 := by
  have ht : ∀ ts : List Int, (∀ y ∈ ts, 0 ≤ y ∧ y ≤ 255) → ∀ y ∈ txt4 ts, 0 ≤ y ∧ y ≤ 255 := fun ts h y hy => by
    rcases List.mem_append.1 hy with k | k
    · exact le4_byte _ y k
    · exact h y k
  intro y hy
  simp only [encI, List.mem_append] at hy
  rcases hy with k | k | k | k | k | k | k
  · exact le4_byte _ y k
  · exact le4_byte _ y k
  · exact le4_byte _ y k
  · exact le4_byte _ y k
  · obtain ⟨r, hr, k⟩ := List.mem_flatMap.1 k
    rcases List.mem_append.1 k with k | k
    · exact ht _ (h1 r hr).1 y k
    · exact ht _ (h1 r hr).2 y k
  · exact le4_byte _ y k
  · obtain ⟨z, hz, k⟩ := List.mem_flatMap.1 k
    rcases List.mem_append.1 k with k | k
    · exact ht _ (h2 z hz).1 y k
    · rcases List.mem_cons.1 k with k | k
      · rw [k]; exact flagB_byte _
      · exact ht _ (h2 z hz).2 y k

theorem encI_le {x : Itt} (h : MayI x) : (encI x).length ≤ 4000000 := by
  have h1 := flatMap_le (f := encRd) (N := 2410) x.reads (fun r hr => encRd_le (h.reads r hr))
  have h2 := flatMap_le (f := encWt) (N := 5209) x.writes (fun r hr => encWt_le (h.writes r hr))
  have h3 := h.few.1
  have h4 := h.few.2
  have h5 := Nat.mul_le_mul_right 2410 h3
  have h6 := Nat.mul_le_mul_right 5209 h4
  simp only [encI, List.length_append, le4_length]
  omega

/-- all bytes of an intent in memory are bytes -/
theorem ItIs.bytes {ok : Nat → Prop} {w : World} {rs : List (List Int × List Int)} {ws : List Wt} {ra : Option Addr} {rc : Nat} {wa : Option Addr} {wc : Nat} (h : ItIs ok w rs ws ra rc wa wc) (c n s : Int) : ∀ y ∈ encI ⟨c, n, s, rs, ws⟩, 0 ≤ y ∧ y ≤ 255 := by
  refine encI_byte (fun r hr => ?_) (fun z hz => ?_)
  · obtain ⟨i, hi, e⟩ := List.mem_iff_getElem.1 hr
    obtain ⟨b4, off, _, _, _, cs, ⟨u, v, rfl, ⟨_, _, _, ho, _⟩, ⟨_, _, _, ho2, _⟩⟩, hc⟩ := h.reads.at hi
    rw [← e]
    exact ⟨ho.2.2.2.1, ho2.2.2.2.1⟩
  · obtain ⟨i, hi, e⟩ := List.mem_iff_getElem.1 hz
    obtain ⟨b4, off, _, _, _, cs, ⟨u, v, rfl, ⟨_, _, _, ho, _⟩, ⟨_, _, _, ho2, _⟩⟩, hc⟩ := h.writes.at hi
    rw [← e]
    exact ⟨ho.2.2.2.1, ho2.2.2.2.1⟩

end Go.Proofs.Ytndnbkgejdindaa
