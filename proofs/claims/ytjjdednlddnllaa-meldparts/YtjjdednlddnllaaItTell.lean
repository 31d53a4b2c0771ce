/- Bytes that are written out in the text, as a new row. -/
import Derived.Test.YtjjdednlddnllaaRowsStep
import Derived.Lib.SlBytesConst
import Derived.Test.YtjjdednlddnllaaItMem
namespace Go.Proofs.Ytjjdednlddnllaa
open Go.ChangeShapes Go.WideShapes Go.ChangeAt Go.RowKit

theorem octs_alloc (w : World) (xs : List Int) (cap : Nat) (t : TypeId) (fr : Nat × Nat) (C : Array Value) (hC : C = (xs.map (Value.int .u8)).toArray) (hc : xs.length ≤ cap) (hl : xs.length ≤ 140737488351232) (hb : ∀ y ∈ xs, 0 ≤ y ∧ y ≤ 255) :
    Octs (w.alloc (.cells C t fr)) (some ⟨w.heap.size, 0, none⟩) cap xs := by
  refine ⟨hc, hl, (fun h => by cases h), hb, .inr ⟨w.heap.size, 0, rfl, fun i hi => ?_⟩⟩
  subst hC
  have : (w.alloc (.cells (xs.map (Value.int .u8)).toArray t fr)).heap[w.heap.size]? = some (.cells (xs.map (Value.int .u8)).toArray t fr) := by
    show (w.heap.push _)[w.heap.size]? = _
    simp
  unfold World.cell?
  rw [this]
  simp [List.getD, hi]

theorem Try.convertLit (w : World) (C : Array Value) (n c : Nat) : (convert 38 38 (.slice (some ⟨w.heap.size, 0, none⟩) n c)).run Try.prog (w.alloc (.cells C 5)) = .ok (.slice (some ⟨w.heap.size, 0, none⟩) n c) (w.alloc (.cells C 5 (C.size, C.size + 1))) :=
  Lib.run_convert_bytes_const w 38 5 C n c Try.underlying38 Try.underlying5

end Go.Proofs.Ytjjdednlddnllaa

/- Bytes behind bytes: numbers and texts that are told. -/
namespace Go.Proofs.Ytjjdednlddnllaa
open Go.ChangeShapes Go.WideShapes Go.ChangeAt Go.RowKit

/-- a row of bytes of the call's own has become another one -/
structure Told (B : Nat) (w w' : World) (v v' : Value) (m' : Nat) (xs : List Int) : Prop where
  own : w'.ownsRow B 5 1 v' m' (xs.map (Value.int .u8))
  len : m' = xs.length
  grown : w.grownBy w' v.ownBlock
  «at» : v'.ownBlock = v.ownBlock ∨ ∃ g, v'.ownBlock = some g ∧ w.heap.size ≤ g

theorem Told.trans {B : Nat} {w w1 w2 : World} {v v1 v2 : Value} {m1 m2 : Nat} {xs ys : List Int} (h : Told B w w1 v v1 m1 xs) (k : Told B w1 w2 v1 v2 m2 ys) : Told B w w2 v v2 m2 ys := by
  refine ⟨k.own, k.len, ⟨k.grown.os.trans h.grown.os, k.grown.tape.trans h.grown.tape, k.grown.output.trans h.grown.output, Nat.le_trans h.grown.size k.grown.size, fun b hb hne => ?_⟩, ?_⟩
  · have h1 := h.grown.block b hb hne
    refine (k.grown.block b (Nat.lt_of_lt_of_le hb h.grown.size) (fun e => ?_)).trans h1
    rcases h.«at» with e2 | ⟨g, e2, hg⟩
    · exact hne (e.trans e2)
    · rw [e2] at e
      cases e
      omega
  · rcases k.«at» with e | ⟨g, e, hg⟩
    · rw [e]
      exact h.«at»
    · exact .inr ⟨g, e, Nat.le_trans h.grown.size hg⟩

/-- what was there stays, but for the row -/
theorem Told.below {B : Nat} {w w' : World} {v v' : Value} {m' : Nat} {xs : List Int} (h : Told B w w' v v' m' xs) (hB : B ≤ w.heap.size) (hv : ∀ g, v.ownBlock = some g → B ≤ g) : Below B w w' :=
  below_grown (Below.refl _ w) hB h.grown hv

theorem Told.cell {B : Nat} {w w' : World} {v v' : Value} {m' : Nat} {xs : List Int} (h : Told B w w' v v' m' xs) {b j : Nat} (hb : b < w.heap.size) (hne : v.ownBlock ≠ some b) : w'.cell? ⟨b, j, none⟩ = w.cell? ⟨b, j, none⟩ :=
  World.cell?_of_block (h.grown.block b hb (fun e => hne e.symm))

theorem Told.ne {B : Nat} {w w' : World} {v v' : Value} {m' : Nat} {xs : List Int} (h : Told B w w' v v' m' xs) {b : Nat} (hb : b < w.heap.size) (hne : v.ownBlock ≠ some b) : v'.ownBlock ≠ some b := by
  rcases h.«at» with e | ⟨g, e, hg⟩
  · rw [e]; exact hne
  · rw [e]
    intro e2
    cases e2
    omega

theorem grown_alloc' {w w' : World} {o : Obj} {row : Option Nat} (h : (w.alloc o).grownBy w' row) : w.grownBy w' row := grown_alloc h

theorem told_alloc {B m' : Nat} {w w' : World} {o : Obj} {v v' : Value} {xs : List Int} {vs : List Value} (h1 : w'.ownsRow B 5 1 v' m' vs) (hv : vs = xs.map (Value.int .u8)) (hl : m' = xs.length) (h2 : (w.alloc o).grownBy w' v.ownBlock) (h3 : v'.ownBlock = v.ownBlock ∨ v'.ownBlock = some (w.alloc o).heap.size) : Told B w w' v v' m' xs :=
  ⟨hv ▸ h1, hl, grown_alloc h2, h3.imp id (fun e => ⟨_, e, by simp⟩)⟩

theorem told_of {B m' : Nat} {w w' : World} {v v' : Value} {xs : List Int} {vs : List Value} (h1 : w'.ownsRow B 5 1 v' m' vs) (hv : vs = xs.map (Value.int .u8)) (hl : m' = xs.length) (h2 : w.grownBy w' v.ownBlock) (h3 : v'.ownBlock = v.ownBlock ∨ v'.ownBlock = some w.heap.size) : Told B w w' v v' m' xs :=
  ⟨hv ▸ h1, hl, h2, h3.imp id (fun e => ⟨_, e, Nat.le_refl _⟩)⟩

theorem own_blocks {w : World} {B m : Nat} {v : Value} {vs : List Value} (h : w.ownsRow B 5 1 v m vs) : ∀ g, v.ownBlock = some g → B ≤ g := fun g hg => (h.lt g hg).1

theorem le4_ints (n : Nat) (h : n < 4294967296) : le4 n = [(n : Int) % 256, (n : Int) / 256 % 256, (n : Int) / 65536 % 256, (n : Int) / 16777216] := by
  simp only [le4, List.cons.injEq, and_true]
  omega

theorem own_val {w : World} {B m : Nat} {v : Value} {vs : List Value} (h : w.ownsRow B 5 1 v m vs) : ∃ a c, v = .slice a m c := by
  rcases h.2 with ⟨h1, h2⟩ | ⟨g, cap, cur, h1, h2⟩
  · exact ⟨none, 0, by rw [h1, h2]⟩
  · exact ⟨_, cap, h1⟩

set_option maxHeartbeats 4000000 in
theorem tellNumber_any (B : Nat) (xs : List Int) (hx : xs.length ≤ 1000000000) (a : Option Addr) (m c n : Nat) (hn : n < 4294967296) (w : World) (hB : B ≤ w.heap.size) (hm : m = xs.length) (hown : w.ownsRow B 5 1 (.slice a m c) m (xs.map (Value.int .u8))) :
    Calls Try.prog 89 #[.slice a m c, .int .i64 n] w fun e w' => ∃ (a' : Option Addr) (m' c' : Nat), e = .returned (.slice a' m' c') ∧ Told B w w' (.slice a m c) (.slice a' m' c') m' (xs ++ le4 n) := by
  have HM := put_by hm
  have hm9 : m ≤ 1000000000 := by omega
  have hl := le4_ints n hn
  have HOW : Hid ((w.alloc (.cells #[.int .u8 ((n : Int) % 256), .int .u8 ((n : Int) / 256 % 256), .int .u8 ((n : Int) / 65536 % 256), .int .u8 ((n : Int) / 16777216)] 5)).ownsRow B 5 1 (.slice a m c) m (xs.map (Value.int .u8))) := own_stays hown ((Below.refl _ w).alloc (Nat.le_refl _) _)
  have HOC : Hid (Octs (w.alloc (.cells #[.int .u8 ((n : Int) % 256), .int .u8 ((n : Int) / 256 % 256), .int .u8 ((n : Int) / 65536 % 256), .int .u8 ((n : Int) / 16777216)] 5)) (some ⟨w.heap.size, 0, none⟩) 4 (le4 n)) := octs_alloc w (le4 n) 4 5 (0, 0) _ (by rw [hl]; rfl) (by simp [le4_length]) (by simp [le4_length]) (le4_byte n)
  clear hown hm hx hl
  go_enter Try.func89, Try.ntmps89
  go_wp2_with (at_builtin; refine wpList_append_oct_at rfl (.tmp 5) (.tmp 17) rfl B (.slice a m c) m (xs.map (Value.int .u8)) rfl HOW.out (some ⟨w.heap.size, 0, none⟩) 4 4 (le4 n) rfl rfl HOC.out (by omega) (by simp; omega) ?_; intro v' w' h1 h2 h3; obtain ⟨a', c', rfl⟩ := own_val h1; have HT := put_by (told_alloc h1 (List.map_append.symm) (by rw [List.length_append, ← HM.out, le4_length]) h2 h3); clear h1 h2 h3)
  go_ret
  exact ⟨a', _, c', rfl, HT.out⟩

set_option maxHeartbeats 4000000 in
theorem tellText_any (B : Nat) (xs : List Int) (hx : xs.length ≤ 999999990) (a : Option Addr) (m c : Nat) (ta : Option Addr) (tc : Nat) (ts : List Int) (ht : ts.length ≤ 1000000) (w : World) (hB : B ≤ w.heap.size) (hm : m = xs.length) (hown : w.ownsRow B 5 1 (.slice a m c) m (xs.map (Value.int .u8)))
    (hT : Octs w ta tc ts) (hTB : ts ≠ [] → ∀ ad, ta = some ad → ad.block < B) :
    Calls Try.prog 90 #[.slice a m c, .slice ta ts.length tc] w fun e w' => ∃ (a' : Option Addr) (m' c' : Nat), e = .returned (.slice a' m' c') ∧ Told B w w' (.slice a m c) (.slice a' m' c') m' (xs ++ txt4 ts) := by
  have hm9 : m ≤ 999999990 := by omega
  have HN : Hid (Calls Try.prog 89 #[.slice a m c, .int .i64 (ts.length : Int)] w fun e w' => ∃ (a' : Option Addr) (m' c' : Nat), e = .returned (.slice a' m' c') ∧ m' ≤ 1000000000 ∧ Hid (Told B w w' (.slice a m c) (.slice a' m' c') m' (xs ++ le4 ts.length) ∧ Octs w' ta tc ts ∧ B ≤ w'.heap.size)) := by
    refine (tellNumber_any B xs (by omega) a m c ts.length (by omega) w hB hm hown).mono ?_
    rintro e w' ⟨a', m', c', rfl, h⟩
    have hb := h.below hB (own_blocks hown)
    refine ⟨a', m', c', rfl, ?_, h, hT.below hb hTB, Nat.le_trans hB hb.size⟩
    have := h.len
    rw [List.length_append, le4_length] at this
    omega
  have HTL : Hid (ts.length ≤ 1000000) := ht
  obtain ⟨p, hp⟩ : ∃ p, p = ts.length := ⟨_, rfl⟩
  rw [← hp] at HN HTL ht ⊢
  have HP := put_by hp
  have HX := put_by hx
  clear hown hm hT hTB hp hx
  go_enter Try.func90, Try.ntmps90
  go_wp2_with (first
    | (go_at_call 89; refine HN.out.mono ?_; clear HN; rintro e w1 ⟨a1, m1, c1, rfl, hm1, H1⟩)
    | (at_builtin; refine wpList_append_oct_at rfl (.tmp 8) (.tmp 9) rfl B (.slice a1 m1 c1) m1 _ rfl H1.out.1.own ta tc p ts rfl HP.out H1.out.2.1 (by omega) H1.out.2.2 ?_; intro v' w' h1 h2 h3; obtain ⟨a', c', rfl⟩ := own_val h1; have HT := put_by (H1.out.1.trans (told_of (xs := xs ++ txt4 ts) h1 (by rw [txt4, ← HP.out]; simp) (by have h9 := H1.out.1.len; rw [List.length_append, le4_length] at h9; rw [txt4, List.length_append, List.length_append, le4_length, ← HP.out]; omega) h2 h3)); clear h1 h2 h3))
  go_ret
  exact ⟨a', _, c', rfl, HT.out⟩

theorem goneByte_any (g : Bool) (w : World) :
    Calls Try.prog 91 #[.bool g] w fun e w' => e = .returned (.int .u8 (flagB g)) ∧ w' = w := by
  cases g with
  | true =>
    go_enter Try.func91, Try.ntmps91
    go_wp2
    go_ret
    exact ⟨rfl, rfl⟩
  | false =>
    go_enter Try.func91, Try.ntmps91
    go_wp2
    go_ret
    exact ⟨rfl, rfl⟩

end Go.Proofs.Ytjjdednlddnllaa
