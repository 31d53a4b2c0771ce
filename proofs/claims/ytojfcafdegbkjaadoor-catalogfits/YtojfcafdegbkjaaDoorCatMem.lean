/- Catalogs in memory: rows of places, of columns, of indexes, of tables. -/
import Derived.Test.YtojfcafdegbkjaaDoorCatPlain
import Derived.Test.YtojfcafdegbkjaaDoorLexSkip
namespace Go.Proofs.YtojfcafdegbkjaaDoor
open Go.ChangeShapes Go.WideShapes Go.ChangeAt Go.RowKit

theorem put_by {p : Prop} (h : p) : Hid p := h

/-- a row in memory, element by element: each one's cells -/
def RowC {α : Type} (R : World → α → List Value → Prop) (size : Nat) (W : World) (ao : Option Addr) (l : List α) : Prop :=
  l = [] ∨ ∃ b off, ao = some ⟨b, off, none⟩ ∧ b < W.heap.size ∧ ∀ i (hi : i < l.length), ∃ cs, R W l[i] cs ∧ ∀ j u, cs[j]? = some u → W.cell? ⟨b, off + i * size + j, none⟩ = some u

theorem RowC.later {α : Type} {R : World → α → List Value → Prop} {size : Nat} {W W' : World} {ao : Option Addr} {l : List α} (hR : ∀ x cs, R W x cs → R W' x cs) (h : RowC R size W ao l) (hb : Below W.heap.size W W') : RowC R size W' ao l := by
  rcases h with h | ⟨b, off, e, hlt, h⟩
  · exact .inl h
  · exact .inr ⟨b, off, e, Nat.lt_of_lt_of_le hlt hb.size, fun i hi => by
      obtain ⟨cs, h1, h2⟩ := h i hi
      exact ⟨cs, hR _ _ h1, fun j u hu => (hb.cell hlt).trans (h2 j u hu)⟩⟩

theorem RowC.at {α : Type} {R : World → α → List Value → Prop} {size : Nat} {W : World} {ao : Option Addr} {l : List α} (h : RowC R size W ao l) {k : Nat} (hk : k < l.length) : ∃ b off, ao = some ⟨b, off, none⟩ ∧ b < W.heap.size ∧ ∃ cs, R W l[k] cs ∧ ∀ j u, cs[j]? = some u → W.cell? ⟨b, off + k * size + j, none⟩ = some u := by
  rcases h with h | ⟨b, off, e, hlt, h⟩
  · rw [h] at hk
    exact absurd hk (Nat.not_lt_zero _)
  · exact ⟨b, off, e, hlt, h k hk⟩

def intC (_ : World) (x : Int) (cs : List Value) : Prop := cs = [.int .i64 x] ∧ (Lit.int .i64 x).wf = true
def colC (_ : World) (c : TCol) (cs : List Value) : Prop := cs = [.string (str c.nm), .int .i64 c.ty, .bool c.nn] ∧ c.nm.length ≤ maxLen
def Ints (W : World) (ao : Option Addr) (l : List Int) : Prop := RowC intC 1 W ao l
def Cols (W : World) (ao : Option Addr) (l : List TCol) : Prop := RowC colC 3 W ao l
def idxC (W : World) (x : Idx) (cs : List Value) : Prop := ∃ ao cap, cs = [.string (str x.nm), .slice ao x.pl.length cap] ∧ x.nm.length ≤ maxLen ∧ Ints W ao x.pl
def Idxs (W : World) (ao : Option Addr) (l : List Idx) : Prop := RowC idxC 2 W ao l
def tabC (W : World) (t : Tab) (cs : List Value) : Prop := ∃ a1 c1 a2 c2 a3 c3, cs = [.string (str t.nm), .slice a1 t.cols.length c1, .slice a2 t.key.length c2, .slice a3 t.idxs.length c3] ∧ t.nm.length ≤ maxLen ∧ Cols W a1 t.cols ∧ Ints W a2 t.key ∧ Idxs W a3 t.idxs
def Tabs (W : World) (ao : Option Addr) (l : List Tab) : Prop := RowC tabC 4 W ao l

theorem Ints.later {W W' : World} {ao : Option Addr} {l : List Int} (h : Ints W ao l) (hb : Below W.heap.size W W') : Ints W' ao l := RowC.later (W := W) (fun _ _ h => h) h hb
theorem Cols.later {W W' : World} {ao : Option Addr} {l : List TCol} (h : Cols W ao l) (hb : Below W.heap.size W W') : Cols W' ao l := RowC.later (W := W) (fun _ _ h => h) h hb
theorem idxC.later {W W' : World} {x : Idx} {cs : List Value} (h : idxC W x cs) (hb : Below W.heap.size W W') : idxC W' x cs := by
  obtain ⟨ao, cap, h1, h2, h3⟩ := h
  exact ⟨ao, cap, h1, h2, h3.later hb⟩
theorem Idxs.later {W W' : World} {ao : Option Addr} {l : List Idx} (h : Idxs W ao l) (hb : Below W.heap.size W W') : Idxs W' ao l := RowC.later (fun _ _ h => h.later hb) h hb
theorem tabC.later {W W' : World} {t : Tab} {cs : List Value} (h : tabC W t cs) (hb : Below W.heap.size W W') : tabC W' t cs := by
  obtain ⟨a1, c1, a2, c2, a3, c3, h1, h2, h3, h4, h5⟩ := h
  exact ⟨a1, c1, a2, c2, a3, c3, h1, h2, h3.later hb, h4.later hb, h5.later hb⟩
theorem Tabs.later {W W' : World} {ao : Option Addr} {l : List Tab} (h : Tabs W ao l) (hb : Below W.heap.size W W') : Tabs W' ao l := RowC.later (fun _ _ h => h.later hb) h hb

end Go.Proofs.YtojfcafdegbkjaaDoor
