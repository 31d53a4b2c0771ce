/- A write that stands twice: what is made of it. -/
import Derived.Test.YtjilcljchdmbjaaBackP
namespace Go.Proofs.Ytjilcljchdmbjaa
open Go.ChangeShapes Go.WideShapes Go.ChangeAt Go.RowKit

/-- the writes, one of them twice -/
def twice (ws : List Wt) (i : Nat) (y : Wt) : List Wt := ws.take (i + 1) ++ [y] ++ ws.drop (i + 1)

theorem twice_not {C N B : Int} {rs : List Ent} {ws : List Wt} {i : Nat} (hi : i < ws.length) : ¬ MayI ⟨C, N, B, rs, twice ws i ws[i]⟩ := fun h => by
  have ha := h.asc
  unfold AscW twice at ha
  simp only at ha
  rw [take_succ' hi, List.append_assoc, List.append_assoc] at ha
  have h1 := (List.pairwise_append.1 ha).2.1
  have h2 := (List.pairwise_append.1 h1).2.2 ws[i] (List.mem_singleton.2 rfl) ws[i] (List.mem_append_left _ (List.mem_singleton.2 rfl))
  exact ahead_ne h2 rfl

theorem twice_len {ws : List Wt} {i : Nat} {y : Wt} (hi : i < ws.length) : (twice ws i y).length = ws.length + 1 := by
  unfold twice
  rw [List.length_append, List.length_append, List.length_take, List.length_drop, List.length_singleton]
  omega

/-- two rows made: what was ahead of it, and it alone -/
structure OrI (Y B0 : Nat) (W6 : World) (ws : List Wt) (i : Nat) (y : Wt) (v5 : Value) (bl : Nat) (W : World) : Prop where
  rows : Rows kWt (fun b => b ≠ Y) W B0 43 v5 (ws.take (i + 1))
  one : Lies kWt (fun b => b < Y ∨ b = bl) W (some ⟨bl, 0, none⟩) 1 [y]
  low : B0 ≤ bl
  ne : v5.ownBlock ≠ some bl
  below : Below B0 W6 W

theorem encode_bad {w V : World} {X : Nat} {C N B : Int} {rs : List Ent} {ws : List Wt} {ra : Option Addr} {rn rc : Nat} {wa : Option Addr} {wn wc : Nat} (h : BkI w X C N B rs ws ra rn rc wa wn wc V) (hM : ¬ MayI ⟨C, N, B, rs, ws⟩) :
    Calls Try.prog 11 #[.agg #[.int .i64 C, .int .i64 N, .int .i64 B, .slice ra rn rc, .slice wa wn wc]] V fun e w' => ∃ (a : Option Addr) (k : Nat), e = .returned (.tuple #[.slice a 0 k, .int .i64 4]) ∧ Hid (Below V.heap.size V w') := by
  have hE := Encode_any _ C N B rs ws ra rc wa wc V h.it
  rw [← h.rn, ← h.wn] at hE
  refine hE.mono ?_
  rintro e w' ⟨zs, ecode, a6, m6, k6, rfl, h1, h2, h3, h4, h5⟩
  rcases h1 with ⟨-, rfl, rfl⟩ | ⟨h1, -⟩ | ⟨h1, -⟩
  · exact ⟨a6, k6, by rw [h2]; rfl, h5⟩
  · exact absurd h1 hM
  · exact absurd h1 hM

end Go.Proofs.Ytjilcljchdmbjaa
