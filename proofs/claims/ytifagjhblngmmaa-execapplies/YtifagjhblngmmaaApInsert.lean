/- slices.Insert of one entry into a row of the call's own. -/
import Derived.Test.YtifagjhblngmmaaApRow
namespace Go.Proofs.Ytifagjhblngmmaa
open Go.ChangeShapes Go.WideShapes Go.ChangeAt Go.RowKit

/-- what the insertion comes to -/
def InsPost (B : Nat) (l : List Ent) (w : World) (e : Ending) (w' : World) : Prop := ∃ (a : Option Addr) (n c : Nat), e = .returned (.slice a n c) ∧ Own B w' (.slice a n c) l ∧ Below B w w'

theorem over_two {L cs : List Value} {o : Nat} {u v : Value} (h : o + 2 + cs.length ≤ L.length) : (over (over L (o + 2) cs) o [u, v]).take (o + 2 + cs.length) = L.take o ++ ([u, v] ++ cs) := by
  have h1 : (over L (o + 2) cs).take o = L.take o := over_ahead (by omega) (by omega)
  have h2 : (over L (o + 2) cs).drop (o + 2) = cs ++ L.drop (o + 2 + cs.length) := by
    rw [over, List.drop_append_of_le_length (by rw [List.length_take]; omega), List.drop_of_length_le (by rw [List.length_take]; omega), List.nil_append]
  rw [over, h1, show o + [u, v].length = o + 2 from rfl, h2]
  have e : L.take o ++ ([u, v] ++ (cs ++ L.drop (o + 2 + cs.length))) = (L.take o ++ ([u, v] ++ cs)) ++ L.drop (o + 2 + cs.length) := by simp
  have hl : (L.take o ++ ([u, v] ++ cs)).length = o + 2 + cs.length := by
    simp only [List.length_append, List.length_take, List.length_cons, List.length_nil]
    omega
  rw [e, List.take_append_of_le_length (by omega), List.take_of_length_le (by omega)]

theorem over_next {L xs cs : List Value} {o : Nat} (h : o + xs.length + cs.length ≤ L.length) : (over (over L o xs) (o + xs.length) cs).take (o + xs.length + cs.length) = L.take o ++ (xs ++ cs) := by
  rw [over_upto rfl (by rw [over_length (by omega)]; omega), over_upto rfl (by omega), List.append_assoc]

/-- an entry that was just laid as a list of one -/
structure Laid1 (B : Nat) (w : World) (vb : Nat) (u v : Value) (x : Ent) : Prop where
  heap : w.heap[vb]? = some (.cells #[u, v] 40 (0, 0))
  rel : kEnt.rel (fun b => b < B) w x [u, v]

section
variable {B : Nat} {w : World} {vb : Nat} {u v : Value} {x : Ent}

theorem Laid1.cell (h : Laid1 B w vb u v x) : ∀ j y, [u, v][j]? = some y → w.cell? ((⟨vb, 0, none⟩ : Addr).add j) = some y := fun j y hj => by
  rw [Addr.add_lit, Nat.zero_add]
  have := h.heap
  match j, hj with
  | 0, hj => simp [World.cell?, this]; simpa using hj
  | 1, hj => simp [World.cell?, this]; simpa using hj

theorem Laid1.one (h : Laid1 B w vb u v x) : ∀ y ∈ [u, v], y.oneCell' = true := kEnt.one h.rel

end

set_option maxRecDepth 100000 in
set_option maxHeartbeats 4000000 in
theorem insert_end (B : Nat) (l : List Ent) (hl : l.length ≤ 90000) (a : Option Addr) (cap vb : Nat) (u v : Value) (x : Ent) (w : World) (hB : B ≤ w.heap.size) (hR : Own B w (.slice a l.length cap) l) (hv : Laid1 B w vb u v x) :
    Calls Try.prog 18 #[.slice a l.length cap, .int .i64 l.length, .slice (some ⟨vb, 0, none⟩) 1 1] w fun e w' => InsPost B (l ++ [x]) w e w' := by
  obtain ⟨css, hO, hE⟩ := hR.open
  obtain ⟨i0, z, hi, hz0, hz1, hz2, hz3⟩ := eltE.info
  have hcn : l.length ≤ cap := by
    rcases hO.2 with ⟨e, h0⟩ | ⟨g, cap', cur, e, _, _, h1, _⟩
    · omega
    · simp only [Value.slice.injEq] at e
      omega
  have hcm : cap ≤ 9223372036854775807 := by
    rcases hO.2 with ⟨e, h0⟩ | ⟨g, cap', cur, e, _, _, _, h1, _⟩
    · simp only [Value.slice.injEq] at e
      omega
    · simp only [Value.slice.injEq] at e
      obtain ⟨_, _, rfl⟩ := e
      exact Nat.le_trans h1 (by decide)
  have HP : Hid (∀ v' w', w'.ownsRow B 40 2 v' (l.length + 1) (css.flatten ++ [u, v]) → w.grownBy w' (Value.slice a l.length cap).ownBlock → ∃ (a' : Option Addr) (n' c' : Nat), v' = .slice a' n' c' ∧ InsPost B (l ++ [x]) w (.returned (.slice a' n' c')) w') := fun v' w' q1 q2 => by
    have hb : Below B w w' := below_grown (Below.refl _ _) hB q2 (fun r e => (hO.lt r e).1)
    have q3 : Own B w' v' (l ++ [x]) := Own.shut (css := css ++ [[u, v]]) (by simpa using q1) (Ents.later (hE.append ⟨hv.rel, trivial⟩) hb)
    obtain ⟨a', c', e⟩ := rows_form q3
    subst e
    exact ⟨a', _, c', rfl, a', _, c', rfl, q3, hb⟩
  have hO' := put_by hO
  have hcell := put_by hv.cell
  have hone := put_by hv.one
  clear hE hv hR hO
  generalize hn : l.length = n at *
  clear hn
  cases a with
  | none =>
    have h0 : n = 0 := by
      rcases hO'.out.2 with ⟨e, h0⟩ | ⟨g, cap', cur, e, _⟩
      · exact h0
      · cases e
    have h1 : cap = 0 := by
      rcases hO'.out.2 with ⟨e, h0⟩ | ⟨g, cap', cur, e, _⟩
      · simp only [Value.slice.injEq] at e
        exact e.2.2
      · cases e
    subst h0 h1
    go_enter Try.func18, Try.ntmps18
    go_wp2_with (at_builtin; refine wpList_append_own_at w rfl (.tmp 23) (.tmp 24) 22 rfl B 40 i0 z 2 48 eltE.und hi hz0 hz1 hz2 hz3 eltE.pos (.slice none 0 0) 0 css.flatten rfl hO'.out ⟨vb, 0, none⟩ 1 1 [u, v] rfl rfl hcell.out hone.out (by decide) (by decide) hB ?_; intro v' w' q1 q2 q3 q4; obtain ⟨a', n', c', rfl, H9⟩ := HP.out v' w' q1 q2)
    exact bodyPost_ret (v := .slice a' n' c') (by simp [results, Try.results18, go_sem]) rfl H9
  | some ad =>
    obtain ⟨g, rfl⟩ : ∃ g, ad = ⟨g, 0, none⟩ := by
      rcases hO'.out.2 with ⟨e, h0⟩ | ⟨g, cap', cur, e, _⟩
      · cases e
      · simp only [Value.slice.injEq, Option.some.injEq] at e
        exact ⟨g, e.1⟩
    go_enter Try.func18, Try.ntmps18
    go_wp2_with (at_builtin; refine wpList_append_own_at w rfl (.tmp 23) (.tmp 24) 22 rfl B 40 i0 z 2 48 eltE.und hi hz0 hz1 hz2 hz3 eltE.pos (.slice (some ⟨g, 0, none⟩) n cap) n css.flatten rfl hO'.out ⟨vb, 0, none⟩ 1 1 [u, v] rfl rfl hcell.out hone.out (by unfold maxLen; omega) (by omega) hB ?_; intro v' w' q1 q2 q3 q4; obtain ⟨a', n', c', rfl, H9⟩ := HP.out v' w' q1 q2)
    all_goals exact bodyPost_ret (v := .slice a' n' c') (by simp [results, Try.results18, go_sem]) rfl H9

end Go.Proofs.Ytifagjhblngmmaa
