/- Keys that were seen, in a map that the call makes: texts and numbers. -/
import Derived.Test.YtojfcafdegbkjaaDoorCatMem
import Derived.Maps.OwnSet
import Derived.StringKeys
namespace Go.Proofs.YtojfcafdegbkjaaDoor
open Go.ChangeShapes Go.WideShapes Go.ChangeAt Go.RowKit Go.Maps

theorem keyedS : Keyed Tryd.prog 9 := string_keyed Tryd.underlying9
theorem keyedI : Keyed Tryd.prog 3 := int_keyed Tryd.underlying3
theorem zeroU (w : World) : (zeroValue 56).run Tryd.prog w = .ok (.agg #[]) w := by kernel_rfl

def litS (u : List UInt8) : Lit := .string u
def litI (x : Int) : Lit := .int .i64 x
def seenSet (ks : List Lit) : DataW Unit := setOf (.agg []) ks
/-- block b is a map of just these keys -/
def SeenS (W : World) (b n : Nat) (ks : List (List UInt8)) : Prop := W.ownsMap Tryd.prog 9 (unitElem (H := Unit)) b n (seenSet (ks.map litS))
def SeenI (W : World) (b n : Nat) (ks : List Int) : Prop := W.ownsMap Tryd.prog 3 (unitElem (H := Unit)) b n (seenSet (ks.map litI))

theorem has_seenS (ks : List (List UInt8)) (u : List UInt8) : Maps.has (seenSet (ks.map litS)) (litS u) = decide (u ∈ ks) := by
  unfold seenSet
  rw [has_setOf _ _ _ (fun y hy => by obtain ⟨_, _, rfl⟩ := List.mem_map.1 hy; trivial), List.any_map]
  induction ks with
  | nil => rfl
  | cons a ks ih =>
    rw [List.any_cons, ih]
    show ((a == u) || decide (u ∈ ks)) = _
    by_cases e : a = u
    · subst e
      simp
    · have e' : ¬ u = a := fun h => e h.symm
      simp [e, e']
theorem has_seenI (ks : List Int) (x : Int) : Maps.has (seenSet (ks.map litI)) (litI x) = decide (x ∈ ks) := by
  unfold seenSet
  rw [has_setOf _ _ _ (fun y hy => by obtain ⟨_, _, rfl⟩ := List.mem_map.1 hy; trivial), List.any_map]
  induction ks with
  | nil => rfl
  | cons a ks ih =>
    rw [List.any_cons, ih]
    show (decide (IntKind.i64 = IntKind.i64 ∧ a = x) || decide (x ∈ ks)) = _
    by_cases e : a = x
    · subst e
      simp
    · have e' : ¬ x = a := fun h => e h.symm
      simp [e, e']
theorem seen_more {K : Type} (f : K → Lit) (ks : List K) (u : K) : seenSet ((ks ++ [u]).map f) = (seenSet (ks.map f)).put (f u) (.agg []) := by
  unfold seenSet
  rw [List.map_append, List.map_singleton, setOf_snoc]
theorem seen_none {K : Type} (f : K → Lit) : seenSet (([] : List K).map f) = .map [] := rfl

set_option maxHeartbeats 2000000 in
theorem isNewS_any (u : List UInt8) (hu : u.length ≤ maxLen) (b n : Nat) (ks : List (List UInt8)) (W : World) (hS : SeenS W b n ks) (hn : n < maxLen) :
    Calls Tryd.prog 23 #[.map (some b), .string (str u)] W fun e w' => e = .returned (.bool (!decide (u ∈ ks))) ∧ SeenS w' b (n + 1) (ks ++ [u]) ∧ Below b W w' := by
  have hkey : keyOf Tryd.prog 9 (.string (str u)) = some (litS u) := Go.WideMaps.keyOf_string_mk Tryd.underlying9 (by rw [size_bytes, bts_str]; exact hu)
  have hh := has_seenS ks u
  have hm := seen_more litS ks u
  have hlt : b ≤ W.heap.size := Nat.le_of_lt (World.ownsMap.lt hS)
  unfold SeenS at *
  generalize seenSet (ks.map litS) = D at *
  generalize decide (u ∈ ks) = r at *
  generalize litS u = kl at *
  generalize seenSet ((ks ++ [u]).map litS) = D' at *
  have HM := put_by hm
  have HH := put_by hh
  clear hm hh
  go_enter Tryd.func23, Tryd.ntmps23
  go_wp2_with (first
    | (at_lookup; refine wpList_lookup_own_unit _ rfl _ _ 47 rfl 9 56 keyedS Tryd.underlying47 (zeroU _) b n _ rfl hS _ _ rfl hkey ?_)
    | (at_mapUpdate; refine wpList_mapUpdate_own _ rfl _ _ _ 47 rfl 9 56 keyedS Tryd.underlying47 (unitElem (H := Unit)) b n _ rfl (hS.alloc _) hn _ _ _ rfl rfl hkey _ [] unitElem_mk ?_; intro w1 hown1 hgrow1))
  go_ret
  exact ⟨by rw [← HH.out]; rfl, by rw [HM.out]; exact hown1, ((Below.refl _ W).alloc hlt _).grown hgrow1 (by simp; omega) (fun j hj => by cases hj; exact Nat.le_refl _)⟩

set_option maxHeartbeats 2000000 in
theorem isNewI_any (u : Int) (hu : (Lit.int .i64 u).wf = true) (b n : Nat) (ks : List Int) (W : World) (hS : SeenI W b n ks) (hn : n < maxLen) :
    Calls Tryd.prog 44 #[.map (some b), .int .i64 u] W fun e w' => e = .returned (.bool (!decide (u ∈ ks))) ∧ SeenI w' b (n + 1) (ks ++ [u]) ∧ Below b W w' := by
  have hkey : keyOf Tryd.prog 3 (.int .i64 u) = some (litI u) := keyOf_int_mk Tryd.underlying3 hu
  have hh := has_seenI ks u
  have hm := seen_more litI ks u
  have hlt : b ≤ W.heap.size := Nat.le_of_lt (World.ownsMap.lt hS)
  unfold SeenI at *
  generalize seenSet (ks.map litI) = D at *
  generalize decide (u ∈ ks) = r at *
  generalize litI u = kl at *
  generalize seenSet ((ks ++ [u]).map litI) = D' at *
  have HM := put_by hm
  have HH := put_by hh
  clear hm hh
  go_enter Tryd.func44, Tryd.ntmps44
  go_wp2_with (first
    | (at_lookup; refine wpList_lookup_own_unit _ rfl _ _ 70 rfl 3 56 keyedI Tryd.underlying70 (zeroU _) b n _ rfl hS _ _ rfl hkey ?_)
    | (at_mapUpdate; refine wpList_mapUpdate_own _ rfl _ _ _ 70 rfl 3 56 keyedI Tryd.underlying70 (unitElem (H := Unit)) b n _ rfl (hS.alloc _) hn _ _ _ rfl rfl hkey _ [] unitElem_mk ?_; intro w1 hown1 hgrow1))
  go_ret
  exact ⟨by rw [← HH.out]; rfl, by rw [HM.out]; exact hown1, ((Below.refl _ W).alloc hlt _).grown hgrow1 (by simp; omega) (fun j hj => by cases hj; exact Nat.le_refl _)⟩

theorem SeenS.later {W W' : World} {b n : Nat} {ks : List (List UInt8)} (h : SeenS W b n ks) (hb : Below W.heap.size W W') : SeenS W' b n ks := by
  obtain ⟨es, clock, h1, h2⟩ := h
  exact ⟨es, clock, (hb.block b (Array.getElem?_eq_some_iff.1 h1).1).trans h1, h2⟩
theorem SeenI.later {W W' : World} {b n : Nat} {ks : List Int} (h : SeenI W b n ks) (hb : Below W.heap.size W W') : SeenI W' b n ks := by
  obtain ⟨es, clock, h1, h2⟩ := h
  exact ⟨es, clock, (hb.block b (Array.getElem?_eq_some_iff.1 h1).1).trans h1, h2⟩

end Go.Proofs.YtojfcafdegbkjaaDoor
