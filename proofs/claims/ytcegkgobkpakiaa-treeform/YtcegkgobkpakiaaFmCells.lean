/- The nodes of a tree, level by level. -/
import Derived.Test.YtcegkgobkpakiaaFmNodes
namespace Go.Proofs.Ytcegkgobkpakiaa
open Go.ChangeShapes Go.WideShapes Go.ChangeAt Go.RowKit

/-- a tree of whatever height -/
structure Nd where
  h : Nat
  t : Tr h

def kidsOf : Nd → List Nd
  | ⟨0, _⟩ => []
  | ⟨h + 1, ks⟩ => List.map (fun k => ⟨h, k⟩) (show List (Tr h) from ks)

def entsOf : Nd → List Ent
  | ⟨0, es⟩ => es
  | ⟨_ + 1, _⟩ => []

def flatN (x : Nd) : List Ent := flat x.h x.t

/-- how many nodes there are -/
def cntT : (h : Nat) → Tr h → Nat
  | 0, _ => 1
  | h + 1, ks => 1 + (List.map (cntT h) (show List (Tr h) from ks)).sum

def cntN (x : Nd) : Nat := cntT x.h x.t

theorem cntN_kids (x : Nd) : cntN x = 1 + ((kidsOf x).map cntN).sum := by
  obtain ⟨h, t⟩ := x
  cases h with
  | zero => rfl
  | succ h =>
    show 1 + (List.map (cntT h) _).sum = 1 + (List.map cntN (List.map (fun k => (⟨h, k⟩ : Nd)) _)).sum
    rw [List.map_map]
    rfl

theorem flatN_kids (x : Nd) : flatN x = entsOf x ++ (kidsOf x).flatMap flatN := by
  obtain ⟨h, t⟩ := x
  cases h with
  | zero => exact (List.append_nil (show List Ent from t)).symm
  | succ h =>
    show flat (h + 1) t = [] ++ List.flatMap flatN (List.map (fun k => (⟨h, k⟩ : Nd)) _)
    rw [List.nil_append, List.flatMap_map]
    rfl

/-- the queue when so many nodes have been told -/
def qK (x : Nd) : Nat → List Nd
  | 0 => [x]
  | k + 1 => match (qK x k)[k]? with
    | some y => qK x k ++ kidsOf y
    | none => qK x k

theorem qK_step (x : Nd) {k : Nat} (hk : k < (qK x k).length) : qK x (k + 1) = qK x k ++ kidsOf (qK x k)[k] := by
  simp only [qK, List.getElem?_eq_getElem hk]

/-- as many nodes as there are: those in the queue, and those below the ones that are still to be told -/
theorem qK_count (x : Nd) : ∀ k, k ≤ (qK x k).length → (qK x k).length + (((qK x k).drop k).map (fun y => cntN y - 1)).sum = cntN x
  | 0, _ => by
    have h := cntN_kids x
    simp only [qK, List.drop_zero, List.map_cons, List.map_nil, List.sum_cons, List.sum_nil, List.length_cons, List.length_nil]
    omega
  | k + 1, hk => by
    by_cases hlt : k < (qK x k).length
    · have ih := qK_count x k (by omega)
      rw [List.drop_eq_getElem_cons hlt] at ih
      simp only [List.map_cons, List.sum_cons] at ih
      have hc := cntN_kids (qK x k)[k]
      rw [qK_step x hlt, List.length_append, List.drop_append_of_le_length (by omega), List.map_append, List.sum_append]
      have hs : ∀ l : List Nd, l.length + (l.map (fun y => cntN y - 1)).sum = (l.map cntN).sum := fun l => by
        induction l with
        | nil => rfl
        | cons y l ih =>
          have := cntN_kids y
          simp only [List.length_cons, List.map_cons, List.sum_cons]
          omega
      have := hs (kidsOf (qK x k)[k])
      omega
    · have e : qK x (k + 1) = qK x k := by
        simp only [qK, List.getElem?_eq_none (Nat.le_of_not_lt hlt)]
      rw [e] at hk
      omega

theorem qK_few (x : Nd) {k : Nat} (hk : k ≤ (qK x k).length) : (qK x k).length ≤ cntN x := by
  have := qK_count x k hk
  omega

/-- a node as it is told: its entries, the least keys of all kids but the first, the kids' numbers -/
structure Tn where
  ents : List Ent
  keys : List (List Int)
  kids : List Int

def toldN (x : Nd) (s : Nat) : Tn := ⟨entsOf x, ((kidsOf x).drop 1).map (fun y => leastK y.h y.t), (List.range (kidsOf x).length).map (fun i => ((s + i : Nat) : Int))⟩

/-- what has been told when so many nodes have been -/
def toldK (x : Nd) (k : Nat) : List Tn := (List.range k).map (fun i => match (qK x i)[i]? with
  | some y => toldN y (qK x i).length
  | none => ⟨[], [], []⟩)

theorem toldK_step (x : Nd) {k : Nat} (hk : k < (qK x k).length) : toldK x (k + 1) = toldK x k ++ [toldN (qK x k)[k] (qK x k).length] := by
  unfold toldK
  rw [List.range_succ, List.map_append]
  simp only [List.map_cons, List.map_nil, List.getElem?_eq_getElem hk]

theorem toldK_length (x : Nd) (k : Nat) : (toldK x k).length = k := by simp [toldK]

end Go.Proofs.Ytcegkgobkpakiaa

/- Nodes of whatever height, and nodes as they are told, in memory. -/
namespace Go.Proofs.Ytcegkgobkpakiaa
open Go.ChangeShapes Go.WideShapes Go.ChangeAt Go.RowKit

/-- a node of whatever height -/
def kAny : Kd Nd 2 where
  rel ok w x cs := (kNd x.h).rel ok w x.t cs
  move hk hok x _ h := (kNd x.h).move hk hok h
  len h := (kNd _).len h
  one h := (kNd _).one h

/-- some bytes -/
def kOct : Kd (List Int) 1 where
  rel ok w xs cs := ∃ u, cs = [u] ∧ IsBody w ok u xs
  move hk hok _ _ := by
    rintro ⟨u, rfl, h⟩
    exact ⟨u, rfl, h.move hk hok⟩
  len := by
    rintro _ _ _ _ ⟨u, rfl, _⟩
    rfl
  one := by
    rintro _ _ _ _ ⟨u, rfl, h⟩ x hx
    rw [List.mem_singleton.1 hx]
    exact h.one

/-- a whole number -/
def kInt : Kd Int 1 where
  rel _ _ n cs := cs = [.int .i64 n]
  move _ _ _ _ h := h
  len := by
    rintro _ _ _ _ rfl
    rfl
  one := by
    rintro _ _ _ _ rfl x hx
    rw [List.mem_singleton.1 hx]
    rfl

/-- a node as it is told -/
def kTn : Kd Tn 3 where
  rel ok w x cs := ∃ ea ec ka kc ia ic, cs = [.slice ea x.ents.length ec, .slice ka x.keys.length kc, .slice ia x.kids.length ic] ∧ Lies kEnt ok w ea ec x.ents ∧ Lies kOct ok w ka kc x.keys ∧ Lies kInt ok w ia ic x.kids
  move hk hok _ _ := by
    rintro ⟨ea, ec, ka, kc, ia, ic, rfl, h1, h2, h3⟩
    exact ⟨ea, ec, ka, kc, ia, ic, rfl, h1.move hk hok, h2.move hk hok, h3.move hk hok⟩
  len := by
    rintro _ _ _ _ ⟨_, _, _, _, _, _, rfl, _⟩
    rfl
  one := by
    rintro _ _ _ _ ⟨_, _, _, _, _, _, rfl, _⟩ x hx
    simp only [List.mem_cons, List.not_mem_nil, or_false] at hx
    rcases hx with rfl | rfl | rfl <;> rfl

theorem eltT : Elt 31 60 3 72 := ⟨Try.underlying31, by
  obtain ⟨i0, hi, hz0, hz1, hz2⟩ := info_parts (show (Try.prog.info? 60).map (fun i => (i.zero, i.size, i.bytes)) = some (some (.agg #[.slice none 0 0, .slice none 0 0, .slice none 0 0]), 3, 72) by kernel_rfl)
  exact ⟨i0, _, hi, hz0, hz1, hz2, rfl⟩, by decide⟩

theorem eltK : Elt 58 40 1 24 := ⟨Try.underlying58, by
  obtain ⟨i0, hi, hz0, hz1, hz2⟩ := info_parts (show (Try.prog.info? 40).map (fun i => (i.zero, i.size, i.bytes)) = some (some (.slice none 0 0), 1, 24) by kernel_rfl)
  exact ⟨i0, _, hi, hz0, hz1, hz2, rfl⟩, by decide⟩

theorem eltI : Elt 35 3 1 8 := ⟨Try.underlying35, by
  obtain ⟨i0, hi, hz0, hz1, hz2⟩ := info_parts (show (Try.prog.info? 3).map (fun i => (i.zero, i.size, i.bytes)) = some (some (.int .i64 0), 1, 8) by kernel_rfl)
  exact ⟨i0, _, hi, hz0, hz1, hz2, rfl⟩, by decide⟩

end Go.Proofs.Ytcegkgobkpakiaa

/- A node's two cells, whatever its height. -/
namespace Go.Proofs.Ytcegkgobkpakiaa
open Go.ChangeShapes Go.WideShapes Go.ChangeAt Go.RowKit

theorem all2_map {α β γ : Type} {R : γ → β → Prop} (f : α → γ) : ∀ {xs : List α} {ys : List β}, All2 (fun x y => R (f x) y) xs ys → All2 R (xs.map f) ys
  | [], [], _ => trivial
  | _ :: _, _ :: _, h => ⟨h.1, all2_map f h.2⟩
  | [], _ :: _, h => h.elim
  | _ :: _, [], h => h.elim

theorem lies_any {ok : Nat → Prop} {w : World} {a : Option Addr} {c h : Nat} {ks : List (Tr h)} (hl : Lies (kNd h) ok w a c ks) : Lies kAny ok w a c (ks.map (fun k => (⟨h, k⟩ : Nd))) := by
  refine ⟨by rw [List.length_map]; exact hl.1, hl.2.1, ?_⟩
  rcases hl.2.2 with h' | ⟨b, off, css, e, hb, hok, ha, hc⟩
  · exact .inl (by rw [h']; rfl)
  · exact .inr ⟨b, off, css, e, hb, hok, all2_map _ ha, hc⟩

/-- a node's entries and its kids -/
theorem any_cells {ok : Nat → Prop} {w : World} {x : Nd} {cs : List Value} (h : kAny.rel ok w x cs) : ∃ (a : Option Addr) (c : Nat) (b : Option Addr) (d : Nat), cs = [.slice a (entsOf x).length c, .slice b (kidsOf x).length d] ∧ Lies kEnt ok w a c (entsOf x) ∧ Lies kAny ok w b d (kidsOf x) := by
  obtain ⟨n, t⟩ := x
  cases n with
  | zero =>
    obtain ⟨a, c, b, d, e, h1, -, h2, -⟩ := h
    exact ⟨a, c, b, d, e, h1, Lies.nil _ _ _ h2.2.1⟩
  | succ n =>
    obtain ⟨a, c, b, d, e, h1, -, h2, -⟩ := h
    refine ⟨a, c, b, d, ?_, h1, lies_any h2⟩
    rw [e]
    show [_, Value.slice b _ d] = [_, Value.slice b (List.map _ _).length d]
    rw [List.length_map]
    rfl

end Go.Proofs.Ytcegkgobkpakiaa
