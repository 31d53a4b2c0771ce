/- What bytes.Compare comes to at every two slices of bytes. -/
import Derived.Test.YtjjdednlddnllaaTreePlain
import Derived.Lib.BytesEntry
import Derived.Lib.Bytealg
import Derived.Test.YtjjdednlddnllaaTrOne
import Derived.Lib.AppendZerosOnto
import Derived.Laws.EntriesVeiled
import Derived.Deep.RegionHeld3
import Derived.Deep.RegionLaw
import Derived.Lib.Overlaps
import Derived.Lib.SliceRun
import Derived.BigQuiet
import Derived.Deep.QuietTactic
import Derived.LoopTactic
import Derived.Laws.CopyRow
import Derived.Deep.CutRange
import Derived.Test.YtjjdednlddnllaaAheadPlain
namespace Go.Proofs.Ytjjdednlddnllaa
open Go.ChangeShapes Go.WideShapes Go.ChangeAt Go.RowKit

/-- below 0: the first one is ahead; above 0: the other one -/
def cmpK (xs ys : List Int) : Int := if ahead xs ys then -1 else if ahead ys xs then 1 else 0

theorem byte_lt {x y : Int} (hx : 0 ≤ x ∧ x ≤ 255) (hy : 0 ≤ y ∧ y ≤ 255) : (UInt8.ofNat x.toNat < UInt8.ofNat y.toNat) ↔ x < y := by
  obtain ⟨n, rfl⟩ := Int.eq_ofNat_of_zero_le hx.1
  obtain ⟨m, rfl⟩ := Int.eq_ofNat_of_zero_le hy.1
  rw [UInt8.lt_iff_toNat_lt]
  simp only [Int.toNat_natCast, UInt8.toNat_ofNat']
  omega

theorem cmp_bytes : ∀ (xs ys : List Int), (∀ y ∈ xs, 0 ≤ y ∧ y ≤ 255) → (∀ y ∈ ys, 0 ≤ y ∧ y ≤ 255) → Lib.compareBytes (Lib.bytesOf xs) (Lib.bytesOf ys) = cmpK xs ys
  | [], [], _, _ => rfl
  | [], _ :: _, _, _ => rfl
  | _ :: _, [], _, _ => by simp [Lib.bytesOf, Lib.compareBytes, cmpK, ahead]
  | x :: xs, y :: ys, hx, hy => by
    have ih := cmp_bytes xs ys (fun z hz => hx z (List.mem_cons_of_mem _ hz)) (fun z hz => hy z (List.mem_cons_of_mem _ hz))
    have b1 := hx x List.mem_cons_self
    have b2 := hy y List.mem_cons_self
    simp only [Lib.bytesOf, List.map_cons, Lib.compareBytes, byte_lt b1 b2, byte_lt b2 b1] at ih ⊢
    by_cases e : x = y
    · subst e
      simp only [Int.lt_irrefl, if_false, ih, cmpK, ahead, if_true]
    · by_cases h : x < y
      · simp [cmpK, ahead, e, h]
      · have h2 : y < x := by omega
        have e2 : ¬ y = x := fun q => e q.symm
        simp [cmpK, ahead, e, e2, h, h2]

theorem run_octs {P : Program} {w : World} {ao : Option Addr} {cap : Nat} {xs : List Int} (he : Octs w ao cap xs) : (Extern.Bytes.bytesOf (.slice ao xs.length cap)).run P w = .ok ⟨(Lib.bytesOf xs).toArray⟩ w := by
  cases ao with
  | none =>
    have h0 : xs = [] := List.length_eq_zero_iff.1 (by have := he.1; have := he.2.2.1 rfl; omega)
    subst h0
    rfl
  | some ad =>
    have hl := Lib.run_loadBytesX (P := P) w xs ad .empty (fun j x hj => he.news j (.int .u8 x) (by simp [hj]))
    have e : (⟨ByteArray.empty.data ++ (Lib.bytesOf xs).toArray⟩ : ByteArray) = ⟨(Lib.bytesOf xs).toArray⟩ := by
      apply ByteArray.ext
      show (#[] : Array UInt8) ++ (Lib.bytesOf xs).toArray = (Lib.bytesOf xs).toArray
      simp
    rw [e] at hl
    exact hl

theorem run_compare {P : Program} {w : World} {ao bo : Option Addr} {cap cbp : Nat} {xs ys : List Int} (he : Octs w ao cap xs) (hf : Octs w bo cbp ys) :
    (Extern.BytealgCompare.compare #[.slice ao xs.length cap, .slice bo ys.length cbp]).run P w = .ok (.int .i64 (cmpK xs ys)) w := by
  change Sem.run P (do pure (goInt (Extern.BytealgCompare.cmp (← Extern.Bytes.bytesOf (.slice ao xs.length cap)) (← Extern.Bytes.bytesOf (.slice bo ys.length cbp))))) w = _
  simp only [Sem.run_bind, Sem.run_pure, run_octs he, run_octs hf, Result.andThen]
  rw [Lib.cmp_eq]
  show Result.ok (goInt (Lib.compareBytes (Lib.bytesOf xs) (Lib.bytesOf ys))) w = _
  rw [cmp_bytes xs ys he.2.2.2.1 hf.2.2.2.1]
  rfl

set_option maxRecDepth 100000 in
theorem Compare_any (ao bo : Option Addr) (cap cbp : Nat) (xs ys : List Int) (w : World) (he : Octs w ao cap xs) (hf : Octs w bo cbp ys) :
    Calls Try.prog 47 #[.slice ao xs.length cap, .slice bo ys.length cbp] w fun e w' => e = .returned (.int .i64 (cmpK xs ys)) ∧ w' = w := by
  have hr := run_compare (P := Try.prog) he hf
  clear he hf
  generalize xs.length = n at hr
  generalize ys.length = m at hr
  generalize cmpK xs ys = c at hr
  go_enter Try.func47, Try.ntmps47
  go_wp2
  rw [run_callFunc_extern Try.func73 (by kernel_rfl) (by kernel_rfl) (by kernel_rfl) (e := Extern.BytealgCompare.compare) (by kernel_rfl), hr]
  simp only [Result.andThen]
  rw [Oper.upon_value]
  go_wp2
  go_ret
  exact ⟨rfl, rfl⟩

theorem cmpK_lt (xs ys : List Int) : decide (cmpK xs ys < 0) = ahead xs ys := by
  unfold cmpK
  cases ahead xs ys <;> cases ahead ys xs <;> simp

theorem cmpK_le (xs ys : List Int) : decide (cmpK xs ys ≤ 0) = !ahead ys xs := by
  unfold cmpK
  cases h1 : ahead xs ys
  · cases ahead ys xs <;> simp
  · rw [ahead_asymm h1]; simp

theorem cmpK_eq (xs ys : List Int) : (cmpK xs ys == 0) = decide (xs = ys) := by
  unfold cmpK
  cases h1 : ahead xs ys
  · cases h2 : ahead ys xs
    · simp [ahead_total h1 h2]
    · have h3 : ¬ xs = ys := fun e => ahead_ne h2 e.symm
      simp [h3]
  · simp [ahead_ne h1]

theorem cmpK_wf (xs ys : List Int) : -1 ≤ cmpK xs ys ∧ cmpK xs ys ≤ 1 := by
  unfold cmpK
  cases ahead xs ys <;> cases ahead ys xs <;> simp

end Go.Proofs.Ytjjdednlddnllaa

/- What the proofs of entries behind writes lean on. -/
namespace Go.Proofs.Ytjjdednlddnllaa
open Go.ChangeShapes Go.WideShapes Go.ChangeAt Go.RowKit


/-- an entry of a leaf, in memory -/
theorem ent_at {ok : Nat → Prop} {w : World} {ao : Option Addr} {cap : Nat} {es : List Ent} (hL : Lies kEnt ok w ao cap es) {k : Nat} (hk : k < es.length) :
    ∃ bb off a1 c1 a2 c2, ao = some ⟨bb, off, none⟩ ∧ IsBody w ok (.slice a1 (es[k].1).length c1) es[k].1 ∧ IsBody w ok (.slice a2 (es[k].2).length c2) es[k].2 ∧ ∀ W : World, Below w.heap.size w W → W.cell? ⟨bb, off + k * 2, none⟩ = some (.slice a1 (es[k].1).length c1) ∧ W.cell? ⟨bb, off + k * 2 + 1, none⟩ = some (.slice a2 (es[k].2).length c2) := by
  obtain ⟨bb, off, e, hb, _, cs, ⟨u, v, rfl, h1, h2⟩, hc⟩ := hL.at hk
  obtain ⟨a1, c1, rfl, _⟩ := id h1
  obtain ⟨a2, c2, rfl, _⟩ := id h2
  exact ⟨bb, off, a1, c1, a2, c2, e, h1, h2, fun W hW => ⟨(hW.cell (p := ⟨bb, off + k * 2, none⟩) hb).trans (by simpa using hc 0 _ rfl), (hW.cell (p := ⟨bb, off + k * 2 + 1, none⟩) hb).trans (hc 1 _ rfl)⟩⟩

theorem put_by {p : Prop} (h : p) : Hid p := h

theorem below_grown {n : Nat} {w X Y : World} {row : Option Nat} (h : Below n w X) (hn : n ≤ X.heap.size) (hg : X.grownBy Y row) (hr : ∀ r, row = some r → n ≤ r) : Below n w Y :=
  ⟨hg.os.trans h.os, hg.tape.trans h.tape, hg.output.trans h.output, Nat.le_trans h.size hg.size, fun b hb => (hg.block b (by omega) (fun e => by have := hr b e.symm; omega)).trans (h.block b hb)⟩

theorem Rows.turned {α : Type} {size : Nat} {K : Kd α size} {ok ok2 : Nat → Prop} {W : World} {base : Nat} {E : TypeId} {v : Value} {l : List α} (h : Rows K ok W base E v l) (hok : ∀ b, b < W.heap.size → ok b → ok2 b) : Rows K ok2 W base E v l := by
  obtain ⟨css, h1, h2⟩ := h
  exact ⟨css, h1, All2.imp (fun _ _ hr => K.move (Kept.of_below (Below.refl _ _)) (fun b hb q => ⟨hok b hb q.1, q.2⟩) hr) h2⟩

theorem drawn_below {B : Nat} {a w : World} (h : Below B a w) (q : Nat) : Below B a (w.drewN q) := ⟨h.os, h.tape, h.output, h.size, h.block⟩

/-- K behind it, Q at a panic -/
def thenQ (K : Act → World → Prop) (Q : Exit → Act → World → Prop) : Exit → Act → World → Prop
  | .normal, a, w => K a w
  | e, a, w => Q e a w

/-- what is known of an operation that comes last of a list -/
theorem wp_of_list {P : Program} {o : Oper} {a : Act} {w : World} {K : Act → World → Prop} {Q : Exit → Act → World → Prop} (hg : o.guard = none) (hL : ¬ LetsOut Q) (h : wpList P #[] (thenQ K Q) [o] a w) : o.wp P a w K Q := by
  simp only [wpList, Region.wanted, hg, if_true] at h
  rcases h with h | ⟨_, a', w', h⟩
  · unfold Oper.wp at h ⊢
    generalize (execOp a.eval o).run P w = r at h ⊢
    cases r with
    | ok x w' =>
      cases x <;> simp only [Oper.upon] at h ⊢
      case value => exact h
      case skip => exact h
      case defer => exact h
      case enter =>
        refine h.mono fun e w'' he => ?_
        cases e with
        | returned u => exact he
        | panicked c => exact he
        | outgrown => exact he
      case row => exact h.mono fun u w'' he => he
    | halt x w' => cases x <;> simp only [Oper.upon] at h ⊢ <;> exact h
  · exact absurd ⟨a', w', h⟩ hL

theorem list_end {P : Program} {ops : Array Oper} {K : Act → World → Prop} {Q : Exit → Act → World → Prop} {a : Act} {w : World} (h : K a w) : wpList P ops (thenQ K Q) [] a w := h

end Go.Proofs.Ytjjdednlddnllaa

/- Numbers of four bytes: plain arithmetic (where no sums are reached). -/
namespace Go.Proofs.Ytjjdednlddnllaa

/-- a number as four bytes, the lowest first -/
def le4 (n : Nat) : List Int := [((n % 256 : Nat) : Int), ((n / 256 % 256 : Nat) : Int), ((n / 65536 % 256 : Nat) : Int), ((n / 16777216 % 256 : Nat) : Int)]

/-- the number that bytes begin with -/
def num4 (xs : List Int) : Int := xs.getD 0 0 + 256 * xs.getD 1 0 + 65536 * xs.getD 2 0 + 16777216 * xs.getD 3 0

theorem le4_length (n : Nat) : (le4 n).length = 4 := rfl

theorem le4_byte (n : Nat) : ∀ y ∈ le4 n, 0 ≤ y ∧ y ≤ 255 := by
  intro y hy
  simp only [le4, List.mem_cons, List.not_mem_nil, or_false] at hy
  omega

theorem num4_le4 (n : Nat) (h : n < 4294967296) (xs : List Int) : num4 (le4 n ++ xs) = n := by
  simp only [num4, le4, List.cons_append, List.nil_append, List.getD_cons_zero, List.getD_cons_succ]
  omega

/-- bytes that are at least four, as their first four and the others -/
theorem four_parts {xs : List Int} (h : 4 ≤ xs.length) : ∃ a b c d ys, xs = a :: b :: c :: d :: ys := by
  match xs, h with
  | a :: b :: c :: d :: ys, _ => exact ⟨a, b, c, d, ys, rfl⟩

theorem num4_bounds {xs : List Int} (h : 4 ≤ xs.length) (hb : ∀ y ∈ xs, 0 ≤ y ∧ y ≤ 255) : 0 ≤ num4 xs ∧ num4 xs ≤ 4294967295 := by
  obtain ⟨a, b, c, d, ys, rfl⟩ := four_parts h
  have ha := hb a (by simp)
  have hb1 := hb b (by simp)
  have hc := hb c (by simp)
  have hd := hb d (by simp)
  simp only [num4, List.getD_cons_zero, List.getD_cons_succ]
  omega

/-- what four bytes tell is told by no other four -/
theorem le4_num4 {xs : List Int} (h : 4 ≤ xs.length) (hb : ∀ y ∈ xs, 0 ≤ y ∧ y ≤ 255) : le4 (num4 xs).toNat = xs.take 4 := by
  obtain ⟨a, b, c, d, ys, rfl⟩ := four_parts h
  have ha := hb a (by simp)
  have hb1 := hb b (by simp)
  have hc := hb c (by simp)
  have hd := hb d (by simp)
  simp only [num4, List.getD_cons_zero, List.getD_cons_succ, le4, List.take_succ_cons, List.take_zero, List.cons.injEq, and_true]
  omega

end Go.Proofs.Ytjjdednlddnllaa
