/- What bytes.Compare comes to at every two slices of bytes. -/
import Derived.Test.YtndnbkgejdindaaTreePlain
import Derived.Lib.BytesEntry
import Derived.Lib.Bytealg
namespace Go.Proofs.Ytndnbkgejdindaa
open Go.ChangeShapes Go.WideShapes Go.ChangeAt Go.RowKit

/-- below 0: the first one is ahead; above 0: the other one -/
def cmpK (xs ys : List Int) : Int := if ahead xs ys then -1 else if ahead ys xs then 1 else 0

theorem byte_lt {x y : Int} (hx : 0 ≤ x ∧ x ≤ 255) (hy : 0 ≤ y ∧ y ≤ 255) : (UInt8.ofNat x.toNat < UInt8.ofNat y.toNat) ↔ x < y := by
  obtain ⟨n, rfl⟩ := Int.eq_ofNat_of_zero_le hx.1
  obtain ⟨m, rfl⟩ := Int.eq_ofNat_of_zero_le hy.1
  rw [UInt8.lt_iff_toNat_lt]
  simp only [Int.toNat_natCast, UInt8.toNat_ofNat']
  omega

theorem cmp_bytes : ∀ (xs ys : List Int), (∀ y ∈ xs, 0 ≤ y ∧ y ≤ 255) → (∀ y ∈ ys, 0 ≤ y ∧ y ≤ 255) → Lib.compareBytes (Lib.bytesOf xs) (Lib.bytesOf ys) = cmpK xs ys
  | [], [], _, _ => rfl
  | [], _ :: _, _, _ => rfl
  | _ :: _, [], _, _ => by simp [Lib.bytesOf, Lib.compareBytes, cmpK, ahead]
  | x :: xs, y :: ys, hx, hy => by
    have ih := cmp_bytes xs ys (fun z hz => hx z (List.mem_cons_of_mem _ hz)) (fun z hz => hy z (List.mem_cons_of_mem _ hz))
    have b1 := hx x List.mem_cons_self
    have b2 := hy y List.mem_cons_self
    simp only [Lib.bytesOf, List.map_cons, Lib.compareBytes, byte_lt b1 b2, byte_lt b2 b1] at ih ⊢
    by_cases e : x = y
    · subst e
      simp only [Int.lt_irrefl, if_false, ih, cmpK, ahead, if_true]
    · by_cases h : x < y
      · simp [cmpK, ahead, e, h]
      · have h2 : y < x := by omega
        have e2 : ¬ y = x := fun q => e q.symm
        simp [cmpK, ahead, e, e2, h, h2]

theorem run_octs {P : Program} {w : World} {ao : Option Addr} {cap : Nat} {xs : List Int} (he : Octs w ao cap xs) : (Extern.Bytes.bytesOf (.slice ao xs.length cap)).run P w = .ok ⟨(Lib.bytesOf xs).toArray⟩ w := by
  cases ao with
  | none =>
    have h0 : xs = [] := List.length_eq_zero_iff.1 (by have := he.1; have := he.2.2.1 rfl; omega)
    subst h0
    rfl
  | some ad =>
    have hl := Lib.run_loadBytesX (P := P) w xs ad .empty (fun j x hj => he.news j (.int .u8 x) (by simp [hj]))
    have e : (⟨ByteArray.empty.data ++ (Lib.bytesOf xs).toArray⟩ : ByteArray) = ⟨(Lib.bytesOf xs).toArray⟩ := by
      apply ByteArray.ext
      show (#[] : Array UInt8) ++ (Lib.bytesOf xs).toArray = (Lib.bytesOf xs).toArray
      simp
    rw [e] at hl
    exact hl

theorem run_compare {P : Program} {w : World} {ao bo : Option Addr} {cap cbp : Nat} {xs ys : List Int} (he : Octs w ao cap xs) (hf : Octs w bo cbp ys) :
    (Extern.BytealgCompare.compare #[.slice ao xs.length cap, .slice bo ys.length cbp]).run P w = .ok (.int .i64 (cmpK xs ys)) w := by
  change Sem.run P (do pure (goInt (Extern.BytealgCompare.cmp (← Extern.Bytes.bytesOf (.slice ao xs.length cap)) (← Extern.Bytes.bytesOf (.slice bo ys.length cbp))))) w = _
  simp only [Sem.run_bind, Sem.run_pure, run_octs he, run_octs hf, Result.andThen]
  rw [Lib.cmp_eq]
  show Result.ok (goInt (Lib.compareBytes (Lib.bytesOf xs) (Lib.bytesOf ys))) w = _
  rw [cmp_bytes xs ys he.2.2.2.1 hf.2.2.2.1]
  rfl

set_option maxRecDepth 100000 in
theorem Compare_any (ao bo : Option Addr) (cap cbp : Nat) (xs ys : List Int) (w : World) (he : Octs w ao cap xs) (hf : Octs w bo cbp ys) :
    Calls Try.prog 53 #[.slice ao xs.length cap, .slice bo ys.length cbp] w fun e w' => e = .returned (.int .i64 (cmpK xs ys)) ∧ w' = w := by
  have hr := run_compare (P := Try.prog) he hf
  clear he hf
  generalize xs.length = n at hr
  generalize ys.length = m at hr
  generalize cmpK xs ys = c at hr
  go_enter Try.func53, Try.ntmps53
  go_wp2
  rw [run_callFunc_extern Try.func69 (by kernel_rfl) (by kernel_rfl) (by kernel_rfl) (e := Extern.BytealgCompare.compare) (by kernel_rfl), hr]
  simp only [Result.andThen]
  rw [Oper.upon_value]
  go_wp2
  go_ret
  exact ⟨rfl, rfl⟩

theorem cmpK_lt (xs ys : List Int) : decide (cmpK xs ys < 0) = ahead xs ys := by
  unfold cmpK
  cases ahead xs ys <;> cases ahead ys xs <;> simp

theorem cmpK_le (xs ys : List Int) : decide (cmpK xs ys ≤ 0) = !ahead ys xs := by
  unfold cmpK
  cases h1 : ahead xs ys
  · cases ahead ys xs <;> simp
  · rw [ahead_asymm h1]; simp

theorem cmpK_eq (xs ys : List Int) : (cmpK xs ys == 0) = decide (xs = ys) := by
  unfold cmpK
  cases h1 : ahead xs ys
  · cases h2 : ahead ys xs
    · simp [ahead_total h1 h2]
    · have h3 : ¬ xs = ys := fun e => ahead_ne h2 e.symm
      simp [h3]
  · simp [ahead_ne h1]

theorem cmpK_wf (xs ys : List Int) : -1 ≤ cmpK xs ys ∧ cmpK xs ys ≤ 1 := by
  unfold cmpK
  cases ahead xs ys <;> cases ahead ys xs <;> simp

end Go.Proofs.Ytndnbkgejdindaa
