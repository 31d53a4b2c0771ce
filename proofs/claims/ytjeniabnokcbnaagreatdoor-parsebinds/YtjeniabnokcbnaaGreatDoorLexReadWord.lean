/- Package lex: a word of a source: the contract, at every argument. -/
import Derived.Test.YtjeniabnokcbnaaGreatDoorLexRead
import Derived.Lib.Builder
namespace Go.Proofs.YtjeniabnokcbnaaGreatDoor
open Go.ChangeShapes Go.WideShapes Go.ChangeAt Go.RowKit

/-- what read answers: a token, the place behind it, no error; or an error -/
def ansv (i : Nat) : One → Value
  | .bad e => .tuple #[tokv zeroTok, .int .i64 0, .int .i64 e]
  | .tok t n => .tuple #[tokv t, .int .i64 ((i + n : Nat) : Int), .int .i64 0]

theorem one_at_word (l : List UInt8) (i : Nat) (hi : i < l.length) (h : letter (low l[i]) = true) :
    one (l.drop i) = if 12 < on wordy l i - i then .bad 1 else .tok ⟨1, 0, ((l.drop i).take (on wordy l i - i)).map low⟩ (on wordy l i - i) := by
  have e : on wordy l i - i = ((l.drop i).takeWhile wordy).length := by unfold on; omega
  rw [e, drop_cons hi]
  simp only [one, h, if_true]

/-- a new variable of a token, behind whatever a callee lays -/
theorem tok_new (w W : World) (hb : Below (w.alloc (.cells #[.int .i64 0, .int .i64 0, .string ⟨#[]⟩] 49)).heap.size (w.alloc (.cells #[.int .i64 0, .int .i64 0, .string ⟨#[]⟩] 49)) W) :
    Below w.heap.size w W ∧ (W.cell? ⟨w.heap.size, 0, none⟩ = some (.int .i64 0) ∧ W.frozen? ⟨w.heap.size, 0, none⟩ = false) ∧ (W.cell? ⟨w.heap.size, 1, none⟩ = some (.int .i64 0) ∧ W.frozen? ⟨w.heap.size, 1, none⟩ = false) ∧
      (W.cell? ⟨w.heap.size, 2, none⟩ = some (.string ⟨#[]⟩) ∧ W.frozen? ⟨w.heap.size, 2, none⟩ = false) := by
  have h0 : Below w.heap.size w (w.alloc (.cells #[.int .i64 0, .int .i64 0, .string ⟨#[]⟩] 49)) := (Below.refl _ w).alloc (Nat.le_refl _) _
  have hlt : w.heap.size < (w.alloc (.cells #[.int .i64 0, .int .i64 0, .string ⟨#[]⟩] 49)).heap.size := by simp
  have fz : ∀ j, W.frozen? ⟨w.heap.size, j, none⟩ = false := fun j => by
    have := hb.block w.heap.size hlt
    rw [heap_alloc_new] at this
    exact Lib.frozen_of_heap this _
  refine ⟨h0.trans (hb.mono h0.size), ⟨?_, fz 0⟩, ⟨?_, fz 1⟩, ?_, fz 2⟩
  · rw [hb.cell hlt]; simp
  · rw [hb.cell hlt]; simp
  · rw [hb.cell hlt]; simp

/-- three cells that are there, written -/
theorem stored3 {W : World} {g : Nat} {u0 u1 u2 : Value} (h0 : W.cell? ⟨g, 0, none⟩ = some u0) (h1 : W.cell? ⟨g, 1, none⟩ = some u1) (h2 : W.cell? ⟨g, 2, none⟩ = some u2) (v0 v1 v2 : Value) :
    (((W.setCell ⟨g, 0, none⟩ v0).setCell ⟨g, 1, none⟩ v1).setCell ⟨g, 2, none⟩ v2).rangeAt g 0 [v0, v1, v2] := by
  intro j v hv
  match j, hv with
  | 0, hv =>
    cases hv
    rw [World.cell?_setCell_other (h := by simp), World.cell?_setCell_other (h := by simp), World.cell?_setCell_same (h := h0)]
  | 1, hv =>
    cases hv
    rw [World.cell?_setCell_other (h := by simp), World.cell?_setCell_same (u := u1)]
    rw [World.cell?_setCell_other (h := by simp)]
    exact h1
  | 2, hv =>
    cases hv
    rw [World.cell?_setCell_same (u := u2)]
    rw [World.cell?_setCell_other (h := by simp), World.cell?_setCell_other (h := by simp)]
    exact h2

theorem load_tok {W : World} {g : Nat} {v0 v1 v2 : Value} (h : W.rangeAt g 0 [v0, v1, v2]) : (loadVar 49 ⟨g, 0, none⟩).run Tryz.prog W = .ok (.agg #[v0, v1, v2]) W :=
  run_loadVar_mid W g 0 49 [v0, v1, v2] _ h Tryz.underlying49 rfl (by kernel_rfl)

theorem readWord_any (s : ByteArray) (i : Nat) (hi : i < s.size) (hs : s.size ≤ 9223372036854775806) (hw : letter (low s[i]) = true) (w : World) :
    Calls Tryz.prog 23 #[.string s, .int .i64 (i : Int)] w fun e w' => e = .returned (ansv i (one ((bts s).drop i))) ∧ Below w.heap.size w w' := by
  have hi2 : i < (bts s).length := by rw [← size_bytes]; exact hi
  have hw : letter (low (bts s)[i]) = true := (congrArg (fun c => letter (low c)) (byte_at s i hi hi2)).symm.trans hw
  rw [one_at_word _ _ hi2 hw]
  have cR := readOn_any 38 (enters_of Tryz.func38 (by kernel_rfl) rfl) wordy wordy_says s i (by omega) hs
  have hle := on_le wordy (bts s) i (by omega)
  have hge := on_ge wordy (bts s) i
  rw [← size_bytes] at hle
  have hb : ∀ o, Below w.heap.size w (w.alloc o) := fun o => (Below.refl _ w).alloc (Nat.le_refl _) o
  obtain ⟨N, hN⟩ : ∃ N, on wordy (bts s) i = N := ⟨_, rfl⟩
  rw [hN] at cR hle hge ⊢
  clear hN hw hi2
  by_cases h1 : 12 < N - i
  · rw [if_pos h1]
    have h2 : (12 : Int) < (N : Int) - (i : Int) := by omega
    go_enter Tryz.func23, Tryz.ntmps23
    go_wp2_with (go_at_call 17; refine (cR _).mono ?_; rintro e w' ⟨rfl, rfl⟩)
    refine bodyPost_ret (v := ansv i (.bad 1)) (by simp [results, Tryz.results23, go_sem, ansv, tokv, zeroTok, str]) rfl ⟨rfl, hb _⟩
  · rw [if_neg h1]
    have h2 : ¬ (12 : Int) < (N : Int) - (i : Int) := by omega
    have hz : (s.extract i N).size ≤ 9223372036854775806 := by
      rw [size_bytes, bytes_extract]
      simp
      omega
    have hN3 : ((i + (N - i) : Nat) : Int) = (N : Int) := by omega
    have cS : Calls Tryz.prog 39 #[.string (s.extract i N)] (w.alloc (.cells #[.int .i64 0, .int .i64 0, .string ⟨#[]⟩] 49)) _ := (smallText_any (s.extract i N) hz (w.alloc (.cells #[.int .i64 0, .int .i64 0, .string ⟨#[]⟩] 49))).mono fun e W h => And.intro h.1 (tok_new w W h.2)
    rw [bytes_extract] at cS
    generalize ((bts s).drop i).take (N - i) = u at cS ⊢
    have HA : Hid (ansv i (.tok ⟨1, 0, u.map low⟩ (N - i)) = .tuple #[.agg #[.int .i64 1, .int .i64 0, .string (str (u.map low))], .int .i64 (N : Int), .int .i64 0]) := by
      show Value.tuple #[tokv ⟨1, 0, u.map low⟩, .int .i64 ((i + (N - i) : Nat) : Int), .int .i64 0] = _
      rw [hN3]
      rfl
    have hN1 : (N : Int) ≤ (s.size : Int) := by omega
    have hN2 : (i : Int) ≤ (N : Int) := by omega
    clear hN3
    go_enter Tryz.func23, Tryz.ntmps23
    go_wp2_with (first
      | (go_at_call 17; refine (cR _).mono ?_; rintro e w' ⟨rfl, rfl⟩)
      | (go_at_call 39; refine cS.mono ?_; rintro e w' ⟨rfl, hb2, ⟨k0, f0⟩, ⟨k1, f1⟩, k2, f2⟩))
    have hr := stored3 k0 k1 k2 (.int .i64 1) (.int .i64 0) (.string (str (u.map low)))
    have hb3 := ((hb2.setCell (p := ⟨w.heap.size, 0, none⟩) (Nat.le_refl _) (.int .i64 1)).setCell (p := ⟨w.heap.size, 1, none⟩) (Nat.le_refl _) (.int .i64 0)).setCell (p := ⟨w.heap.size, 2, none⟩) (Nat.le_refl _) (.string (str (u.map low)))
    generalize (((w'.setCell ⟨w.heap.size, 0, none⟩ (.int .i64 1)).setCell ⟨w.heap.size, 1, none⟩ (.int .i64 0)).setCell ⟨w.heap.size, 2, none⟩ (.string (str (u.map low)))) = W3 at hr hb3 ⊢
    have c0 := hr 0 _ rfl
    have c1 := hr 1 _ rfl
    have c2 := hr 2 _ rfl
    simp only [Nat.zero_add] at c0 c1 c2
    refine bodyPost_ret (v := .tuple #[.agg #[.int .i64 1, .int .i64 0, .string (str (u.map low))], .int .i64 (N : Int), .int .i64 0]) (by simp [results, Tryz.results23, go_sem, asAddr, c0, c1, c2]) rfl ?_
    rw [HA.out]
    exact ⟨rfl, hb3⟩

end Go.Proofs.YtjeniabnokcbnaaGreatDoor
