/- Package lex: a token as a source has it: the contract, at every token that may be. -/
import Derived.Test.YtogkghifpocgmaaDoorLexMay
import Derived.Test.YtogkghifpocgmaaDoorLexWrit
import Derived.Test.YtogkghifpocgmaaDoorShelfItoa
import Derived.Test.YtogkghifpocgmaaDoorShelfReplace
namespace Go.Proofs.YtogkghifpocgmaaDoor
open Go.ChangeShapes Go.WideShapes Go.ChangeAt Go.RowKit Go.Shelf

/-- the table of powers of ten, and the library's variable that holds some number -/
structure WrTabs (w : World) : Prop where
  pow : Lib.TabIs Tryd.prog w "internal/strconv.uint64pow10" .u64 Lib.pow10Tab
  max : ∃ m, w.cell? ⟨Tryd.l155_ren.g 1, 0, none⟩ = some (.int .i64 m)

theorem var_later {w w' : World} {n : String} {cs : Array Value} {g : Nat} (hg : Tryd.prog.globalNamed n = some g) (h : w.var? Tryd.prog n = some cs) (hb : Below w.heap.size w w') : w'.var? Tryd.prog n = some cs := by
  have hlt : g < w.heap.size := by
    apply Decidable.byContradiction
    intro hc
    unfold World.var? at h
    rw [hg] at h
    simp [Array.getElem?_eq_none (by omega : w.heap.size ≤ g)] at h
  unfold World.var? at h ⊢
  rw [hg] at h ⊢
  simp only [Option.bind_some] at h ⊢
  rw [hb.block g hlt]
  exact h

theorem WrTabs.later {w w' : World} (h : WrTabs w) (hb : Below w.heap.size w w') : WrTabs w' := by
  obtain ⟨m, hm⟩ := h.max
  exact ⟨var_later (g := 5) (by kernel_rfl) h.pow hb, m, (hb.cell (World.block_lt_of_cell? _ _ hm)).trans hm⟩

theorem Tryd.x155 : Builder.Extra Tryd.prog Tryd.l155_ren := {
  sizeBuilder := by kernel_rfl
  liesBuilder := by kernel_rfl
  t5 := Tryd.underlying5
  a5 := Tryd.isAgg5
  z5 := Tryd.sizeOf5
  v5 := Tryd.zeroValue5
  infoByte := by kernel_rfl
  cellsByte := by kernel_rfl
  sizeByte := by kernel_rfl
  neB5 := by decide }

theorem Itoa_any (n : Int) (h0 : 0 ≤ n) (h1 : n ≤ 9223372036854775807) (w : World) (tab : WrTabs w) :
    Calls Tryd.prog 47 #[.int .i64 n] w fun e w' => e = .returned (.string (str (Lib.decDigits n.toNat))) ∧ Below w.heap.size w w' := by
  refine (Any.strconv_Itoa Tryd.l171 n (by omega) h1 w tab.pow).mono fun e w' ⟨h2, k, os, h3⟩ => ⟨?_, ?_⟩
  · rw [h2]
    unfold Lib.itoa
    rw [if_neg (by omega)]
    rfl
  · rw [h3]
    refine ⟨rfl, rfl, rfl, ?_, fun j hj => ?_⟩
    · show w.heap.size ≤ (w.heap ++ os).size
      rw [Array.size_append]
      omega
    · show (w.heap ++ os)[j]? = w.heap[j]?
      rw [Array.getElem?_append_left hj]

theorem ReplaceAll_any (s : ByteArray) (hs : s.size ≤ 1000000) (w : World) (tab : WrTabs w) :
    Calls Tryd.prog 48 #[.string s, .string ⟨#[39]⟩, .string ⟨#[39, 39]⟩] w fun e w' => e = .returned (.string (str (twice (bts s)))) ∧ Below w.heap.size w w' := by
  obtain ⟨m, hm⟩ := tab.max
  have hc := Lib.countB_le ⟨#[39]⟩ (by decide) s.size s (Nat.le_refl _)
  have hz : (⟨#[39, 39]⟩ : ByteArray).size = 2 := rfl
  have := Any.strings_ReplaceAll Tryd.l155 Tryd.x155 s ⟨#[39]⟩ ⟨#[39, 39]⟩ m w (by omega) hm (by decide) (by rw [hz]; omega)
  have e : Lib.replaceAll s.data.toList [39] [39, 39] = twice (bts s) := replaceAll_twice (bts s)
  exact this.mono fun e' w' h => ⟨by rw [h.1]; exact congrArg (fun l => Ending.returned (.string (str l))) e, h.2⟩

theorem twice_len (l : List UInt8) : (twice l).length ≤ 2 * l.length := by
  induction l with
  | nil => simp [twice]
  | cons c l ih =>
    by_cases hc : c.toNat = 39
    · have e : twice (c :: l) = c :: c :: twice l := by simp [twice, hc]
      rw [e]
      simp only [List.length_cons]
      omega
    · have e : twice (c :: l) = c :: twice l := by simp [twice, hc]
      rw [e]
      simp only [List.length_cons]
      omega

theorem str_append (a b : List UInt8) : str a ++ str b = str (a ++ b) := ByteArray.mk_append_mk a b

set_option maxRecDepth 100000 in
theorem written_any (k n : Int) (s : ByteArray) (hm : may ⟨k, n, bts s⟩ = true) (hn : n ≤ 9223372036854775807) (w : World) (tab : WrTabs w) :
    Calls Tryd.prog 29 #[.agg #[.int .i64 k, .int .i64 n, .string s]] w fun e w' => e = .returned (.string (str (wr ⟨k, n, bts s⟩))) ∧ Below w.heap.size w w' := by
  have hb : ∀ o, Below w.heap.size w (w.alloc o) := fun o => (Below.refl _ w).alloc (Nat.le_refl _) o
  by_cases h2 : k = 2
  · subst h2
    have h0 : 0 ≤ n := by
      unfold may at hm
      simp at hm
      exact hm.1
    have cI := fun o => Itoa_any n h0 hn (w.alloc o) (tab.later (hb o))
    have R : Hid (wr ⟨2, n, bts s⟩ = Lib.decDigits n.toNat) := by simp [Hid, wr]
    generalize Lib.decDigits n.toNat = d at cI R
    clear hm tab
    go_enter Tryd.func29, Tryd.ntmps29
    go_wp2_with (go_at_call 47; refine (cI _).mono ?_; rintro e w' ⟨rfl, hb2⟩)
    go_ret
    rw [R.out]
    exact ⟨rfl, (hb _).trans (hb2.mono (by simp))⟩
  by_cases h3 : k = 3
  · subst h3
    have hl : s.size ≤ 40 := by
      unfold may at hm
      simp at hm
      rw [size_bytes]
      exact hm.1.2
    have cR := fun o => ReplaceAll_any s (by omega) (w.alloc o) (tab.later (hb o))
    have R : Hid (wr ⟨3, n, bts s⟩ = 39 :: (twice (bts s) ++ [39])) := by simp [Hid, wr]
    have ht := twice_len (bts s)
    rw [← size_bytes] at ht
    obtain ⟨d, hd⟩ : ∃ d, twice (bts s) = d := ⟨_, rfl⟩
    rw [hd] at cR R ht
    have hds : (str d).size = d.length := str_size d
    have R2 : Hid (str (39 :: (d ++ [39])) = (⟨#[39]⟩ ++ str d) ++ ⟨#[39]⟩) := by
      show _ = (str [39] ++ str d) ++ str [39]
      rw [str_append, str_append]
      rfl
    clear hm tab h2
    go_enter Tryd.func29, Tryd.ntmps29
    go_wp2_with (go_at_call 48; refine (cR _).mono ?_; rintro e w' ⟨rfl, hb2⟩)
    go_ret
    rw [R.out, R2.out]
    exact ⟨rfl, (hb _).trans (hb2.mono (by simp))⟩
  · have R : Hid (str (wr ⟨k, n, bts s⟩) = s) := by
      show _ = _
      unfold wr
      rw [if_neg h2, if_neg h3]
      exact str_bts s
    clear hm tab
    go_enter Tryd.func29, Tryd.ntmps29
    go_wp2
    go_ret
    rw [R.out]
    exact ⟨rfl, hb _⟩

end Go.Proofs.YtogkghifpocgmaaDoor
