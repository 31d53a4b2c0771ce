/- The tables of LexCuts' row; what Cut and the document's own cutting answer, as the law's walk wants it. -/
import Derived.Test.YtjeniabnokcbnaaDoorLexRefToks
import Derived.Test.YtjeniabnokcbnaaDoorToksOwn
import Derived.Test.YtjeniabnokcbnaaDoorSameToksLaw
namespace Go.Proofs.YtjeniabnokcbnaaDoor
open Go.ChangeShapes Go.WideShapes Go.ChangeAt Go.RowKit

theorem lexCuts_tabs {W : World} (h : laidMetH Tryd.prog Rows.lexCutsRow.laid W) : LexTabs W := by
  rw [MakeChecks.laidMetH_plain _ _ _ (by kernel_rfl)] at h
  exact lexTabs_of h (.tail _ (.tail _ (.tail _ (.tail _ (.tail _ (.tail _ (.head _))))))) (.tail _ (.tail _ (.tail _ (.tail _ (.tail _ (.tail _ (.tail _ (.head _)))))))) (.tail _ (.tail _ (.tail _ (.head _)))) (.tail _ (.tail _ (.tail _ (.tail _ (.head _)))))

theorem one_int {l : List UInt8} {t : Tok} {n : Nat} (h : one l = .tok t n) : t.int ≤ 9223372036854775807 := by
  cases l with
  | nil => cases h
  | cons c r =>
    simp only [one] at h
    split at h
    · split at h
      · cases h
      · cases h; exact (by decide : (0 : Int) ≤ 9223372036854775807)
    · split at h
      · split at h
        · cases h
        · next hn => cases h; show ((num _ : Nat) : Int) ≤ _; omega
      · split at h
        · split at h
          · cases h
          · split at h
            · cases h
            · split at h
              · cases h; exact (by decide : (0 : Int) ≤ 9223372036854775807)
              · cases h
        · split at h
          · cases h
          · cases h; exact (by decide : (0 : Int) ≤ 9223372036854775807)

theorem Cuts.small {l : List UInt8} {i : Nat} {ts rs : List Tok} {p : Nat} {e : Int} (h : Cuts l i ts rs p e) (h1 : ts.length ≤ 300) (h2 : ∀ t ∈ ts, t.int ≤ 9223372036854775807) : rs.length ≤ 300 ∧ ∀ t ∈ rs, t.int ≤ 9223372036854775807 := by
  induction h with
  | done i ts h => exact ⟨h1, h2⟩
  | full i ts h hf => exact ⟨by simp, fun t ht => by cases ht⟩
  | bad i ts e h hf ho => exact ⟨by simp, fun t ht => by cases ht⟩
  | step i ts t n rs p e h hf ho hr ih =>
    refine ih (by simp; omega) fun u hu => ?_
    rcases List.mem_append.1 hu with hu | hu
    · exact h2 u hu
    · rw [List.mem_singleton.1 hu]
      exact one_int ho

theorem CutIs.small {l : List UInt8} {rs : List Tok} {p : Nat} {e : Int} (h : CutIs l rs p e) : rs.length ≤ 300 ∧ ∀ t ∈ rs, t.int ≤ 9223372036854775807 := by
  rcases h with ⟨_, rfl, _, _⟩ | ⟨_, h⟩
  · exact ⟨by simp, fun t ht => by cases ht⟩
  · exact h.small (by simp) (fun t ht => by cases ht)

/-- a row of tokens as an answer -/
def RowAns (w : World) (s : ByteArray) (W' : World) (ao : Option Addr) (n cap p : Nat) (c : Int) : Prop := ∃ ts : List Tok, n = ts.length ∧ CutIs (bts s) ts p c ∧ Toks W' ao cap ts ∧ Below w.heap.size w W'

theorem ans_row {w W W' : World} {s : ByteArray} {e : Ending} (hW : Below w.heap.size w W) (h : ∃ v ts p c, e = .returned (.tuple #[v, .int .i64 (p : Nat), .int .i64 c]) ∧ CutIs (bts s) ts p c ∧ W'.ownsRow W.heap.size 44 3 v ts.length (tokCells ts) ∧ Below W.heap.size W W') :
    ∃ (ao : Option Addr) (n cap p : Nat) (c : Int), e = .returned (.tuple #[.slice ao n cap, .int .i64 (p : Int), .int .i64 c]) ∧ Hid (RowAns w s W' ao n cap p c) := by
  obtain ⟨v, ts, p, c, rfl, h1, h2, h3⟩ := h
  obtain ⟨ao, cap, rfl⟩ := own_shape h2
  exact ⟨ao, ts.length, cap, p, c, rfl, ts, rfl, h1, (own_toks rfl h1.small.2 h2).1, hW.trans (h3.mono hW.size)⟩

theorem Cut_row (s : ByteArray) {w W : World} (tabs : LexTabs w) (hW : Below w.heap.size w W) :
    Calls Tryd.prog 5 #[.string s] W fun e W' => ∃ (ao : Option Addr) (n cap p : Nat) (c : Int), e = .returned (.tuple #[.slice ao n cap, .int .i64 (p : Int), .int .i64 c]) ∧ Hid (RowAns w s W' ao n cap p c) :=
  (Cut_any s W (tabs.later hW)).mono fun _ _ h => ans_row hW h
theorem Tokens_row (s : ByteArray) (W : World) :
    Calls Tryd.prog 6 #[.string s] W fun e W' => ∃ (ao : Option Addr) (n cap p : Nat) (c : Int), e = .returned (.tuple #[.slice ao n cap, .int .i64 (p : Int), .int .i64 c]) ∧ Hid (RowAns W s W' ao n cap p c) :=
  (Tokens_any s W).mono fun _ _ h => ans_row (Below.refl _ W) h

/-- two answers at one source are the same -/
theorem RowAns.same {w W W' : World} {s : ByteArray} {ao ao' : Option Addr} {n n' cap cap' p p' : Nat} {c c' : Int} (h : RowAns w s W ao n cap p c) (h' : RowAns W s W' ao' n' cap' p' c') :
    n = n' ∧ p = p' ∧ c = c' ∧ Hid (Below w.heap.size w W') ∧ Hid (Calls Tryd.prog 7 #[.slice ao n cap, .slice ao' n cap'] W' fun e w' => e = .returned (.bool true) ∧ Below w.heap.size w w') := by
  obtain ⟨ts, rfl, h1, h2, h3⟩ := h
  obtain ⟨ts', rfl, g1, g2, g3⟩ := h'
  obtain ⟨rfl, rfl, rfl⟩ := h1.one_answer g1
  have hb : Below w.heap.size w W' := h3.trans (g3.mono h3.size)
  exact ⟨rfl, rfl, rfl, hb, (sameTokens_law ao ao' cap cap' ts h1.small.1 W' (h2.later g3) g2).mono fun _ _ h => ⟨h.1, hb.trans (h.2.mono hb.size)⟩⟩

end Go.Proofs.YtjeniabnokcbnaaDoor
