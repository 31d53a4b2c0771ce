/- What the walks of LexBad, LexBack, LexBlank share: tokens that were made, joined, cut. -/
import Derived.Test.YtogkghifpocgmaaDoorHandedAnd
import Derived.Test.YtogkghifpocgmaaDoorOverTabs
import Derived.Test.YtogkghifpocgmaaDoorLexBadPlain
import Derived.Test.YtogkghifpocgmaaDoorKeepToks
namespace Go.Proofs.YtogkghifpocgmaaDoor
open Go.ChangeShapes Go.WideShapes Go.ChangeAt Go.RowKit

theorem TokensOf_made (ao : Option Addr) (cap : Nat) (ls : List Tok) (n : Nat) (hn : n ≤ 24) {w W : World} (hb : Below w.heap.size w W) (hs : Scr w ao cap ls) :
    Calls Tryd.prog 16 #[.slice ao ls.length cap, .int .i64 (n : Int)] W fun e W' => ∃ ts ao2 cap2, e = .returned (.slice ao2 ts.length cap2) ∧ Hid (ts.length ≤ n ∧ AllMay ts ∧ Toks W' ao2 cap2 ts) ∧ Hid (Below w.heap.size w W') := by
  refine (TokensOf_any ao cap ls n (by omega) W (hs.later hb)).mono fun e W' ⟨ts, ao2, cap2, h1, h2, h3, h4, h5⟩ => ?_
  exact ⟨ts, ao2, cap2, h1, ⟨h2, h3, toks_of_own rfl (fun t ht => (h3 t ht).2) h4⟩, hb.trans (h5.mono hb.size)⟩

theorem Join_made (ao : Option Addr) (cap : Nat) (ts : List Tok) (hm : AllMay ts) (hn : ts.length ≤ 24) {w W : World} (hb : Below w.heap.size w W) (tabs : AllTabs w) (ht : Toks W ao cap ts) :
    Calls Tryd.prog 14 #[.slice ao ts.length cap] W fun e W' => ∃ z : ByteArray, e = .returned (.tuple #[.string z, .int .i64 0]) ∧ z.size ≤ 1992 ∧ Hid (bts z = joined ts) ∧ Hid (Below w.heap.size w W' ∧ Toks W' ao cap ts) := by
  refine (Join_any ao cap ts W ((tabs.later hb).join) ht).mono fun e W' ⟨h1, h2⟩ => ?_
  rw [joinAns_ok hm hn] at h1
  have hl := joined_len hm
  exact ⟨str (joined ts), h1, by rw [str_size]; omega, bts_str _, hb.trans (h2.mono hb.size), ht.later h2⟩

/-- the answer of Cut, known: an error at a place -/
theorem Cut_refused (s : ByteArray) {w W : World} (hb : Below w.heap.size w W) (tabs : AllTabs w) {p : Nat} {c : Int} (h : CutIs (bts s) [] p c) :
    Calls Tryd.prog 11 #[.string s] W fun e W' => ∃ ao cap, e = .returned (.tuple #[.slice ao 0 cap, .int .i64 (p : Int), .int .i64 c]) ∧ Hid (Below w.heap.size w W') := by
  refine (Cut_is s W ((tabs.later hb).lex) h).mono fun e W' ⟨ao, cap, h1, _, h3⟩ => ?_
  exact ⟨ao, cap, h1, hb.trans (h3.mono hb.size)⟩

/-- the answer of Cut, known: tokens -/
theorem Cut_tokens (s : ByteArray) {w W : World} (hb : Below w.heap.size w W) (tabs : AllTabs w) {ts : List Tok} (hi : ∀ t ∈ ts, t.int ≤ 9223372036854775807) (h : CutIs (bts s) ts 0 0) :
    Calls Tryd.prog 11 #[.string s] W fun e W' => ∃ ao cap, e = .returned (.tuple #[.slice ao ts.length cap, .int .i64 0, .int .i64 0]) ∧ Hid (Below W.heap.size W W') ∧ Hid (Below w.heap.size w W' ∧ Toks W' ao cap ts) := by
  refine (Cut_is s W ((tabs.later hb).lex) h).mono fun e W' ⟨ao, cap, h1, h2, h3⟩ => ?_
  exact ⟨ao, cap, h1, h3, hb.trans (h3.mono hb.size), toks_of_own rfl hi h2⟩

end Go.Proofs.YtogkghifpocgmaaDoor
