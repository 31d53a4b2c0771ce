/- Whether a text is a name: the program's and the document's answer, at every text. -/
import Derived.Test.YtojfcafdegbkjaaDoorKeptNames
import Derived.Test.YtojfcafdegbkjaaDoorLexRefTok
import Derived.Test.YtojfcafdegbkjaaDoorNameIs
namespace Go.Proofs.YtojfcafdegbkjaaDoor
open Go.ChangeShapes Go.WideShapes Go.ChangeAt Go.RowKit

set_option maxHeartbeats 2000000 in
theorem MayName_any (s : ByteArray) (w : World) (tab : Marks w) (u8 : U8 w) :
    Calls Tryd.prog 14 #[.string s] w fun e w' => e = .returned (.bool (nameIs (bts s))) ∧ Below w.heap.size w w' := by
  have cM : Hid (∀ W : World, Below w.heap.size w W → Calls Tryd.prog 24 #[.agg #[.int .i64 1, .int .i64 0, .string s]] W fun e w' => e = .returned (.bool (may ⟨1, 0, bts s⟩)) ∧ Below w.heap.size w w') :=
    fun W hW => (May_any 1 0 s W (tab.later hW) (u8.later hW)).mono fun _ _ h => ⟨h.1, hW.trans (h.2.mono hW.size)⟩
  have b0 : Below w.heap.size w w := Below.refl _ w
  have cK := Kept_any (bts s)
  rw [str_bts] at cK
  unfold nameIs
  generalize may ⟨1, 0, bts s⟩ = a at cM ⊢
  generalize kept (bts s) = b at cK ⊢
  clear tab u8
  cases a with
  | false =>
    go_enter Tryd.func14, Tryd.ntmps14
    go_wp2_with (go_at_call 24; refine (cM.out _ b0).mono ?_; rintro e w1 ⟨rfl, hb⟩)
    go_ret
    exact ⟨rfl, hb⟩
  | true =>
    go_enter Tryd.func14, Tryd.ntmps14
    go_wp2_with (first
      | (go_at_call 24; refine (cM.out _ b0).mono ?_; rintro e w1 ⟨rfl, hb⟩)
      | (go_at_call 25; refine (cK _).mono ?_; rintro e w2 ⟨rfl, rfl⟩))
    go_ret
    exact ⟨rfl, hb⟩

set_option maxHeartbeats 2000000 in
theorem NameMay_any (s : ByteArray) (w : World) :
    Calls Tryd.prog 21 #[.string s] w fun e w' => e = .returned (.bool (nameIs (bts s))) ∧ Below w.heap.size w w' := by
  have cM : Hid (∀ W : World, Below w.heap.size w W → Calls Tryd.prog 30 #[.agg #[.int .i64 1, .int .i64 0, .string s]] W fun e w' => e = .returned (.bool (may ⟨1, 0, bts s⟩)) ∧ Below w.heap.size w w') :=
    fun W hW => (TokenMay_any 1 0 s W).mono fun _ _ h => ⟨h.1, hW.trans (h.2.mono hW.size)⟩
  have b0 : Below w.heap.size w w := Below.refl _ w
  have cK := KeptWord_any (bts s)
  rw [str_bts] at cK
  unfold nameIs
  generalize may ⟨1, 0, bts s⟩ = a at cM ⊢
  generalize kept (bts s) = b at cK ⊢
  cases a with
  | false =>
    go_enter Tryd.func21, Tryd.ntmps21
    go_wp2_with (go_at_call 30; refine (cM.out _ b0).mono ?_; rintro e w1 ⟨rfl, hb⟩)
    go_ret
    exact ⟨rfl, hb⟩
  | true =>
    go_enter Tryd.func21, Tryd.ntmps21
    go_wp2_with (first
      | (go_at_call 30; refine (cM.out _ b0).mono ?_; rintro e w1 ⟨rfl, hb⟩)
      | (go_at_call 31; refine (cK _).mono ?_; rintro e w2 ⟨rfl, rfl⟩))
    go_ret
    exact ⟨rfl, hb⟩

end Go.Proofs.YtojfcafdegbkjaaDoor
