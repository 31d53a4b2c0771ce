/- Package lex: small letters of a text; a word: contracts, at every argument. -/
import Derived.Test.YtjeniabnokcbnaaGreatDoorLexWord
import Derived.Laws.IdiomStrings
namespace Go.Proofs.YtjeniabnokcbnaaGreatDoor
open Go.ChangeShapes Go.WideShapes Go.ChangeAt Go.RowKit

theorem add_off (g j : Nat) : (⟨g, 0, none⟩ : Addr).add j = ⟨g, j, none⟩ := by unfold Addr.add; split <;> simp_all

/-- a new row of a string's bytes -/
theorem bytes_new (w : World) (s : ByteArray) : ∃ cap W, (convert 9 93 (.string s)).run Tryz.prog w = .ok (.slice (some ⟨w.heap.size, 0, none⟩) s.size cap) W ∧ Below w.heap.size w W ∧
    ∀ j (hj : j < (bts s).length), W.cell? ⟨w.heap.size, j, none⟩ = some (.int .u8 ((bts s)[j].toNat : Int)) ∧ W.frozen? ⟨w.heap.size, j, none⟩ = false := by
  refine ⟨_, _, run_bytes_of_string (P := Tryz.prog) w 9 93 5 s Tryz.underlying9 Tryz.underlying93 Tryz.underlying5, ?_, fun j hj => ?_⟩
  · exact ((Below.refl _ w).drew).alloc (Nat.le_refl _) _
  · have hj2 : j < s.data.size := by
      have := size_bytes s
      show j < s.size
      omega
    have hsz : w.drew.heap.size = w.heap.size := rfl
    refine ⟨?_, ?_⟩
    · rw [← hsz, World.cell?_alloc_mark, bytesRow_at s _ j hj2]
      simp [bts]
    · rw [← hsz, World.frozen?_alloc_mark]
      have := (Array.getElem?_eq_some_iff.1 (bytesRow_at s (grownCap w s.size 0 5) j hj2)).1
      rw [decide_eq_false (by omega)]
      rfl

theorem bytes_back (w : World) (g cap : Nat) (l : List UInt8) (hc : ∀ j (hj : j < l.length), w.cell? ⟨g, j, none⟩ = some (.int .u8 (l[j].toNat : Int))) :
    (convert 93 9 (.slice (some ⟨g, 0, none⟩) l.length cap)).run Tryz.prog w = .ok (.string (str l)) w :=
  run_convert_bytes_back (P := Tryz.prog) w 93 9 5 ⟨g, 0, none⟩ cap l Tryz.underlying93 Tryz.underlying5 Tryz.underlying9 (fun j hj => by rw [add_off]; exact hc j hj)

set_option maxHeartbeats 1000000 in
theorem smallText_any (s : ByteArray) (hs : s.size ≤ 9223372036854775806) (w : World) :
    Calls Tryz.prog 39 #[.string s] w fun e w' => e = .returned (.string (str ((bts s).map low))) ∧ Below w.heap.size w w' := by
  obtain ⟨cap, W, hcv, hB, hC⟩ := bytes_new w s
  obtain ⟨g, hg⟩ : ∃ g, g = w.heap.size := ⟨_, rfl⟩
  rw [← hg] at hcv hC
  have HG : Hid (w.heap.size ≤ g) := by show _ ≤ _; omega
  have HL : Hid (s.size = (bts s).length) := size_bytes s
  have hB2 : Hid (Below w.heap.size w W) := hB
  have hC2 : Hid (∀ j (hj : j < (bts s).length), W.cell? ⟨g, j, none⟩ = some (.int .u8 ((if j < 0 then low (bts s)[j] else (bts s)[j]).toNat : Int)) ∧ W.frozen? ⟨g, j, none⟩ = false) := hC
  clear hg hB hC
  go_enter Tryz.func39, Tryz.ntmps39
  go_wp2
  go_loopw [10] (fun x wr => ∃ k : Nat, k ≤ s.size ∧ x = .int .i64 (k : Int) ∧ Hid (Below w.heap.size w wr) ∧
    Hid (∀ j (hj : j < (bts s).length), wr.cell? ⟨g, j, none⟩ = some (.int .u8 ((if j < k then low (bts s)[j] else (bts s)[j]).toNat : Int)) ∧ wr.frozen? ⟨g, j, none⟩ = false)) (fun x _ => s.size - (intOf x).toNat)
  case atStart => exact ⟨0, Nat.zero_le _, rfl, hB2, hC2⟩
  case round =>
    clear hcv hB2 hC2
    obtain ⟨k, hk, rfl, HB, HC⟩ := hrel
    by_cases hlt : k < s.size
    · have hlt1 : (k : Int) < (s.size : Int) := by omega
      have hlt2 : k < (bts s).length := by rw [← HL.out]; exact hlt
      obtain ⟨hc, hf⟩ := HC.out k hlt2
      rw [if_neg (Nat.lt_irrefl _)] at hc
      have cS := small_any (bts s)[k]
      have R : Hid (∀ W : World, W = wr.setCell ⟨g, k, none⟩ (.int .u8 ((low (bts s)[k]).toNat : Int)) → Below w.heap.size w W ∧ ∀ j (hj : j < (bts s).length), W.cell? ⟨g, j, none⟩ = some (.int .u8 ((if j < k + 1 then low (bts s)[j] else (bts s)[j]).toNat : Int)) ∧ W.frozen? ⟨g, j, none⟩ = false) := by
        intro W hW
        subst hW
        refine ⟨HB.out.setCell HG.out _, fun j hj => ⟨?_, ?_⟩⟩
        · by_cases he : j = k
          · subst he
            rw [World.cell?_setCell_same (h := hc), if_pos (by omega)]
          · rw [World.cell?_setCell_other (h := fun e => he (by cases e; rfl)), (HC.out j hj).1]
            by_cases h2 : j < k
            · rw [if_pos h2, if_pos (by omega)]
            · rw [if_neg h2, if_neg (by omega)]
        · rw [World.frozen?_setCell]
          exact (HC.out j hj).2
      generalize (bts s)[k] = c at hc cS R
      generalize low c = d at cS R
      go_wp2_with (go_at_call 22; refine (cS _).mono ?_; rintro e w' ⟨rfl, rfl⟩)
      go_roundw
      case rel => exact ⟨k + 1, by omega, by go_num, (R.out _ rfl).1, (R.out _ rfl).2⟩
      case measure => simp [intOf]; omega
    · have hlt1 : ¬ (k : Int) < (s.size : Int) := by omega
      have hbk := bytes_back wr g cap ((bts s).map low) (fun j hj => by
        have hj2 : j < (bts s).length := by simpa using hj
        rw [(HC.out j hj2).1, if_pos (by rw [← HL.out] at hj2; omega)]
        simp)
      rw [List.length_map, ← HL.out] at hbk
      go_wp2
      go_ret
      exact ⟨rfl, HB.out⟩

end Go.Proofs.YtjeniabnokcbnaaGreatDoor
