/- The statements' own maker of tokens (TokenOf): what it gives may be. -/
import Derived.Test.YtogkghifpocgmaaDoorKeepText
namespace Go.Proofs.YtogkghifpocgmaaDoor
open Go.ChangeShapes Go.WideShapes Go.ChangeAt Go.RowKit

def markList : List (List UInt8) := [[40], [41], [44], [46], [42], [43], [45], [47], [37], [61], [60], [62], [60, 61], [62, 61], [60, 62]]

theorem markList_mark : ∀ m, m < 15 → isMark (markList.getD m []) = true := by decide +kernel

theorem marks_cell (W : World) (ty : TypeId) (m : Nat) (hm : m < 15) : (W.alloc (.cells #[.string ⟨#[40]⟩, .string ⟨#[41]⟩, .string ⟨#[44]⟩, .string ⟨#[46]⟩, .string ⟨#[42]⟩, .string ⟨#[43]⟩, .string ⟨#[45]⟩, .string ⟨#[47]⟩, .string ⟨#[37]⟩, .string ⟨#[61]⟩, .string ⟨#[60]⟩, .string ⟨#[62]⟩, .string ⟨#[60, 61]⟩, .string ⟨#[62, 61]⟩, .string ⟨#[60, 62]⟩] ty)).cell? ⟨W.heap.size, m, none⟩ = some (.string (str (markList.getD m []))) := by
  rcases (show m = 0 ∨ m = 1 ∨ m = 2 ∨ m = 3 ∨ m = 4 ∨ m = 5 ∨ m = 6 ∨ m = 7 ∨ m = 8 ∨ m = 9 ∨ m = 10 ∨ m = 11 ∨ m = 12 ∨ m = 13 ∨ m = 14 by omega) with rfl | rfl | rfl | rfl | rfl | rfl | rfl | rfl | rfl | rfl | rfl | rfl | rfl | rfl | rfl <;> simp [markList, str]

/-- the call's own token variable, behind two blocks more and whatever a callee lays -/
theorem tok_new1 (w W : World) (o o3 : Obj) (hb : Below (((w.alloc o).alloc (.cells #[.int .i64 0, .int .i64 0, .string ⟨#[]⟩] 23)).alloc o3).heap.size (((w.alloc o).alloc (.cells #[.int .i64 0, .int .i64 0, .string ⟨#[]⟩] 23)).alloc o3) W) :
    Below w.heap.size w W ∧ (W.cell? ⟨w.heap.size + 1, 0, none⟩ = some (.int .i64 0) ∧ W.frozen? ⟨w.heap.size + 1, 0, none⟩ = false) ∧ (W.cell? ⟨w.heap.size + 1, 1, none⟩ = some (.int .i64 0) ∧ W.frozen? ⟨w.heap.size + 1, 1, none⟩ = false) ∧
      (W.cell? ⟨w.heap.size + 1, 2, none⟩ = some (.string ⟨#[]⟩) ∧ W.frozen? ⟨w.heap.size + 1, 2, none⟩ = false) := by
  have e : (w.alloc o).heap.size = w.heap.size + 1 := by simp
  have h3 : Below ((w.alloc o).alloc (.cells #[.int .i64 0, .int .i64 0, .string ⟨#[]⟩] 23)).heap.size ((w.alloc o).alloc (.cells #[.int .i64 0, .int .i64 0, .string ⟨#[]⟩] 23)) (((w.alloc o).alloc (.cells #[.int .i64 0, .int .i64 0, .string ⟨#[]⟩] 23)).alloc o3) := (Below.refl _ _).alloc (Nat.le_refl _) _
  have h := tok_new (w.alloc o) W (h3.trans (hb.mono h3.size))
  rw [e] at h
  have h1 : Below w.heap.size w (w.alloc o) := (Below.refl _ w).alloc (Nat.le_refl _) _
  exact ⟨h1.trans (h.1.mono (by omega)), h.2⟩

theorem tok_end1 {w W : World} {v0 v1 v2 : Value} (hb : Below w.heap.size w W) (k0 : ∃ u, W.cell? ⟨w.heap.size + 1, 0, none⟩ = some u) (k1 : ∃ u, W.cell? ⟨w.heap.size + 1, 1, none⟩ = some u) (k2 : ∃ u, W.cell? ⟨w.heap.size + 1, 2, none⟩ = some u) :
    ∃ W3, ((W.setCell ⟨w.heap.size + 1, 0, none⟩ v0).setCell ⟨w.heap.size + 1, 1, none⟩ v1).setCell ⟨w.heap.size + 1, 2, none⟩ v2 = W3 ∧ Below w.heap.size w W3 ∧
      W3.cell? ⟨w.heap.size + 1, 0, none⟩ = some v0 ∧ W3.cell? ⟨w.heap.size + 1, 1, none⟩ = some v1 ∧ W3.cell? ⟨w.heap.size + 1, 2, none⟩ = some v2 := by
  obtain ⟨u0, k0⟩ := k0
  obtain ⟨u1, k1⟩ := k1
  obtain ⟨u2, k2⟩ := k2
  have hr := stored3 k0 k1 k2 v0 v1 v2
  have hl : w.heap.size ≤ w.heap.size + 1 := Nat.le_succ _
  exact ⟨_, rfl, ((hb.setCell hl _).setCell hl _).setCell hl _, hr 0 _ rfl, hr 1 _ rfl, hr 2 _ rfl⟩

set_option maxRecDepth 100000 in
set_option maxHeartbeats 4000000 in
theorem TokenOf_any (k n : Int) (s : ByteArray) (wn : (Lit.int .i64 n).wf = true) (hs : s.size ≤ maxLen) (w : World) :
    Calls Tryd.prog 31 #[.agg #[.int .i64 k, .int .i64 n, .string s]] w fun e w' => ∃ t : Tok, e = .returned (tokv t) ∧ may t = true ∧ t.int ≤ 9223372036854775807 ∧ Below w.heap.size w w' := by
  have hs2 : s.size ≤ 9223372036854775807 := by unfold maxLen at hs; exact hs
  have hn1 : -9223372036854775808 ≤ n ∧ n ≤ 9223372036854775807 := by
    have h := wn
    simp [Lit.wf] at h
    have e : IntKind.i64.min = -9223372036854775808 := rfl
    exact ⟨by omega, h.2⟩
  obtain ⟨p, hp⟩ : ∃ p : Nat, k % 4 = (p : Int) := ⟨(k % 4).toNat, by omega⟩
  have hp4 : p < 4 := by omega
  have cP := Picked_any k 4 (by decide) (by decide)
  rw [hp] at cP
  clear hp
  have hb0 : Below w.heap.size w (((w.alloc (.cells #[.int .i64 k, .int .i64 n, .string s] 50)).alloc (.cells #[.int .i64 0, .int .i64 0, .string ⟨#[]⟩] 23)).alloc (.cells #[.string ⟨#[40]⟩, .string ⟨#[41]⟩, .string ⟨#[44]⟩, .string ⟨#[46]⟩, .string ⟨#[42]⟩, .string ⟨#[43]⟩, .string ⟨#[45]⟩, .string ⟨#[47]⟩, .string ⟨#[37]⟩, .string ⟨#[61]⟩, .string ⟨#[60]⟩, .string ⟨#[62]⟩, .string ⟨#[60, 61]⟩, .string ⟨#[62, 61]⟩, .string ⟨#[60, 62]⟩] 9)) := (((Below.refl _ w).alloc (Nat.le_refl _) _).alloc (by simp) _).alloc (by simp; omega) _
  rcases (show p = 0 ∨ p = 1 ∨ p = 2 ∨ p = 3 by omega) with rfl | rfl | rfl | rfl
  · have cW : Calls Tryd.prog 19 #[.string s] (((w.alloc (.cells #[.int .i64 k, .int .i64 n, .string s] 50)).alloc (.cells #[.int .i64 0, .int .i64 0, .string ⟨#[]⟩] 23)).alloc (.cells #[.string ⟨#[40]⟩, .string ⟨#[41]⟩, .string ⟨#[44]⟩, .string ⟨#[46]⟩, .string ⟨#[42]⟩, .string ⟨#[43]⟩, .string ⟨#[45]⟩, .string ⟨#[47]⟩, .string ⟨#[37]⟩, .string ⟨#[61]⟩, .string ⟨#[60]⟩, .string ⟨#[62]⟩, .string ⟨#[60, 61]⟩, .string ⟨#[62, 61]⟩, .string ⟨#[60, 62]⟩] 9)) fun e W => ∃ u : List UInt8, e = .returned (.string (str u)) ∧ Hid (Wordish u ∧ u.length ≤ 12) ∧ _ := (WordOf_any s hs2 (((w.alloc (.cells #[.int .i64 k, .int .i64 n, .string s] 50)).alloc (.cells #[.int .i64 0, .int .i64 0, .string ⟨#[]⟩] 23)).alloc (.cells #[.string ⟨#[40]⟩, .string ⟨#[41]⟩, .string ⟨#[44]⟩, .string ⟨#[46]⟩, .string ⟨#[42]⟩, .string ⟨#[43]⟩, .string ⟨#[45]⟩, .string ⟨#[47]⟩, .string ⟨#[37]⟩, .string ⟨#[61]⟩, .string ⟨#[60]⟩, .string ⟨#[62]⟩, .string ⟨#[60, 61]⟩, .string ⟨#[62, 61]⟩, .string ⟨#[60, 62]⟩] 9))).mono fun e W ⟨u, h1, h2, h3, h4⟩ => ⟨u, h1, ⟨h2, h3⟩, tok_new1 w W _ _ h4⟩
    clear hb0
    go_enter Tryd.func31, Tryd.ntmps31
    go_wp2_with (first
      | (go_at_call 18; refine (cP _).mono ?_; rintro e w' ⟨rfl, rfl⟩)
      | (go_at_call 19; refine cW.mono ?_; rintro e w' ⟨u, rfl, HU, hb2, ⟨k0, f0⟩, ⟨k1, f1⟩, k2, f2⟩))
    obtain ⟨W3, e3, hb3, c0, c1, c2⟩ := tok_end1 (v0 := .int .i64 1) (v1 := .int .i64 0) (v2 := .string (str u)) hb2 ⟨_, k0⟩ ⟨_, k1⟩ ⟨_, k2⟩
    rw [e3]
    refine bodyPost_ret (v := tokv ⟨1, 0, u⟩) (by simp [results, Tryd.results31, go_sem, asAddr, c0, c1, c2, tokv]) rfl ⟨⟨1, 0, u⟩, rfl, ?_, (by show (0 : Int) ≤ _; decide), hb3⟩
    simp [may, HU.out.1.isWord HU.out.2]
  · by_cases hneg : n < 0
    · go_enter Tryd.func31, Tryd.ntmps31
      go_wp2_with (go_at_call 18; refine (cP _).mono ?_; rintro e w' ⟨rfl, rfl⟩)
      refine bodyPost_ret (v := tokv ⟨2, -(n + 1), []⟩) (by simp [results, Tryd.results31, go_sem, asAddr, tokv, str]) rfl ⟨⟨2, -(n + 1), []⟩, rfl, ?_, ?_, ?_⟩
      · simp [may]
        omega
      · show -(n + 1) ≤ _
        omega
      · exact (((Below.refl _ w).alloc (Nat.le_refl _) _).alloc (by simp) _).alloc (by simp; omega) _
    · go_enter Tryd.func31, Tryd.ntmps31
      go_wp2_with (go_at_call 18; refine (cP _).mono ?_; rintro e w' ⟨rfl, rfl⟩)
      refine bodyPost_ret (v := tokv ⟨2, n, []⟩) (by simp [results, Tryd.results31, go_sem, asAddr, tokv, str]) rfl ⟨⟨2, n, []⟩, rfl, ?_, ?_, ?_⟩
      · simp [may]
        omega
      · exact hn1.2
      · exact (((Below.refl _ w).alloc (Nat.le_refl _) _).alloc (by simp) _).alloc (by simp; omega) _
  · have cC : Calls Tryd.prog 20 #[.string s, .int .i64 40] (((w.alloc (.cells #[.int .i64 k, .int .i64 n, .string s] 50)).alloc (.cells #[.int .i64 0, .int .i64 0, .string ⟨#[]⟩] 23)).alloc (.cells #[.string ⟨#[40]⟩, .string ⟨#[41]⟩, .string ⟨#[44]⟩, .string ⟨#[46]⟩, .string ⟨#[42]⟩, .string ⟨#[43]⟩, .string ⟨#[45]⟩, .string ⟨#[47]⟩, .string ⟨#[37]⟩, .string ⟨#[61]⟩, .string ⟨#[60]⟩, .string ⟨#[62]⟩, .string ⟨#[60, 61]⟩, .string ⟨#[62, 61]⟩, .string ⟨#[60, 62]⟩] 9)) fun e W => ∃ u : List UInt8, e = .returned (.string (str u)) ∧ Hid (signs u = true ∧ u.length ≤ 40) ∧ _ := (Clean_any s 40 (by omega) hs2 (((w.alloc (.cells #[.int .i64 k, .int .i64 n, .string s] 50)).alloc (.cells #[.int .i64 0, .int .i64 0, .string ⟨#[]⟩] 23)).alloc (.cells #[.string ⟨#[40]⟩, .string ⟨#[41]⟩, .string ⟨#[44]⟩, .string ⟨#[46]⟩, .string ⟨#[42]⟩, .string ⟨#[43]⟩, .string ⟨#[45]⟩, .string ⟨#[47]⟩, .string ⟨#[37]⟩, .string ⟨#[61]⟩, .string ⟨#[60]⟩, .string ⟨#[62]⟩, .string ⟨#[60, 61]⟩, .string ⟨#[62, 61]⟩, .string ⟨#[60, 62]⟩] 9))).mono fun e W ⟨u, h1, h2, h3, h4⟩ => ⟨u, h1, ⟨h2, h3⟩, tok_new1 w W _ _ h4⟩
    clear hb0
    go_enter Tryd.func31, Tryd.ntmps31
    go_wp2_with (first
      | (go_at_call 18; refine (cP _).mono ?_; rintro e w' ⟨rfl, rfl⟩)
      | (go_at_call 20; refine cC.mono ?_; rintro e w' ⟨u, rfl, HU, hb2, ⟨k0, f0⟩, ⟨k1, f1⟩, k2, f2⟩))
    obtain ⟨W3, e3, hb3, c0, c1, c2⟩ := tok_end1 (v0 := .int .i64 3) (v1 := .int .i64 0) (v2 := .string (str u)) hb2 ⟨_, k0⟩ ⟨_, k1⟩ ⟨_, k2⟩
    rw [e3]
    refine bodyPost_ret (v := tokv ⟨3, 0, u⟩) (by simp [results, Tryd.results31, go_sem, asAddr, c0, c1, c2, tokv]) rfl ⟨⟨3, 0, u⟩, rfl, ?_, (by show (0 : Int) ≤ _; decide), hb3⟩
    simp [may, HU.out.1, HU.out.2]
  · obtain ⟨m, hm⟩ : ∃ m : Nat, n % 15 = (m : Int) := ⟨(n % 15).toNat, by omega⟩
    have hm15 : m < 15 := by omega
    have hm1 : (m : Int) < 15 := by omega
    have cQ := Picked_any n 15 (by decide) (by decide)
    rw [hm] at cQ
    have hcell := marks_cell ((w.alloc (.cells #[.int .i64 k, .int .i64 n, .string s] 50)).alloc (.cells #[.int .i64 0, .int .i64 0, .string ⟨#[]⟩] 23)) 9 m hm15
    have e2 : ((w.alloc (.cells #[.int .i64 k, .int .i64 n, .string s] 50)).alloc (.cells #[.int .i64 0, .int .i64 0, .string ⟨#[]⟩] 23)).heap.size = w.heap.size + 2 := by simp
    rw [e2] at hcell
    have hmk := markList_mark m hm15
    generalize markList.getD m [] = u at hcell hmk
    clear hm e2
    go_enter Tryd.func31, Tryd.ntmps31
    go_wp2_with (first
      | (go_at_call 18; with_reducible refine (cP _).mono ?_; rintro e w' ⟨rfl, rfl⟩)
      | (go_at_call 18; with_reducible refine (cQ _).mono ?_; rintro e w' ⟨rfl, rfl⟩))
    refine bodyPost_ret (v := tokv ⟨4, 0, u⟩) (by simp [results, Tryd.results31, go_sem, asAddr, tokv]) rfl ⟨⟨4, 0, u⟩, rfl, ?_, (by show (0 : Int) ≤ _; decide), ?_⟩
    · simp [may, hmk]
    · exact (((Below.refl _ w).alloc (Nat.le_refl _) _).alloc (by simp) _).alloc (by simp; omega) _

end Go.Proofs.YtogkghifpocgmaaDoor
