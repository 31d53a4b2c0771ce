/- The ballot's small functions: counts, has, most, add. -/
import Derived.Test.YtppcikfhhmiipaaBlMem
import Derived.Laws.EntriesVeiled
import Derived.Lib.SliceRun
import Derived.BigQuiet
import Derived.Deep.QuietTactic
import Derived.Deep.CutRange
namespace Go.Proofs.Ytppcikfhhmiipaa
open Go.ChangeShapes Go.WideShapes Go.ChangeAt Go.RowKit Go.Maps

theorem counts_any (n : Int) (w : World) : Calls Try.prog 20 #[.int .i64 n] w fun e w' => e = .returned (.bool (counts n)) ∧ w' = w := by
  by_cases h1 : 1 ≤ n
  · by_cases h2 : n ≤ 1048576
    · have e : counts n = true := counts_iff.2 ⟨h1, h2⟩
      rw [e]
      clear e
      go_enter Try.func20, Try.ntmps20
      go_wp2
      exact bodyPost_ret (v := .bool true) (by simp [results, Try.results20, go_sem]) rfl ⟨rfl, rfl⟩
    · have e : counts n = false := counts_not.2 (by omega)
      rw [e]
      clear e
      go_enter Try.func20, Try.ntmps20
      go_wp2
      exact bodyPost_ret (v := .bool false) (by simp [results, Try.results20, go_sem]) rfl ⟨rfl, rfl⟩
  · have e : counts n = false := counts_not.2 (by omega)
    rw [e]
    clear e
    go_enter Try.func20, Try.ntmps20
    go_wp2
    exact bodyPost_ret (v := .bool false) (by simp [results, Try.results20, go_sem]) rfl ⟨rfl, rfl⟩

theorem belowR {B : Nat} {a w : World} (h : Below B a w) (n : Nat) : Below B a (w.drewN n) := h.trans ⟨rfl, rfl, rfl, Nat.le_refl _, fun _ _ => rfl⟩

/-- a voter is added -/
theorem add_any (R o : Nat) (c : Nat → Bool) (v : Nat) (hv : v < 5) (w : World) (h : Cs w R o (crC c)) :
    Calls Try.prog 28 #[.pointer (some ⟨R, o, none⟩), .int .i64 (v : Int)] w fun e w' => e = .returned (.tuple #[]) ∧ w' = if c v = true then w else (w.setCell ⟨R, o + v, none⟩ (.bool true)).setCell ⟨R, o + 5, none⟩ (.int .i64 (cnt (put1 c v) : Nat)) := by
  have hc : w.cell? ⟨R, o + v, none⟩ = some (.bool (c v)) ∧ w.frozen? ⟨R, o + v, none⟩ = false := by
    have : v = 0 ∨ v = 1 ∨ v = 2 ∨ v = 3 ∨ v = 4 := by omega
    rcases this with rfl | rfl | rfl | rfl | rfl
    · exact h 0 _ rfl
    · exact h 1 _ rfl
    · exact h 2 _ rfl
    · exact h 3 _ rfl
    · exact h 4 _ rfl
  obtain ⟨c1, c2⟩ := hc
  obtain ⟨c3, c4⟩ := h 5 _ rfl
  have hle := cnt_le c
  have hp := fun e => cnt_put (c := c) hv e
  have hne : o + 5 ≠ o + v := by omega
  have hv5 : (v : Int) < 5 := by omega
  have hw : IntKind.i64.wrap ((cnt c : Int) + 1) = (cnt c : Int) + 1 := by rw [IntKind.wrap_i64]; omega
  generalize cnt c = n at *
  cases e : c v
  · rw [e] at c1
    have hp2 := hp e
    clear h hp e
    rw [hp2]
    clear hp2
    go_enter Try.func28, Try.ntmps28
    go_wp2
    exact bodyPost_end (v := .tuple #[]) (by simp [results, Try.results28, go_sem]) rfl ⟨rfl, by simp⟩
  · rw [e] at c1
    clear h hp e
    go_enter Try.func28, Try.ntmps28
    go_wp2
    exact bodyPost_end (v := .tuple #[]) (by simp [results, Try.results28, go_sem]) rfl ⟨rfl, by simp⟩

theorem most_any (B V M : Nat) (tg : Nat → Int) (ad : Int → Nat) (f : Value) (b : Bl) (n : Nat) (hb : b.Ok n) (c : Nat → Bool) (w : World) (h : BlI B V M tg ad f b w) :
    Calls Try.prog 29 #[.pointer (some ⟨B, 0, none⟩), .agg #[.bool (c 0), .bool (c 1), .bool (c 2), .bool (c 3), .bool (c 4), .int .i64 (cnt c : Nat)]] w fun e w' => e = .returned (.bool (b.most c)) ∧ Below w.heap.size w w' := by
  obtain ⟨c0, -⟩ := h.top 0 _ rfl
  have hBl := h.ltB
  simp only [Nat.add_zero] at c0
  have hle := cnt_le c
  have hn := hb.few.2
  rw [← hb.len] at hn
  have he : b.most c = decide ((b.vs.length : Int) < 2 * (cnt c : Int)) := by
    unfold Bl.most
    congr 1
    apply propext
    omega
  rw [he]
  clear he h hb
  generalize b.vs.length = m at *
  generalize cnt c = k at *
  have hw : IntKind.i64.wrap (2 * (k : Int)) = 2 * (k : Int) := by rw [IntKind.wrap_i64]; omega
  by_cases hk : (m : Int) < 2 * (k : Int)
  · go_enter Try.func29, Try.ntmps29
    go_upto_region 1 with (fail)
    go_quiet (fail)
    go_wp2
    exact bodyPost_ret (v := .bool true) (by simp [results, Try.results29, go_sem]) rfl ⟨by simp [hk], belowR ((Below.refl _ _).alloc (Nat.le_refl _) _) _⟩
  · go_enter Try.func29, Try.ntmps29
    go_upto_region 1 with (fail)
    go_quiet (fail)
    go_wp2
    exact bodyPost_ret (v := .bool false) (by simp [results, Try.results29, go_sem]) rfl ⟨by simp [hk], belowR ((Below.refl _ _).alloc (Nat.le_refl _) _) _⟩

/-- a voter's number, and where a letter lies -/
theorem has_any (B V M : Nat) (tg : Nat → Int) (ad : Int → Nat) (f : Value) (b : Bl) (n : Nat) (hb : b.Ok n) (who : Int) (w : World) (h : BlI B V M tg ad f b w) :
    Calls Try.prog 22 #[.pointer (some ⟨B, 0, none⟩), .int .i64 who] w fun e w' => e = .returned (.bool (b.has who)) ∧ w' = w := by
  obtain ⟨c2, -⟩ := h.top 2 _ rfl
  simp only [Nat.zero_add] at c2
  have hBl := h.ltB
  have hm := hb.mail
  by_cases h0 : 0 ≤ who
  · obtain ⟨k, rfl⟩ : ∃ k : Nat, who = (k : Int) := ⟨who.toNat, by omega⟩
    cases hk : b.ls[k]? with
    | none =>
      have e : b.has (k : Int) = false := by simp [Bl.has, Bl.get, hk]
      rw [e]
      have hlen : b.ls.length ≤ k := List.getElem?_eq_none_iff.1 hk
      obtain ⟨a, c, rfl⟩ := h.form
      have hlt : ¬ (k : Int) < (b.ls.length : Int) := by omega
      generalize b.ls.length = m at *
      clear h hb e hk hlen
      go_enter Try.func22, Try.ntmps22
      go_wp2
      exact bodyPost_ret (v := .bool false) (by simp [results, Try.results22, go_sem]) rfl ⟨rfl, rfl⟩
    | some l =>
      have e : b.has (k : Int) = !l.lost := by simp [Bl.has, Bl.get, hk, show ¬ (k : Int) < 0 by omega]
      rw [e]
      have hlen : k < b.ls.length := (List.getElem?_eq_some_iff.1 hk).1
      obtain ⟨g, c, rfl, -, -, hc⟩ := h.letter hk
      obtain ⟨c5, -⟩ := hc 5 _ rfl
      have hlt : (k : Int) < (b.ls.length : Int) := by omega
      generalize b.ls.length = m at *
      generalize l.lost = o at *
      clear h hb e hk hc
      go_enter Try.func22, Try.ntmps22
      go_wp2
      exact bodyPost_ret (v := .bool (!o)) (by simp [results, Try.results22, go_sem]) rfl ⟨rfl, rfl⟩
  · have e : b.has who = false := by simp [Bl.has, Bl.get, show who < 0 by omega]
    rw [e]
    clear h hb e c2
    go_enter Try.func22, Try.ntmps22
    go_wp2
    exact bodyPost_ret (v := .bool false) (by simp [results, Try.results22, go_sem]) rfl ⟨rfl, rfl⟩

end Go.Proofs.Ytppcikfhhmiipaa
