/- Package lex: the text of a quote: the contract, at every argument. -/
import Derived.Test.YtjeniabnokcbnaaGreatDoorLexReadWord
import Derived.Lib.AppendStr
import Derived.Laws.BytesArg
import Derived.Laws.AppendOwnNone
import Derived.Laws.OwnMore
import Derived.Maps.AppendAt
namespace Go.Proofs.YtjeniabnokcbnaaGreatDoor
open Go.ChangeShapes Go.WideShapes Go.ChangeAt Go.RowKit

theorem Tryz.infoByte : (Tryz.prog.info? 5).map (fun i => (i.zero, i.size, i.bytes)) = some (some (.int .u8 0), 1, 1) := by kernel_rfl

/-- bytes as the cells of a row -/
def cellsOf (l : List UInt8) : List Value := l.map fun b => .int .u8 (b.toNat : Int)

/-- a row of bytes that the call has laid, as a string -/
theorem own_string {w : World} {base n : Nat} {v : Value} {l : List UInt8} (hn : n = l.length) (h : w.ownsRow base 5 1 v n (cellsOf l)) : (convert 93 9 v).run Tryz.prog w = .ok (.string (str l)) w := by
  subst hn
  rcases h.2 with ⟨rfl, h0⟩ | ⟨g, cap, cur, rfl, _⟩
  · have : l = [] := List.length_eq_zero_iff.1 h0
    subst this
    have := run_convert_bytes_nil (P := Tryz.prog) w 93 5 Tryz.underlying93 Tryz.underlying5 0 0
    exact this 9 Tryz.underlying9
  · exact bytes_back w g cap l (fun j hj => by
      have := World.ownsRow.cellAt h j (by omega)
      rw [this]
      simp [cellsOf, hj])

/-- what readText answers -/
def textv (i : Nat) : Option (List UInt8 × Nat) → Value
  | none => .tuple #[.string ⟨#[]⟩, .int .i64 0, .int .i64 5]
  | some (t, n) => .tuple #[.string (str t), .int .i64 ((i + n : Nat) : Int), .int .i64 0]

theorem strCells_bts (s : ByteArray) : Lib.strCells s = cellsOf (bts s) := rfl

theorem cellsOf_append (a b : List UInt8) : cellsOf a ++ cellsOf b = cellsOf (a ++ b) := by simp [cellsOf]

theorem byte_one (x : Int) : ∀ u ∈ [Value.int .u8 x], u.oneCell' = true := by
  intro u hu
  simp only [List.mem_singleton] at hu
  subst hu
  rfl

set_option maxRecDepth 100000 in
set_option maxHeartbeats 2000000 in
theorem readText_any (s : ByteArray) (i : Nat) (hi : i ≤ s.size) (hs : s.size ≤ 1000000) (w : World) :
    Calls Tryz.prog 41 #[.string s, .int .i64 (i : Int)] w fun e w' => e = .returned (textv i (quoted ((bts s).drop i))) ∧ Below w.heap.size w w' := by
  obtain ⟨A, hA⟩ : ∃ A, quoted ((bts s).drop i) = A := ⟨_, rfl⟩
  rw [hA]
  obtain ⟨i0, hi0, hz0, hz1, hz2⟩ := info_parts Tryz.infoByte
  have HL : Hid (s.size = (bts s).length) := size_bytes s
  have cR := fun k hk => readOn_any 63 (enters_of Tryz.func63 (by kernel_rfl) rfl) noQuote noQuote_says s k hk (by omega)
  go_enter Tryz.func41, Tryz.ntmps41
  go_wp2
  go_loopw [1, 7] (fun x v wr => ∃ (k : Nat) (acc : List UInt8), k ≤ s.size ∧ i ≤ k ∧ acc.length ≤ k ∧ x = .int .i64 (k : Int) ∧ Hid (Below w.heap.size w wr) ∧ wr.ownsRow w.heap.size 5 1 v acc.length (cellsOf acc) ∧
    Hid (A = (quoted ((bts s).drop k)).map fun p => (acc ++ p.1, p.2 + (k - i)))) (fun x _ _ => s.size + 1 - (intOf x).toNat)
  case atStart => exact ⟨i, [], hi, Nat.le_refl _, Nat.zero_le _, rfl, Below.refl _ _, World.ownsRow_nil _ _ _ _, by simp [Hid, ← hA]⟩
  case round =>
    clear hA
    obtain ⟨k, acc, hk, hik, hak, rfl, HB, hown, HR⟩ := hrel
    obtain ⟨N, hN⟩ : ∃ N, on noQuote (bts s) k = N := ⟨_, rfl⟩
    have c1 := cR k hk
    rw [hN] at c1
    have hkN : k ≤ N := by rw [← hN]; exact on_ge _ _ _
    have hNs : N ≤ s.size := by rw [← hN, HL.out]; exact on_le _ _ _ (by rw [← HL.out]; exact hk)
    have hq := quoted_on (bts s) k (by rw [← HL.out]; exact hk)
    rw [hN] at hq
    have HE := fun h => on_end noQuote (bts s) k N hN h
    clear cR hN
    by_cases hend : N = s.size
    · have R : Hid (A = none) := by
        show A = none
        rw [HR.out, hq, show (bts s).drop N = [] from List.drop_eq_nil_of_le (by rw [← HL.out]; omega)]
        rfl
      clear hq HE HR
      subst hend
      go_wp2_with (go_at_call 17; refine (c1 _).mono ?_; rintro e w' ⟨rfl, rfl⟩)
      go_ret3
      rw [R.out]
      exact ⟨rfl, HB.out⟩
    have hend1 : ¬ (N : Int) = (s.size : Int) := by omega
    have hNl : N < (bts s).length := by rw [← HL.out]; omega
    have hq39 : (bts s)[N].toNat = 39 := by
      have := HE hNl
      simpa [noQuote] using this
    have hm : bts (s.extract k N) = ((bts s).drop k).take (N - k) := bytes_extract _ _ _
    have hml : (s.extract k N).size = N - k := by
      rw [size_bytes, hm, List.length_take, List.length_drop, ← HL.out]
      omega
    obtain ⟨M, hM⟩ : ∃ M, ((bts s).drop k).take (N - k) = M := ⟨_, rfl⟩
    rw [hM] at hm hq
    have hMl : M.length = N - k := by rw [← hm, ← size_bytes]; exact hml
    have hNk1 : (N : Int) ≤ (s.size : Int) := by omega
    have hNk2 : (k : Int) ≤ (N : Int) := by omega
    obtain ⟨mid, hmid⟩ : ∃ mid, s.extract k N = mid := ⟨_, rfl⟩
    rw [hmid] at hm hml
    have hdN := drop_cons hNl
    by_cases hlast : N + 1 = s.size
    · have R : Hid (textv i A = .tuple #[.string (str (acc ++ M)), .int .i64 (s.size : Int), .int .i64 0]) := by
        show textv i A = _
        rw [HR.out, hq, hdN, show (bts s).drop (N + 1) = [] from List.drop_eq_nil_of_le (by rw [← HL.out]; omega), quoted_last _ hq39]
        simp only [Option.map_some, List.append_nil, textv]
        have : i + (1 + (N - k) + (k - i)) = s.size := by omega
        rw [this]
      have hlast1 : (N : Int) + 1 = (s.size : Int) := by omega
      clear hq HE HR hdN hM
      go_wp2_with (first
        | (go_at_call 17; refine (c1 _).mono ?_; rintro e w' ⟨rfl, rfl⟩)
        | (at_builtin; refine Lib.wpList_append_own_string _ rfl (.tmp 16) (.tmp 20) 93 9 rfl w.heap.size 5 i0 Tryz.underlying93 Tryz.underlying9 hi0 hz0 hz1 hz2 _ acc.length (cellsOf acc) rfl hown mid rfl (by unfold maxLen; omega) (by omega) HB.out.size ?_; intro v1 w1 hown1 hg1 _; rw [strCells_bts, hm, cellsOf_append] at hown1; have b1 : Below w.heap.size w w1 := HB.out.grown hg1 HB.out.size (fun k hk => (hown.lt k hk).1); have hcv := own_string (l := acc ++ M) (by rw [List.length_append]; omega) hown1))
      go_ret3
      rw [R.out]
      exact ⟨rfl, b1⟩
    have hlast1 : ¬ (N : Int) + 1 = (s.size : Int) := by omega
    have hN1 : N + 1 < s.size := by omega
    have hN2 : (N : Int) + 1 < (s.size : Int) := by omega
    have hN3 : N + 1 < (bts s).length := by rw [← HL.out]; exact hN1
    have hd2 := drop_cons hN3
    have ex : s[N + 1]'hN1 = (bts s)[N + 1] := byte_at s (N + 1) hN1 hN3
    obtain ⟨x, hx⟩ : ∃ x, (s[N + 1]'hN1).toNat = x := ⟨_, rfl⟩
    have hx2 : (bts s)[N + 1].toNat = x := by rw [← hx]; exact congrArg UInt8.toNat ex.symm
    clear ex
    by_cases h39 : x = 39
    · have R : Hid (A = (quoted ((bts s).drop (N + 2))).map fun p => ((acc ++ M) ++ [(39 : UInt8)] ++ p.1, p.2 + (N + 2 - i))) := by
        show A = _
        rw [HR.out, hq, hdN, hd2, quoted_two _ _ _ hq39 (hx2.trans h39), Option.map_map, Option.map_map]
        have e39 : (bts s)[N + 1] = 39 := UInt8.toNat.inj (hx2.trans h39)
        rw [e39]
        congr 1
        funext p
        simp only [Function.comp, List.append_assoc, List.cons_append, List.nil_append, Prod.mk.injEq, true_and]
        omega
      have h391 : (x : Int) = 39 := by omega
      have h392 : ((x : Int) == 39) = true := beq_iff_eq.2 h391
      clear hq HE HR hdN hd2 hM hx2
      go_wp2_with (first
        | (go_at_call 17; refine (c1 _).mono ?_; rintro e w' ⟨rfl, rfl⟩)
        | (at_builtin; refine Lib.wpList_append_own_string _ rfl (.tmp 16) (.tmp 20) 93 9 rfl w.heap.size 5 i0 Tryz.underlying93 Tryz.underlying9 hi0 hz0 hz1 hz2 _ acc.length (cellsOf acc) rfl hown mid rfl (by unfold maxLen; omega) (by omega) HB.out.size ?_; intro v1 w1 hown1 hg1 _; rw [strCells_bts, hm, cellsOf_append] at hown1; have b1 : Below w.heap.size w w1 := HB.out.grown hg1 HB.out.size (fun k hk => (hown.lt k hk).1); have hcv := own_string (l := acc ++ M) (by rw [List.length_append]; omega) hown1)
        | (at_builtin; refine wpList_append_own _ rfl (.tmp 37) (.tmp 38) 93 rfl w.heap.size 5 i0 (.int .u8 0) 1 1 Tryz.underlying93 hi0 hz0 hz1 hz2 rfl (by decide) _ _ _ rfl (hown1.alloc _) ⟨w1.heap.size, 0, none⟩ 1 1 [.int .u8 39] rfl rfl (cell_one_new _ _ _) (byte_one _) (by unfold maxLen; omega) (by omega) (by have := b1.size; simp; omega) ?_; intro v2 w2 hown2 hg2 _; have b2 : Below w.heap.size w w2 := (b1.alloc b1.size _).grown hg2 (by have := b1.size; simp; omega) (fun k hk => (hown1.lt k hk).1)))
      go_roundw
      case rel => exact ⟨N + 2, acc ++ M ++ [39], by omega, by omega, by simp; omega, by go_num, b2, by
        have e : (acc ++ M ++ [(39 : UInt8)]).length = acc.length + mid.size + 1 := by rw [List.length_append, List.length_append, hMl, hml]; rfl
        rw [e, ← cellsOf_append]
        exact hown2, R⟩
      case measure => simp [intOf]; omega
    · have R : Hid (textv i A = .tuple #[.string (str (acc ++ M)), .int .i64 ((N : Int) + 1), .int .i64 0]) := by
        show textv i A = _
        rw [HR.out, hq, hdN, hd2, quoted_end _ _ _ hq39 (by rw [hx2]; exact h39)]
        simp only [Option.map_some, List.append_nil, textv]
        have : i + (1 + (N - k) + (k - i)) = N + 1 := by omega
        rw [this]
        rfl
      have h391 : ¬ (x : Int) = 39 := by omega
      have h392 : ((x : Int) == 39) = false := beq_eq_false_iff_ne.2 h391
      have h393 : ((x : Int) != 39) = true := bne_iff_ne.2 h391
      clear hq HE HR hdN hd2 hM hx2
      go_wp2_with (first
        | (go_at_call 17; refine (c1 _).mono ?_; rintro e w' ⟨rfl, rfl⟩)
        | (at_builtin; refine Lib.wpList_append_own_string _ rfl (.tmp 16) (.tmp 20) 93 9 rfl w.heap.size 5 i0 Tryz.underlying93 Tryz.underlying9 hi0 hz0 hz1 hz2 _ acc.length (cellsOf acc) rfl hown mid rfl (by unfold maxLen; omega) (by omega) HB.out.size ?_; intro v1 w1 hown1 hg1 _; rw [strCells_bts, hm, cellsOf_append] at hown1; have b1 : Below w.heap.size w w1 := HB.out.grown hg1 HB.out.size (fun k hk => (hown.lt k hk).1); have hcv := own_string (l := acc ++ M) (by rw [List.length_append]; omega) hown1))
      go_ret3
      rw [R.out]
      exact ⟨rfl, b1⟩

end Go.Proofs.YtjeniabnokcbnaaGreatDoor
