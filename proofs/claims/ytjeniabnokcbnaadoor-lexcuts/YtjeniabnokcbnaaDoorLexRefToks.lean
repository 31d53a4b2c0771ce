/- The document's own way to cut a source (Tokens): the contract, at every argument. -/
import Derived.Test.YtjeniabnokcbnaaDoorLexRefMark
namespace Go.Proofs.YtjeniabnokcbnaaDoor
open Go.ChangeShapes Go.WideShapes Go.ChangeAt Go.RowKit

theorem gap_true (l : List UInt8) (i : Nat) (h : i < l.length) : i + gap true (l.drop i) = i + 1 + gap (noLine l[i]) (l.drop (i + 1)) := by
  rw [drop_cons h]
  simp only [gap]
  omega
theorem gap_blank1 (l : List UInt8) (i : Nat) (h : i < l.length) (hb : blank l[i] = true) : i + gap false (l.drop i) = i + 1 + gap false (l.drop (i + 1)) := by
  rw [drop_cons h]
  simp only [gap, hb, if_true]
  omega
theorem gap_two (l : List UInt8) (i : Nat) (h : i + 1 < l.length) (h1 : l[i].toNat = 45) (h2 : l[i + 1].toNat = 45) : i + gap false (l.drop i) = i + 2 + gap true (l.drop (i + 2)) := by
  have hd : dashes l i = true := (dashes_iff l i).2 ⟨h, h1, h2⟩
  have hn : noLine l[i] = true := by simp [noLine, h1]
  have hn2 : noLine l[i + 1] = true := by simp [noLine, h2]
  rw [gap_dashes l i hd, gap_true l i (by omega), hn, gap_true l (i + 1) h, hn2]
theorem gap_zero (l : List UInt8) (i : Nat) (h : i < l.length) (hb : blank l[i] = false) (hd : ∀ h : i + 1 < l.length, l[i].toNat = 45 → ¬ l[i + 1].toNat = 45) : i + gap false (l.drop i) = i := by
  have : dashes l i = false := by
    cases hx : dashes l i with
    | false => rfl
    | true =>
      obtain ⟨h3, h4, h5⟩ := (dashes_iff l i).1 hx
      exact absurd h5 (hd h3 h4)
  rw [gap_none l i (fun _ => hb) this, Nat.add_zero]

theorem blank_iff (c : UInt8) : blank c = true ↔ c.toNat = 9 ∨ c.toNat = 10 ∨ c.toNat = 13 ∨ c.toNat = 32 := by simp [blank, or_assoc]

set_option maxRecDepth 100000 in
set_option maxHeartbeats 8000000 in
theorem Tokens_any (s : ByteArray) (w : World) :
    Calls Tryd.prog 6 #[.string s] w fun e w' => ∃ v ts p c, e = .returned (.tuple #[v, .int .i64 (p : Nat), .int .i64 c]) ∧ CutIs (bts s) ts p c ∧ w'.ownsRow w.heap.size 44 3 v ts.length (tokCells ts) ∧ Below w.heap.size w w' := by
  by_cases h0 : 2000 < s.size
  · have R : CutIs (bts s) [] 0 1 := .inl ⟨by rw [← size_bytes]; exact h0, rfl, rfl, rfl⟩
    have h01 : (2000 : Int) < (s.size : Int) := by omega
    go_enter Tryd.func6, Tryd.ntmps6
    go_wp2
    go_ret3
    exact ⟨_, _, 0, 1, rfl, R, World.ownsRow_nil _ _ _ _, Below.refl _ _⟩
  have h01 : ¬ (2000 : Int) < (s.size : Int) := by omega
  have HL : Hid (s.size = (bts s).length) := size_bytes s
  obtain ⟨i0, hi0, hz0, hz1, hz2⟩ := info_parts Tryd.infoTok
  have HC : Hid (∀ rs p e, Cuts (bts s) (0 + gap false ((bts s).drop 0)) [] rs p e → CutIs (bts s) rs p e) := fun rs p e h => .inr ⟨by rw [← HL.out]; omega, by rw [List.drop_zero, Nat.zero_add] at h; exact h⟩
  go_enter Tryd.func6, Tryd.ntmps6
  go_wp2
  go_loopw [5, 6, 7] (fun v b x wr => ∃ (k : Nat) (acc : List Tok) (ao : Option Addr) (cap : Nat) (rm : Bool), k ≤ s.size ∧ acc.length ≤ 300 ∧ v = .slice ao acc.length cap ∧ b = .bool rm ∧ x = .int .i64 (k : Int) ∧ Hid (Below w.heap.size w wr) ∧
    wr.ownsRow w.heap.size 44 3 (.slice ao acc.length cap) acc.length (tokCells acc) ∧ Hid (∀ rs p e, Cuts (bts s) (k + gap rm ((bts s).drop k)) acc rs p e → CutIs (bts s) rs p e)) (fun _ _ x _ => s.size - (intOf x).toNat)
  case atStart => exact ⟨0, [], none, 0, false, Nat.zero_le _, by simp, rfl, rfl, rfl, Below.refl _ _, World.ownsRow_nil _ _ _ _, HC⟩
  case round =>
    clear HC
    obtain ⟨k, acc, ao, cap, rm, hk, ha3, rfl, rfl, rfl, HB, hown, HR⟩ := hrel
    by_cases hlt : k < s.size
    · have hlt1 : (k : Int) < (s.size : Int) := by omega
      have hlt2 : k < (bts s).length := by rw [← HL.out]; exact hlt
      have ek : s[k]'hlt = (bts s)[k] := byte_at s k hlt hlt2
      obtain ⟨x, hx⟩ : ∃ x, (s[k]'hlt).toNat = x := ⟨_, rfl⟩
      have hx2 : (bts s)[k].toNat = x := by rw [← hx]; exact congrArg UInt8.toNat ek.symm
      have HX := hidden hx2
      clear hx2 ek
      cases rm with
      | true =>
        have R : Hid (∀ b, b = noLine (bts s)[k] → ∀ rs p e, Cuts (bts s) (k + 1 + gap b ((bts s).drop (k + 1))) acc rs p e → CutIs (bts s) rs p e) := fun b hb rs p e h => HR.out rs p e (by rw [gap_true _ _ hlt2, ← hb]; exact h)
        by_cases h10 : x = 10
        · subst h10
          have R2 : Hid (∀ rs p e, Cuts (bts s) (k + 1 + gap false ((bts s).drop (k + 1))) acc rs p e → CutIs (bts s) rs p e) := R.out false (by simp [noLine, HX.out])
          clear R HR HX
          go_wp2
          go_roundw
          case rel => exact ⟨k + 1, acc, ao, cap, false, by omega, ha3, rfl, rfl, by go_num, HB, hown, R2⟩
          case measure => simp [intOf]; omega
        · have h101 : ((x : Int) == 10) = false := beq_eq_false_iff_ne.2 (by omega)
          have h102 : ((x : Int) != 10) = true := by simp [bne, h101]
          have R2 : Hid (∀ rs p e, Cuts (bts s) (k + 1 + gap true ((bts s).drop (k + 1))) acc rs p e → CutIs (bts s) rs p e) := R.out true (by simp [noLine, HX.out, h10])
          clear R HR HX
          go_wp2
          go_roundw
          case rel => exact ⟨k + 1, acc, ao, cap, true, by omega, ha3, rfl, (by first | rfl | rw [h102]), by go_num, HB, hown, R2⟩
          case measure => simp [intOf]; omega
      | false =>
        by_cases hbl : x = 9 ∨ x = 10 ∨ x = 13 ∨ x = 32
        · have R2 : Hid (∀ rs p e, Cuts (bts s) (k + 1 + gap false ((bts s).drop (k + 1))) acc rs p e → CutIs (bts s) rs p e) := fun rs p e h => HR.out rs p e (by rw [gap_blank1 _ _ hlt2 ((blank_iff _).2 (by rw [HX.out]; exact hbl))]; exact h)
          clear HR HX
          rcases hbl with rfl | rfl | rfl | rfl
          all_goals
            go_wp2
            go_roundw
            case rel => exact ⟨k + 1, acc, ao, cap, false, by omega, ha3, rfl, rfl, by go_num, HB, hown, R2⟩
            case measure => simp [intOf]; omega
        have hb0 : blank (bts s)[k] = false := by
          cases hb : blank (bts s)[k] with
          | false => rfl
          | true => exact absurd ((blank_iff _).1 hb) (by rw [HX.out]; exact hbl)
        have b9 : ((x : Int) == 9) = false := beq_eq_false_iff_ne.2 (by omega)
        have b10 : ((x : Int) == 10) = false := beq_eq_false_iff_ne.2 (by omega)
        have b13 : ((x : Int) == 13) = false := beq_eq_false_iff_ne.2 (by omega)
        have b32 : ((x : Int) == 32) = false := beq_eq_false_iff_ne.2 (by omega)
        by_cases hda : x = 45 ∧ ∃ h : k + 1 < s.size, (s[k + 1]'h).toNat = 45
        · obtain ⟨rfl, h1, h2⟩ := hda
          have h11 : (k : Int) + 1 < (s.size : Int) := by omega
          have h1l : k + 1 < (bts s).length := by rw [← HL.out]; exact h1
          have e1 : s[k + 1]'h1 = (bts s)[k + 1] := byte_at s (k + 1) h1 h1l
          have R2 : Hid (∀ rs p e, Cuts (bts s) (k + 2 + gap true ((bts s).drop (k + 2))) acc rs p e → CutIs (bts s) rs p e) := fun rs p e h => HR.out rs p e (by rw [gap_two _ _ h1l HX.out (by rw [← e1]; exact h2)]; exact h)
          clear HR HX e1 hb0 hbl
          go_wp2
          go_roundw
          case rel => exact ⟨k + 2, acc, ao, cap, true, by omega, ha3, rfl, rfl, by go_num, HB, hown, R2⟩
          case measure => simp [intOf]; omega
        have HG : Hid (∀ rs p e, Cuts (bts s) k acc rs p e → CutIs (bts s) rs p e) := fun rs p e h => HR.out rs p e (by
          rw [gap_zero _ _ hlt2 hb0 (fun h3 h4 h5 => hda ⟨by rw [← HX.out]; exact h4, by rw [HL.out]; exact h3, by rw [byte_at s (k + 1) (by rw [HL.out]; exact h3) h3]; exact h5⟩)]
          exact h)
        have hways : ((x : Int) == 45) = false ∨ (x = 45 ∧ ¬ (k : Int) + 1 < (s.size : Int)) ∨ (x = 45 ∧ (k : Int) + 1 < (s.size : Int) ∧ ∃ h : k + 1 < s.size, ∃ y, (s[k + 1]'h).toNat = y ∧ ((y : Int) == 45) = false) := by
          by_cases h1 : x = 45
          · by_cases h2 : k + 1 < s.size
            · refine .inr (.inr ⟨h1, by omega, h2, _, rfl, beq_eq_false_iff_ne.2 ?_⟩)
              intro h3
              exact hda ⟨h1, h2, by omega⟩
            · exact .inr (.inl ⟨h1, by omega⟩)
          · exact .inl (beq_eq_false_iff_ne.2 (by omega))
        clear HR HX hb0 hbl hda
        by_cases hf : 300 ≤ acc.length
        · have R : CutIs (bts s) [] k 8 := HG.out _ _ _ (.full k acc hlt2 hf)
          have hf1 : (300 : Int) ≤ (acc.length : Int) := by omega
          rcases hways with h1 | ⟨rfl, h1⟩ | ⟨rfl, h1, h2, y, hy, h3⟩
          all_goals
            go_wp2
            go_ret3
            exact ⟨_, _, k, 8, rfl, R, World.ownsRow_nil _ _ _ _, HB.out⟩
        have hf1 : ¬ (300 : Int) ≤ (acc.length : Int) := by omega
        have cO := oneToken_any s (by omega) k hlt wr
        unfold OnePost at cO
        cases hA : one ((bts s).drop k) with
        | bad e =>
          have he := one_bad (l := (bts s).drop k) (fun h => by have := congrArg List.length h; rw [List.length_drop] at this; simp at this; omega) hA
          have R : CutIs (bts s) [] k e := HG.out _ _ _ (.bad k acc e hlt2 (by omega) hA)
          have cR : Calls Tryd.prog 13 #[.string s, .int .i64 (k : Int)] wr fun e' w1 => e' = .returned (.tuple #[.agg #[.int .i64 0, .int .i64 0, .string ⟨#[]⟩], .int .i64 0, .int .i64 e]) ∧ Below wr.heap.size wr w1 := cO.mono fun e' w1 ⟨h1, h2⟩ => by
            rcases h2 with ⟨er, h3, h4⟩ | ⟨t, n, h3, _⟩
            · rw [hA] at h3
              cases h3
              exact ⟨h4, h1⟩
            · rw [hA] at h3
              cases h3
          have he2 : (e == 0) = false := beq_eq_false_iff_ne.2 he
          clear cO hA HG
          rcases hways with h1 | ⟨rfl, h1⟩ | ⟨rfl, h1, h2, y, hy, h3⟩
          all_goals
            go_wp2_with (go_at_call 13; refine cR.mono ?_; rintro e' w1 ⟨rfl, hb1⟩)
            go_ret3
            exact ⟨_, _, k, e, rfl, R, World.ownsRow_nil _ _ _ _, (HB.out.trans (hb1.mono HB.out.size)).alloc (Nat.le_trans HB.out.size hb1.size) _⟩
        | tok t n =>
          obtain ⟨hn1, hn2⟩ := one_len hA
          rw [List.length_drop, ← HL.out] at hn2
          obtain ⟨q, hq⟩ : ∃ q, k + n = q := ⟨_, rfl⟩
          have R : Hid (∀ rs p e, Cuts (bts s) (q + gap false ((bts s).drop q)) (acc ++ [t]) rs p e → CutIs (bts s) rs p e) := fun rs p e h => HG.out rs p e (.step k acc t n rs p e hlt2 (by omega) hA (by rw [hq]; exact h))
          have cR : Calls Tryd.prog 13 #[.string s, .int .i64 (k : Int)] wr fun e' w1 => e' = .returned (.tuple #[.agg #[.int .i64 t.kind, .int .i64 t.int, .string (str t.text)], .int .i64 (q : Int), .int .i64 0]) ∧ Below wr.heap.size wr w1 := cO.mono fun e' w1 ⟨h1, h2⟩ => by
            rcases h2 with ⟨er, h3, h4⟩ | ⟨t', n', h3, h4⟩
            · rw [hA] at h3
              cases h3
            · rw [hA] at h3
              cases h3
              rw [hq] at h4
              exact ⟨h4, h1⟩
          have hq1 : q ≤ s.size := by omega
          have hq2 : k < q := by omega
          clear cO hA HG hq hn1 hn2
          rcases hways with h1 | ⟨rfl, h1⟩ | ⟨rfl, h1, h2, y, hy, h3⟩
          all_goals
            go_wp2_with (first
              | (go_at_call 13; refine cR.mono ?_; rintro e' w1 ⟨rfl, hb1⟩; have hown1 := own_later hown hb1; have b1 := HB.out.trans (hb1.mono HB.out.size))
              | (at_builtin; refine wpList_append_own _ rfl (.tmp 84) (.tmp 86) 22 rfl w.heap.size 44 i0 (.agg #[.int .i64 0, .int .i64 0, .string ⟨#[]⟩]) 3 32 Tryd.underlying22 hi0 hz0 hz1 hz2 rfl (by decide) _ acc.length (tokCells acc) rfl ((hown1.alloc _).alloc _) ⟨w1.heap.size + 1, 0, none⟩ 1 1 (tokCells [t]) rfl rfl (tok_row_new2 _ _ t _) (tok_oneCells t) (by unfold maxLen; omega) (by omega) (by have := b1.size; simp; omega) ?_; intro v2 w2 hown2 hg2 _; have b2 : Below w.heap.size w w2 := ((b1.alloc b1.size _).alloc (by have := b1.size; simp; omega) _).grown hg2 (by have := b1.size; simp; omega) (fun k hk => (hown1.lt k hk).1); rw [tokCells_append] at hown2; obtain ⟨ao2, cap2, rfl⟩ := own_shape hown2))
            go_roundw
            case rel => exact ⟨q, acc ++ [t], ao2, cap2, false, hq1, by simp; omega, by simp, rfl, rfl, b2, by simpa using hown2, R⟩
            case measure => simp [intOf]; omega
    · have R : CutIs (bts s) acc 0 0 := by
        refine HR.out _ _ _ (.done _ acc (by rw [← HL.out]; omega))
      have hlt1 : ¬ (k : Int) < (s.size : Int) := by omega
      clear HR
      go_wp2
      go_ret3
      exact ⟨_, _, 0, 0, rfl, R, hown, HB.out⟩

end Go.Proofs.YtjeniabnokcbnaaDoor
