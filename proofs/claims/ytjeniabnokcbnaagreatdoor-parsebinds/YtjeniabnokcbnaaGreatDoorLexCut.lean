/- Package lex: the tokens of a source: the contract, at every argument. -/
import Derived.Test.YtjeniabnokcbnaaGreatDoorLexReadOne
import Derived.Test.YtjeniabnokcbnaaGreatDoorLexLen
import Derived.Deep.DeepAppendWide
namespace Go.Proofs.YtjeniabnokcbnaaGreatDoor
open Go.ChangeShapes Go.WideShapes Go.ChangeAt Go.RowKit

theorem Tryz.infoTok : (Tryz.prog.info? 49).map (fun i => (i.zero, i.size, i.bytes)) = some (some (.agg #[.int .i64 0, .int .i64 0, .string ⟨#[]⟩]), 3, 32) := by kernel_rfl

/-- the cells of a row of tokens -/
def tokCells (ts : List Tok) : List Value := ts.flatMap fun t => [.int .i64 t.kind, .int .i64 t.int, .string (str t.text)]

theorem tokCells_length (ts : List Tok) : (tokCells ts).length = ts.length * 3 := by
  induction ts with
  | nil => rfl
  | cons t ts ih => simp [tokCells] at ih ⊢; omega

theorem tokCells_append (a b : List Tok) : tokCells a ++ tokCells b = tokCells (a ++ b) := by simp [tokCells]

theorem tok_oneCells (t : Tok) : ∀ u ∈ tokCells [t], u.oneCell' = true := by
  intro u hu
  simp only [tokCells, List.flatMap_cons, List.flatMap_nil, List.append_nil, List.mem_cons, List.not_mem_nil, or_false] at hu
  rcases hu with rfl | rfl | rfl <;> rfl

theorem own_shape {w : World} {base n size : Nat} {e : TypeId} {v : Value} {xs : List Value} (h : w.ownsRow base e size v n xs) : ∃ ao cap, v = .slice ao n cap := by
  rcases h.2 with ⟨rfl, rfl⟩ | ⟨g, cap, cur, rfl, _⟩
  · exact ⟨_, _, rfl⟩
  · exact ⟨_, _, rfl⟩

theorem own_later {w w' : World} {base n size : Nat} {e : TypeId} {v : Value} {xs : List Value} (h : w.ownsRow base e size v n xs) (hb : Below w.heap.size w w') : w'.ownsRow base e size v n xs := by
  refine ⟨h.1, ?_⟩
  rcases h.2 with hn | ⟨g, cap, cur, rfl, h1, h2, h3⟩
  · exact .inl hn
  · exact .inr ⟨g, cap, cur, rfl, h1, (hb.block g (Array.getElem?_eq_some_iff.1 h2).1).trans h2, h3⟩

/-- a new row of one token -/
theorem tok_row_new (w : World) (t : Tok) (ty : TypeId) : ∀ j u, (tokCells [t])[j]? = some u → (w.alloc (.cells #[.int .i64 t.kind, .int .i64 t.int, .string (str t.text)] ty)).cell? ((⟨w.heap.size, 0, none⟩ : Addr).add j) = some u := by
  intro j u hu
  rw [add_off]
  have e : tokCells [t] = [.int .i64 t.kind, .int .i64 t.int, .string (str t.text)] := by simp [tokCells]
  rw [e] at hu
  match j, hu with
  | 0, hu => cases hu; simp
  | 1, hu => cases hu; simp
  | 2, hu => cases hu; simp

theorem tok_row_new2 (w : World) (o : Obj) (t : Tok) (ty : TypeId) : ∀ j u, (tokCells [t])[j]? = some u → ((w.alloc o).alloc (.cells #[.int .i64 t.kind, .int .i64 t.int, .string (str t.text)] ty)).cell? ((⟨w.heap.size + 1, 0, none⟩ : Addr).add j) = some u := by
  have h : (w.alloc o).heap.size = w.heap.size + 1 := by simp
  rw [← h]
  exact tok_row_new (w.alloc o) t ty

/-- what lex.Cut reads -/
structure LexTabs (w : World) : Prop where
  marks : Marks w
  u8 : U8 w
  ev : ErrVar w

theorem LexTabs.later {w w' : World} (h : LexTabs w) (hb : Below w.heap.size w w') : LexTabs w' := ⟨h.marks.later hb, h.u8.later hb, h.ev.later hb⟩

set_option maxRecDepth 100000 in
set_option maxHeartbeats 4000000 in
theorem Cut_any (s : ByteArray) (w : World) (tabs : LexTabs w) :
    Calls Tryz.prog 9 #[.string s] w fun e w' => ∃ v ts p c, e = .returned (.tuple #[v, .int .i64 (p : Nat), .int .i64 c]) ∧ CutIs (bts s) ts p c ∧ w'.ownsRow w.heap.size 49 3 v ts.length (tokCells ts) ∧ Below w.heap.size w w' := by
  by_cases h0 : 2000 < s.size
  · have R : CutIs (bts s) [] 0 1 := .inl ⟨by rw [← size_bytes]; exact h0, rfl, rfl, rfl⟩
    have h01 : (2000 : Int) < (s.size : Int) := by omega
    go_enter Tryz.func9, Tryz.ntmps9
    go_wp2
    go_ret3
    exact ⟨_, _, 0, 1, rfl, R, World.ownsRow_nil _ _ _ _, Below.refl _ _⟩
  have h01 : ¬ (2000 : Int) < (s.size : Int) := by omega
  have HL : Hid (s.size = (bts s).length) := size_bytes s
  obtain ⟨i0, hi0, hz0, hz1, hz2⟩ := info_parts Tryz.infoTok
  have c0 := skip_any s 0 (Nat.zero_le _) (by omega)
  rw [List.drop_zero, Nat.zero_add] at c0
  obtain ⟨k0, hk0⟩ : ∃ k0, gap false (bts s) = k0 := ⟨_, rfl⟩
  have hk1 : k0 ≤ s.size := by rw [← hk0, HL.out]; exact gap_le _ _
  rw [hk0] at c0
  have HC : Hid (∀ rs p e, Cuts (bts s) k0 [] rs p e → CutIs (bts s) rs p e) := fun rs p e h => .inr ⟨by rw [← HL.out]; omega, by rw [hk0]; exact h⟩
  clear hk0
  go_enter Tryz.func9, Tryz.ntmps9
  go_wp2_with (go_at_call 12; refine (c0 _).mono ?_; rintro e w' ⟨rfl, rfl⟩)
  go_loopw [5, 6] (fun v x wr => ∃ (k : Nat) (acc : List Tok) (ao : Option Addr) (cap : Nat), k ≤ s.size ∧ acc.length ≤ 300 ∧ v = .slice ao acc.length cap ∧ x = .int .i64 (k : Int) ∧ Hid (Below w.heap.size w wr) ∧
    wr.ownsRow w.heap.size 49 3 (.slice ao acc.length cap) acc.length (tokCells acc) ∧ Hid (∀ rs p e, Cuts (bts s) k acc rs p e → CutIs (bts s) rs p e)) (fun _ x _ => s.size - (intOf x).toNat)
  case atStart => exact ⟨k0, [], none, 0, hk1, by simp, rfl, rfl, Below.refl _ _, World.ownsRow_nil _ _ _ _, HC⟩
  case round =>
    clear c0 HC hk1
    obtain ⟨k, acc, ao, cap, hk, ha3, rfl, rfl, HB, hown, HR⟩ := hrel
    by_cases hlt : k < s.size
    · have hlt1 : (k : Int) < (s.size : Int) := by omega
      have hlt2 : k < (bts s).length := by rw [← HL.out]; exact hlt
      by_cases hf : acc.length = 300
      · have R : CutIs (bts s) [] k 8 := HR.out _ _ _ (.full k acc hlt2 (by omega))
        have hf1 : (acc.length : Int) = 300 := by omega
        go_wp2
        go_ret3
        exact ⟨_, _, k, 8, rfl, R, World.ownsRow_nil _ _ _ _, HB.out⟩
      have hf1 : ¬ (acc.length : Int) = 300 := by omega
      have tabs2 := tabs.later HB.out
      have cR := read_any s k hlt (by omega) wr tabs2.marks tabs2.u8 tabs2.ev
      cases hA : one ((bts s).drop k) with
      | bad e =>
        have he := one_bad (l := (bts s).drop k) (fun h => by have := congrArg List.length h; rw [List.length_drop] at this; simp at this; omega) hA
        have R : CutIs (bts s) [] k e := HR.out _ _ _ (.bad k acc e hlt2 (by omega) hA)
        rw [hA, ansv_bad] at cR
        clear tabs2
        go_wp2_with (go_at_call 13; refine cR.mono ?_; rintro e' w1 ⟨rfl, hb1⟩)
        go_ret3
        exact ⟨_, _, k, e, rfl, R, World.ownsRow_nil _ _ _ _, (HB.out.trans (hb1.mono HB.out.size)).alloc (Nat.le_trans HB.out.size hb1.size) _⟩
      | tok t n =>
        obtain ⟨hn1, hn2⟩ := one_len hA
        rw [List.length_drop, ← HL.out] at hn2
        have cK := skip_any s (k + n) (by omega) (by omega)
        have hg := gap_le false ((bts s).drop (k + n))
        rw [List.length_drop, ← HL.out] at hg
        have R : Hid (∀ rs p e, Cuts (bts s) (k + n + gap false ((bts s).drop (k + n))) (acc ++ [t]) rs p e → CutIs (bts s) rs p e) := fun rs p e h => HR.out rs p e (.step k acc t n rs p e hlt2 (by omega) hA h)
        rw [hA, ansv_tok] at cR
        have hm1 : k + n + gap false ((bts s).drop (k + n)) ≤ s.size := by omega
        have hm2 : k < k + n + gap false ((bts s).drop (k + n)) := by omega
        clear hg
        generalize k + n + gap false ((bts s).drop (k + n)) = m at cK R hm1 hm2
        obtain ⟨q, hq⟩ : ∃ q, k + n = q := ⟨_, rfl⟩
        rw [hq] at cK cR
        clear tabs2 hA
        go_wp2_with (first
          | (go_at_call 13; refine cR.mono ?_; rintro e' w1 ⟨rfl, hb1⟩; have hown1 := own_later hown hb1; have b1 := HB.out.trans (hb1.mono HB.out.size))
          | (at_builtin; refine wpList_append_own _ rfl (.tmp 34) (.tmp 36) 43 rfl w.heap.size 49 i0 (.agg #[.int .i64 0, .int .i64 0, .string ⟨#[]⟩]) 3 32 Tryz.underlying43 hi0 hz0 hz1 hz2 rfl (by decide) _ acc.length (tokCells acc) rfl ((hown1.alloc _).alloc _) ⟨w1.heap.size + 1, 0, none⟩ 1 1 (tokCells [t]) rfl rfl (tok_row_new2 _ _ t _) (tok_oneCells t) (by unfold maxLen; omega) (by omega) (by have := b1.size; simp; omega) ?_; intro v2 w2 hown2 hg2 _; have b2 : Below w.heap.size w w2 := ((b1.alloc b1.size _).alloc (by have := b1.size; simp; omega) _).grown hg2 (by have := b1.size; simp; omega) (fun k hk => (hown1.lt k hk).1); rw [tokCells_append] at hown2; obtain ⟨ao2, cap2, rfl⟩ := own_shape hown2)
          | (go_at_call 12; refine (cK _).mono ?_; rintro e' w3 ⟨rfl, rfl⟩))
        go_roundw
        case rel => exact ⟨m, acc ++ [t], ao2, cap2, by omega, by simp; omega, by simp, rfl, b2, by simpa using hown2, R⟩
        case measure => simp [intOf]; omega
    · have R : CutIs (bts s) acc 0 0 := HR.out _ _ _ (.done k acc (by rw [← HL.out]; omega))
      have hlt1 : ¬ (k : Int) < (s.size : Int) := by omega
      go_wp2
      go_ret3
      exact ⟨_, _, 0, 0, rfl, R, hown, HB.out⟩

end Go.Proofs.YtjeniabnokcbnaaGreatDoor
