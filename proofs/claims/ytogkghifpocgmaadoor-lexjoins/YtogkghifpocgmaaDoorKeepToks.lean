/- The statements' own maker of lists of tokens (TokensOf): what it gives may be; rows of tokens that a call has laid. -/
import Derived.Test.YtogkghifpocgmaaDoorKeepTok
namespace Go.Proofs.YtogkghifpocgmaaDoor
open Go.ChangeShapes Go.WideShapes Go.ChangeAt Go.RowKit

theorem tokCells_get (ts : List Tok) : ∀ i (hi : i < ts.length), (tokCells ts)[i * 3]? = some (.int .i64 ts[i].kind) ∧ (tokCells ts)[i * 3 + 1]? = some (.int .i64 ts[i].int) ∧ (tokCells ts)[i * 3 + 2]? = some (.string (str ts[i].text)) := by
  induction ts with
  | nil => intro i hi; cases hi
  | cons t ts ih =>
    intro i hi
    have e : tokCells (t :: ts) = .int .i64 t.kind :: .int .i64 t.int :: .string (str t.text) :: tokCells ts := by simp [tokCells]
    rw [e]
    cases i with
    | zero => simp
    | succ i =>
      have := ih i (by simpa using hi)
      rw [show (i + 1) * 3 = i * 3 + 1 + 1 + 1 by omega, show i * 3 + 1 + 1 + 1 + 1 = (i * 3 + 1) + 1 + 1 + 1 by omega, show i * 3 + 1 + 1 + 1 + 2 = (i * 3 + 2) + 1 + 1 + 1 by omega]
      simpa using this

theorem toks_of_own {w : World} {base cap n : Nat} {ao : Option Addr} {ts : List Tok} (hn : n = ts.length) (hi : ∀ t ∈ ts, t.int ≤ 9223372036854775807) (h : w.ownsRow base 23 3 (.slice ao n cap) n (tokCells ts)) : Toks w ao cap ts := by
  subst hn
  have h0 := h
  rcases h.2 with ⟨h1, h2⟩ | ⟨g, cap', cur, h1, h2, h3, h4, _⟩
  · have : ts = [] := List.length_eq_zero_iff.1 h2
    subst this
    exact ⟨Nat.zero_le _, hi, .inl rfl⟩
  · simp only [Value.slice.injEq] at h1
    obtain ⟨rfl, -, rfl⟩ := h1
    have hc := h0.cells (g := g) rfl
    refine ⟨h4, hi, .inr ⟨g, 0, rfl, (Array.getElem?_eq_some_iff.1 h3).1, fun i hl => ?_⟩⟩
    obtain ⟨c0, c1, c2⟩ := tokCells_get ts i hl
    have d0 := hc _ _ c0
    have d1 := hc _ _ c1
    have d2 := hc _ _ c2
    rw [add_off] at d0 d1 d2
    rw [Nat.zero_add]
    exact ⟨d0, d1, d2⟩

/-- a slice of what tokens are made of -/
def Scr (w : World) (ao : Option Addr) (cap : Nat) (ls : List Tok) : Prop :=
  ls.length ≤ cap ∧ (∀ t ∈ ls, (Lit.int .i64 t.int).wf = true ∧ t.text.length ≤ maxLen) ∧
    (ls = [] ∨ ∃ b off, ao = some ⟨b, off, none⟩ ∧ b < w.heap.size ∧ ∀ i (hi : i < ls.length), w.cell? ⟨b, off + i * 3, none⟩ = some (.int .i64 ls[i].kind) ∧ w.cell? ⟨b, off + i * 3 + 1, none⟩ = some (.int .i64 ls[i].int) ∧ w.cell? ⟨b, off + i * 3 + 2, none⟩ = some (.string (str ls[i].text)))

theorem Scr.later {w w' : World} {ao : Option Addr} {cap : Nat} {ts : List Tok} (h : Scr w ao cap ts) (hb : Below w.heap.size w w') : Scr w' ao cap ts := by
  refine ⟨h.1, h.2.1, ?_⟩
  rcases h.2.2 with h0 | ⟨b, off, h1, h2, h3⟩
  · exact .inl h0
  · exact .inr ⟨b, off, h1, Nat.lt_of_lt_of_le h2 hb.size, fun i hi => ⟨(hb.cell h2).trans (h3 i hi).1, (hb.cell h2).trans (h3 i hi).2.1, (hb.cell h2).trans (h3 i hi).2.2⟩⟩

set_option maxRecDepth 100000 in
set_option maxHeartbeats 4000000 in
theorem TokensOf_any (ao : Option Addr) (cap : Nat) (ls : List Tok) (n : Nat) (hn : n ≤ 300) (w : World) (hs : Scr w ao cap ls) :
    Calls Tryd.prog 16 #[.slice ao ls.length cap, .int .i64 (n : Int)] w fun e w' => ∃ ts ao2 cap2, e = .returned (.slice ao2 ts.length cap2) ∧ ts.length ≤ n ∧ (∀ t ∈ ts, may t = true ∧ t.int ≤ 9223372036854775807) ∧ w'.ownsRow w.heap.size 23 3 (.slice ao2 ts.length cap2) ts.length (tokCells ts) ∧ Below w.heap.size w w' := by
  obtain ⟨i0, hi0, hz0, hz1, hz2⟩ := info_parts Tryd.infoTok
  have HS := hidden hs
  obtain ⟨m, hm⟩ : ∃ m, ls.length = m := ⟨_, rfl⟩
  have HM := hidden hm
  rw [hm]
  clear hs hm
  go_enter Tryd.func16, Tryd.ntmps16
  go_wp2
  go_loopw [5, 6] (fun v x wr => ∃ (k : Nat) (acc : List Tok) (ao2 : Option Addr) (cap2 : Nat), k ≤ n ∧ k ≤ m ∧ v = .slice ao2 acc.length cap2 ∧ x = .int .i64 (k : Int) ∧ acc.length ≤ k ∧ Hid (Below w.heap.size w wr) ∧
    wr.ownsRow w.heap.size 23 3 (.slice ao2 acc.length cap2) acc.length (tokCells acc) ∧ Hid (∀ t ∈ acc, may t = true ∧ t.int ≤ 9223372036854775807)) (fun _ x _ => n - (intOf x).toNat)
  case atStart => exact ⟨0, [], none, 0, Nat.zero_le _, Nat.zero_le _, rfl, rfl, Nat.zero_le _, Below.refl _ _, World.ownsRow_nil _ _ _ _, fun t h => by cases h⟩
  case round =>
    obtain ⟨k, acc, ao2, cap2, hkn, hkm, rfl, rfl, hak, HB, hown, HA⟩ := hrel
    by_cases hlt : k < m
    · have hlt1 : (k : Int) < (m : Int) := by omega
      by_cases hltn : k < n
      · have hltn1 : (k : Int) < (n : Int) := by omega
        have hlt2 : k < ls.length := by rw [HM.out]; exact hlt
        obtain ⟨b, off, rfl, hbw, hcell⟩ : ∃ b off, ao = some ⟨b, off, none⟩ ∧ b < w.heap.size ∧ ∀ i (hi : i < ls.length), w.cell? ⟨b, off + i * 3, none⟩ = some (.int .i64 ls[i].kind) ∧ w.cell? ⟨b, off + i * 3 + 1, none⟩ = some (.int .i64 ls[i].int) ∧ w.cell? ⟨b, off + i * 3 + 2, none⟩ = some (.string (str ls[i].text)) := by
          rcases HS.out.2.2 with h | h
          · rw [h] at hlt2
            cases hlt2
          · exact h
        obtain ⟨e0, e1, e2⟩ := hcell k hlt2
        have c0 := (HB.out.cell (p := ⟨b, off + k * 3, none⟩) hbw).trans e0
        have c1 := (HB.out.cell (p := ⟨b, off + k * 3 + 1, none⟩) hbw).trans e1
        have c2 := (HB.out.cell (p := ⟨b, off + k * 3 + 2, none⟩) hbw).trans e2
        obtain ⟨g1, g2⟩ := HS.out.2.1 ls[k] (List.getElem_mem _)
        have cT := TokenOf_any ls[k].kind ls[k].int (str ls[k].text) g1 (by rw [str_size]; exact g2) wr
        clear hcell e0 e1 e2 g1 g2
        generalize ls[k] = q at c0 c1 c2 cT
        unfold tokv at cT
        go_wp2_with (first
          | (go_at_call 31; refine cT.mono ?_; rintro e w1 ⟨t, rfl, hmay, hint, hb1⟩; have hown1 := own_later hown hb1; have b1 := HB.out.trans (hb1.mono HB.out.size); have HT := hidden (And.intro hmay hint); clear hmay hint)
          | (at_builtin; refine wpList_append_own _ rfl (.tmp 18) (.tmp 24) 25 rfl w.heap.size 23 i0 (.agg #[.int .i64 0, .int .i64 0, .string ⟨#[]⟩]) 3 32 Tryd.underlying25 hi0 hz0 hz1 hz2 rfl (by decide) _ acc.length (tokCells acc) rfl (hown1.alloc _) ⟨w1.heap.size, 0, none⟩ 1 1 (tokCells [t]) rfl rfl (tok_row_new _ t _) (tok_oneCells t) (by unfold maxLen; omega) (by omega) (by have := b1.size; simp; omega) ?_; intro v2 w2 hown2 hg2 _; have b2 : Below w.heap.size w w2 := (b1.alloc b1.size _).grown hg2 (by have := b1.size; simp; omega) (fun k hk => (hown1.lt k hk).1); rw [tokCells_append] at hown2; obtain ⟨ao3, cap3, rfl⟩ := own_shape hown2))
        go_roundw
        case rel => exact ⟨k + 1, acc ++ [t], ao3, cap3, by omega, by omega, by simp, by go_num, by simp; omega, b2, by simpa using hown2, fun u hu => by
          rcases List.mem_append.1 hu with h | h
          · exact HA.out u h
          · rw [List.mem_singleton.1 h]
            exact HT.out⟩
        case measure => simp [intOf]; omega
      · have hltn1 : ¬ (k : Int) < (n : Int) := by omega
        go_wp2
        go_ret
        exact ⟨acc, ao2, cap2, rfl, by omega, HA.out, hown, HB.out⟩
    · have hlt1 : ¬ (k : Int) < (m : Int) := by omega
      go_wp2
      go_ret
      exact ⟨acc, ao2, cap2, rfl, by omega, HA.out, hown, HB.out⟩

end Go.Proofs.YtogkghifpocgmaaDoor
