/- Package lex: a source of tokens: the contract, at every list of tokens. -/
import Derived.Test.YtogkghifpocgmaaDoorLexWritten
import Derived.Test.YtogkghifpocgmaaDoorLexJoinLen
import Derived.Test.YtogkghifpocgmaaDoorLexReadText
import Derived.Test.YtogkghifpocgmaaDoorLexCut
namespace Go.Proofs.YtogkghifpocgmaaDoor
open Go.ChangeShapes Go.WideShapes Go.ChangeAt Go.RowKit

/-- the slice at 'ao' holds these tokens -/
def Toks (w : World) (ao : Option Addr) (cap : Nat) (ts : List Tok) : Prop :=
  ts.length ≤ cap ∧ (∀ t ∈ ts, t.int ≤ 9223372036854775807) ∧
    (ts = [] ∨ ∃ b off, ao = some ⟨b, off, none⟩ ∧ b < w.heap.size ∧ ∀ i (hi : i < ts.length), w.cell? ⟨b, off + i * 3, none⟩ = some (.int .i64 ts[i].kind) ∧ w.cell? ⟨b, off + i * 3 + 1, none⟩ = some (.int .i64 ts[i].int) ∧ w.cell? ⟨b, off + i * 3 + 2, none⟩ = some (.string (str ts[i].text)))

theorem Toks.later {w w' : World} {ao : Option Addr} {cap : Nat} {ts : List Tok} (h : Toks w ao cap ts) (hb : Below w.heap.size w w') : Toks w' ao cap ts := by
  refine ⟨h.1, h.2.1, ?_⟩
  rcases h.2.2 with h0 | ⟨b, off, h1, h2, h3⟩
  · exact .inl h0
  · exact .inr ⟨b, off, h1, Nat.lt_of_lt_of_le h2 hb.size, fun i hi => ⟨(hb.cell h2).trans (h3 i hi).1, (hb.cell h2).trans (h3 i hi).2.1, (hb.cell h2).trans (h3 i hi).2.2⟩⟩

/-- what Join reads -/
structure JoinTabs (w : World) : Prop where
  marks : Marks w
  u8 : U8 w
  wr : WrTabs w

theorem JoinTabs.later {w w' : World} (h : JoinTabs w) (hb : Below w.heap.size w w') : JoinTabs w' := ⟨h.marks.later hb, h.u8.later hb, h.wr.later hb⟩

/-- a variable of a token that the call has laid -/
structure TokVar (W : World) (B : Nat) (t : Tok) : Prop where
  lt : B < W.heap.size
  c0 : W.cell? ⟨B, 0, none⟩ = some (.int .i64 t.kind)
  c1 : W.cell? ⟨B, 1, none⟩ = some (.int .i64 t.int)
  c2 : W.cell? ⟨B, 2, none⟩ = some (.string (str t.text))

theorem TokVar.new (w : World) (t : Tok) (ty : TypeId) : TokVar (w.alloc (.cells #[.int .i64 t.kind, .int .i64 t.int, .string (str t.text)] ty)) w.heap.size t :=
  ⟨by simp, by simp, by simp, by simp⟩

theorem TokVar.later {W W' : World} {B : Nat} {t : Tok} (h : TokVar W B t) (hb : Below W.heap.size W W') : TokVar W' B t :=
  ⟨Nat.lt_of_lt_of_le h.lt hb.size, (hb.cell h.lt).trans h.c0, (hb.cell h.lt).trans h.c1, (hb.cell h.lt).trans h.c2⟩

theorem TokVar.grown {W W' : World} {B : Nat} {t : Tok} {row : Option Nat} (h : TokVar W B t) (hg : W.grownBy W' row) (hr : some B ≠ row) : TokVar W' B t := by
  have hc : ∀ j, W'.cell? ⟨B, j, none⟩ = W.cell? ⟨B, j, none⟩ := fun j => by
    have := hg.block B h.lt hr
    simp only [World.cell?, this]
  exact ⟨Nat.lt_of_lt_of_le h.lt hg.size, (hc 0).trans h.c0, (hc 1).trans h.c1, (hc 2).trans h.c2⟩

theorem all_take {ts : List Tok} {n k : Nat} (hn : ts.length = n) (hk : ¬ k < n) (h : ∀ t ∈ ts.take k, may t = true) : ts.all may = true ∧ ts.take k = ts := by
  have : ts.take k = ts := List.take_of_length_le (by omega)
  rw [this] at h
  exact ⟨List.all_eq_true.2 h, this⟩

set_option maxRecDepth 100000 in
set_option maxHeartbeats 4000000 in
theorem Join_any (ao : Option Addr) (cap : Nat) (ts : List Tok) (w : World) (tabs : JoinTabs w) (ht : Toks w ao cap ts) :
    Calls Tryd.prog 14 #[.slice ao ts.length cap] w fun e w' => e = .returned (.tuple #[.string (str (joinAns ts).1), .int .i64 (joinAns ts).2]) ∧ Below w.heap.size w w' := by
  by_cases h0 : 300 < ts.length
  · have R : Hid (joinAns ts = ([], 8)) := by unfold joinAns; rw [if_pos h0]; rfl
    have h01 : (300 : Int) < (ts.length : Int) := by omega
    go_enter Tryd.func14, Tryd.ntmps14
    go_wp2
    go_ret2
    rw [R.out]
    exact ⟨rfl, Below.refl _ _⟩
  have h01 : ¬ (300 : Int) < (ts.length : Int) := by omega
  have HT := hidden ht
  have HI := hidden ht.2.1
  obtain ⟨n, hn⟩ : ∃ n, ts.length = n := ⟨_, rfl⟩
  have HN := hidden hn
  rw [hn] at h0 h01 ⊢
  obtain ⟨i0, hi0, hz0, hz1, hz2⟩ := info_parts Tryd.infoByte
  clear ht hn
  go_enter Tryd.func14, Tryd.ntmps14
  go_wp2
  go_loopw [4, 12] (fun v x wr => ∃ (k : Nat) (acc : List UInt8), k ≤ n ∧ x = .int .i64 (k : Int) ∧ acc.length ≤ 83 * k ∧ Hid (Below w.heap.size w wr) ∧ wr.ownsRow w.heap.size 5 1 v acc.length (cellsOf acc) ∧
    Hid (acc = joined (ts.take k) ∧ ∀ t ∈ ts.take k, may t = true)) (fun _ x _ => n - (intOf x).toNat)
  case atStart => exact ⟨0, [], Nat.zero_le _, rfl, Nat.zero_le _, Below.refl _ _, World.ownsRow_nil _ _ _ _, rfl, fun t h => by simp at h⟩
  case round =>
    obtain ⟨k, acc, hk, rfl, hal, HB, hown, HR⟩ := hrel
    by_cases hlt : k < n
    · have hlt1 : (k : Int) < (n : Int) := by omega
      have hlt2 : k < ts.length := by rw [HN.out]; exact hlt
      obtain ⟨b, off, rfl, hbw, hcell⟩ : ∃ b off, ao = some ⟨b, off, none⟩ ∧ b < w.heap.size ∧ ∀ i (hi : i < ts.length), w.cell? ⟨b, off + i * 3, none⟩ = some (.int .i64 ts[i].kind) ∧ w.cell? ⟨b, off + i * 3 + 1, none⟩ = some (.int .i64 ts[i].int) ∧ w.cell? ⟨b, off + i * 3 + 2, none⟩ = some (.string (str ts[i].text)) := by
        rcases HT.out.2.2 with h | h
        · rw [h] at hlt2
          cases hlt2
        · exact h
      obtain ⟨e0, e1, e2⟩ := hcell k hlt2
      have c0 := (HB.out.cell (p := ⟨b, off + k * 3, none⟩) hbw).trans e0
      have c1 := (HB.out.cell (p := ⟨b, off + k * 3 + 1, none⟩) hbw).trans e1
      have c2 := (HB.out.cell (p := ⟨b, off + k * 3 + 2, none⟩) hbw).trans e2
      obtain ⟨t, hkt⟩ : ∃ t, ts[k] = t := ⟨_, rfl⟩
      rw [hkt] at c0 c1 c2
      have hti : t.int ≤ 9223372036854775807 := HI.out t (by rw [← hkt]; exact List.getElem_mem _)
      have htake : ts.take (k + 1) = ts.take k ++ [t] := by rw [← hkt]; exact List.take_succ_eq_append_getElem hlt2
      clear hcell e0 e1 e2
      have b0 : Hid (Below w.heap.size w (wr.alloc (.cells #[.int .i64 t.kind, .int .i64 t.int, .string (str t.text)] 23))) := HB.out.alloc HB.out.size _
      have hv0 := TokVar.new wr t 23
      have HM : Hid (Calls Tryd.prog 9 #[.agg #[.int .i64 t.kind, .int .i64 t.int, .string (str t.text)]] (wr.alloc (.cells #[.int .i64 t.kind, .int .i64 t.int, .string (str t.text)] 23)) fun e W => e = .returned (.bool (may t)) ∧ Hid (Below (wr.alloc (.cells #[.int .i64 t.kind, .int .i64 t.int, .string (str t.text)] 23)).heap.size (wr.alloc (.cells #[.int .i64 t.kind, .int .i64 t.int, .string (str t.text)] 23)) W) ∧ Hid (TokVar W wr.heap.size t)) := by
        have tb := tabs.later b0.out
        have := May_any t.kind t.int (str t.text) (wr.alloc (.cells #[.int .i64 t.kind, .int .i64 t.int, .string (str t.text)] 23)) tb.marks tb.u8
        rw [bts_str] at this
        exact this.mono fun e W h => ⟨h.1, h.2, hv0.later h.2⟩
      cases hm : may t with
      | false =>
        have R : Hid (joinAns ts = ([], 4)) := by
          show _ = _
          unfold joinAns
          rw [if_neg (by rw [HN.out]; exact h0), if_neg]
          intro h
          have := List.all_eq_true.1 h t (by rw [← hkt]; exact List.getElem_mem _)
          rw [hm] at this
          cases this
        rw [hm] at HM
        clear htake hkt hm
        go_wp2_with (go_at_call 9; refine HM.out.mono ?_; rintro e w1 ⟨rfl, hb1, hv1⟩; have hown1 := own_later (hown.alloc _) hb1.out; have b1 := b0.out.trans (hb1.out.mono b0.out.size); have x0 := hv1.out.c0; have x1 := hv1.out.c1; have x2 := hv1.out.c2)
        go_ret2
        rw [R.out]
        exact ⟨rfl, b1⟩
      | true =>
        have HW : Hid (∀ W, Hid (Below w.heap.size w W) → Calls Tryd.prog 29 #[.agg #[.int .i64 t.kind, .int .i64 t.int, .string (str t.text)]] W fun e W' => e = .returned (.string (str (Go.Proofs.YtogkghifpocgmaaDoor.wr t))) ∧ Below W.heap.size W W') := by
          intro W hW
          have := written_any t.kind t.int (str t.text) (by rw [bts_str]; exact hm) hti W ((tabs.later hW.out).wr)
          rw [bts_str] at this
          exact this
        have hwl := wr_len hm hti
        have hws : (str (Go.Proofs.YtogkghifpocgmaaDoor.wr t)).size = (Go.Proofs.YtogkghifpocgmaaDoor.wr t).length := str_size _
        have hall : Hid (∀ u ∈ ts.take (k + 1), may u = true) := by
          intro u hu
          rw [htake] at hu
          rcases List.mem_append.1 hu with h | h
          · exact HR.out.2 u h
          · rw [List.mem_singleton.1 h]
            exact hm
        rw [hm] at HM
        by_cases hk0 : k = 0
        · subst hk0
          simp only [Nat.zero_mul, Nat.add_zero] at c0 c1 c2
          have ea : acc = [] := by rw [HR.out.1]; simp [joined]
          subst ea
          have R : Hid ([] ++ Go.Proofs.YtogkghifpocgmaaDoor.wr t = joined (ts.take (0 + 1))) := by
            show _ = _
            rw [htake]
            simp [joined]
          clear htake hkt hm HR
          go_wp2_with (first
            | (go_at_call 9; refine HM.out.mono ?_; rintro e w1 ⟨rfl, hb1, hv1⟩; have hown1 := own_later (hown.alloc _) hb1.out; have b1 := b0.out.trans (hb1.out.mono b0.out.size); have x0 := hv1.out.c0; have x1 := hv1.out.c1; have x2 := hv1.out.c2)
            | (go_at_call 29; refine (HW.out _ (hidden b1)).mono ?_; rintro e w3 ⟨rfl, hb3⟩; have hown3 := own_later hown1 hb3; have b3 := b1.trans (hb3.mono b1.size))
            | (at_builtin; refine Lib.wpList_append_own_string _ rfl (.tmp 25) (.tmp 27) 46 9 rfl w.heap.size 5 i0 Tryd.underlying46 Tryd.underlying9 hi0 hz0 hz1 hz2 _ _ (cellsOf []) rfl hown3 (str (Go.Proofs.YtogkghifpocgmaaDoor.wr t)) rfl (by unfold maxLen; omega) (by omega) b3.size ?_; intro v4 w4 hown4 hg4 _; rw [strCells_bts, bts_str, cellsOf_append] at hown4; have b4 : Below w.heap.size w w4 := b3.grown hg4 b3.size (fun k hk => (hown3.lt k hk).1)))
          go_roundw
          case rel => exact ⟨1, [] ++ Go.Proofs.YtogkghifpocgmaaDoor.wr t, by omega, by go_num, by simp; omega, b4, by simpa [hws] using hown4, R.out, hall⟩
          case measure => simp [intOf]; omega
        · have hk1 : (0 : Int) < (k : Int) := by omega
          have R : Hid (acc ++ [32] ++ Go.Proofs.YtogkghifpocgmaaDoor.wr t = joined (ts.take (k + 1))) := by
            show _ = _
            have hne : ¬ ts.take k = [] := by
              intro h
              have := congrArg List.length h
              rw [List.length_take, HN.out] at this
              simp only [List.length_nil] at this
              omega
            rw [htake, joined_push, if_neg hne, HR.out.1]
            simp
          clear htake hkt hm HR
          go_wp2_with (first
            | (go_at_call 9; refine HM.out.mono ?_; rintro e w1 ⟨rfl, hb1, hv1⟩; have hown1 := own_later (hown.alloc _) hb1.out; have b1 := b0.out.trans (hb1.out.mono b0.out.size); have x0 := hv1.out.c0; have x1 := hv1.out.c1; have x2 := hv1.out.c2)
            | (at_builtin; refine wpList_append_own _ rfl (.tmp 22) (.tmp 23) 46 rfl w.heap.size 5 i0 (.int .u8 0) 1 1 Tryd.underlying46 hi0 hz0 hz1 hz2 rfl (by decide) _ _ _ rfl (hown1.alloc _) ⟨w1.heap.size, 0, none⟩ 1 1 [.int .u8 32] rfl rfl (cell_one_new _ _ _) (byte_one _) (by unfold maxLen; omega) (by omega) (by have := b1.size; simp; omega) ?_; intro v2 w2 hown2 hg2 _; have b2 : Below w.heap.size w w2 := (b1.alloc b1.size _).grown hg2 (by have := b1.size; simp; omega) (fun k hk => (hown1.lt k hk).1); have hown2 : w2.ownsRow w.heap.size 5 1 v2 (acc.length + 1) (cellsOf (acc ++ [32])) := (by rw [← cellsOf_append]; exact hown2); have hv2 := (hv1.out.later ((Below.refl _ w1).alloc (Nat.le_refl _) _)).grown hg2 (fun h => by have := (hown.lt _ h.symm).2; omega); have y0 := hv2.c0; have y1 := hv2.c1; have y2 := hv2.c2)
            | (go_at_call 29; refine (HW.out _ (hidden b2)).mono ?_; rintro e w3 ⟨rfl, hb3⟩; have hown3 := own_later hown2 hb3; have b3 := b2.trans (hb3.mono b2.size))
            | (at_builtin; refine Lib.wpList_append_own_string _ rfl (.tmp 25) (.tmp 27) 46 9 rfl w.heap.size 5 i0 Tryd.underlying46 Tryd.underlying9 hi0 hz0 hz1 hz2 _ _ (cellsOf (acc ++ [32])) rfl hown3 (str (Go.Proofs.YtogkghifpocgmaaDoor.wr t)) rfl (by unfold maxLen; omega) (by omega) b3.size ?_; intro v4 w4 hown4 hg4 _; rw [strCells_bts, bts_str, cellsOf_append] at hown4; have b4 : Below w.heap.size w w4 := b3.grown hg4 b3.size (fun k hk => (hown3.lt k hk).1)))
          go_roundw
          case rel => exact ⟨k + 1, acc ++ [32] ++ Go.Proofs.YtogkghifpocgmaaDoor.wr t, by omega, by go_num, by simp; omega, b4, by
            have e : (acc ++ [32] ++ Go.Proofs.YtogkghifpocgmaaDoor.wr t).length = acc.length + 1 + (str (Go.Proofs.YtogkghifpocgmaaDoor.wr t)).size := by rw [List.length_append, List.length_append, hws]; rfl
            rw [e]
            exact hown4, R.out, hall⟩
          case measure => simp [intOf]; omega
    · obtain ⟨hal2, hte⟩ := all_take HN.out hlt HR.out.2
      have ea : acc = joined ts := by rw [HR.out.1, hte]
      have hlt1 : ¬ (k : Int) < (n : Int) := by omega
      obtain ⟨ao3, cap3, rfl⟩ := own_shape hown
      have hcv := own_string rfl hown
      by_cases hbig : 2000 < acc.length
      · have R : Hid (joinAns ts = ([], 1)) := by
          show _ = _
          unfold joinAns
          rw [if_neg (by rw [HN.out]; exact h0), if_pos hal2, if_pos (by rw [← ea]; exact hbig)]
        have hbig1 : (2000 : Int) < (acc.length : Int) := by omega
        clear ea hte hal2
        go_wp2
        go_ret2
        rw [R.out]
        exact ⟨rfl, HB.out⟩
      · have R : Hid (joinAns ts = (acc, 0)) := by
          show _ = _
          unfold joinAns
          rw [if_neg (by rw [HN.out]; exact h0), if_pos hal2, if_neg (by rw [← ea]; exact hbig), ea]
        have hbig1 : ¬ (2000 : Int) < (acc.length : Int) := by omega
        clear ea hte hal2
        go_wp2
        go_ret2
        rw [R.out]
        exact ⟨rfl, HB.out⟩

end Go.Proofs.YtogkghifpocgmaaDoor
