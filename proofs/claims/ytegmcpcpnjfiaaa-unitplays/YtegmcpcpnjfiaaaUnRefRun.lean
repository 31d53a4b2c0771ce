/- All jobs of the document's own unit, one by one. -/
import Derived.Test.YtegmcpcpnjfiaaaUnRefOne
namespace Go.Proofs.Ytegmcpcpnjfiaaa
open Go.ChangeShapes Go.WideShapes Go.ChangeAt Go.RowKit Go.Maps

theorem NewUnit_any (w : World) : Calls Try.prog 20 #[.int .i64 0] w fun e w' => e = .returned (.pointer (some ⟨w.heap.size + 1, 0, none⟩)) ∧ w' = (w.alloc (.map #[] 0)).alloc (.cells #[.int .i64 0, .map (some w.heap.size), .int .i64 (-1)] 62) := by
  have hmm := @run_makeMap Try.prog
  go_enter Try.func20, Try.ntmps20
  go_wp2
  exact bodyPost_ret (v := .pointer (some ⟨w.heap.size + 1, 0, none⟩)) (by simp [results, Try.results20, go_sem]) rfl ⟨rfl, rfl⟩

/-- between two jobs -/
structure RrnI (w : World) (P M n : Nat) (u : Un) (rs : List Rp) (f : Value) (W : World) : Prop where
  un : RefI P M n (fun b => (b ≠ P ∧ b ≠ M) ∧ f.ownBlock ≠ some b) u W
  rps : Rows kRp (fun b => b ≠ P ∧ b ≠ M) W w.heap.size 36 f rs
  fB : f.ownBlock ≠ some P ∧ f.ownBlock ≠ some M
  below : Below w.heap.size w W
  bv : w.heap.size ≤ P ∧ w.heap.size ≤ M

theorem RrnI.later {w W W' : World} {P M n : Nat} {u : Un} {rs : List Rp} {f : Value} (h : RrnI w P M n u rs f W) (hb : Below W.heap.size W W') : RrnI w P M n u rs f W' :=
  ⟨h.un.later hb, h.rps.later hb, h.fB, h.below.trans (hb.mono h.below.size), h.bv⟩

theorem rrnI_new (w : World) : RrnI w (w.heap.size + 1) w.heap.size 0 unit0 [] (.slice none 0 0) ((w.alloc (.map #[] 0)).alloc (.cells #[.int .i64 0, .map (some w.heap.size), .int .i64 (-1)] 62)) := by
  have b1 := (Below.refl w.heap.size w).alloc (Nat.le_refl _) (.map #[] 0)
  have m1 := World.ownsMap_made w Try.prog 3 rH
  have s1 : (w.alloc (.map #[] 0)).heap.size = w.heap.size + 1 := by simp
  generalize w.alloc (.map #[] 0) = W1 at *
  have b2 := (Below.refl W1.heap.size W1).alloc (Nat.le_refl _) (.cells #[.int .i64 0, .map (some w.heap.size), .int .i64 (-1)] 62)
  have hh := heap_alloc_new W1 (.cells #[.int .i64 0, .map (some w.heap.size), .int .i64 (-1)] 62)
  rw [s1] at hh
  have m2 := m1.alloc (.cells #[.int .i64 0, .map (some w.heap.size), .int .i64 (-1)] 62)
  generalize W1.alloc (.cells #[.int .i64 0, .map (some w.heap.size), .int .i64 (-1)] 62) = W2 at *
  refine ⟨⟨?_, ?_, ?_, ?_, ?_, ?_, ⟨_, m2, fun i _ => ⟨_, rfl, none, 0, rfl, ⟨none, 0, rfl, Octs.nil _ _ _ (fun _ => rfl), fun h => absurd rfl h⟩, by simp [unit0]⟩⟩, .inl rfl, fun i _ => by simp [unit0], fun h => h.1.1 rfl, fun h => h.1.2 rfl, by omega⟩, Rows.nil _ _ _ _ _, ⟨(fun e => by cases e), (fun e => by cases e)⟩, b1.trans (b2.mono (by omega)), by omega, Nat.le_refl _⟩
  all_goals simp [World.cell?, World.frozen?, hh, unit0]

/-- a job is done -/
theorem RrnI.step {w W w2 : World} {P M n : Nat} {u : Un} {rs : List Rp} {f : Value} {x : Rp × Un} {e : Ending} (h : RrnI w P M n u rs f W) (hs : SrPost P M n (fun b => (b ≠ P ∧ b ≠ M) ∧ f.ownBlock ≠ some b) W x e w2) :
    ∃ (a : Option Addr) (m c : Nat), e = .returned (.agg #[.int .i64 x.1.code, .bool x.1.junk, .slice a m c, .int .i64 x.1.tail]) ∧ (∃ n', n' ≤ n + 1 ∧ RrnI w P M n' x.2 rs f w2) ∧ kRp.rel (fun b => (b ≠ P ∧ b ≠ M) ∧ f.ownBlock ≠ some b) w2 x.1 [.int .i64 x.1.code, .bool x.1.junk, .slice a m c, .int .i64 x.1.tail] := by
  obtain ⟨⟨a, m, c, e1, h1⟩, ⟨n', hn', h2⟩, h3⟩ := hs
  have hP := h.un.lt
  have hM := h.un.map.lt
  have hfl : ∀ g, f.ownBlock = some g → w.heap.size ≤ g ∧ g < W.heap.size := rows_lt h.rps
  have hbw := h.below.size
  have hbv := h.bv
  refine ⟨a, m, c, e1, ⟨n', hn', ⟨h2, ?_, h.fB, ⟨h3.os.trans h.below.os, h3.tape.trans h.below.tape, h3.output.trans h.below.output, Nat.le_trans hbw h3.size, fun b hb => ?_⟩, h.bv⟩⟩, kRp.move (Kept.of_below (Below.refl _ _)) (fun b _ ho => ⟨⟨by omega, by omega⟩, fun e => by have := (hfl b e).2; omega⟩) h1⟩
  · exact h.rps.move ⟨h3.size, fun b hb ho => h3.block b hb ho.1 ho.2⟩ (fun g hg => h3.block g (hfl g hg).2 (fun e => h.fB.1 (by rw [hg, e])) (fun e => h.fB.2 (by rw [hg, e])))
  · exact (h3.block b (by omega) (by omega) (by omega)).trans (h.below.block b hb)

/-- and what it came to is written down -/
theorem RrnI.told {w w2 w5 : World} {P M n : Nat} {u : Un} {rs rs' : List Rp} {f f' : Value} (h : RrnI w P M n u rs f w2) (q1 : Rows kRp (fun b => b ≠ P ∧ b ≠ M) w5 w.heap.size 36 f' rs') (q2 : w2.grownBy w5 f.ownBlock) (q3 : f'.ownBlock = f.ownBlock ∨ f'.ownBlock = some (w2.heap.size + 1)) : RrnI w P M n u rs' f' w5 := by
  have hP := h.un.lt
  have hM := h.un.map.lt
  have hfl : ∀ g, f.ownBlock = some g → w.heap.size ≤ g ∧ g < w2.heap.size := rows_lt h.rps
  have hf' : ∀ b, b < w2.heap.size → f.ownBlock ≠ some b → f'.ownBlock ≠ some b := fun b hb hne e => by
    rcases q3 with q | q
    · exact hne (by rw [← q, e])
    · rw [q] at e
      have := Option.some.inj e
      omega
  refine ⟨h.un.move (Kept.of_grown q2 (fun b ho => ho.2)) (q2.block P hP (fun e => h.fB.1 e.symm)) (q2.block M hM (fun e => h.fB.2 e.symm)) (fun b hb ho => ⟨ho.1, hf' b hb ho.2⟩) (fun e => e.1.1 rfl) (fun e => e.1.2 rfl), q1, ⟨hf' P hP h.fB.1, hf' M hM h.fB.2⟩, below_grown h.below h.below.size q2 (fun r e => (hfl r e).1), h.bv⟩

set_option maxHeartbeats 8000000 in
theorem UnitPlayed_any (ok : Nat → Prop) (js : List Jb) (hjs : js.length ≤ 400) (da : Option Addr) (dc : Nat) (w : World) (hL : Lies kJb ok w da dc js) :
    Calls Try.prog 10 #[.slice da js.length dc] w fun e w' => PlayedPost w js e w' := by
  obtain ⟨n, hn⟩ : ∃ n, n = js.length := ⟨_, rfl⟩
  rw [← hn]
  have hn4 : (n : Int) ≤ 400 := by omega
  have HL := put_by hL
  have HN := put_by hn
  have H0 := put_by (rrnI_new w)
  clear hL hn
  go_enter Try.func10, Try.ntmps10
  go_wp2_with (go_at_call 20; (refine (NewUnit_any w).mono ?_); rintro e w1 ⟨rfl, rfl⟩)
  generalize (w.alloc (.map #[] 0)).alloc (.cells #[.int .i64 0, .map (some w.heap.size), .int .i64 (-1)] 62) = W0 at *
  go_loopw [5, 14] (fun s i wr => ∃ (k : Nat) (a : Option Addr) (c : Nat), k ≤ n ∧ i = .int .i64 k ∧ s = .slice a k c ∧ Hid (∃ nn, nn ≤ k ∧ RrnI w (w.heap.size + 1) w.heap.size nn (playU unit0 (js.take k)).2 (playU unit0 (js.take k)).1 (.slice a k c) wr)) (fun _ i _ => n - (intOf i).toNat)
  case atStart => exact ⟨0, none, 0, Nat.zero_le _, rfl, rfl, 0, Nat.le_refl _, H0.out⟩
  case round =>
    obtain ⟨k, a, c, hk, rfl, rfl, HR⟩ := hrel
    by_cases hlt : k < n
    · have hx : k < js.length := by rw [← HN.out]; exact hlt
      obtain ⟨b4, off, rfl, hb4, _, cs, ⟨v, rfl, hv⟩, hc⟩ := HL.out.at hx
      obtain ⟨ea, ec, rfl, hvo, -⟩ := id hv
      obtain ⟨nn, hnn, hI⟩ := HR.out
      have hcell : ∀ j x, [Value.int .i64 (js[k]).kind, .int .i64 (js[k]).epoch, .int .i64 (js[k]).addr, .slice ea (js[k]).data.length ec][j]? = some x → wr.cell? ⟨b4, off + k * 4 + j, none⟩ = some x := fun j x hj => (hI.below.cell (p := ⟨b4, off + k * 4 + j, none⟩) hb4).trans (hc j x hj)
      have d0 := hcell 0 _ rfl
      have d1 := hcell 1 _ rfl
      have d2 := hcell 2 _ rfl
      have d3 := hcell 3 _ rfl
      simp only [Nat.add_zero] at d0
      have hsn : js.take (k + 1) = js.take k ++ [js[k]] := List.take_succ_eq_append_getElem hx
      have htl : (js.take k).length = k := by rw [List.length_take]; omega
      have hfk : (playU unit0 (js.take k)).1.length = k := by rw [playU_length, htl]
      have hbd : Below wr.heap.size wr (wr.alloc (.cells #[.int .i64 (js[k]).kind, .int .i64 (js[k]).epoch, .int .i64 (js[k]).addr, .slice ea (js[k]).data.length ec] 34)) := (Below.refl _ wr).alloc (Nat.le_refl _) _
      have hI1 := hI.later hbd
      have cP : Hid (Calls Try.prog 21 #[.pointer (some ⟨w.heap.size + 1, 0, none⟩), .agg #[.int .i64 (js[k]).kind, .int .i64 (js[k]).epoch, .int .i64 (js[k]).addr, .slice ea (js[k]).data.length ec]] (wr.alloc (.cells #[.int .i64 (js[k]).kind, .int .i64 (js[k]).epoch, .int .i64 (js[k]).addr, .slice ea (js[k]).data.length ec] 34)) fun e w2 => ∃ (p : Int) (q : Bool) (a' : Option Addr) (n' c' : Nat) (t : Int), e = .returned (.agg #[.int .i64 p, .bool q, .slice a' n' c', .int .i64 t]) ∧ Hid (∃ rp, (playU unit0 (js.take (k + 1))).1 = (playU unit0 (js.take k)).1 ++ [rp] ∧ (∃ nn, nn ≤ k + 1 ∧ RrnI w (w.heap.size + 1) w.heap.size nn (playU unit0 (js.take (k + 1))).2 (playU unit0 (js.take k)).1 (.slice a k c) w2) ∧ kRp.rel (fun b => (b ≠ w.heap.size + 1 ∧ b ≠ w.heap.size) ∧ (Value.slice a k c).ownBlock ≠ some b) w2 rp [.int .i64 p, .bool q, .slice a' n' c', .int .i64 t])) := by
        have hfr1 : Fresh (fun b => (b ≠ w.heap.size + 1 ∧ b ≠ w.heap.size) ∧ (Value.slice a k c).ownBlock ≠ some b) (wr.alloc (.cells #[.int .i64 (js[k]).kind, .int .i64 (js[k]).epoch, .int .i64 (js[k]).addr, .slice ea (js[k]).data.length ec] 34)) := fun b hb => by
          have h1 := hI.un.lt
          have h2 := hbd.size
          exact ⟨⟨by omega, by omega⟩, fun e => by have := (rows_lt hI.rps b e).2; omega⟩
        refine (one_any (w.heap.size + 1) w.heap.size nn _ _ _ hI1.un (by omega) hfr1 js[k] ea _ ec ⟨rfl, hvo.later (hI1.below), fun hx ad e => by have := hvo.blocks hx ad e; omega⟩).mono ?_
        intro e w2 hs
        obtain ⟨a', n', c', rfl, ⟨n2, hn2, r1⟩, r2⟩ := hI1.step hs
        refine ⟨_, _, a', n', c', _, rfl, put_by ⟨_, ?_, ?_, r2⟩⟩
        · rw [hsn, playU_snoc]
        · rw [hsn, playU_snoc]
          exact ⟨n2, by omega, r1⟩
      have HFK := put_by hfk
      clear hcell hc hv hvo hI1 hbd hsn htl hfk hI
      generalize (js[k]).kind = i1 at d0 cP
      generalize (js[k]).epoch = i2 at d1 cP
      generalize (js[k]).addr = i3 at d2 cP
      generalize (js[k]).data.length = i4 at d3 cP
      have ik : (k : Int) < (n : Int) := by omega
      go_wp2_with (first
        | (go_at_call 21; refine cP.out.mono ?_; clear cP; rintro e w2 ⟨p, q, a', n', c', t, rfl, H2⟩; obtain ⟨rp1, e2, ⟨n3, hn3, hI2⟩, hr2⟩ := H2.out)
        | (at_builtin; refine wpList_append_one eltRp rfl (.tmp 18) (.tmp 22) rfl w.heap.size (.slice a k c) (playU unit0 (js.take k)).1 rfl hI2.rps rp1 [.int .i64 p, .bool q, .slice a' n' c', .int .i64 t] _ _ rfl rfl hr2 ?_ (by rw [HFK.out]; omega) (by decide) hI2.below.size ?_))
      · exact fun b hb => by have := hI2.un.lt; omega
      · intro f' w3 hR3 hg3 hat3
        obtain ⟨a6, c6, e6⟩ := rows_form hR3
        have hl6 : ((playU unit0 (js.take k)).1 ++ [rp1]).length = k + 1 := by simp [HFK.out]
        rw [hl6] at e6
        subst e6
        have HI3 : Hid (∃ nn, nn ≤ k + 1 ∧ RrnI w (w.heap.size + 1) w.heap.size nn (playU unit0 (js.take (k + 1))).2 (playU unit0 (js.take (k + 1))).1 (.slice a6 (k + 1) c6) w3) := by
          rw [e2]
          exact put_by ⟨n3, hn3, hI2.told hR3 hg3 hat3⟩
        clear e2 H2 hI2 hr2 hR3 hg3 hat3 hl6 HR HL d0 d1 d2 d3
        go_wp2
        go_roundw
        case rel => exact ⟨k + 1, a6, c6, by omega, by go_num, rfl, HI3⟩
        case measure => simp [intOf]; omega
    · have hkm : k = n := by omega
      subst hkm
      have H9 : Hid (Lies kRp (fun _ => True) wr a c (playU unit0 js).1 ∧ Ples a c ∧ Below w.heap.size w wr) := by
        obtain ⟨nn, hnn, hI⟩ := HR.out
        rw [List.take_of_length_le (by rw [← HN.out]; exact Nat.le_refl _)] at hI
        obtain ⟨ao, cap, e, h1, h2, -, -⟩ := hI.rps.lies (fun b e => ⟨fun e2 => hI.fB.1 (by rw [e, e2]), fun e2 => hI.fB.2 (by rw [e, e2])⟩)
        simp only [Value.slice.injEq] at e
        obtain ⟨rfl, -, rfl⟩ := e
        exact ⟨h1.move (Kept.of_below (Below.refl _ _)) (fun _ _ _ => trivial), h2, hI.below⟩
      clear HR HL H0
      go_wp2
      exact bodyPost_ret (v := .tuple #[.slice a k c, .int .i64 0]) (by simp [results, Try.results10, go_sem]) rfl ⟨a, k, c, rfl, HN.out, H9.out.1, H9.out.2.1, H9.out.2.2⟩

theorem UnitPlayed_many (n : Nat) (hn : 400 < n) (da : Option Addr) (dc : Nat) (w : World) :
    Calls Try.prog 10 #[.slice da n dc] w fun e w' => e = .returned (.tuple #[.slice none 0 0, .int .i64 1]) ∧ w' = w := by
  have hn4 : (400 : Int) < (n : Int) := by omega
  clear hn
  go_enter Try.func10, Try.ntmps10
  go_wp2
  exact bodyPost_ret (v := .tuple #[.slice none 0 0, .int .i64 1]) (by simp [results, Try.results10, go_sem]) rfl ⟨rfl, rfl⟩

end Go.Proofs.Ytegmcpcpnjfiaaa
