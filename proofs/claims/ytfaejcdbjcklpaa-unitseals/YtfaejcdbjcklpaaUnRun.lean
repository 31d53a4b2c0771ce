/- All jobs of a unit, one by one. -/
import Derived.Test.YtfaejcdbjcklpaaUnPlay
import Derived.Deep.MidRow
namespace Go.Proofs.Ytfaejcdbjcklpaa
open Go.ChangeShapes Go.WideShapes Go.ChangeAt Go.RowKit

/-- a unit's variable as it is made, cell by cell -/
structure ZeroUn (uz : Array Value) : Prop where
  zero : ∀ W : World, (zeroValue 46).run Try.prog W = .ok (.agg uz) W
  size : uz.size = 66
  slot : ∀ i, i < 64 → uz[i]? = some .nilIface
  ep : uz[64]? = some (.int .i64 0)
  one : ∀ u ∈ uz, u.oneCell' = true

theorem zeroUnit : ∃ uz, ZeroUn uz := by
  refine ⟨Array.replicate 64 .nilIface ++ #[.int .i64 0, .int .i64 0], fun _ => by kernel_rfl, by simp, fun i hi => ?_, by simp, fun u hu => ?_⟩
  · rw [Array.getElem?_append_left (by simpa using hi)]
    simp [hi]
  · simp only [Array.mem_append, Array.mem_replicate] at hu
    rcases hu with ⟨_, rfl⟩ | hu
    · rfl
    · simp at hu
      subst hu
      rfl

theorem ZeroUn.there {uz : Array Value} (h : ZeroUn uz) (w : World) (ty : TypeId) : (w.alloc (.cells uz ty)).there w.heap.size 0 (uz.setIfInBounds 65 (.int .i64 (-1))).size := by
  intro j hj
  rw [Array.size_setIfInBounds, h.size] at hj
  have hh := heap_alloc_new w (.cells uz ty)
  simp only [World.cell?, World.frozen?, hh, Nat.zero_add]
  have : uz[j]? = some (uz[j]'(by rw [h.size]; exact hj)) := Array.getElem?_eq_getElem (by rw [h.size]; exact hj)
  simp [this]

theorem ZeroUn.all {uz : Array Value} (h : ZeroUn uz) : (uz.setIfInBounds 65 (.int .i64 (-1))).all (·.oneCell') = true := by
  rw [Array.all_eq_true_iff_forall_mem]
  intro u hu
  rcases Array.mem_or_eq_of_mem_setIfInBounds hu with hu | rfl
  · exact h.one u hu
  · rfl

/-- between two jobs: the unit in its variable B, what the jobs came to in f, all else as it was -/
structure RunI (w : World) (B : Nat) (u : Un) (rs : List Rp) (f : Value) (W : World) : Prop where
  un : UnI B (fun b => b ≠ B ∧ f.ownBlock ≠ some b) u W
  rps : Rows kRp (fun b => b ≠ B) W w.heap.size 40 f rs
  fB : f.ownBlock ≠ some B
  below : Below w.heap.size w W
  bv : w.heap.size ≤ B

theorem RunI.later {w W W' : World} {B : Nat} {u : Un} {rs : List Rp} {f : Value} (h : RunI w B u rs f W) (hb : Below W.heap.size W W') : RunI w B u rs f W' :=
  ⟨h.un.later hb, h.rps.later hb, h.fB, h.below.trans (hb.mono h.below.size), h.bv⟩

theorem below_setCells {n : Nat} {w : World} : ∀ (vs : List Value) (o : Nat) {b : Nat} {W : World}, n ≤ b → Below n w W → Below n w (W.setCells b o vs)
  | [], _, _, _, _, h => h
  | v :: vs, o, b, _, hb, h => below_setCells vs (o + 1) hb (h.setCell (p := ⟨b, o, none⟩) hb v)

/-- ahead of the first job -/
theorem runI_new {uz : Array Value} (hz : ZeroUn uz) (w : World) (ty : TypeId) : RunI w w.heap.size unit0 [] (.slice none 0 0) ((w.alloc (.cells uz ty)).setCells w.heap.size 0 (uz.setIfInBounds 65 (.int .i64 (-1))).toList) := by
  have ht := hz.there w ty
  have hr := World.rangeAt_setCells_same (w.alloc (.cells uz ty)) w.heap.size 0 (uz.setIfInBounds 65 (.int .i64 (-1))).toList (by simpa using ht)
  have hc : ∀ i v, (uz.setIfInBounds 65 (.int .i64 (-1)))[i]? = some v → ((w.alloc (.cells uz ty)).setCells w.heap.size 0 (uz.setIfInBounds 65 (.int .i64 (-1))).toList).cell? ⟨w.heap.size, i, none⟩ = some v := fun i v e => by
    have := hr i v (by rw [Array.getElem?_toList]; exact e)
    simpa using this
  refine ⟨⟨fun i hi => ⟨.nilIface, hc i _ ?_, .inl ⟨rfl, rfl⟩⟩, hc 64 _ ?_, hc 65 _ ?_, fun i hi => ?_, .inl rfl, fun e => e.1 rfl⟩, Rows.nil _ _ _ _ _, (fun e => by cases e), ?_, Nat.le_refl _⟩
  · rw [Array.getElem?_setIfInBounds_ne (by omega)]
    exact hz.slot i hi
  · rw [Array.getElem?_setIfInBounds_ne (by omega)]
    exact hz.ep
  · rw [Array.getElem?_setIfInBounds_self_of_lt (by rw [hz.size]; decide)]
    rfl
  · rw [World.frozen?_setCells]
    have := (ht i (by rw [Array.size_setIfInBounds, hz.size]; exact hi)).2
    rwa [Nat.zero_add] at this
  · exact below_setCells _ _ (Nat.le_refl _) ((Below.refl _ w).alloc (Nat.le_refl _) _)

/-- a job is done -/
theorem RunI.step {w W w2 : World} {B : Nat} {u : Un} {rs : List Rp} {f : Value} {x : Rp × Un} {e : Ending} (h : RunI w B u rs f W) (hs : StPost B (fun b => b ≠ B ∧ f.ownBlock ≠ some b) W x e w2) :
    ∃ (a : Option Addr) (n c : Nat), e = .returned (.agg #[.int .i64 x.1.code, .bool x.1.junk, .slice a n c, .int .i64 x.1.tail]) ∧ RunI w B x.2 rs f w2 ∧ kRp.rel (fun b => b ≠ B ∧ f.ownBlock ≠ some b) w2 x.1 [.int .i64 x.1.code, .bool x.1.junk, .slice a n c, .int .i64 x.1.tail] := by
  obtain ⟨⟨a, n, c, e1, h1⟩, h2, h3⟩ := hs
  have hB := h.un.lt
  have hfl : ∀ g, f.ownBlock = some g → w.heap.size ≤ g ∧ g < W.heap.size := rows_lt h.rps
  have hbw := h.below.size
  refine ⟨a, n, c, e1, ⟨h2, ?_, h.fB, ⟨h3.os.trans h.below.os, h3.tape.trans h.below.tape, h3.output.trans h.below.output, Nat.le_trans hbw h3.size, fun b hb => ?_⟩, h.bv⟩, kRp.move (Kept.of_below (Below.refl _ _)) (fun b _ ho => ⟨by omega, fun e => by have := (hfl b e).2; omega⟩) h1⟩
  · exact h.rps.move ⟨h3.size, fun b hb ho => h3.block b hb (fun e => ho (Option.some.inj e))⟩ (fun g hg => h3.block g (hfl g hg).2 (fun e => h.fB (by rw [hg]; exact e)))
  · have := h.bv
    exact (h3.block b (by omega) (fun e => by have := Option.some.inj e; omega)).trans (h.below.block b hb)

/-- and what it came to is written down -/
theorem RunI.told {w w2 w5 : World} {B : Nat} {u : Un} {rs rs' : List Rp} {f f' : Value} (h : RunI w B u rs f w2) (q1 : Rows kRp (fun b => b ≠ B) w5 w.heap.size 40 f' rs') (q2 : w2.grownBy w5 f.ownBlock) (q3 : f'.ownBlock = f.ownBlock ∨ f'.ownBlock = some (w2.heap.size + 1)) : RunI w B u rs' f' w5 := by
  have hB := h.un.lt
  have hfl : ∀ g, f.ownBlock = some g → w.heap.size ≤ g ∧ g < w2.heap.size := rows_lt h.rps
  have hf' : ∀ b, b < w2.heap.size → f.ownBlock ≠ some b → f'.ownBlock ≠ some b := fun b hb hne e => by
    rcases q3 with q | q
    · exact hne (by rw [← q, e])
    · rw [q] at e
      have := Option.some.inj e
      omega
  refine ⟨h.un.move (Kept.of_grown q2 (fun b ho => ho.2)) (q2.block B hB (fun e => h.fB e.symm)) (fun b hb ho => ⟨ho.1, hf' b hb ho.2⟩) (fun e => e.1 rfl), q1, hf' B hB h.fB, below_grown h.below h.below.size q2 (fun r e => (hfl r e).1), h.bv⟩

/-- what all jobs come to -/
def PlayedPost (w : World) (js : List Jb) (e : Ending) (w' : World) : Prop :=
  ∃ (a : Option Addr) (n c : Nat), e = .returned (.tuple #[.slice a n c, .int .i64 0]) ∧ n = js.length ∧ Lies kRp (fun _ => True) w' a c (playU unit0 js).1 ∧ Ples a c ∧ Below w.heap.size w w'

set_option maxHeartbeats 8000000 in
theorem Play_any (ok : Nat → Prop) (js : List Jb) (hjs : js.length ≤ 400) (da : Option Addr) (dc : Nat) (w : World) (hL : Lies kJb ok w da dc js) :
    Calls Try.prog 7 #[.slice da js.length dc] w fun e w' => PlayedPost w js e w' := by
  obtain ⟨n, hn⟩ : ∃ n, n = js.length := ⟨_, rfl⟩
  rw [← hn]
  have hn4 : (n : Int) ≤ 400 := by omega
  have HL := put_by hL
  have HN := put_by hn
  clear hL hn
  obtain ⟨uz, hz⟩ := zeroUnit
  have HZ := put_by hz
  have z0 := hz.zero
  have z1 := hz.size
  have H0 := put_by (runI_new hz w 46)
  clear hz
  go_enter Try.func7, Try.ntmps7
  go_upto_region 4 with (refine wpList_store_mid rfl 46 (.tmp 4) (.tmp 11) rfl w.heap.size 0 (uz.setIfInBounds 65 (.int .i64 (-1))) rfl rfl (HZ.out.there w _) (by simp only [Array.size_setIfInBounds, HZ.out.size]; kernel_rfl) HZ.out.all ?_)
  clear HZ z0 z1
  generalize (w.alloc (.cells uz 46)).setCells w.heap.size 0 (uz.setIfInBounds 65 (.int .i64 (-1))).toList = W0 at *
  go_wp2
  go_loopw [5, 14] (fun s i wr => ∃ (k : Nat) (a : Option Addr) (c : Nat), k ≤ n ∧ i = .int .i64 k ∧ s = .slice a k c ∧ Hid (RunI w w.heap.size (playU unit0 (js.take k)).2 (playU unit0 (js.take k)).1 (.slice a k c) wr)) (fun _ i _ => n - (intOf i).toNat)
  case atStart => exact ⟨0, none, 0, Nat.zero_le _, rfl, rfl, H0.out⟩
  case round =>
    obtain ⟨k, a, c, hk, rfl, rfl, HR⟩ := hrel
    by_cases hlt : k < n
    · have hx : k < js.length := by rw [← HN.out]; exact hlt
      obtain ⟨b4, off, rfl, hb4, _, cs, ⟨v, rfl, hv⟩, hc⟩ := HL.out.at hx
      obtain ⟨ea, ec, rfl, hvo, -⟩ := id hv
      have hI := HR.out
      have hcell : ∀ j x, [Value.int .i64 (js[k]).kind, .int .i64 (js[k]).epoch, .int .i64 (js[k]).addr, .slice ea (js[k]).data.length ec][j]? = some x → wr.cell? ⟨b4, off + k * 4 + j, none⟩ = some x := fun j x hj => (hI.below.cell (p := ⟨b4, off + k * 4 + j, none⟩) hb4).trans (hc j x hj)
      have d0 := hcell 0 _ rfl
      have d1 := hcell 1 _ rfl
      have d2 := hcell 2 _ rfl
      have d3 := hcell 3 _ rfl
      simp only [Nat.add_zero] at d0
      have hsn : js.take (k + 1) = js.take k ++ [js[k]] := List.take_succ_eq_append_getElem hx
      have htl : (js.take k).length = k := by rw [List.length_take]; omega
      have hfk : (playU unit0 (js.take k)).1.length = k := by rw [playU_length, htl]
      have hbd : Below wr.heap.size wr (wr.alloc (.cells #[.int .i64 (js[k]).kind, .int .i64 (js[k]).epoch, .int .i64 (js[k]).addr, .slice ea (js[k]).data.length ec] 29)) := (Below.refl _ wr).alloc (Nat.le_refl _) _
      have hI1 := hI.later hbd
      have cP : Hid (Calls Try.prog 10 #[.pointer (some ⟨w.heap.size, 0, none⟩), .agg #[.int .i64 (js[k]).kind, .int .i64 (js[k]).epoch, .int .i64 (js[k]).addr, .slice ea (js[k]).data.length ec]] (wr.alloc (.cells #[.int .i64 (js[k]).kind, .int .i64 (js[k]).epoch, .int .i64 (js[k]).addr, .slice ea (js[k]).data.length ec] 29)) fun e w2 => ∃ (p : Int) (q : Bool) (a' : Option Addr) (n' c' : Nat) (t : Int), e = .returned (.agg #[.int .i64 p, .bool q, .slice a' n' c', .int .i64 t]) ∧ Hid (∃ rp, (playU unit0 (js.take (k + 1))).1 = (playU unit0 (js.take k)).1 ++ [rp] ∧ RunI w w.heap.size (playU unit0 (js.take (k + 1))).2 (playU unit0 (js.take k)).1 (.slice a k c) w2 ∧ kRp.rel (fun b => b ≠ w.heap.size ∧ (Value.slice a k c).ownBlock ≠ some b) w2 rp [.int .i64 p, .bool q, .slice a' n' c', .int .i64 t])) := by
        have hfr1 : Fresh (fun b => b ≠ w.heap.size ∧ (Value.slice a k c).ownBlock ≠ some b) (wr.alloc (.cells #[.int .i64 (js[k]).kind, .int .i64 (js[k]).epoch, .int .i64 (js[k]).addr, .slice ea (js[k]).data.length ec] 29)) := fun b hb => by
          have h1 := hI.un.lt
          have h2 := hbd.size
          exact ⟨by omega, fun e => by have := (rows_lt hI.rps b e).2; omega⟩
        refine (play_any w.heap.size _ _ _ hI1.un hfr1 js[k] ea _ ec ⟨rfl, hvo.later (hI1.below), fun hx ad e => by have := hvo.blocks hx ad e; omega⟩).mono ?_
        intro e w2 hs
        obtain ⟨a', n', c', rfl, r1, r2⟩ := hI1.step hs
        refine ⟨_, _, a', n', c', _, rfl, put_by ⟨_, ?_, ?_, r2⟩⟩
        · rw [hsn, playU_snoc]
        · rw [hsn, playU_snoc]
          exact r1
      have HFK := put_by hfk
      clear hcell hc hv hvo hI1 hbd hsn htl hfk hI
      generalize (js[k]).kind = i1 at d0 cP
      generalize (js[k]).epoch = i2 at d1 cP
      generalize (js[k]).addr = i3 at d2 cP
      generalize (js[k]).data.length = i4 at d3 cP
      have ik : (k : Int) < (n : Int) := by omega
      go_wp2_with (first
        | (go_at_call 10; refine cP.out.mono ?_; clear cP; rintro e w2 ⟨p, q, a', n', c', t, rfl, H2⟩; obtain ⟨rp1, e2, hI2, hr2⟩ := H2.out)
        | (at_builtin; refine wpList_append_one eltRp rfl (.tmp 18) (.tmp 21) rfl w.heap.size (.slice a k c) (playU unit0 (js.take k)).1 rfl hI2.rps rp1 [.int .i64 p, .bool q, .slice a' n' c', .int .i64 t] _ _ rfl rfl hr2 ?_ (by rw [HFK.out]; omega) (by decide) hI2.below.size ?_))
      · exact fun b hb => by have := hI2.un.lt; omega
      · intro f' w3 hR3 hg3 hat3
        obtain ⟨a6, c6, e6⟩ := rows_form hR3
        have hl6 : ((playU unit0 (js.take k)).1 ++ [rp1]).length = k + 1 := by simp [HFK.out]
        rw [hl6] at e6
        subst e6
        have HI3 : Hid (RunI w w.heap.size (playU unit0 (js.take (k + 1))).2 (playU unit0 (js.take (k + 1))).1 (.slice a6 (k + 1) c6) w3) := by
          rw [e2]
          exact put_by (hI2.told hR3 hg3 hat3)
        clear e2 H2 hI2 hr2 hR3 hg3 hat3 hl6 HR HL d0 d1 d2 d3
        go_wp2
        go_roundw
        case rel => exact ⟨k + 1, a6, c6, by omega, by go_num, rfl, HI3⟩
        case measure => simp [intOf]; omega
    · have hkm : k = n := by omega
      subst hkm
      have H9 : Hid (Lies kRp (fun _ => True) wr a c (playU unit0 js).1 ∧ Ples a c ∧ Below w.heap.size w wr) := by
        have hI := HR.out
        rw [List.take_of_length_le (by rw [← HN.out]; exact Nat.le_refl _)] at hI
        obtain ⟨ao, cap, e, h1, h2, -, -⟩ := hI.rps.lies (fun b e => fun e2 => hI.fB (by rw [e, e2]))
        simp only [Value.slice.injEq] at e
        obtain ⟨rfl, -, rfl⟩ := e
        exact ⟨h1.move (Kept.of_below (Below.refl _ _)) (fun _ _ _ => trivial), h2, hI.below⟩
      clear HR HL H0
      go_wp2
      exact bodyPost_ret (v := .tuple #[.slice a k c, .int .i64 0]) (by simp [results, Try.results7, go_sem]) rfl ⟨a, k, c, rfl, HN.out, H9.out.1, H9.out.2.1, H9.out.2.2⟩

theorem Play_many (n : Nat) (hn : 400 < n) (da : Option Addr) (dc : Nat) (w : World) :
    Calls Try.prog 7 #[.slice da n dc] w fun e w' => e = .returned (.tuple #[.slice none 0 0, .int .i64 1]) ∧ w' = w := by
  have hn4 : (400 : Int) < (n : Int) := by omega
  clear hn
  go_enter Try.func7, Try.ntmps7
  go_wp2
  exact bodyPost_ret (v := .tuple #[.slice none 0 0, .int .i64 1]) (by simp [results, Try.results7, go_sem]) rfl ⟨rfl, rfl⟩

end Go.Proofs.Ytfaejcdbjcklpaa
