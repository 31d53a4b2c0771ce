/- All turns of a ballot. -/
import Derived.Test.YtppcikfhhmiipaaBlTurn
import Derived.Laws.MakeOwn
namespace Go.Proofs.Ytppcikfhhmiipaa
open Go.ChangeShapes Go.WideShapes Go.ChangeAt Go.RowKit Go.Maps

def InI (k : Int) : Prop := -9223372036854775808 ≤ k ∧ k ≤ 9223372036854775807

def kTn : Kd Tn 4 where
  rel _ _ t cs := cs = [.int .i64 t.kind, .int .i64 t.who, .int .i64 t.round, .int .i64 t.value] ∧ InI t.round
  move _ _ _ _ h := h
  len := by
    rintro _ _ _ _ ⟨rfl, _⟩
    rfl
  one := by
    rintro _ _ t _ ⟨rfl, _⟩ x hx
    simp only [List.mem_cons, List.not_mem_nil, or_false] at hx
    rcases hx with rfl | rfl | rfl | rfl <;> rfl

def ocC (o : Oc) : List Value := [.int .i64 o.code, .int .i64 o.dec, .int .i64 o.len]

def kOc : Kd Oc 3 where
  rel _ _ o cs := cs = ocC o
  move _ _ _ _ h := h
  len := by
    rintro _ _ _ _ rfl
    rfl
  one := by
    rintro _ _ o _ rfl x hx
    simp only [ocC, List.mem_cons, List.not_mem_nil, or_false] at hx
    rcases hx with rfl | rfl | rfl <;> rfl

theorem eltOc : Elt 23 28 3 24 := ⟨Try.underlying23, by
  obtain ⟨i0, hi, hz0, hz1, hz2⟩ := info_parts (show (Try.prog.info? 28).map (fun i => (i.zero, i.size, i.bytes)) = some (some (.agg #[.int .i64 0, .int .i64 0, .int .i64 0]), 3, 24) by kernel_rfl)
  exact ⟨i0, _, hi, hz0, hz1, hz2, rfl⟩, by decide⟩

/-- voters of whom none chose -/
theorem make_voters (n : Nat) (hn : n ≤ 5) (w : World) : ∃ zc : Array Value, (Instr.makeSlice 40 (.int .i64 (n : Int)) (.int .i64 (n : Int))).run Try.prog w = .ok (.slice (some ⟨w.heap.size, 0, none⟩) n n) (w.alloc (.cells zc 82)) ∧ ∀ i, i < n * 3 → zc[i]? = some (.int .i64 0) := by
  obtain ⟨i0, hi, hz0, hz1, hz2⟩ := info_parts (show (Try.prog.info? 82).map (fun i => (i.zero, i.size, i.bytes)) = some (some (.agg #[.int .i64 0, .int .i64 0, .int .i64 0]), 3, 24) by kernel_rfl)
  have h := run_make w 40 82 i0 _ Try.underlying40 hi hz0 .i64 .i64 (n : Int) (n : Int) (by omega) (Int.le_refl _) (by rw [hz2]; omega) (by omega)
  rw [hz1] at h
  simp only [Int.toNat_natCast] at h
  refine ⟨_, h, fun i hl => ?_⟩
  have h3 : i % 3 = 0 ∨ i % 3 = 1 ∨ i % 3 = 2 := by omega
  simp only [madeCells, Value.cells]
  rw [Array.getElem?_map, Array.getElem?_range]
  simp only [hl, if_true, Option.map_some, Option.some.injEq]
  rcases h3 with e | e | e <;> simp [e]

/-- between two turns -/
structure RunI (B V M : Nat) (w : World) (b : Bl) (os : List Oc) (fo : Value) (W : World) : Prop where
  bl : ∃ tg ad f, BlI B V M tg ad f b W ∧ (∀ g, fo.ownBlock = some g → tg g = 0) ∧ ∀ x, x < w.heap.size → tg x = 0
  os : Rows kOc (fun _ => True) W w.heap.size 28 fo os
  below : Below w.heap.size w W

theorem RunI.later {B V M : Nat} {w W W' : World} {b : Bl} {os : List Oc} {fo : Value} (h : RunI B V M w b os fo W) (hb : Below W.heap.size W W') : RunI B V M w b os fo W' := by
  obtain ⟨tg, ad, f, h1, h2, h3⟩ := h.bl
  exact ⟨⟨tg, ad, f, h1.later hb, h2, h3⟩, h.os.later hb, h.below.trans (hb.mono h.below.size)⟩

/-- a turn is played -/
theorem RunI.step {B V M : Nat} {w W W' : World} {b b' : Bl} {os : List Oc} {fo : Value} (h : RunI B V M w b os fo W) {tg : Nat → Int} (h2 : ∀ g, fo.ownBlock = some g → tg g = 0) (h3 : ∀ x, x < w.heap.size → tg x = 0) (hp : BlPost B V M tg W b' W') : RunI B V M w b' os fo W' := by
  obtain ⟨tg2, ad2, f2, h4, h5⟩ := hp
  have hlt := rows_lt h.os
  have hs := h.below.size
  refine ⟨⟨tg2, ad2, f2, h4, fun g hg => (h5.tag g (hlt g hg).2).trans (h2 g hg), fun x hx => (h5.tag x (by omega)).trans (h3 x hx)⟩, ?_, ⟨h5.os.trans h.below.os, h5.tape.trans h.below.tape, h5.output.trans h.below.output, Nat.le_trans hs h5.size, fun x hx => (h5.block x (by omega) (h3 x hx)).trans (h.below.block x hx)⟩⟩
  obtain ⟨css, q1, q2⟩ := h.os
  exact ⟨css, own_kept q1 (fun g hg => h5.block g (hlt g hg).2 (h2 g hg)), All2.imp (fun _ _ q => q) q2⟩

theorem below_row {n : Nat} {w X Y : World} {row : Option Nat} (h : Below n w X) (hn : n ≤ X.heap.size) (hg : X.grownBy Y row) (hr : ∀ r, row = some r → n ≤ r) : Below n w Y :=
  ⟨hg.os.trans h.os, hg.tape.trans h.tape, hg.output.trans h.output, Nat.le_trans h.size hg.size, fun b hb => (hg.block b (by omega) (fun e => by have := hr b e.symm; omega)).trans (h.block b hb)⟩

/-- and what it came to is written down -/
theorem RunI.told {B V M : Nat} {w W W' : World} {b : Bl} {os os' : List Oc} {fo fo' : Value} (h : RunI B V M w b os fo W) (q1 : Rows kOc (fun _ => True) W' w.heap.size 28 fo' os') (q2 : W.grownBy W' fo.ownBlock) (q3 : fo'.ownBlock = fo.ownBlock ∨ ∃ j, W.heap.size ≤ j ∧ fo'.ownBlock = some j) : RunI B V M w b os' fo' W' := by
  obtain ⟨tg, ad, f, h1, h2, h3⟩ := h.bl
  have hlt := rows_lt h.os
  refine ⟨⟨tg, ad, f, h1.move q2.size (fun x hx hne => q2.block x hx (fun e => hne (h2 x e.symm))), fun g hg => ?_, h3⟩, q1, below_row h.below h.below.size q2 (fun r hr => (hlt r hr).1)⟩
  rcases q3 with q | ⟨j, hj, q⟩
  · exact h2 g (by rw [← q]; exact hg)
  · rw [q] at hg
    rw [← Option.some.inj hg]
    exact h1.out j hj

/-- ahead of the first turn -/
theorem runI_new (n : Nat) (w : World) (zc : Array Value) (hz : ∀ i, i < n * 3 → zc[i]? = some (.int .i64 0)) (t1 t2 : TypeId) :
    RunI (w.heap.size + 2) w.heap.size (w.heap.size + 1) w (bl0 n) [] (.slice none 0 0) (((w.alloc (.cells zc t1)).alloc (.map #[] 0)).alloc (.cells #[.slice (some ⟨w.heap.size, 0, none⟩) n n, .map (some (w.heap.size + 1)), .slice none 0 0] t2)) := by
  have b1 := (Below.refl w.heap.size w).alloc (Nat.le_refl _) (.cells zc t1)
  have s1 : (w.alloc (.cells zc t1)).heap.size = w.heap.size + 1 := alloc_size _ _
  have hv : ∀ i, i < n * 3 → (w.alloc (.cells zc t1)).cell? ⟨w.heap.size, i, none⟩ = some (.int .i64 0) ∧ (w.alloc (.cells zc t1)).frozen? ⟨w.heap.size, i, none⟩ = false := fun i hi => by
    have := hz i hi
    have hl := (Array.getElem?_eq_some_iff.1 this).1
    exact ⟨by simpa using this, by simp⟩
  generalize w.alloc (.cells zc t1) = W1 at *
  have m1 := World.ownsMap_made W1 Try.prog 3 rH
  have s2 : (W1.alloc (.map #[] 0)).heap.size = w.heap.size + 2 := by rw [alloc_size, s1]
  have b2 := (Below.refl W1.heap.size W1).alloc (Nat.le_refl _) (.map #[] 0)
  rw [s1] at m1 b2
  generalize W1.alloc (.map #[] 0) = W2 at *
  have b3 := (Below.refl W2.heap.size W2).alloc (Nat.le_refl _) (.cells #[.slice (some ⟨w.heap.size, 0, none⟩) n n, .map (some (w.heap.size + 1)), .slice none 0 0] t2)
  have s3 : (W2.alloc (.cells #[.slice (some ⟨w.heap.size, 0, none⟩) n n, .map (some (w.heap.size + 1)), .slice none 0 0] t2)).heap.size = w.heap.size + 3 := by rw [alloc_size, s2]
  have hc := Cs.new W2 [.slice (some ⟨w.heap.size, 0, none⟩) n n, .map (some (w.heap.size + 1)), .slice none 0 0] #[.slice (some ⟨w.heap.size, 0, none⟩) n n, .map (some (w.heap.size + 1)), .slice none 0 0] rfl t2
  rw [s2] at hc b3
  generalize W2.alloc (.cells #[.slice (some ⟨w.heap.size, 0, none⟩) n n, .map (some (w.heap.size + 1)), .slice none 0 0] t2) = W3 at *
  refine ⟨⟨fun x => if x = w.heap.size + 2 then -1 else if x = w.heap.size then -2 else if x = w.heap.size + 1 then -3 else 0, fun _ => 0, .slice none 0 0, ⟨?_, fun i v hi => ?_, ⟨.map [], ?_, fun r => ?_⟩, fun r x hr => ?_, Rows.nil _ _ _ _ _, ?_, ?_, ?_, fun g e => (by cases e), fun r x hr => ?_, fun x hx => ?_⟩, fun g e => (by cases e), fun x hx => ?_⟩, Rows.nil _ _ _ _ _, ?_⟩
  · simpa [bl0] using hc
  · have hi2 := (List.getElem?_eq_some_iff.1 hi).1
    simp only [bl0, List.length_replicate] at hi2
    have hv2 : v = ⟨0, 0, 0⟩ := by
      simp only [bl0, List.getElem?_replicate, hi2, if_true, Option.some.injEq] at hi
      exact hi.symm
    subst hv2
    refine Cs.move (W := W1) (fun j u hj => ?_) ((b3.block _ (by omega)).trans (b2.block _ (by omega)))
    have hj3 : j < 3 := by
      have := (List.getElem?_eq_some_iff.1 hj).1
      simpa [vrC] using this
    have hu : u = .int .i64 0 := by
      have : j = 0 ∨ j = 1 ∨ j = 2 := by omega
      rcases this with rfl | rfl | rfl <;> simpa [vrC] using hj.symm
    subst hu
    exact hv _ (by omega)
  · obtain ⟨es, clock, q1, q2⟩ := m1
    exact ⟨es, clock, (b3.block _ (by omega)).trans q1, q2⟩
  · rfl
  · simp [bl0] at hr
  · simp
  · simp
  · simp
  · simp [bl0] at hr
  · show (if x = w.heap.size + 2 then (-1 : Int) else if x = w.heap.size then -2 else if x = w.heap.size + 1 then -3 else 0) = 0
    rw [if_neg (by omega), if_neg (by omega), if_neg (by omega)]
  · show (if x = w.heap.size + 2 then (-1 : Int) else if x = w.heap.size then -2 else if x = w.heap.size + 1 then -3 else 0) = 0
    rw [if_neg (by omega), if_neg (by omega), if_neg (by omega)]
  · exact b1.trans ((b2.mono (by omega)).trans (b3.mono (by omega)))

theorem asks_le (b : Bl) (t : Tn) : (b.play t).2.n ≤ b.n + 1 := by
  have hs : ∀ (c : Bl) (l : Lt) k, (c.sendTo l k).n = c.n := fun c l k => by
    induction k with
    | zero => rfl
    | succ k ih =>
      simp only [Bl.sendTo, Bl.send]
      split <;> exact ih
  have hs1 : ∀ (c : Bl) (l : Lt), (c.send l).n = c.n := fun c l => by
    unfold Bl.send
    split <;> rfl
  unfold Bl.play
  split
  · unfold Bl.ask
    split
    · simp
    · split
      · simp
      · simp [Bl.sendAll, hs]
  · split
    · unfold Bl.hand
      split
      · simp
      · split
        · simp
        · unfold Bl.hand1
          split
          · unfold Bl.handAsked
            split
            · simp
            · split
              · simp
              · simp [hs1, Bl.setV]
          · split
            · unfold Bl.handPromised
              split
              · simp
              · split
                · simp
                · split
                  · simp [Bl.sendAll, hs, Bl.setR]
                  · simp [Bl.setR]
            · split
              · unfold Bl.handChoose
                split
                · simp
                · split
                  · simp
                  · simp [hs1, Bl.setV]
              · split
                · unfold Bl.handChosen
                  split
                  · simp
                  · simp [Bl.setR]
                · simp
    · split
      · unfold Bl.lose
        split
        · simp
        · split <;> simp
      · split
        · unfold Bl.halt
          split <;> simp [Bl.setR]
        · simp

theorem asks_many (l : List Tn) : ∀ b : Bl, (playB b l).2.n ≤ b.n + l.length := by
  induction l with
  | nil => intro b; exact Nat.le_refl _
  | cons t ts ih =>
    intro b
    have h1 := ih (b.play t).2
    have h2 := asks_le b t
    simp only [playB, List.length_cons]
    omega

/-- what all turns come to -/
def PlayedPost (w : World) (n : Nat) (ts : List Tn) (e : Ending) (w' : World) : Prop :=
  ∃ (a : Option Addr) (c : Nat), e = .returned (.tuple #[.slice a ts.length c, .int .i64 0]) ∧ Lies kOc (fun _ => True) w' a c (playB (bl0 n) ts).1 ∧ Below w.heap.size w w'

set_option maxRecDepth 20000 in
set_option maxHeartbeats 8000000 in
theorem Play_any (ok : Nat → Prop) (n : Nat) (hn : 1 ≤ n ∧ n ≤ 5) (ts : List Tn) (hts : ts.length ≤ 400) (da : Option Addr) (dc : Nat) (w : World) (hL : Lies kTn ok w da dc ts) :
    Calls Try.prog 7 #[.int .i64 (n : Int), .slice da ts.length dc] w fun e w' => PlayedPost w n ts e w' := by
  obtain ⟨m, hm⟩ : ∃ m, m = ts.length := ⟨_, rfl⟩
  rw [← hm]
  have hm4 : (m : Int) ≤ 400 := by omega
  have hn1 : (1 : Int) ≤ (n : Int) := by omega
  have hn5 : (n : Int) ≤ 5 := by omega
  have HL := put_by hL
  have HM := put_by hm
  have HN := put_by hn
  clear hL hm
  obtain ⟨zc, hmk, hz⟩ := make_voters n hn.2 w
  have hmm := @run_makeMap Try.prog
  have H0 := put_by (runI_new n w zc hz 82 44)
  clear hz hn
  go_enter Try.func7, Try.ntmps7
  go_upto_region 6 with (fail)
  clear hmk
  generalize ((w.alloc (.cells zc 82)).alloc (.map #[] 0)).alloc (.cells #[.slice (some ⟨w.heap.size, 0, none⟩) n n, .map (some (w.heap.size + 1)), .slice none 0 0] 44) = W0 at *
  go_wp2
  go_loopw [7, 27] (fun s i wr => ∃ (k : Nat) (a : Option Addr) (c : Nat), k ≤ m ∧ i = .int .i64 k ∧ s = .slice a k c ∧ Hid (RunI (w.heap.size + 2) w.heap.size (w.heap.size + 1) w (playB (bl0 n) (ts.take k)).2 (playB (bl0 n) (ts.take k)).1 (.slice a k c) wr)) (fun _ i _ => m - (intOf i).toNat)
  case atStart => exact ⟨0, none, 0, Nat.zero_le _, rfl, rfl, H0.out⟩
  case round =>
    obtain ⟨k, a, c, hk, rfl, rfl, HR⟩ := hrel
    by_cases hlt : k < m
    · have hx : k < ts.length := by rw [← HM.out]; exact hlt
      obtain ⟨b4, off, rfl, hb4, _, cs, ⟨rfl, hin⟩, hc⟩ := HL.out.at hx
      have hI := HR.out
      have hcell : ∀ j x, [Value.int .i64 (ts[k]).kind, .int .i64 (ts[k]).who, .int .i64 (ts[k]).round, .int .i64 (ts[k]).value][j]? = some x → wr.cell? ⟨b4, off + k * 4 + j, none⟩ = some x := fun j x hj => (hI.below.cell (p := ⟨b4, off + k * 4 + j, none⟩) hb4).trans (hc j x hj)
      have d0 := hcell 0 _ rfl
      have d1 := hcell 1 _ rfl
      have d2 := hcell 2 _ rfl
      have d3 := hcell 3 _ rfl
      simp only [Nat.add_zero] at d0
      have hsn : ts.take (k + 1) = ts.take k ++ [ts[k]] := List.take_succ_eq_append_getElem hx
      have htl : (ts.take k).length = k := by rw [List.length_take]; omega
      have hfk : (playB (bl0 n) (ts.take k)).1.length = k := by rw [playB_length, htl]
      have hOk : (playB (bl0 n) (ts.take k)).2.Ok n := (Bl.Ok.start HN.out).playB _
      have hnn : (playB (bl0 n) (ts.take k)).2.n < 1000000 := by
        have := asks_many (ts.take k) (bl0 n)
        rw [htl] at this
        have h0 : (bl0 n).n = 0 := rfl
        omega
      have hs2 : (playB (bl0 n) (ts.take (k + 1))).2 = ((playB (bl0 n) (ts.take k)).2.play ts[k]).2 := by rw [hsn, playB_snoc]
      have hs1 : (playB (bl0 n) (ts.take (k + 1))).1 = (playB (bl0 n) (ts.take k)).1 ++ [(playB (bl0 n) (ts.take k)).2.oc ts[k]] := by rw [hsn, playB_snoc]
      have hoc : (playB (bl0 n) (ts.take k)).2.oc ts[k] = ⟨((playB (bl0 n) (ts.take k)).2.play ts[k]).1.2, ((playB (bl0 n) (ts.take k)).2.play ts[k]).1.1, (playB (bl0 n) (ts.take (k + 1))).2.ls.length⟩ := by rw [hs2]; rfl
      rw [hoc] at hs1
      have cP : Hid (Calls Try.prog 12 #[.pointer (some ⟨w.heap.size + 2, 0, none⟩), .agg #[.int .i64 (ts[k]).kind, .int .i64 (ts[k]).who, .int .i64 (ts[k]).round, .int .i64 (ts[k]).value]] (wr.alloc (.cells #[.int .i64 (ts[k]).kind, .int .i64 (ts[k]).who, .int .i64 (ts[k]).round, .int .i64 (ts[k]).value] 34)) fun e w2 => e = .returned (.tuple #[.int .i64 ((playB (bl0 n) (ts.take k)).2.play ts[k]).1.1, .int .i64 ((playB (bl0 n) (ts.take k)).2.play ts[k]).1.2]) ∧ Hid (RunI (w.heap.size + 2) w.heap.size (w.heap.size + 1) w (playB (bl0 n) (ts.take (k + 1))).2 (playB (bl0 n) (ts.take k)).1 (.slice a k c) w2)) := put_by (by
        have hI1 := hI.later ((Below.refl _ wr).alloc (Nat.le_refl _) (.cells #[.int .i64 (ts[k]).kind, .int .i64 (ts[k]).who, .int .i64 (ts[k]).round, .int .i64 (ts[k]).value] 34))
        obtain ⟨tg, ad, f, h1, h2, h3⟩ := hI1.bl
        refine (play_any _ _ _ tg ad f _ n hOk hnn ts[k] hin _ h1).mono ?_
        rintro e w2 ⟨rfl, h4⟩
        rw [hs2]
        exact ⟨rfl, put_by (hI1.step h2 h3 h4)⟩)
      have hls : (playB (bl0 n) (ts.take (k + 1))).2.ls.length ≤ 200 := ((Bl.Ok.start HN.out).playB _).mail
      have HFK := put_by hfk
      have HS1 := put_by hs1
      clear hcell hc hin hI hsn htl hfk hOk hnn hs2 hs1 hoc
      generalize (ts[k]).kind = i1 at d0 cP
      generalize (ts[k]).who = i2 at d1 cP
      generalize (ts[k]).round = i3 at d2 cP
      generalize (ts[k]).value = i4 at d3 cP
      generalize ((playB (bl0 n) (ts.take k)).2.play ts[k]).1.1 = dec at cP HS1
      generalize ((playB (bl0 n) (ts.take k)).2.play ts[k]).1.2 = code at cP HS1
      obtain ⟨b2, hb2⟩ : ∃ b2, b2 = (playB (bl0 n) (ts.take (k + 1))).2 := ⟨_, rfl⟩
      obtain ⟨os2, hos2⟩ : ∃ os2, os2 = (playB (bl0 n) (ts.take (k + 1))).1 := ⟨_, rfl⟩
      rw [← hb2] at cP HS1 hls
      rw [← hos2] at HS1
      have HE := put_by (And.intro hb2 hos2)
      clear hb2 hos2
      generalize (playB (bl0 n) (ts.take k)).1 = os at *
      generalize (playB (bl0 n) (ts.take k)).2 = b1 at *
      have ik : (k : Int) < (m : Int) := by omega
      go_upto_region 11 with (go_at_call 12; refine cP.out.mono ?_; clear cP; rintro e w2 ⟨rfl, H2⟩)
      obtain ⟨tg, ad, f, h1, -, -⟩ := id H2.out.bl
      obtain ⟨fa, fc, rfl⟩ := h1.form
      obtain ⟨c2, -⟩ := h1.top 2 _ rfl
      simp only [Nat.zero_add] at c2
      clear h1
      generalize hll : b2.ls.length = ll at *
      go_wp2_with (at_builtin; refine wpList_append_one eltOc rfl (.tmp 36) (.tmp 43) rfl w.heap.size (.slice a k c) os rfl H2.out.os ⟨code, dec, (ll : Int)⟩ [.int .i64 code, .int .i64 dec, .int .i64 (ll : Int)] _ _ rfl rfl rfl (fun _ _ => trivial) (by rw [HFK.out]; omega) (by decide) H2.out.below.size ?_)
      intro f' w3 hR3 hg3 hat3
      obtain ⟨a6, c6, e6⟩ := rows_form hR3
      have hl6 : (os ++ [(⟨code, dec, (ll : Int)⟩ : Oc)]).length = k + 1 := by simp [HFK.out]
      rw [hl6] at e6
      subst e6
      have HI3 : Hid (RunI (w.heap.size + 2) w.heap.size (w.heap.size + 1) w b2 os2 (.slice a6 (k + 1) c6) w3) := put_by (by
        rw [HS1.out]
        exact H2.out.told hR3 hg3 (hat3.imp id (fun e => ⟨_, by omega, e⟩)))
      clear c2 H2 hR3 hg3 hat3 hl6 HR HL d0 d1 d2 d3 hll
      go_wp2
      go_roundw
      case rel => exact ⟨k + 1, a6, c6, by omega, by go_num, rfl, put_by (by rw [← HE.out.1, ← HE.out.2]; exact HI3.out)⟩
      case measure => simp [intOf]; omega
    · have hkm : k = m := by omega
      subst hkm
      have H9 : Hid (Lies kOc (fun _ => True) wr a c (playB (bl0 n) ts).1 ∧ Below w.heap.size w wr) := by
        have hI := HR.out
        rw [List.take_of_length_le (by rw [← HM.out]; exact Nat.le_refl _)] at hI
        obtain ⟨ao, cap, e, h1, -, -, -⟩ := hI.os.lies (fun _ _ => trivial)
        simp only [Value.slice.injEq] at e
        obtain ⟨rfl, -, rfl⟩ := e
        exact put_by ⟨h1, hI.below⟩
      clear HR HL H0
      go_wp2
      exact bodyPost_ret (v := .tuple #[.slice a k c, .int .i64 0]) (by simp [results, Try.results7, go_sem]) rfl ⟨a, c, by rw [← HM.out], H9.out.1, H9.out.2⟩

theorem Play_voters (v : Int) (hv : v < 1 ∨ 5 < v) (da : Option Addr) (n dc : Nat) (w : World) :
    Calls Try.prog 7 #[.int .i64 v, .slice da n dc] w fun e w' => e = .returned (.tuple #[.slice none 0 0, .int .i64 2]) ∧ w' = w := by
  by_cases h1 : v < 1
  · clear hv
    go_enter Try.func7, Try.ntmps7
    go_wp2
    exact bodyPost_ret (v := .tuple #[.slice none 0 0, .int .i64 2]) (by simp [results, Try.results7, go_sem]) rfl ⟨rfl, rfl⟩
  · have h2 : 1 ≤ v := by omega
    have h3 : 5 < v := by omega
    clear hv
    go_enter Try.func7, Try.ntmps7
    go_wp2
    exact bodyPost_ret (v := .tuple #[.slice none 0 0, .int .i64 2]) (by simp [results, Try.results7, go_sem]) rfl ⟨rfl, rfl⟩

theorem Play_many (v : Int) (hv : 1 ≤ v ∧ v ≤ 5) (n : Nat) (hn : 400 < n) (da : Option Addr) (dc : Nat) (w : World) :
    Calls Try.prog 7 #[.int .i64 v, .slice da n dc] w fun e w' => e = .returned (.tuple #[.slice none 0 0, .int .i64 1]) ∧ w' = w := by
  have hn4 : (400 : Int) < (n : Int) := by omega
  obtain ⟨v1, v2⟩ := hv
  clear hn
  go_enter Try.func7, Try.ntmps7
  go_wp2
  exact bodyPost_ret (v := .tuple #[.slice none 0 0, .int .i64 1]) (by simp [results, Try.results7, go_sem]) rfl ⟨rfl, rfl⟩

end Go.Proofs.Ytppcikfhhmiipaa
