/- The methods of a unit: tail, put. -/
import Derived.Test.YtfaejcdbjcklpaaUnRead
import Derived.Laws.EntriesVeiled
namespace Go.Proofs.Ytfaejcdbjcklpaa
open Go.ChangeShapes Go.WideShapes Go.ChangeAt Go.RowKit

theorem neqNil (W : World) : (binOp .neq 43 .nilIface .nilIface).run Try.prog W = .ok (.bool false) W := by kernel_rfl
theorem neqHeld (W : World) (u : TypeId) (v : Value) : (binOp .neq 43 (.iface u v) .nilIface).run Try.prog W = .ok (.bool true) W := by kernel_rfl
theorem eqlNil (W : World) : (binOp .eql 43 .nilIface .nilIface).run Try.prog W = .ok (.bool true) W := by kernel_rfl
theorem eqlHeld (W : World) (u : TypeId) (v : Value) : (binOp .eql 43 (.iface u v) .nilIface).run Try.prog W = .ok (.bool false) W := by kernel_rfl

theorem mData (W : World) (x : Value) : (method 180 60 x "commonhold/unit.refusal").run Try.prog W = .ok (39, x) W := by kernel_rfl
theorem mJunk (W : World) (x : Value) : (method 180 57 x "commonhold/unit.refusal").run Try.prog W = .ok (37, x) W := by kernel_rfl
theorem mTrim (W : World) (x : Value) : (method 180 58 x "commonhold/unit.refusal").run Try.prog W = .ok (38, x) W := by kernel_rfl

/-- a slot is nil just if it is unwritten -/
theorem IsSl.nil {ok : Nat → Prop} {W : World} {v : Value} {s : Sl} (h : IsSl ok W v s) : (s.kind = 0 ∧ v = .nilIface) ∨ (s.kind ≠ 0 ∧ ∃ t x, v = .iface t x) := by
  rcases h with h | ⟨h1, _, x, h3, _⟩ | ⟨h1, h2⟩ | ⟨h1, h2⟩
  · exact .inl h
  · exact .inr ⟨by omega, _, x, h3⟩
  · exact .inr ⟨by omega, _, _, h2⟩
  · exact .inr ⟨by omega, _, _, h2⟩

theorem addr_in (B off : Nat) (i : Nat) : (⟨B, off, none⟩ : Addr).add i = ⟨B, off + i, none⟩ := addr_add B off i

set_option maxHeartbeats 1000000 in
theorem tail_any (B : Nat) (ok : Nat → Prop) (u : Un) (w : World) (hu : UnI B ok u w) :
    Calls Try.prog 19 #[.pointer (some ⟨B, 0, none⟩)] w fun e w' => e = .returned (.int .i64 (tailTo u.sl 64)) ∧ w' = w := by
  have n0 := neqNil
  have n1 := neqHeld
  have HU := put_by hu
  clear hu
  go_enter Try.func19, Try.ntmps19
  go_wp2
  go_loop [3] (fun a => ∃ k : Nat, k ≤ 64 ∧ a = .int .i64 k ∧ Hid (tailTo u.sl 64 = tailTo u.sl k)) (fun a => (intOf a).toNat)
  case atStart => exact ⟨64, Nat.le_refl _, rfl, rfl⟩
  case round =>
    obtain ⟨k, hk, rfl, HR⟩ := hrel
    cases k with
    | zero =>
      go_wp2
      go_ret
      exact ⟨by rw [HR.out]; rfl, rfl⟩
    | succ k =>
      have hpos : 0 < ((k + 1 : Nat) : Int) := by omega
      have hk1 : ((k + 1 : Nat) : Int) - 1 = k := by omega
      have hlt : (k : Int) < 64 := by omega
      obtain ⟨v, hc, hs⟩ := HU.out.slot k (by omega)
      rcases hs.nil with ⟨hz, rfl⟩ | ⟨hz, t, x, rfl⟩
      · go_wp2
        exact ⟨⟨k, by omega, rfl, put_by (show tailTo u.sl 64 = tailTo u.sl k by rw [HR.out]; simp [tailTo, hz])⟩, by simp [intOf]⟩
      · go_wp2
        go_ret
        refine ⟨?_, rfl⟩
        rw [HR.out]
        simp [tailTo, hz]

/-- what a contract of a method of a unit says of the cells of its answer -/
theorem IsRp.parts {w : World} {r : Rp} {e : Ending} {w' : World} (h : IsRp w r e w') : ∃ a n c, e = .returned (.agg #[.int .i64 r.code, .bool r.junk, .slice a n c, .int .i64 r.tail]) ∧ n = r.data.length ∧ Octs w' a c r.data ∧ (r.data ≠ [] → ∀ ad, a = some ad → w.heap.size ≤ ad.block) := by
  obtain ⟨a, n, c, e1, u, e2, a', c', e3, h1, h2⟩ := h
  simp only [List.cons.injEq, and_true, true_and] at e2
  rw [← e2] at e3
  simp only [Value.slice.injEq] at e3
  obtain ⟨rfl, rfl, rfl⟩ := e3
  exact ⟨a, _, c, e1, rfl, h1, h2⟩

set_option maxHeartbeats 1000000 in
theorem put_free (B : Nat) (ok : Nat → Prop) (u : Un) (w : World) (hu : UnI B ok u w) (a : Nat) (ha : a < 64) (t : TypeId) (x : Value) (s : Sl) (hv : IsSl ok w (.iface t x) s) (hz : (u.sl a).kind = 0) :
    Calls Try.prog 18 #[.pointer (some ⟨B, 0, none⟩), .int .i64 a, .iface t x] w fun e w' => StPost B ok w (rp 0, u.put a s) e w' := by
  have n0 := eqlNil
  have hlt : (a : Int) < 64 := by omega
  obtain ⟨v0, hc, hs⟩ := hu.slot a ha
  have hfz := hu.free a (by omega)
  have hBl := hu.lt
  obtain rfl : v0 = .nilIface := by
    rcases hs.nil with ⟨_, rfl⟩ | ⟨h, _⟩
    · rfl
    · exact absurd hz h
  have HU := put_by hu
  have HV := put_by hv
  clear hu hs hz hv
  go_enter Try.func18, Try.ntmps18
  go_wp2
  refine bodyPost_ret (v := .agg #[.int .i64 0, .bool false, .slice none 0 0, .int .i64 0]) (by simp [results, Try.results18, go_sem]) rfl ⟨isRp_bare _ _ _, ?_, ?_⟩
  · exact (HU.out.put a ha s _ HV.out).later ((Below.refl _ _).alloc (Nat.le_refl _) _)
  · exact grown_trans (grown_set2 _) (grown_below ((Below.refl _ _).alloc (Nat.le_refl _) _))

theorem readSl_tail (s : Sl) : (readSl s).tail = 0 := by
  unfold readSl
  split
  · rfl
  · split
    · rfl
    · split <;> rfl

/-- why nothing is put there: any of the three -/
theorem refusal_any (ok : Nat → Prop) (t : TypeId) (x : Value) (s : Sl) (w : World) (hs : IsSl ok w (.iface t x) s) :
    ∃ f y, (f = 39 ∨ f = 37 ∨ f = 38) ∧ (∀ W, (method 180 t x "commonhold/unit.refusal").run Try.prog W = .ok (f, y) W) ∧ ∀ W, Calls Try.prog f #[y] W fun e w' => e = .returned (.int .i64 (hasSl s).code) ∧ Below W.heap.size W w' := by
  rcases hs with ⟨_, h⟩ | ⟨hk, _, _, h, _⟩ | ⟨hk, h⟩ | ⟨hk, h⟩
  · cases h
  · cases h
    refine ⟨_, _, .inl rfl, fun W => mData W _, fun W => ?_⟩
    have e : (hasSl s).code = 15 := by simp [hasSl, hk]
    rw [e]
    exact (refData _ W).mono fun e w' ⟨h1, h2⟩ => ⟨h1, by rw [h2]; exact Below.refl _ _⟩
  · cases h
    refine ⟨_, _, .inr (.inl rfl), fun W => mJunk W _, fun W => ?_⟩
    have e : (hasSl s).code = 15 := by simp [hasSl, hk]
    rw [e]
    exact refJunk W
  · cases h
    refine ⟨_, _, .inr (.inr rfl), fun W => mTrim W _, fun W => ?_⟩
    have e : (hasSl s).code = 16 := by simp [hasSl, hk]
    rw [e]
    exact refTrim W

set_option maxHeartbeats 1000000 in
theorem put_full (B : Nat) (ok : Nat → Prop) (u : Un) (w : World) (hu : UnI B ok u w) (a : Nat) (ha : a < 64) (v : Value) (hz : (u.sl a).kind ≠ 0) :
    Calls Try.prog 18 #[.pointer (some ⟨B, 0, none⟩), .int .i64 a, v] w fun e w' => StPost B ok w (hasSl (u.sl a), u) e w' := by
  have n0 := eqlHeld
  have hlt : (a : Int) < 64 := by omega
  obtain ⟨v0, hc, hs⟩ := hu.slot a ha
  have hBl := hu.lt
  have HS := put_by hs
  obtain ⟨t, x, rfl⟩ : ∃ t x, v0 = .iface t x := by
    rcases hs.nil with ⟨h, _⟩ | ⟨_, h⟩
    · exact absurd h hz
    · exact h
  have hR : ∀ W, Below w.heap.size w W → Calls Try.prog 17 #[.iface t x] W fun e w' => IsRp W (readSl (u.sl a)) e w' ∧ Below W.heap.size W w' := fun W hW => read_any ok _ _ W (hs.move (Kept.of_below hW) (fun _ _ q => q))
  obtain ⟨f, y, hfe, hm, hf⟩ := refusal_any ok t x _ w hs
  have HR := put_by hR
  have HU := put_by hu
  have HF := put_by hf
  have hE : hasSl (u.sl a) = ⟨(hasSl (u.sl a)).code, (readSl (u.sl a)).junk, (readSl (u.sl a)).data, (readSl (u.sl a)).tail⟩ := by rw [readSl_tail]; rfl
  have HE := put_by hE
  clear hu hs hR hf hE
  generalize hasSl (u.sl a) = hs at HF HE ⊢
  generalize readSl (u.sl a) = rs at HR HE
  rcases hfe with rfl | rfl | rfl
  all_goals
    go_enter Try.func18, Try.ntmps18
    go_wp2_with (go_at_call 17; refine (HR.out _ ((Below.refl _ w).alloc (Nat.le_refl _) _)).mono ?_; rintro e w' ⟨hr, hb⟩; obtain ⟨p, n, q, rfl, hn, ho, hnew⟩ := hr.parts)
    refine (HF.out _).mono ?_
    rintro e w2 ⟨rfl, hb2⟩
    have HB := put_by hb
    have HB2 := put_by hb2
    have hs1 := hb.size
    have hs2 := hb2.size
    simp at hs1 hs2
    have hq := ((Quad.new w (.int .i64 0) (.bool false) (.slice none 0 0) (.int .i64 0) 40).later hb).later (((Below.refl _ w').alloc (Nat.le_refl _) (.cells #[.int .i64 rs.code, .bool rs.junk, .slice p rs.data.length q, .int .i64 rs.tail] 40)).trans (hb2.mono (by simp)))
    have hr := (Quad.new w' (.int .i64 rs.code) (.bool rs.junk) (.slice p rs.data.length q) (.int .i64 rs.tail) 40).later hb2
    have HQ := put_by hq
    obtain ⟨c0, c1, c2, c3, f0, f1, f2, f3⟩ := hq
    obtain ⟨d0, d1, d2, d3, g0, g1, g2, g3⟩ := hr
    have hne : w'.heap.size ≠ w.heap.size := by omega
    clear hb hb2
    go_wp2
    have hz := (HQ.out.move (W' := w2.setCell ⟨w'.heap.size, 0, none⟩ (.int .i64 hs.code)) (heap_setCell_other _ _ _ _ (show w.heap.size ≠ w'.heap.size by omega))).set (.int .i64 hs.code) (.bool rs.junk) (.slice p rs.data.length q) (.int .i64 rs.tail)
    show bodyPost _ _ _ _ _ (set4 (w2.setCell ⟨w'.heap.size, 0, none⟩ (.int .i64 hs.code)) w.heap.size (.int .i64 hs.code) (.bool rs.junk) (.slice p rs.data.length q) (.int .i64 rs.tail))
    have hbW := ((Below.refl w.heap.size w).alloc (Nat.le_refl _) (.cells #[.int .i64 0, .bool false, .slice none 0 0, .int .i64 0] 40)).trans (HB.out.mono (by simp))
    have hbV := ((Below.refl w'.heap.size w').alloc (Nat.le_refl _) (.cells #[.int .i64 rs.code, .bool rs.junk, .slice p rs.data.length q, .int .i64 rs.tail] 40)).trans (HB2.out.mono (by simp))
    have hbF := below_set4 (B := w.heap.size) ((hbW.trans (hbV.mono (by omega))).setCell (p := ⟨w'.heap.size, 0, none⟩) (show w.heap.size ≤ w'.heap.size by omega) (.int .i64 hs.code)) (Nat.le_refl _) (.int .i64 hs.code) (.bool rs.junk) (.slice p rs.data.length q) (.int .i64 rs.tail)
    refine bodyPost_ret (v := .agg #[.int .i64 hs.code, .bool rs.junk, .slice p rs.data.length q, .int .i64 rs.tail]) (by simp [results, Try.results18, go_sem, hz.c0, hz.c1, hz.c2, hz.c3]) rfl ⟨?_, HU.out.later hbF, grown_below hbF⟩
    rw [HE.out]
    simp only
    refine isRp_set ?_ (fun hx ad e => by have := hnew hx ad e; simpa using this) _ _ _ _
    exact (ho.later hbV).move (ok := fun b => b < w'.heap.size) (fun hx ad e => ho.blocks hx ad e) (kept_set (ok := fun b => b < w'.heap.size) (B := w'.heap.size) (Nat.lt_irrefl _) _)

end Go.Proofs.Ytfaejcdbjcklpaa
