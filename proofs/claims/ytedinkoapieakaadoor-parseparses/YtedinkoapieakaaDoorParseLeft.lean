/- Package parse: parts with operators between them, from the left: the contract, for whatever reader of parts. -/
import Derived.Test.YtedinkoapieakaaDoorParseKeep
namespace Go.Proofs.YtedinkoapieakaaDoor
open Go.ChangeShapes Go.WideShapes Go.ChangeAt Go.RowKit

/-- how many tokens can still be read, as memory has it -/
def lenOf (c : RC) (w : World) : Nat := match w.cell? ⟨c.R, 2, none⟩ with
  | some (.bool false) => (match w.cell? ⟨c.R, 1, none⟩ with
    | some (.int _ k) => c.ts.length - k.toNat
    | _ => 0)
  | _ => 0

theorem On.lenOf {c : RC} {w0 w : World} {s : St} (h : On c w0 w s) : lenOf c w = s.len := by
  have h1 := h.rdr.len_le
  unfold Go.Proofs.YtedinkoapieakaaDoor.lenOf St.len
  rw [h.rdr.ref, h.rdr.at_]
  cases s.ref with
  | true => rfl
  | false =>
    simp only [Bool.false_eq_true, if_false, Int.toNat_natCast]
    omega

/-- a store into a variable of the call's own -/
theorem var8 {W : World} {B : Nat} {d0 : ED} (h : VarEx W B d0) (d : ED) : ∃ W8, ((((((((W.setCell ⟨B, 0, none⟩ (.int .i64 d.op)).setCell ⟨B, 1, none⟩ (.int .i64 d.vk)).setCell ⟨B, 2, none⟩ (.int .i64 d.vi)).setCell ⟨B, 3, none⟩ (.string d.vt)).setCell ⟨B, 4, none⟩ (.string d.tb)).setCell ⟨B, 5, none⟩ (.string d.nm)).setCell ⟨B, 6, none⟩ (.int .i64 0)).setCell ⟨B, 7, none⟩ (.slice d.ao d.n d.cap)) = W8 ∧ VarEx W8 B d ∧ Keeps B W W8 ∧ ∀ c w0 s, On c w0 W s → w0.heap.size ≤ B → On c w0 W8 s := by
  obtain ⟨k0, k1, k2, k3, k4, k5, k6, k7⟩ := h.cells
  have hr := stored8 ⟨⟨_, k0⟩, ⟨_, k1⟩, ⟨_, k2⟩, ⟨_, k3⟩, ⟨_, k4⟩, ⟨_, k5⟩, ⟨_, k6⟩, ⟨_, k7⟩⟩ d
  have hk : Keeps B W ((((((((W.setCell ⟨B, 0, none⟩ (.int .i64 d.op)).setCell ⟨B, 1, none⟩ (.int .i64 d.vk)).setCell ⟨B, 2, none⟩ (.int .i64 d.vi)).setCell ⟨B, 3, none⟩ (.string d.vt)).setCell ⟨B, 4, none⟩ (.string d.tb)).setCell ⟨B, 5, none⟩ (.string d.nm)).setCell ⟨B, 6, none⟩ (.int .i64 0)).setCell ⟨B, 7, none⟩ (.slice d.ao d.n d.cap)) := (((((((((Keeps.refl B W).setCell (.inl rfl) _).setCell (.inl rfl) _).setCell (.inl rfl) _).setCell (.inl rfl) _).setCell (.inl rfl) _).setCell (.inl rfl) _).setCell (.inl rfl) _).setCell (.inl rfl) _)
  refine ⟨_, rfl, ⟨Nat.lt_of_lt_of_le h.1 hk.size, fun j u hu => by rw [Nat.zero_add]; exact hr j u hu, fun i => ?_⟩, hk, fun c w0 s hO hB => ?_⟩
  · simp only [World.frozen?_setCell]
    exact h.2.2 i
  · exact ((((((((hO.setCell hB _).setCell hB _).setCell hB _).setCell hB _).setCell hB _).setCell hB _).setCell hB _).setCell hB _)

/-- the loop of 'leftward': the reader, the signs, the expression so far and its variable -/
structure LS (c : RC) (w : World) (so : Option Addr) (signs : List (List UInt8)) (T : Nat) (W : World) (a : Ex) (d : ED) (s : St) : Prop where
  on : On c (w.alloc zeroEx) W s
  wds : Wds W so signs
  ex : IsEx (fun b => w.heap.size + 1 ≤ b ∧ b ≠ T) W a d
  var : VarEx W T d
  lo : w.heap.size + 1 ≤ T
  apart : ∀ x, so = some x → x.block ≠ c.R ∧ x.block < w.heap.size
  hR : c.R < w.heap.size

theorem LS.go {c : RC} {w : World} {so : Option Addr} {signs : List (List UInt8)} {T : Nat} {W W' : World} {a : Ex} {d : ED} {s s' : St} (h : LS c w so signs T W a d s) (k : On c W W' s') : LS c w so signs T W' a d s' :=
  ⟨h.on.back k, h.wds.keep k.keeps (fun x hx => (h.apart x hx).1), h.ex.keep k.keeps (by intro e; have := e.1; have := h.hR; omega), h.var.move k.keeps (by have := h.lo; have := h.hR; omega), h.lo, h.apart, h.hR⟩

theorem LS.drew {c : RC} {w : World} {so : Option Addr} {signs : List (List UInt8)} {T : Nat} {W : World} {a : Ex} {d : ED} {s : St} (h : LS c w so signs T W a d s) : LS c w so signs T W.drew a d s := h.go h.on.here.drew

/-- the next part -/
theorem LS.part {c : RC} {w : World} {so : Option Addr} {signs : List (List UInt8)} {T : Nat} {k g : Nat} {P : St → Ex × St} (hp : Part g c P k) {W : World} {a : Ex} {d : ED} {s : St} (hs : s.len < k) (h : Hid (LS c w so signs T W a d s)) :
    Calls Tryd.prog g #[.pointer (some ⟨c.R, 0, none⟩)] W fun e w' => ∃ d2 : ED, e = .returned (exval d2) ∧ c.R < w'.heap.size ∧ Hid (LS c w so signs T w' a d (P s).2 ∧ IsEx (fun b => w.heap.size + 1 ≤ b ∧ b ≠ T) w' (P s).1 d2) :=
  (hp W s hs h.out.on.here).mono fun e w' ⟨d2, h1, h2, h3⟩ => ⟨d2, h1, h2.lt, h.out.go h2, h3.weak fun b hb _ => by
    have h4 := h.out.on.size
    have h5 := h.out.var.1
    simp at h4
    exact ⟨by omega, by omega⟩⟩

/-- the two together -/
theorem LS.made {c : RC} {w : World} {so : Option Addr} {signs : List (List UInt8)} {T : Nat} {W : World} {a a' : Ex} {d d2 : ED} {s : St} (op : Int) (h : Hid (LS c w so signs T W a d s ∧ IsEx (fun b => w.heap.size + 1 ≤ b ∧ b ≠ T) W a' d2)) :
    Calls Tryd.prog 113 #[.int .i64 op, .slice (some ⟨W.heap.size, 0, none⟩) 2 2] (W.alloc (.cells #[.int .i64 d.op, .int .i64 d.vk, .int .i64 d.vi, .string d.vt, .string d.tb, .string d.nm, .int .i64 0, .slice d.ao d.n d.cap, .int .i64 d2.op, .int .i64 d2.vk, .int .i64 d2.vi, .string d2.vt, .string d2.tb, .string d2.nm, .int .i64 0, .slice d2.ao d2.n d2.cap] 35)) fun e w' => ∃ d3 : ED, e = .returned (exval d3) ∧ c.R < w'.heap.size ∧ Hid (LS c w so signs T w' a d s ∧ IsEx (fun b => w.heap.size + 1 ≤ b ∧ b ≠ T) w' (.bi op a a') d3) := by
  have h4 := h.out.1.on.size
  have h5 := h.out.1.var.1
  simp at h4
  refine (made2 op (ok := fun b => w.heap.size + 1 ≤ b ∧ b ≠ T) (c := c) (w0 := W) (s := s) ⟨by omega, by omega⟩ (hide ⟨h.out.1.on.here, h.out.1.ex, h.out.2⟩)).mono fun e w' ⟨d3, h1, h2⟩ => ⟨d3, h1, h2.out.1.lt, h.out.1.go h2.out.1, h2.out.2⟩

/-- stored into the variable -/
theorem LS.stored {c : RC} {w : World} {so : Option Addr} {signs : List (List UInt8)} {T : Nat} {W : World} {a a' : Ex} {d0 d : ED} {s : St} (h : LS c w so signs T W a d0 s) (h' : IsEx (fun b => w.heap.size + 1 ≤ b ∧ b ≠ T) W a' d) :
    ∃ W8, ((((((((W.setCell ⟨T, 0, none⟩ (.int .i64 d.op)).setCell ⟨T, 1, none⟩ (.int .i64 d.vk)).setCell ⟨T, 2, none⟩ (.int .i64 d.vi)).setCell ⟨T, 3, none⟩ (.string d.vt)).setCell ⟨T, 4, none⟩ (.string d.tb)).setCell ⟨T, 5, none⟩ (.string d.nm)).setCell ⟨T, 6, none⟩ (.int .i64 0)).setCell ⟨T, 7, none⟩ (.slice d.ao d.n d.cap)) = W8 ∧ LS c w so signs T W8 a' d s := by
  obtain ⟨W8, e8, hv, hk, hO⟩ := var8 h.var d
  have h0 := h.lo
  exact ⟨W8, e8, hO _ _ _ h.on (by simp; omega), h.wds.keep hk (fun x hx => by have := (h.apart x hx).2; omega), h'.keep hk (by intro e; exact e.2 rfl), hv, h.lo, h.apart, h.hR⟩

set_option maxRecDepth 100000 in
set_option maxHeartbeats 4000000 in
theorem leftward_any {c : RC} {k : Nat} {P : St → Ex × St} (g : Nat) (eg : ∀ args w, (callFunc g args).run Tryd.prog w = .ok (.enter g args) w) (hp : Part g c P k) (hsh : Shrinks P) {so : Option Addr} {sc : Nat} {signs : List (List UInt8)}
    (w : World) (s : St) (hs : s.len < k) (h : On c w w s) (hw : Wds w so signs) (hwR : ∀ a, so = some a → a.block ≠ c.R ∧ a.block < w.heap.size) :
    Calls Tryd.prog 100 #[.pointer (some ⟨c.R, 0, none⟩), .func (.func g) #[.pointer (some ⟨c.R, 0, none⟩)] #[], .slice so signs.length sc] w fun e w' => ∃ d : ED, e = .returned (exval d) ∧ On c w w' (leftward P signs s).2 ∧ IsEx (fun b => w.heap.size ≤ b) w' (leftward P signs s).1 d := by
  have hR := h.lt
  have HH := hide h
  have HS := hide hsh
  have HP := hide hp
  have cP : Calls Tryd.prog g #[.pointer (some ⟨c.R, 0, none⟩)] (w.alloc zeroEx) fun e w1 => ∃ d : ED, e = .returned (exval d) ∧ c.R < w1.heap.size ∧ Hid (LS c w so signs w1.heap.size (w1.alloc (.cells #[.int .i64 d.op, .int .i64 d.vk, .int .i64 d.vi, .string d.vt, .string d.tb, .string d.nm, .int .i64 0, .slice d.ao d.n d.cap] 35)) (P s).1 d (P s).2 ∧ (P s).2.len < k) := by
    refine (hp (w.alloc zeroEx) s hs (h.alloc zeroEx).here).mono fun e w1 ⟨d, h1, h2, h3⟩ => ⟨d, h1, h2.lt, ⟨h2.alloc _, ?_, ?_, VarEx.new w1 d _, ?_, hwR, hR⟩, Nat.lt_of_le_of_lt (hsh s) hs⟩
    · exact (hw.later ((Below.refl _ w).alloc (Nat.le_refl _) zeroEx)).keep (h2.alloc _).keeps (fun a ha => (hwR a ha).1)
    · exact (h3.weak (ok' := fun b => w.heap.size + 1 ≤ b ∧ b ≠ w1.heap.size) (fun b hb hlt => ⟨by simp at hb; omega, by omega⟩)).alloc _
    · have := h2.size
      simp at this
      omega
  have HL : Hid (leftLoop P signs ((P s).2.len + 1) (P s).1 (P s).2 = leftward P signs s) := rfl
  generalize leftward P signs s = N at HL ⊢
  generalize P s = p at cP HL
  obtain ⟨a0, s0⟩ := p
  simp only at cP HL
  obtain ⟨n, hn⟩ : ∃ n, signs.length = n := ⟨_, rfl⟩
  have HN := hide hn
  rw [hn]
  clear h hw hwR hn hsh hp
  go_enter Tryd.func100, Tryd.ntmps100
  go_wp2_with (go_at_fn g; refine cP.mono ?_; rintro e w1 ⟨d1, rfl, hR1, HB⟩)
  go_loopw [8] (fun _ wr => ∃ a d s1, c.R < wr.heap.size ∧ Hid (LS c w so signs w1.heap.size wr a d s1 ∧ s1.len < k ∧ leftLoop P signs (s1.len + 1) a s1 = N)) (fun _ wr => lenOf c wr)
  case atStart => exact ⟨a0, d1, s0, by simp; omega, HB.out.1, HB.out.2, HL.out⟩
  case round =>
    obtain ⟨a, d, s1, hRr, HQ⟩ := hrel
    have hsr := HQ.out.2.1
    have cA : Calls Tryd.prog 66 #[.pointer (some ⟨c.R, 0, none⟩), .slice so n sc] wr fun e w2 => e = .returned (.string (str (anyOf signs s1).1)) ∧ c.R < w2.heap.size ∧ Hid (LS c w so signs w1.heap.size w2 a d (anyOf signs s1).2) := by
      have h1 := anyOf_on (wc := sc) HQ.out.1.on.here HQ.out.1.wds
      rw [HN.out] at h1
      exact h1.mono fun e w2 ⟨h1, h2⟩ => ⟨h1, h2.out.lt, HQ.out.1.go h2.out⟩
    have cO : Hid (∀ W, Hid (LS c w so signs w1.heap.size W a d (anyOf signs s1).2) → Calls Tryd.prog 112 #[.string (str (anyOf signs s1).1)] W fun e w' => e = .returned (.int .i64 (opOf (anyOf signs s1).1)) ∧ c.R < w'.heap.size ∧ Hid (LS c w so signs w1.heap.size w' a d (anyOf signs s1).2)) :=
      fun W hW => (opOf_any _ W hW.out.on.ops).mono fun e w' ⟨h1, h2⟩ => ⟨h1, (hW.out.on.here.later h2).lt, hW.out.go (hW.out.on.here.later h2)⟩
    have HM := hide HQ.out.1.on.lenOf
    by_cases ho : opOf (anyOf signs s1).1 = 0
    · have HE : Hid (N = (a, (anyOf signs s1).2)) := by
        have h1 := HQ.out.2.2
        rw [leftLoop_end ho] at h1
        exact h1.symm
      rw [ho] at cO
      clear ho HQ
      generalize anyOf signs s1 = q at cA cO HE
      obtain ⟨u, s2⟩ := q
      simp only at cA cO HE
      go_wp2_with (first
        | (go_at_call 66; refine cA.mono ?_; rintro e w2 ⟨rfl, hR2, HB2⟩)
        | (go_at_call 112; refine (cO.out _ HB2).mono ?_; rintro e w3 ⟨rfl, hR3, HB3⟩; obtain ⟨v0, v1, v2, v3, v4, v5, v6, v7⟩ := HB3.out.var.cells; obtain ⟨⟨k0, k1, k2, k3, k4, k5, k6, k7⟩, f⟩ := res_cells HB3.out.on hR))
      obtain ⟨W3, e3, ⟨c0, c1, c2, c3, c4, c5, c6, c7⟩, hO3, hI3⟩ := res8 HB3.out.on hR HH.out d (HB3.out.ex.weak (fun b hb _ => hb.1))
      rw [e3, HE.out]
      exact bodyPost_ret (v := exval d) (by simp [results, Tryd.results100, go_sem, asAddr, c0, c1, c2, c3, c4, c5, c6, c7]) rfl ⟨d, rfl, hO3, hI3⟩
    · have HE : Hid (leftLoop P signs ((P (anyOf signs s1).2).2.len + 1) (.bi (opOf (anyOf signs s1).1) a (P (anyOf signs s1).2).1) (P (anyOf signs s1).2).2 = N) := by
        have h1 := HQ.out.2.2
        rw [leftLoop_on HS.out ho] at h1
        exact h1
      have hm1 := anyOf_less (opOf_ne ho)
      have hm2 := HS.out (anyOf signs s1).2
      have cQ := hide (fun W h => LS.part (w := w) (so := so) (signs := signs) (T := w1.heap.size) HP.out (W := W) (a := a) (d := d) (s := (anyOf signs s1).2) (by omega) h)
      generalize P (anyOf signs s1).2 = r at cQ HE hm2
      obtain ⟨a2, s3⟩ := r
      generalize opOf (anyOf signs s1).1 = o at ho cO HE
      generalize anyOf signs s1 = q at cA cO HE hm1 hm2 cQ
      obtain ⟨u, s2⟩ := q
      simp only at cA cO HE hm1 hm2 cQ
      have ho2 : (o == 0) = false := beq_eq_false_iff_ne.2 ho
      have hm3 : s3.len < s1.len := by omega
      have hm4 : s3.len < k := by omega
      clear HQ hm1 hm2 hsr
      go_wp2_with (first
        | (go_at_call 66; refine cA.mono ?_; rintro e w2 ⟨rfl, hR2, HB2⟩)
        | (go_at_call 112; refine (cO.out _ HB2).mono ?_; rintro e w3 ⟨rfl, hR3, HB3⟩; obtain ⟨v0, v1, v2, v3, v4, v5, v6, v7⟩ := HB3.out.var.cells; have HD := hide HB3.out.drew))
      go_region_with (first
        | (go_at_fn g; (with_reducible refine (cQ.out _ ?_).mono ?_); assumption; rintro e w4 ⟨d2, rfl, hR4, HB4⟩; obtain ⟨u0, u1, u2, u3, u4, u5, u6, u7⟩ := HB4.out.1.var.cells)
        | (go_at_call 113; (with_reducible refine (LS.made _ HB4).mono ?_); rintro e w5 ⟨d3, rfl, hR5, HB5⟩; obtain ⟨x0, x1, x2, x3, x4, x5, x6, x7⟩ := HB5.out.1.var.cells; have f5 := HB5.out.1.var.2.2))
      all_goals
        obtain ⟨W8, e8, h8⟩ := LS.stored HB5.out.1 HB5.out.2
        rw [e8]
        go_roundw
        case rel => exact ⟨_, _, _, _, _, _, _, _, _, _, _, _, _, _, ⟨_, d3, s3, h8.on.lt, h8, hm4, HE.out⟩, rfl⟩
        case measure => rw [h8.on.lenOf, HM.out]; exact hm3

end Go.Proofs.YtedinkoapieakaaDoor
