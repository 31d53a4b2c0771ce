/- A letter to each voter. -/
import Derived.Test.YtppcikfhhmiipaaBlSend
namespace Go.Proofs.Ytppcikfhhmiipaa
open Go.ChangeShapes Go.WideShapes Go.ChangeAt Go.RowKit Go.Maps

/-- between two letters: the letter's variable L, the ballot -/
structure SaI (B V M L : Nat) (tg : Nat → Int) (w : World) (b : Bl) (l : Lt) (W : World) : Prop where
  var : ∃ v, Cs W L 0 (ltC { l with vo := v })
  post : ∃ tg' ad' f', BlI B V M tg' ad' f' b W ∧ Trn tg tg' w W ∧ tg' L = 0

/-- a variable of the call's own is written -/
theorem Trn.own {t1 t2 : Nat → Int} {w W : World} {L i : Nat} {v : Value} (h : Trn t1 t2 w W) (hL : w.heap.size ≤ L) : Trn t1 t2 w (W.setCell ⟨L, i, none⟩ v) :=
  ⟨h.os, h.tape, h.output, by simpa using h.size, fun x hx h0 => (heap_setCell_other _ _ _ _ (fun e => by have e' : x = L := e; omega)).trans (h.block x hx h0), h.tag⟩

theorem SaI.set {B V M L : Nat} {tg : Nat → Int} {w W : World} {b : Bl} {l : Lt} (h : SaI B V M L tg w b l W) (k : Int) (hL : w.heap.size ≤ L) : SaI B V M L tg w b l (W.setCell ⟨L, 3, none⟩ (.int .i64 k)) ∧ Cs (W.setCell ⟨L, 3, none⟩ (.int .i64 k)) L 0 (ltC { l with vo := k }) := by
  obtain ⟨⟨v, h1⟩, tg', ad', f', h2, h3, h4⟩ := h
  have h5 : Cs (W.setCell ⟨L, 3, none⟩ (.int .i64 k)) L 0 (ltC { l with vo := k }) := by
    have := h1.set 3 (.int .i64 k)
    rwa [Nat.zero_add] at this
  refine ⟨⟨⟨k, h5⟩, tg', ad', f', h2.move (by simp) (fun x _ hx => heap_setCell_other _ _ _ _ (fun e => hx (by have e' : x = L := e; rw [e', h4]))), h3.own hL, h4⟩, h5⟩

set_option maxRecDepth 20000 in
set_option maxHeartbeats 1000000 in
theorem sendAll_any (B V M : Nat) (tg : Nat → Int) (ad : Int → Nat) (f : Value) (b : Bl) (n : Nat) (hb : b.Ok n) (l : Lt) (hl : (l.kd = 0 ∨ l.kd = 1 ∨ l.kd = 2 ∨ l.kd = 3) ∧ b.rs l.ro ≠ none) (w : World) (h : BlI B V M tg ad f b w) :
    Calls Try.prog 21 #[.pointer (some ⟨B, 0, none⟩), ltV l] w fun e w' => e = .returned (.tuple #[]) ∧ BlPost B V M tg w (b.sendAll l) w' := by
  have hOk : ∀ k, k ≤ n → (b.sendTo l k).Ok n := fun k hk => (hb.sendTo l hl k hk).1
  have hvs : ∀ k, k ≤ n → (b.sendTo l k).vs = b.vs := fun k hk => (hb.sendTo l hl k hk).2.2.1
  have HOK := put_by hOk
  have HE := put_by (show b.sendAll l = b.sendTo l n by unfold Bl.sendAll; rw [hb.len])
  have hfew := hb.few
  have HLEN := put_by hb.len
  obtain ⟨c0, -⟩ := h.top 0 _ rfl
  rw [hb.len] at c0
  simp only [Nat.add_zero] at c0
  have hBl := h.ltB
  have H0 : Hid (SaI B V M w.heap.size tg w (b.sendTo l 0) l (w.alloc (.cells #[.int .i64 l.rd, .int .i64 l.va, .int .i64 l.kd, .int .i64 l.vo, .int .i64 l.ro, .bool l.lost] 78))) := put_by (by
    have hbe := (Below.refl w.heap.size w).alloc (Nat.le_refl _) (.cells #[.int .i64 l.rd, .int .i64 l.va, .int .i64 l.kd, .int .i64 l.vo, .int .i64 l.ro, .bool l.lost] 78)
    exact ⟨⟨l.vo, Cs.new w (ltC l) _ rfl _⟩, tg, ad, f, h.later hbe, Trn.of_below hbe, h.out w.heap.size (Nat.le_refl _)⟩)
  have HC : Hid (∀ k < n, ∀ W, SaI B V M w.heap.size tg w (b.sendTo l k) l W → Cs W w.heap.size 0 (ltC { l with vo := (k : Int) }) → Calls Try.prog 27 #[.pointer (some ⟨B, 0, none⟩), .agg #[.int .i64 l.rd, .int .i64 l.va, .int .i64 l.kd, .int .i64 (k : Int), .int .i64 l.ro, .bool l.lost]] W fun e w' => e = .returned (.tuple #[]) ∧ Hid (SaI B V M w.heap.size tg w (b.sendTo l (k + 1)) l w')) := put_by fun k hk W hW hc => by
    obtain ⟨_, tg', ad', f', h2, h3, h4⟩ := id hW
    refine ((send_any B V M tg' ad' f' (b.sendTo l k) { l with vo := (k : Int) } W h2 (hOk k (by omega)).mail).mono ?_)
    rintro e w' ⟨rfl, tg2, ad2, f2, h5, h6⟩
    have hl := Cs.lt hc
    exact ⟨rfl, put_by ⟨⟨k, hc.move (h6.block _ hl h4)⟩, tg2, ad2, f2, h5, h3.trans h6, (h6.tag _ hl).trans h4⟩⟩
  clear h hOk hb hl HOK
  unfold ltV
  go_enter Try.func21, Try.ntmps21
  go_upto_region 1 with (fail)
  generalize w.alloc (.cells #[.int .i64 l.rd, .int .i64 l.va, .int .i64 l.kd, .int .i64 l.vo, .int .i64 l.ro, .bool l.lost] 78) = W0 at *
  have hn5 : (n : Int) ≤ 5 := by omega
  have c0' : W0.cell? ⟨B, 0, none⟩ = some (.slice (some ⟨V, 0, none⟩) n n) := by
    obtain ⟨_, tg', ad', f', h2, h3, h4⟩ := H0.out
    have := (h2.top 0 _ rfl).1
    simpa [Bl.sendTo, HLEN.out] using this
  clear c0
  go_wp2
  go_loopw [10] (fun i wr => ∃ k : Nat, k ≤ n ∧ i = .int .i64 k ∧ Hid (SaI B V M w.heap.size tg w (b.sendTo l k) l wr)) (fun i _ => n - (intOf i).toNat)
  case atStart => exact ⟨0, Nat.zero_le _, rfl, H0.out⟩
  case round =>
    obtain ⟨k, hk, rfl, HR⟩ := hrel
    by_cases hlt : k < n
    · have ik : (k : Int) < (n : Int) := by omega
      obtain ⟨v, hv⟩ := HR.out.var
      obtain ⟨q0, -⟩ := hv 0 _ rfl
      obtain ⟨q1, -⟩ := hv 1 _ rfl
      obtain ⟨q2, -⟩ := hv 2 _ rfl
      obtain ⟨q3, g3⟩ := hv 3 _ rfl
      obtain ⟨q4, -⟩ := hv 4 _ rfl
      obtain ⟨q5, -⟩ := hv 5 _ rfl
      simp only [Nat.zero_add] at q0 q1 q2 q3 q4 q5 g3
      have hS := HR.out.set (k : Int) (Nat.le_refl _)
      have cS := put_by (HC.out k hlt _ hS.1 hS.2)
      clear hv hS
      go_wp2_with (go_at_call 27; refine cS.out.mono ?_; rintro e w2 ⟨rfl, H2⟩)
      go_roundw
      case rel => exact ⟨k + 1, by omega, by go_num, H2⟩
      case measure => simp [intOf]; omega
    · have hkn : k = n := by omega
      subst hkn
      go_wp2
      exact bodyPost_end (v := .tuple #[]) (by simp [results, Try.results21, go_sem]) rfl ⟨rfl, by rw [HE.out]; obtain ⟨_, tg', ad', f', h2, h3, h4⟩ := HR.out; exact ⟨tg', ad', f', h2, h3⟩⟩

end Go.Proofs.Ytppcikfhhmiipaa
