/- A log is played: Play. -/
import Derived.Test.YtjjdednlddnllaaMlPlay
namespace Go.Proofs.Ytjjdednlddnllaa
open Go.ChangeShapes Go.WideShapes Go.ChangeAt Go.RowKit

/-- an entry of a log, in memory: bytes at a place that a reader may go on from -/
def kLog : Kd (List Int) 1 where
  rel ok w x cs := ∃ a c, cs = [.slice a x.length c] ∧ Octs w a c x ∧ Ples a c ∧ ∀ ad, a = some ad → ok ad.block ∧ ad.block < w.heap.size
  move hk hok _ _ := by
    rintro ⟨a, c, rfl, h1, h2, h3⟩
    exact ⟨a, c, rfl, h1.move (fun _ ad e => (h3 ad e).1) hk, h2, fun ad e => ⟨hok _ (h3 ad e).2 (h3 ad e).1, Nat.lt_of_lt_of_le (h3 ad e).2 hk.1⟩⟩
  len := by
    rintro _ _ _ _ ⟨a, c, rfl, _⟩
    rfl
  one := by
    rintro _ _ _ _ ⟨a, c, rfl, _⟩ x hx
    simp only [List.mem_cons, List.not_mem_nil, or_false] at hx
    subst hx
    rfl

/-- an entry of a row -/
theorem log_at {ok : Nat → Prop} {w : World} {ao : Option Addr} {cap : Nat} {l : List (List Int)} (hL : Lies kLog ok w ao cap l) {k : Nat} (hk : k < l.length) :
    ∃ bb off a1 c1, ao = some ⟨bb, off, none⟩ ∧ bb < w.heap.size ∧ Octs w a1 c1 l[k] ∧ Ples a1 c1 ∧ (∀ ad, a1 = some ad → ok ad.block ∧ ad.block < w.heap.size) ∧ ∀ W : World, Below w.heap.size w W → W.cell? ⟨bb, off + k, none⟩ = some (.slice a1 (l[k]).length c1) := by
  obtain ⟨bb, off, e, hb, _, cs, ⟨a1, c1, rfl, o1, o2, o3⟩, hc⟩ := hL.at hk
  refine ⟨bb, off, a1, c1, e, hb, o1, o2, o3, fun W hW => (hW.cell (p := ⟨bb, off + k, none⟩) hb).trans ?_⟩
  have := hc 0 _ rfl
  simpa using this

theorem playM_snoc (l : List (Option Itt)) (e : Option Itt) (s : Sta) : playM s (l ++ [e]) = (stepM (playM s l).1 e, (playM s l).2 ++ [codeM (playM s l).1 ((playM s l).1.pos + 1) e]) := by
  rw [playM_append]
  rfl

/-- how many cells and dones there are at most -/
theorem playM_few : ∀ (l : List (Option Itt)) (xss : List (List Int)) {s : Sta}, Ordl s → All2 TellsI xss l → (playM s l).1.cells.length ≤ s.cells.length + 400 * l.length ∧ (playM s l).1.dones.length ≤ s.dones.length + l.length
  | [], _, s, _, _ => by simp [playM]
  | e :: l, [], s, _, h => h.elim
  | e :: l, x :: xss, s, ho, h => by
    have h1 := stepM_few ho h.1
    have h2 := playM_few l xss (ho.step e) h.2
    simp only [playM, List.length_cons]
    omega

/-- a log's player, and the codes so far -/
structure LgI (w0 : World) (P : Nat) (s : Sta) (ca : Option Addr) (cn cc : Nat) (da : Option Addr) (dn dc : Nat) (v : Value) (codes : List Int) (w : World) : Prop where
  pl : PlI w0 w (.slice da dn dc) v P s ca cn cc da dn dc w
  codes : Rows kNum (fun _ => True) w w0.heap.size 29 v codes
  apart : v.ownBlock ≠ some P ∧ ∀ g, v.ownBlock = some g → (Value.slice da dn dc).ownBlock ≠ some g

/-- whatever hangs on a row of numbers: nothing -/
theorem num_rows {ok ok2 : Nat → Prop} {w w' : World} {base : Nat} {E : TypeId} {v : Value} {l : List Int} (h : Rows kNum ok w base E v l) (hv : ∀ g, v.ownBlock = some g → w'.heap[g]? = w.heap[g]?) : Rows kNum ok2 w' base E v l := by
  obtain ⟨css, h1, h2⟩ := h
  exact ⟨css, own_kept h1 hv, All2.imp (fun _ _ hr => hr) h2⟩

/-- an entry has been played -/
theorem LgI.step {w0 w w' : World} {P : Nat} {s t : Sta} {ca : Option Addr} {cn cc : Nat} {da : Option Addr} {dn dc : Nat} {v : Value} {codes : List Int} {ca' : Option Addr} {cn' cc' : Nat} {da' : Option Addr} {dn' dc' : Nat} (h : LgI w0 P s ca cn cc da dn dc v codes w) (h2 : PlI w0 w (.slice da dn dc) v P t ca' cn' cc' da' dn' dc' w') : LgI w0 P t ca' cn' cc' da' dn' dc' v codes w' := by
  refine ⟨h2.anew, num_rows h.codes (fun g e => h2.frame.2.1 g (rows_lt h.codes g e).2 (fun e2 => h.apart.1 (by rw [e, e2])) (h.apart.2 g e)), h.apart.1, fun g e e2 => ?_⟩
  rcases h2.frame.2.2 g e2 with h3 | h3
  · exact h.apart.2 g e h3
  · have := (rows_lt h.codes g e).2; omega

/-- its code is kept -/
theorem LgI.code {w0 w w' : World} {P : Nat} {s : Sta} {ca : Option Addr} {cn cc : Nat} {da : Option Addr} {dn dc : Nat} {v v' : Value} {codes codes' : List Int} (h : LgI w0 P s ca cn cc da dn dc v codes w) (r1 : Rows kNum (fun _ => True) w' w0.heap.size 29 v' codes') (r2 : w.grownBy w' v.ownBlock) (r3 : v'.ownBlock = v.ownBlock ∨ v'.ownBlock = some (w.heap.size + 1)) : LgI w0 P s ca cn cc da dn dc v' codes' w' := by
  have hP := h.pl
  have hne : ∀ g, v'.ownBlock = some g → g ≠ P ∧ (Value.slice da dn dc).ownBlock ≠ some g := fun g e => by
    rcases r3 with h3 | h3
    · rw [h3] at e
      exact ⟨fun e2 => h.apart.1 (by rw [e, e2]), h.apart.2 g e⟩
    · rw [h3] at e
      have := Option.some.inj e
      have h4 := hP.lt
      exact ⟨by omega, fun e2 => by have := (rows_lt hP.dones g e2).2; omega⟩
  have hq : ∀ b, b < w.heap.size → v.ownBlock ≠ some b → v'.ownBlock = some b → False := fun b hb h1 e => by
    rcases r3 with h3 | h3
    · exact h1 (h3 ▸ e)
    · rw [h3] at e
      have := Option.some.inj e
      omega
  have hlt : ∀ g, v'.ownBlock = some g → g < w'.heap.size := fun g e => (rows_lt r1 g e).2
  have hk : ∀ g, (Value.slice da dn dc).ownBlock = some g → w'.heap[g]? = w.heap[g]? := fun g e => r2.block g (rows_lt hP.dones g e).2 (fun e2 => h.apart.2 g e2.symm e)
  refine ⟨⟨hP.var.block (fun hb => r2.block _ hb (fun e => h.apart.1 e.symm)), hP.lenc, hP.lend, hP.cells.move (Kept.of_grown r2 (fun b hb e => hb.2.1 e)) (fun b hb q => ⟨q.1, (fun e => (hq b hb q.2.1 e).elim), q.2.2⟩), (fun g e => hlt g e), hP.ples, dn_rows hP.dones hk, hP.apart, hP.ord, hP.old, Nat.lt_of_lt_of_le hP.lt r2.size, below_grown hP.below hP.below.size r2 (fun r e => (rows_lt h.codes r e).1), PlK.refl _ _ _⟩, r1, fun e => (hne P e).1 rfl, fun g e => (hne g e).2⟩

/-- what a log that is played comes to -/
def PlPost (s : Sta) (es : List (Option Itt)) (w : World) (e : Ending) (w' : World) : Prop := ∃ (a : Option Addr) (n c : Nat) (a2 : Option Addr) (n2 c2 : Nat) (a3 : Option Addr) (n3 c3 : Nat), e = .returned (.tuple #[.agg #[.int .i64 (playM s es).1.pos, .slice a n c, .slice a2 n2 c2], .slice a3 n3 c3, .int .i64 0]) ∧ n = (playM s es).1.cells.length ∧ n2 = (playM s es).1.dones.length ∧ n3 = (playM s es).2.length ∧ StIs (fun b => w.heap.size ≤ b) w' (playM s es).1.cells (playM s es).1.dones a c a2 c2 ∧ Lies kNum (fun b => w.heap.size ≤ b) w' a3 c3 (playM s es).2 ∧ Below w.heap.size w w'

/-- where it begins -/
theorem LgI.start {w2 w3 : World} {p : Int} {cs : List Cel} {ds : List Dn} {a : Option Addr} {n c : Nat} {a2 : Option Addr} {n2 c2 : Nat} (ty : TypeId) (hM : MayS ⟨p, cs, ds⟩) (h1 : n = cs.length) (h2 : n2 = ds.length) (h3 : Rows kCel (fun b => w2.heap.size ≤ b ∧ (Value.slice a2 n2 c2).ownBlock ≠ some b) w3 w2.heap.size 55 (.slice a n c) cs) (h4 : Rows kDn (fun _ => True) w3 w2.heap.size 57 (.slice a2 n2 c2) ds) (h5 : ∀ g, (Value.slice a n c).ownBlock = some g → (Value.slice a2 n2 c2).ownBlock ≠ some g) (h6 : Below w2.heap.size w2 w3) :
    LgI w2 w3.heap.size ⟨p, cs, ds⟩ a n c a2 n2 c2 (.slice none 0 0) [] (w3.alloc (.cells #[.int .i64 p, .slice a n c, .slice a2 n2 c2] ty)) := by
  have hb : Below w3.heap.size w3 (w3.alloc (.cells #[.int .i64 p, .slice a n c, .slice a2 n2 c2] ty)) := (Below.refl _ _).alloc (Nat.le_refl _) _
  obtain ⟨a', c', e, hL, hP, -, -⟩ := h3.lies (fun b e => ⟨(rows_lt h3 b e).1, h5 b e⟩)
  simp only [Value.slice.injEq] at e
  obtain ⟨rfl, -, rfl⟩ := e
  refine ⟨⟨Cls.new w3 [.int .i64 p, .slice a n c, .slice a2 n2 c2] ty, h1, h2, ?_, (fun g e => by cases e), hP, h4.later hb, fun e => by have := (rows_lt h4 _ e).2; omega, ⟨hM.asc, hM.ascD⟩, h6.size, by simp, h6.trans (hb.mono h6.size), PlK.refl _ _ _⟩, Rows.nil _ _ _ _ _, (fun e => by cases e), fun g e => by cases e⟩
  exact (hL.move (ok' := fun b => (b ≠ w3.heap.size ∧ (Value.slice a2 n2 c2).ownBlock ≠ some b) ∧ ((Value.slice none 0 0).ownBlock ≠ some b ∧ w2.heap.size ≤ b)) (Kept.of_below (Below.refl _ _)) (fun b hb2 ho => ⟨⟨by omega, ho.2⟩, (fun e => by cases e), ho.1⟩)).later hb

set_option maxRecDepth 100000 in
set_option maxHeartbeats 2000000 in
theorem Play_good (ok okl : Nat → Prop) (p : Int) (cs : List Cel) (ds : List Dn) (ca : Option Addr) (cc : Nat) (da : Option Addr) (dc : Nat) (l : List (List Int)) (la : Option Addr) (lc : Nat) (es : List (Option Itt)) (w : World) (hI : StIs ok w cs ds ca cc da dc) (hM : MayS ⟨p, cs, ds⟩) (hL : Lies kLog okl w la lc l) (hes : All2 TellsI l es) (hl : l.length ≤ 300) (hpos : p + l.length ≤ 1048576) (hfew : (cs.length + 120400) * 64 ≤ 140737488351232) (hfd : ds.length + 300 ≤ 2000000) :
    Calls Try.prog 11 #[.agg #[.int .i64 p, .slice ca cs.length cc, .slice da ds.length dc], .slice la l.length lc] w fun e w' => PlPost ⟨p, cs, ds⟩ es w e w' := by
  generalize hpost : (fun e w' => PlPost ⟨p, cs, ds⟩ es w e w') = Q
  have HO : Hid (∀ w', ¬ Q .outgrown w') := fun w' hh => by
    rw [← hpost] at hh
    obtain ⟨_, _, _, _, _, _, _, _, _, h, -⟩ := hh
    cases h
  have HP : Hid (∀ e w', PlPost ⟨p, cs, ds⟩ es w e w' → Q e w') := fun e w' h => by rw [← hpost]; exact h
  clear hpost
  obtain ⟨n, hn⟩ : ∃ n, n = cs.length := ⟨_, rfl⟩
  obtain ⟨nd, hnd⟩ : ∃ n, n = ds.length := ⟨_, rfl⟩
  obtain ⟨nl, hnl⟩ : ∃ n, n = l.length := ⟨_, rfl⟩
  have hp0 : 0 ≤ p := hM.pos.1
  rw [← hnl] at hl hpos
  rw [← hn, ← hnd, ← hnl]
  have HI0 := put_by hI
  have HM := put_by hM
  have HL := put_by hL
  have HES := put_by hes
  have HN := put_by (And.intro hn (And.intro hnd hnl))
  have HFE := put_by (And.intro hfew hfd)
  clear hI hM hL hes hn hnd hnl hfew hfd
  have HW := put_by (Cls.new w [.int .i64 p, .slice ca n cc, .slice da nd dc] 25)
  have HB0 := put_by ((Below.refl w.heap.size w).alloc (Nat.le_refl _) (.cells #[.int .i64 p, .slice ca n cc, .slice da nd dc] 25))
  have HS : Hid ((w.alloc (.cells #[.int .i64 p, .slice ca n cc, .slice da nd dc] 25)).heap.size = w.heap.size + 1) := by simp [Hid]
  go_enter Try.func11, Try.ntmps11
  go_upto_region 1 with (fail)
  generalize hA : w.heap.size + 1 = A
  generalize w.alloc (.cells #[.int .i64 p, .slice ca n cc, .slice da nd dc] _) = W2 at HW HB0 HS ⊢
  have HC := put_by (Cls.new W2 [.int .i64 0, .slice none 0 0, .slice none 0 0] 25)
  have HB2 := put_by ((Below.refl W2.heap.size W2).alloc (Nat.le_refl _) (.cells #[.int .i64 0, .slice none 0 0, .slice none 0 0] 25))
  have HS2 : Hid ((W2.alloc (.cells #[.int .i64 0, .slice none 0 0, .slice none 0 0] 25)).heap.size = w.heap.size + 2) := by simp [Hid, HS.out]
  have HAE : Hid (A = w.heap.size + 1) := hA.symm
  clear hA
  generalize W2.alloc (.cells #[.int .i64 0, .slice none 0 0, .slice none 0 0] _) = W1 at HC HB2 HS2 ⊢
  have HX : Hid (Cls W1 w.heap.size [.int .i64 p, .slice ca n cc, .slice da nd dc] ∧ Cls W1 A [.int .i64 0, .slice none 0 0, .slice none 0 0] ∧ Below w.heap.size w W1) := ⟨HW.out.later HB2.out, by rw [HAE.out, ← HS.out]; exact HC.out, HB0.out.trans (HB2.out.mono HB0.out.size)⟩
  clear HW HB0 HS HC HB2
  obtain ⟨y0, -⟩ := HX.out.1 0 _ rfl
  obtain ⟨y1, -⟩ := HX.out.1 1 _ rfl
  obtain ⟨y2, -⟩ := HX.out.1 2 _ rfl
  have cM : Hid (Calls Try.prog 9 #[.agg #[.int .i64 p, .slice ca n cc, .slice da nd dc]] W1 fun e w' => e = .returned (.bool true) ∧ Hid (Below W1.heap.size W1 w')) := by
    have h0 := MayS_any ok p cs ds ca cc da dc W1 (HI0.out.later HX.out.2.2) true ⟨fun _ => HM.out, fun _ => rfl⟩
    rw [← HN.out.1, ← HN.out.2.1] at h0
    exact h0
  go_upto_region 3 with (first
    | (go_at_call 9; (with_reducible refine cM.out.mono ?_); clear cM; rintro e w2 ⟨rfl, H2⟩))
  clear y0 y1 y2
  have HX2 : Hid (Cls w2 w.heap.size [.int .i64 p, .slice ca n cc, .slice da nd dc] ∧ Cls w2 A [.int .i64 0, .slice none 0 0, .slice none 0 0] ∧ Below w.heap.size w w2 ∧ A < w2.heap.size) := ⟨HX.out.1.later H2.out, HX.out.2.1.later H2.out, HX.out.2.2.trans (H2.out.mono HX.out.2.2.size), by have := H2.out.size; have := HS2.out; have := HAE.out; omega⟩
  clear HX H2 HS2
  obtain ⟨y0, -⟩ := HX2.out.1 0 _ rfl
  obtain ⟨y1, -⟩ := HX2.out.1 1 _ rfl
  obtain ⟨y2, -⟩ := HX2.out.1 2 _ rfl
  have t1 : ¬ (300 : Int) < (nl : Int) := by omega
  have t2 : IntKind.i64.wrap (p + (nl : Int)) = p + (nl : Int) := by rw [IntKind.wrap_i64]; omega
  have t3 : ¬ (1048576 : Int) < p + (nl : Int) := by omega
  have cC : Hid (Calls Try.prog 32 #[.agg #[.int .i64 p, .slice ca n cc, .slice da nd dc]] w2 fun e w' => CpPost p cs ds w2 e w') := by
    have h0 := copiedState_any ok p cs ds ca cc da dc w2 (HI0.out.later HX2.out.2.2.1)
    rw [← HN.out.1, ← HN.out.2.1] at h0
    exact h0
  go_upto_region 8 with (first
    | (go_at_call 32; (with_reducible refine cC.out.mono ?_); clear cC; rintro e w3 ⟨a, n1, c, a2, n2, c2, rfl, h1, h2, h3, h4, h5, h6⟩; have H3 := put_by (LgI.start 62 HM.out h1 h2 h3 h4 h5 h6); clear h1 h2 h3 h4 h5; have H6 := put_by h6; clear h6))
  clear y0 y1 y2 t1 t2 t3
  have HX3 : Hid (∀ V, Below w2.heap.size w2 V → Cls V A [.int .i64 0, .slice none 0 0, .slice none 0 0] ∧ Below w.heap.size w V) := fun V hV => ⟨HX2.out.2.1.later hV, HX2.out.2.2.1.trans (hV.mono HX2.out.2.2.1.size)⟩
  have HAL : Hid (A < w2.heap.size) := HX2.out.2.2.2
  have HLN : Hid (es.length = nl) := by rw [HN.out.2.2]; exact HES.out.length.symm
  generalize w3.heap.size = P at H3 ⊢
  generalize w3.alloc (.cells #[.int .i64 p, .slice a n1 c, .slice a2 n2 c2] _) = W4 at H3 ⊢
  go_loopw [8, 33] (fun v i wr => ∃ (k : Nat) (ca' : Option Addr) (cn' cc' : Nat) (da' : Option Addr) (dn' dc' : Nat) (a m c : _), k ≤ nl ∧ i = .int .i64 (k : Nat) ∧ v = .slice a m c ∧ Hid (LgI w2 P (playM ⟨p, cs, ds⟩ (es.take k)).1 ca' cn' cc' da' dn' dc' (.slice a m c) (playM ⟨p, cs, ds⟩ (es.take k)).2 wr)) (fun _ i _ => nl - (intOf i).toNat)
  case atStart => exact ⟨0, a, n1, c, a2, n2, c2, none, 0, 0, Nat.zero_le _, rfl, rfl, H3.out⟩
  case round =>
    obtain ⟨k, ca', cn', cc', da', dn', dc', a, m, c, hk, rfl, rfl, HR⟩ := hrel
    rename World => wr
    clear H3
    by_cases hlt : k < nl
    · have hx : k < l.length := by rw [← HN.out.2.2]; exact hlt
      obtain ⟨bb, off, a1, c1, rfl, hbb, ho, hpl, hbl, hc⟩ := log_at HL.out hx
      have d0 := hc wr (HX3.out wr HR.out.pl.below).2
      obtain ⟨x, hes, hti⟩ := HES.out.find k hx
      have ik : (k : Int) < (nl : Int) := by omega
      have htk : es.take (k + 1) = es.take k ++ [x] := by
        obtain ⟨h1, h2⟩ := List.getElem?_eq_some_iff.1 hes
        rw [take_succ' h1, h2]
      have hfw := playM_few (es.take k) (l.take k) (s := ⟨p, cs, ds⟩) ⟨HM.out.asc, HM.out.ascD⟩ (HES.out.take k)
      have hlk : (es.take k).length = k := by rw [List.length_take, HLN.out]; omega
      have hps : (playM ⟨p, cs, ds⟩ (es.take k)).1.pos = p + k := by rw [playM_pos, hlk]
      have HK : Hid (playM ⟨p, cs, ds⟩ (es.take (k + 1)) = (stepM (playM ⟨p, cs, ds⟩ (es.take k)).1 x, (playM ⟨p, cs, ds⟩ (es.take k)).2 ++ [codeM (playM ⟨p, cs, ds⟩ (es.take k)).1 ((playM ⟨p, cs, ds⟩ (es.take k)).1.pos + 1) x])) := by rw [htk, playM_snoc]; exact rfl
      have hcl : ((playM ⟨p, cs, ds⟩ (es.take k)).2.length + 1) * 8 ≤ 140737488355328 := by rw [playM_length, hlk]; omega
      rw [hlk] at hfw
      obtain ⟨s, hs⟩ : ∃ s, s = (playM ⟨p, cs, ds⟩ (es.take k)).1 := ⟨_, rfl⟩
      obtain ⟨codes, hcs⟩ : ∃ s, s = (playM ⟨p, cs, ds⟩ (es.take k)).2 := ⟨_, rfl⟩
      rw [← hs, ← hcs] at HK HR
      rw [← hs] at hfw hps
      rw [← hcs] at hcl
      simp only at hfw
      have cP : Hid (Calls Try.prog 33 #[.pointer (some ⟨P, 0, none⟩), .slice a1 (l[k]).length c1] wr fun e w' => PyPost w2 wr (.slice da' dn' dc') (.slice a m c) P s x e w') :=
        play_any w2 wr (.slice da' dn' dc') (.slice a m c) P s ca' cn' cc' da' dn' dc' wr HR.out.pl x (l[k]) hti a1 c1 (ho.later HX2.out.2.2.1) hpl (fun ad e => Nat.lt_of_lt_of_le (hbl ad e).2 HX2.out.2.2.1.size) (by rw [hps]; omega) (by have := HFE.out.1; omega) (by have := HFE.out.2; omega)
      have HCL := put_by hcl
      clear hc ho hpl hbl hti hes htk hfw hlk hps hs hcs hcl hbb
      generalize (l[k]).length = i1 at d0 cP
      go_wp2_with (first
        | (go_at_call 33; (with_reducible refine cP.out.mono ?_); clear cP; rintro e w5 ⟨ca6, cn6, cc6, da6, dn6, dc6, rfl, h5⟩; have H5 := put_by (HR.out.step h5); clear h5)
        | (at_builtin; refine wpList_append_oneB (K := kNum) (ok := fun _ => True) eltN rfl (.tmp 37) (.tmp 41) rfl w2.heap.size (.slice a m c) codes rfl H5.out.codes (codeM s (s.pos + 1) x) [.int .i64 (codeM s (s.pos + 1) x)] _ _ rfl rfl rfl (fun _ _ => trivial) HCL.out (by decide) H5.out.pl.below.size ?_; intro v6 w6 r1 r2 r3; have H6' := put_by (H5.out.code r1 r2 r3); obtain ⟨a6, c6, e6⟩ := rows_form r1; obtain ⟨m6, hm6⟩ : ∃ m6, m6 = (codes ++ [codeM s (s.pos + 1) x]).length := ⟨_, rfl⟩; rw [← hm6] at e6; subst e6; clear hm6 r1 r2 r3))
      go_roundw
      case rel => exact ⟨k + 1, ca6, cn6, cc6, da6, dn6, dc6, a6, m6, c6, by omega, by go_num, rfl, by rw [HK.out]; exact H6'.out⟩
      case measure => simp [intOf]; omega
    · have hkn : k = nl := by omega
      subst hkn
      have HR2 : Hid (LgI w2 P (playM ⟨p, cs, ds⟩ es).1 ca' cn' cc' da' dn' dc' (.slice a m c) (playM ⟨p, cs, ds⟩ es).2 wr) := by
        have h := HR.out
        rw [List.take_of_length_le (by rw [HLN.out]; exact Nat.le_refl _)] at h
        exact h
      have HFW : Hid ((playM ⟨p, cs, ds⟩ es).1.cells.length * 64 ≤ 140737488351232 ∧ (playM ⟨p, cs, ds⟩ es).1.dones.length * 32 ≤ 140737488351232) := by
        have hfw := playM_few es l (s := ⟨p, cs, ds⟩) ⟨HM.out.asc, HM.out.ascD⟩ HES.out
        rw [HLN.out] at hfw
        simp only at hfw
        have := HFE.out
        exact ⟨by omega, by omega⟩
      clear HR
      have HRA := put_by (HX3.out wr HR2.out.pl.below)
      obtain ⟨z0, -⟩ := HR2.out.pl.var 0 _ rfl
      obtain ⟨z1, -⟩ := HR2.out.pl.var 1 _ rfl
      obtain ⟨z2, -⟩ := HR2.out.pl.var 2 _ rfl
      obtain ⟨o0, p0⟩ := HRA.out.1 0 _ rfl
      obtain ⟨o1, p1⟩ := HRA.out.1 1 _ rfl
      obtain ⟨o2, p2⟩ := HRA.out.1 2 _ rfl
      have ikk : ¬ (k : Int) < (k : Int) := by omega
      obtain ⟨q, hq⟩ : ∃ q, q = (playM ⟨p, cs, ds⟩ es).1.pos := ⟨_, rfl⟩
      rw [← hq] at z0
      have HQ := put_by hq
      clear hq
      have HF := put_by (three_set (N := w.heap.size) HRA.out.1 (by have := HAE.out; omega) (.int .i64 q) (.slice ca' cn' cc') (.slice da' dn' dc'))
      go_wp2
      generalize ((wr.setCell _ _).setCell _ _).setCell _ _ = W9 at HF ⊢
      obtain ⟨v0, -⟩ := HF.out.1 0 _ rfl
      obtain ⟨v1, -⟩ := HF.out.1 1 _ rfl
      obtain ⟨v2, -⟩ := HF.out.1 2 _ rfl
      go_wp2
      have HE : PlPost ⟨p, cs, ds⟩ es w (.returned (.tuple #[.agg #[.int .i64 q, .slice ca' cn' cc', .slice da' dn' dc'], .slice a m c, .int .i64 0])) W9 := by
        have h1 := HR2.out
        have hk : ∀ b, w2.heap.size ≤ b → b < wr.heap.size → W9.heap[b]? = wr.heap[b]? := fun b hb _ => HF.out.2.2 b (by have := HAL.out; omega)
        obtain ⟨e2, l2, -, -⟩ := rows_lies h1.codes (fun _ _ => trivial)
        have hww : w.heap.size ≤ w2.heap.size := HX2.out.2.2.1.size
        have kd : Lies kDn (fun b => w.heap.size ≤ b) W9 da' dc' (playM ⟨p, cs, ds⟩ es).1.dones := by
          have h2 := dn_rows (ok2 := fun b => w.heap.size ≤ b) h1.pl.dones (fun g e => hk g (rows_lt h1.pl.dones g e).1 (rows_lt h1.pl.dones g e).2)
          exact (rows_lies h2 (fun _ h => Nat.le_trans hww h)).2.1
        have kn : Lies kNum (fun b => w.heap.size ≤ b) W9 a c (playM ⟨p, cs, ds⟩ es).2 := by
          have h2 := num_rows (ok2 := fun b => w.heap.size ≤ b) h1.codes (fun g e => hk g (rows_lt h1.codes g e).1 (rows_lt h1.codes g e).2)
          exact (rows_lies h2 (fun _ h => Nat.le_trans hww h)).2.1
        refine ⟨ca', cn', cc', da', dn', dc', a, m, c, by rw [HQ.out], h1.pl.lenc, h1.pl.lend, e2, ⟨?_, kd, HFW.out⟩, kn, HRA.out.2.trans HF.out.2.1⟩
        exact h1.pl.cells.move ⟨HF.out.2.1.size, fun b hb ho => hk b ho.2.2 hb⟩ (fun _ _ ho => Nat.le_trans hww ho.2.2)
      exact bodyPost_ret (v := .tuple #[.agg #[.int .i64 q, .slice ca' cn' cc', .slice da' dn' dc'], .slice a m c, .int .i64 0]) (by simp [results, Try.results11, go_sem, asAddr, v0, v1, v2]) rfl (HP.out _ _ HE)

end Go.Proofs.Ytjjdednlddnllaa
