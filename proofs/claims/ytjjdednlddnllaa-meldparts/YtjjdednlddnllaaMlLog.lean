/- A log of wishes: LogOf. -/
import Derived.Test.YtjjdednlddnllaaMeldPlain
import Derived.Test.YtjjdednlddnllaaMlPlays
import Derived.Test.YtjjdednlddnllaaWishesArg
namespace Go.Proofs.Ytjjdednlddnllaa
open Go.ChangeShapes Go.WideShapes Go.ChangeAt Go.RowKit

/-- an intent, in memory -/
def kItt : Kd Itt 5 where
  rel ok w x cs := ∃ ra rc wa wc, cs = [.int .i64 x.client, .int .i64 x.number, .int .i64 x.base, .slice ra x.reads.length rc, .slice wa x.writes.length wc] ∧ Lies kEnt ok w ra rc x.reads ∧ Lies kWt ok w wa wc x.writes
  move hk hok _ _ := by
    rintro ⟨ra, rc, wa, wc, rfl, h1, h2⟩
    exact ⟨ra, rc, wa, wc, rfl, h1.move hk hok, h2.move hk hok⟩
  len := by
    rintro _ _ _ _ ⟨ra, rc, wa, wc, rfl, _, _⟩
    rfl
  one := by
    rintro _ _ _ _ ⟨ra, rc, wa, wc, rfl, _, _⟩ x hx
    simp only [List.mem_cons, List.not_mem_nil, or_false] at hx
    rcases hx with rfl | rfl | rfl | rfl | rfl <;> rfl

theorem eltIt : Elt 47 77 5 72 := ⟨Try.underlying47, by
  obtain ⟨i0, hi, hz0, hz1, hz2⟩ := info_parts (show (Try.prog.info? 77).map (fun i => (i.zero, i.size, i.bytes)) = some (some (.agg #[.int .i64 0, .int .i64 0, .int .i64 0, .slice none 0 0, .slice none 0 0]), 5, 72) by kernel_rfl)
  exact ⟨i0, _, hi, hz0, hz1, hz2, rfl⟩, by decide⟩

theorem eltLg : Elt 27 38 1 24 := ⟨Try.underlying27, by
  obtain ⟨i0, hi, hz0, hz1, hz2⟩ := info_parts (show (Try.prog.info? 38).map (fun i => (i.zero, i.size, i.bytes)) = some (some (.slice none 0 0), 1, 24) by kernel_rfl)
  exact ⟨i0, _, hi, hz0, hz1, hz2, rfl⟩, by decide⟩

/-- the log so far, and the intents that it is of -/
structure LoI (w : World) (l1 : List (List Int)) (l2 : List Itt) (v1 v2 : Value) (V : World) : Prop where
  r1 : Rows kLog (fun b => w.heap.size ≤ b ∧ v2.ownBlock ≠ some b) V w.heap.size 38 v1 l1
  r2 : Rows kItt (fun b => w.heap.size ≤ b ∧ v1.ownBlock ≠ some b) V w.heap.size 77 v2 l2
  apart : ∀ g, v1.ownBlock = some g → v2.ownBlock ≠ some g
  below : Below w.heap.size w V

section
variable {w V V' : World} {l1 l1' : List (List Int)} {l2 l2' : List Itt} {v1 v1' v2 v2' : Value}

theorem LoI.later (h : LoI w l1 l2 v1 v2 V) (hb : Below V.heap.size V V') : LoI w l1 l2 v1 v2 V' := ⟨h.r1.later hb, h.r2.later hb, h.apart, h.below.trans (hb.mono h.below.size)⟩

theorem LoI.more1 (h : LoI w l1 l2 v1 v2 V) (r : Rows kLog (fun b => w.heap.size ≤ b ∧ v2.ownBlock ≠ some b) V' w.heap.size 38 v1' l1') (g : V.grownBy V' v1.ownBlock) (o : v1'.ownBlock = v1.ownBlock ∨ v1'.ownBlock = some (V.heap.size + 1)) : LoI w l1' l2 v1' v2 V' := by
  have hn : ∀ b, b < V.heap.size → v1.ownBlock ≠ some b → v1'.ownBlock ≠ some b := fun b hb h1 h2 => by
    rcases o with e | e
    · exact h1 (e ▸ h2)
    · rw [e] at h2; have := Option.some.inj h2; omega
  refine ⟨r, ?_, fun b e e2 => hn b (rows_lt h.r2 b e2).2 (fun e3 => h.apart b e3 e2) e, below_grown h.below h.below.size g (fun b e => (rows_lt h.r1 b e).1)⟩
  have h2 := h.r2.turned (ok2 := fun b => (w.heap.size ≤ b ∧ v1'.ownBlock ≠ some b) ∧ v1.ownBlock ≠ some b) (fun b hb q => ⟨⟨q.1, hn b hb q.2⟩, q.2⟩)
  exact (h2.move (Kept.of_grown g (fun b hb e => hb.2 e)) (fun b e => g.block b (rows_lt h.r2 b e).2 (fun e2 => h.apart b e2.symm e))).turned (fun b _ q => q.1)

theorem LoI.more2 (h : LoI w l1 l2 v1 v2 V) (r : Rows kItt (fun b => w.heap.size ≤ b ∧ v1.ownBlock ≠ some b) V' w.heap.size 77 v2' l2') (g : V.grownBy V' v2.ownBlock) (o : v2'.ownBlock = v2.ownBlock ∨ v2'.ownBlock = some (V.heap.size + 1)) : LoI w l1 l2' v1 v2' V' := by
  have hn : ∀ b, b < V.heap.size → v2.ownBlock ≠ some b → v2'.ownBlock ≠ some b := fun b hb h1 h2 => by
    rcases o with e | e
    · exact h1 (e ▸ h2)
    · rw [e] at h2; have := Option.some.inj h2; omega
  refine ⟨?_, r, fun b e => hn b (rows_lt h.r1 b e).2 (h.apart b e), below_grown h.below h.below.size g (fun b e => (rows_lt h.r2 b e).1)⟩
  have h2 := h.r1.turned (ok2 := fun b => (w.heap.size ≤ b ∧ v2'.ownBlock ≠ some b) ∧ v2.ownBlock ≠ some b) (fun b hb q => ⟨⟨q.1, hn b hb q.2⟩, q.2⟩)
  exact (h2.move (Kept.of_grown g (fun b hb e => hb.2 e)) (fun b e => g.block b (rows_lt h.r1 b e).2 (fun e2 => h.apart b e e2.symm))).turned (fun b _ q => q.1)

end

/-- intents of wishes, each based on what is ahead of it -/
def LogJ (n : Nat) (js : List Itt) : Prop := js.length ≤ n ∧ (∀ x ∈ js, Mild x) ∧ ∀ i (h : i < js.length), js[i].base ≤ (i : Int)

theorem LogJ.nil (n : Nat) : LogJ n [] := ⟨Nat.zero_le _, (fun _ h => by cases h), fun _ h => absurd h (Nat.not_lt_zero _)⟩

theorem LogJ.snoc {k : Nat} {js : List Itt} (h : LogJ k js) (hk : js.length = k) {x : Itt} (hx : Mild x) (hb : x.base ≤ (k : Int)) : LogJ (k + 1) (js ++ [x]) := by
  refine ⟨by rw [List.length_append]; simp only [List.length_cons, List.length_nil]; omega, fun y hy => ?_, fun i hi => ?_⟩
  · rcases List.mem_append.1 hy with h1 | h1
    · exact h.2.1 y h1
    · rw [List.mem_singleton.1 h1]; exact hx
  · by_cases h1 : i < js.length
    · rw [List.getElem_append_left h1]; exact h.2.2 i h1
    · have h2 : i = js.length := by rw [List.length_append] at hi; simp only [List.length_cons, List.length_nil] at hi; omega
      subst h2
      rw [List.getElem_append_right (Nat.le_refl _)]
      simp only [Nat.sub_self, List.getElem_cons_zero]
      omega

/-- what a log of wishes comes to -/
def LoPost (n : Nat) (w : World) (e : Ending) (w' : World) : Prop := ∃ (oa : Option Addr) (on oc : Nat) (xa : Option Addr) (xn xc : Nat), e = .returned (.tuple #[.slice oa on oc, .slice xa xn xc, .bool true]) ∧ ∃ js : List Itt, LogJ n js ∧ on = js.length ∧ xn = js.length ∧ Lies kLog (fun b => w.heap.size ≤ b) w' oa oc (js.map encI) ∧ Ples oa oc ∧ Lies kItt (fun b => w.heap.size ≤ b) w' xa xc js ∧ Below w.heap.size w w'

set_option maxRecDepth 100000 in
set_option maxHeartbeats 2000000 in
theorem LogOf_any (l : List Wsh) (la : Option Addr) (lc : Nat) (n : Nat) (hn : n ≤ 1000) (w : World) (hL : Lies kWi (fun _ => True) w la lc l) :
    Calls Try.prog 24 #[.slice la l.length lc, .int .i64 n] w fun e w' => LoPost n w e w' := by
  generalize hpost : (fun e w' => LoPost n w e w') = Q
  have HO : Hid (∀ w', ¬ Q .outgrown w') := fun w' hh => by
    rw [← hpost] at hh
    obtain ⟨_, _, _, _, _, _, h, -⟩ := hh
    cases h
  have HP : Hid (∀ e w', LoPost n w e w' → Q e w') := fun e w' h => by rw [← hpost]; exact h
  clear hpost
  obtain ⟨nl, hnl⟩ : ∃ n, n = l.length := ⟨_, rfl⟩
  rw [← hnl]
  have HL := put_by hL
  have HN := put_by hnl
  clear hL hnl
  go_enter Try.func24, Try.ntmps24
  go_upto_region 4 with (fail)
  go_loopw [7, 8, 9] (fun u v i wr => ∃ (k : Nat) (a1 : Option Addr) (m1 c1 : Nat) (a2 : Option Addr) (m2 c2 : Nat), k ≤ nl ∧ k ≤ n ∧ i = .int .i64 k ∧ u = .slice a1 m1 c1 ∧ v = .slice a2 m2 c2 ∧ Hid (∃ js : List Itt, js.length = k ∧ LogJ k js ∧ LoI w (js.map encI) js (.slice a1 m1 c1) (.slice a2 m2 c2) wr)) (fun _ _ i _ => nl - (intOf i).toNat)
  case atStart => exact ⟨0, none, 0, 0, none, 0, 0, Nat.zero_le _, Nat.zero_le _, rfl, rfl, rfl, [], rfl, LogJ.nil _, Rows.nil _ _ _ _ _, Rows.nil _ _ _ _ _, (fun _ e => by cases e), Below.refl _ _⟩
  case round =>
    obtain ⟨k, a1, m1, c1, a2, m2, c2, hk, hkn, rfl, rfl, rfl, HR⟩ := hrel
    rename World => wr
    obtain ⟨js, hjk, hJ, hI⟩ := HR.out
    have HJ := put_by (And.intro hjk hJ)
    have HI := put_by hI
    clear HR hjk hJ hI
    by_cases hlt : k < nl ∧ k < n
    · obtain ⟨hlt1, hlt2⟩ := hlt
      have hx : k < l.length := by rw [← HN.out]; exact hlt1
      obtain ⟨bb, off, xa, xc, ya, yc, rfl, hx1, hx2, hc⟩ := wi_at HL.out hx
      obtain ⟨d0, d1, d2, d3, d4, d5⟩ := hc wr HI.out.below
      have HD2 : Hid (∀ V, Below w.heap.size w V → V.cell? ⟨bb, off + k * 6 + 2, none⟩ = some (.int .i64 (l[k]).s)) := fun V hV => (hc V hV).2.2.1
      have ik : (k : Int) < (nl : Int) := by omega
      have ik2 : (k : Int) < (n : Int) := by omega
      have iw : IntKind.i64.wrap ((k : Int) + 1) = (k : Int) + 1 := by rw [IntKind.wrap_i64]; omega
      have cO := put_by (IntentOf_any (l[k]).c (l[k]).n (l[k]).s (l[k]).xs (l[k]).ys xa ya xc yc (l[k]).g wr (hx1.later HI.out.below) (hx2.later HI.out.below))
      clear hc hx1 hx2
      generalize (l[k]).c = wc' at d0 cO
      generalize (l[k]).n = wn' at d1 cO
      generalize (l[k]).s = ws' at d2 cO HD2
      generalize (l[k]).g = wg' at d5 cO
      generalize (l[k]).xs.length = nx' at d3 cO
      generalize (l[k]).ys.length = ny' at d4 cO
      go_upto_region 7 with (first
        | (go_at_call 43; (with_reducible refine cO.out.mono ?_); clear cO; rintro e w1 ⟨C, N, B, ra, rn, rc, wa, wn, wc, rfl, hb, rs, ws, g2, g3, g4, g5⟩; have H1 := put_by hb; have H1i := put_by (And.intro g2 (And.intro g3 (And.intro g4 g5))); clear hb g2 g3 g4 g5))
      obtain ⟨z, hz⟩ : ∃ z, z = ws' % ((k : Int) + 1) := ⟨_, rfl⟩
      have hz0 : 0 ≤ z := by rw [hz]; exact Int.emod_nonneg _ (by omega)
      have hz1 : z < (k : Int) + 1 := by rw [hz]; exact Int.emod_lt_of_pos _ (by omega)
      have cP : Hid (∀ V, Calls Try.prog 25 #[.int .i64 ws', .int .i64 ((k : Int) + 1)] V fun e w' => e = .returned (.int .i64 z) ∧ V = w') := fun V => by rw [hz]; exact Picked_any ws' _ (by omega) (by omega) V
      have hb2 : Below w1.heap.size w1 (w1.alloc (.cells #[.int .i64 C, .int .i64 N, .int .i64 B, .slice ra rn rc, .slice wa wn wc] 77)) := (Below.refl _ w1).alloc (Nat.le_refl _) _
      have hb3 : Below w1.heap.size w1 ((w1.alloc (.cells #[.int .i64 C, .int .i64 N, .int .i64 B, .slice ra rn rc, .slice wa wn wc] 77)).setCell ⟨w1.heap.size, 2, none⟩ (.int .i64 z)) := hb2.setCell (Nat.le_refl _) _
      have HX2 := put_by (Cls.new w1 [.int .i64 C, .int .i64 N, .int .i64 B, .slice ra rn rc, .slice wa wn wc] 77)
      have HX3 : Hid (Cls ((w1.alloc (.cells #[.int .i64 C, .int .i64 N, .int .i64 B, .slice ra rn rc, .slice wa wn wc] 77)).setCell ⟨w1.heap.size, 2, none⟩ (.int .i64 z)) w1.heap.size [.int .i64 C, .int .i64 N, .int .i64 z, .slice ra rn rc, .slice wa wn wc]) := HX2.out.set (k := 2) _
      have HL3 := put_by ((HI.out.later H1.out).later hb3)
      have HI3 := put_by (H1i.out.2.2.1.later hb3)
      have d2' := HD2.out _ (HI.out.below.trans ((H1.out.trans (hb2.mono H1.out.size)).mono HI.out.below.size))
      have HG : Hid (rn = rs.length ∧ wn = ws.length ∧ Mild ⟨C, N, z, rs, ws⟩ ∧ wr.heap.size ≤ w1.heap.size ∧ w1.heap.size < ((w1.alloc (.cells #[.int .i64 C, .int .i64 N, .int .i64 B, .slice ra rn rc, .slice wa wn wc] 77)).setCell ⟨w1.heap.size, 2, none⟩ (.int .i64 z)).heap.size) := ⟨H1i.out.1, H1i.out.2.1, ⟨H1i.out.2.2.2.client, H1i.out.2.2.2.number, ⟨hz0, by show z ≤ 1000; omega⟩, H1i.out.2.2.2.few, H1i.out.2.2.2.reads, H1i.out.2.2.2.writes, H1i.out.2.2.2.asc⟩, H1.out.size, by simp⟩
      clear d0 d1 d2 d3 d4 d5 hb2 hb3 H1 H1i hz
      generalize w1.heap.size = X at HX2 HX3 HL3 HI3 HG d2' ⊢
      generalize w1.alloc (.cells #[.int .i64 C, .int .i64 N, .int .i64 B, .slice ra rn rc, .slice wa wn wc] _) = W2 at HX2 HX3 HL3 HI3 HG d2' ⊢
      obtain ⟨y2, f2⟩ := HX2.out 2 _ rfl
      go_upto_region 8 with (first
        | (go_at_call 25; (with_reducible refine (cP.out _).mono ?_); clear cP; rintro e w3 ⟨rfl, rfl⟩))
      clear y2 f2 d2' HX2
      generalize W2.setCell ⟨X, 2, none⟩ (.int .i64 z) = W3 at HX3 HL3 HI3 HG ⊢
      obtain ⟨x0, -⟩ := HX3.out 0 _ rfl
      obtain ⟨x1, -⟩ := HX3.out 1 _ rfl
      obtain ⟨x2, -⟩ := HX3.out 2 _ rfl
      obtain ⟨x3, -⟩ := HX3.out 3 _ rfl
      obtain ⟨x4, -⟩ := HX3.out 4 _ rfl
      obtain ⟨L, hL⟩ : ∃ L, L = (encI ⟨C, N, z, rs, ws⟩).length := ⟨_, rfl⟩
      have hL20 : 20 ≤ L := by rw [hL]; exact encI_twenty _
      have HLL := put_by hL
      have cE : Hid (Calls Try.prog 44 #[.agg #[.int .i64 C, .int .i64 N, .int .i64 z, .slice ra rn rc, .slice wa wn wc]] W3 fun e w' => ∃ (b off k : Nat), e = .returned (.tuple #[.slice (some ⟨b, off, none⟩) L k, .int .i64 0]) ∧ Hid (Octs w' (some ⟨b, off, none⟩) k (encI ⟨C, N, z, rs, ws⟩) ∧ (W3.heap.size ≤ b ∧ b < w'.heap.size) ∧ Below W3.heap.size W3 w')) := by
        have hE := Encode_any _ C N z rs ws ra rc wa wc W3 HI3.out
        rw [← HG.out.1, ← HG.out.2.1] at hE
        refine hE.mono ?_
        rintro e w' ⟨zs, ecode, a6, m6, k6, rfl, h1, h2, h3, h4, h5⟩
        have h8 : EncIs ⟨C, N, z, rs, ws⟩ (encI ⟨C, N, z, rs, ws⟩) 0 := .inr (.inr ⟨HG.out.2.2.1.may, by have := HG.out.2.2.1.short; omega, rfl, rfl⟩)
        obtain ⟨rfl, rfl⟩ := h1.one h8
        have h20 := encI_twenty ⟨C, N, z, rs, ws⟩
        obtain ⟨b, off, rfl, -⟩ := h3.at (k := 0) (by omega)
        exact ⟨b, off, k6, by rw [h2, hL], h3, ⟨h4 _ rfl, h3.blocks (fun e => by rw [e] at h20; simp at h20) _ rfl⟩, h5⟩
      clear hL
      have hL0 : ¬ (L : Int) = 0 := by omega
      go_upto_region 11 with (first
        | (go_at_call 44; (with_reducible refine cE.out.mono ?_); clear cE; rintro e w8 ⟨b, off8, q, rfl, H8⟩))
      clear x0 x1 x2 x3 x4
      have HL8 := put_by (HL3.out.later H8.out.2.2)
      have HX8 := put_by (HX3.out.later H8.out.2.2)
      have HI8 := put_by (HI3.out.later H8.out.2.2)
      have HLT : Hid ((∀ g, (Value.slice a1 m1 c1).ownBlock = some g → g < wr.heap.size) ∧ (∀ g, (Value.slice a2 m2 c2).ownBlock = some g → g < wr.heap.size) ∧ wr.heap.size ≤ X ∧ X < W3.heap.size ∧ w.heap.size ≤ wr.heap.size ∧ W3.heap.size ≤ w8.heap.size) := ⟨fun g e => (rows_lt HI.out.r1 g e).2, fun g e => (rows_lt HI.out.r2 g e).2, HG.out.2.2.2.1, HG.out.2.2.2.2, HI.out.below.size, H8.out.2.2.size⟩
      have HR1 : Hid (kLog.rel (fun b => (w.heap.size ≤ b ∧ (Value.slice a2 m2 c2).ownBlock ≠ some b) ∧ (Value.slice a1 m1 c1).ownBlock ≠ some b) w8 (encI ⟨C, N, z, rs, ws⟩) [.slice (some ⟨b, off8, none⟩) L q]) := by
        have h0 := H8.out.2.1
        have h1 := HLT.out
        exact ⟨some ⟨b, off8, none⟩, q, by rw [HLL.out], H8.out.1, Ples.some _ _ _, fun ad e => by cases e; exact ⟨⟨⟨by show _ ≤ b; omega, fun e => by have h9 : b < _ := h1.2.1 b e; omega⟩, fun e => by have h9 : b < _ := h1.1 b e; omega⟩, h0.2⟩⟩
      have HLN : Hid ((js.map encI).length + 1 ≤ 1001 ∧ js.length + 1 ≤ 1001) := by have h1 := HJ.out.1; exact ⟨by rw [List.length_map]; omega, by omega⟩
      go_upto_region 12 with (first
        | (at_builtin; refine wpList_append_oneB (K := kLog) (ok := fun b => w.heap.size ≤ b ∧ (Value.slice a2 m2 c2).ownBlock ≠ some b) eltLg rfl (.tmp 50) (.tmp 52) rfl w.heap.size (.slice a1 m1 c1) (js.map encI) rfl HL8.out.r1 (encI ⟨C, N, z, rs, ws⟩) [.slice (some ⟨b, off8, none⟩) L q] _ _ rfl rfl HR1.out (fun b hb => ⟨Nat.le_trans HL8.out.below.size hb, fun e => by have h9 := HLT.out.2.1 b e; have h8 := HLT.out; omega⟩) (by have := HLN.out.1; omega) (by decide) HL8.out.below.size ?_; intro v9 w9 r1 r2 r3; have H9 := put_by (HL8.out.more1 r1 r2 r3); have H9g := put_by (And.intro r2 r3); obtain ⟨a9, c9, e9⟩ := rows_form r1; obtain ⟨m9, hm9⟩ : ∃ m9, m9 = (js.map encI ++ [encI ⟨C, N, z, rs, ws⟩]).length := ⟨_, rfl⟩; rw [← hm9] at e9; subst e9; clear hm9 r1 r2 r3))
      have HX9 := put_by (HX8.out.block (fun hb => H9g.out.1.block _ hb (fun e => by have h9 := HLT.out.1 X e.symm; have h8 := HLT.out; omega)))
      have HR2 : Hid (kItt.rel (fun b => (w.heap.size ≤ b ∧ (Value.slice a9 m9 c9).ownBlock ≠ some b) ∧ (Value.slice a2 m2 c2).ownBlock ≠ some b) w9 ⟨C, N, z, rs, ws⟩ [.int .i64 C, .int .i64 N, .int .i64 z, .slice ra rn rc, .slice wa wn wc]) := by
        have h1 := HLT.out
        have hk : Kept (fun b => wr.heap.size ≤ b) w8 w9 := Kept.of_grown H9g.out.1 (fun b hb e => by have h9 := h1.1 b e; omega)
        have ho : ∀ b, b < w8.heap.size → wr.heap.size ≤ b → (w.heap.size ≤ b ∧ (Value.slice a9 m9 c9).ownBlock ≠ some b) ∧ (Value.slice a2 m2 c2).ownBlock ≠ some b := fun b hb hw => ⟨⟨by omega, fun e => by
          rcases H9g.out.2 with h3 | h3
          · rw [h3] at e; have h9 := h1.1 b e; omega
          · rw [h3] at e; have := Option.some.inj e; omega⟩, fun e => by have h9 := h1.2.1 b e; omega⟩
        exact ⟨ra, rc, wa, wc, by rw [HG.out.1, HG.out.2.1], HI8.out.reads.move hk ho, HI8.out.writes.move hk ho⟩
      obtain ⟨x0, -⟩ := HX9.out 0 _ rfl
      obtain ⟨x1, -⟩ := HX9.out 1 _ rfl
      obtain ⟨x2, -⟩ := HX9.out 2 _ rfl
      obtain ⟨x3, -⟩ := HX9.out 3 _ rfl
      obtain ⟨x4, -⟩ := HX9.out 4 _ rfl
      have HJ2 : Hid ((js ++ [(⟨C, N, z, rs, ws⟩ : Itt)]).length = k + 1 ∧ LogJ (k + 1) (js ++ [(⟨C, N, z, rs, ws⟩ : Itt)])) := ⟨by rw [List.length_append, HJ.out.1]; rfl, HJ.out.2.snoc HJ.out.1 HG.out.2.2.1 (by show z ≤ _; omega)⟩
      have HMP : Hid (js.map encI ++ [encI ⟨C, N, z, rs, ws⟩] = (js ++ [(⟨C, N, z, rs, ws⟩ : Itt)]).map encI) := by show _ = _; simp
      go_wp2_with (first
        | (at_builtin; refine wpList_append_oneB (K := kItt) (ok := fun b => w.heap.size ≤ b ∧ (Value.slice a9 m9 c9).ownBlock ≠ some b) eltIt rfl (.tmp 54) (.tmp 56) rfl w.heap.size (.slice a2 m2 c2) js rfl H9.out.r2 ⟨C, N, z, rs, ws⟩ [.int .i64 C, .int .i64 N, .int .i64 z, .slice ra rn rc, .slice wa wn wc] _ _ rfl rfl HR2.out (fun b hb => ⟨Nat.le_trans H9.out.below.size hb, fun e => by have h9 := (rows_lt H9.out.r1 b e).2; omega⟩) (by have := HLN.out.2; omega) (by decide) H9.out.below.size ?_; intro v10 w10 r1 r2 r3; have H10 := put_by (H9.out.more2 r1 r2 r3); obtain ⟨a10, c10, e10⟩ := rows_form r1; obtain ⟨m10, hm10⟩ : ∃ m10, m10 = (js ++ [(⟨C, N, z, rs, ws⟩ : Itt)]).length := ⟨_, rfl⟩; rw [← hm10] at e10; subst e10; clear hm10 r1 r2 r3))
      go_roundw
      case rel => exact ⟨k + 1, a9, m9, c9, a10, m10, c10, by omega, by omega, by go_num, rfl, rfl, _, HJ2.out.1, HJ2.out.2, by rw [← HMP.out]; exact H10.out⟩
      case measure => simp [intOf]; omega
    · have HE : Hid (LoPost n w (.returned (.tuple #[.slice a1 m1 c1, .slice a2 m2 c2, .bool true])) wr) := by
        obtain ⟨e1, l1, p1, -⟩ := rows_lies (ok := fun b => w.heap.size ≤ b) (HI.out.r1.turned (fun b _ q => q.1)) (fun _ h => h)
        obtain ⟨e2, l2, -, -⟩ := rows_lies (ok := fun b => w.heap.size ≤ b) (HI.out.r2.turned (fun b _ q => q.1)) (fun _ h => h)
        exact ⟨a1, m1, c1, a2, m2, c2, rfl, js, ⟨by rw [HJ.out.1]; exact hkn, HJ.out.2.2⟩, by rw [e1, List.length_map], e2, l1, p1, l2, HI.out.below⟩
      have HE2 := put_by (HP.out _ _ HE.out)
      clear HP HE HI HJ
      by_cases h1 : k < nl
      · have ik : (k : Int) < (nl : Int) := by omega
        have ik2 : ¬ (k : Int) < (n : Int) := by omega
        go_wp2
        exact HE2.out
      · have ik : ¬ (k : Int) < (nl : Int) := by omega
        go_wp2
        exact HE2.out

end Go.Proofs.Ytjjdednlddnllaa
