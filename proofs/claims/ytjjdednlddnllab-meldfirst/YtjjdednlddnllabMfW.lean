/- Of two that read what the other writes the first one is kept: the walk. -/
import Derived.Test.YtjjdednlddnllabFirstP
namespace Go.Proofs.Ytjjdednlddnllab
open Go.ChangeShapes Go.WideShapes Go.ChangeAt Go.RowKit

/-- an intent's bytes, whatever intent may be -/
theorem Encode_lg {V : World} {ok : Nat → Prop} {C N B : Int} {rs : List Ent} {ws : List Wt} {ra : Option Addr} {rn rc : Nat} {wa : Option Addr} {wn wc : Nat} (h1 : Lies kEnt ok V ra rc rs) (h2 : Lies kWt ok V wa wc ws) (h3 : rn = rs.length) (h4 : wn = ws.length) (hM : MayI ⟨C, N, B, rs, ws⟩) (hs : (encI ⟨C, N, B, rs, ws⟩).length ≤ 4000) (L : Nat) (hL : L = (encI ⟨C, N, B, rs, ws⟩).length) :
    Calls Try.prog 23 #[.agg #[.int .i64 C, .int .i64 N, .int .i64 B, .slice ra rn rc, .slice wa wn wc]] V fun e w' => ∃ (b off k : Nat), e = .returned (.tuple #[.slice (some ⟨b, off, none⟩) L k, .int .i64 0]) ∧ Hid (kLog.rel (fun b => V.heap.size ≤ b) w' (encI ⟨C, N, B, rs, ws⟩) [.slice (some ⟨b, off, none⟩) L k] ∧ Below V.heap.size V w') := by
  subst h3 h4 hL
  refine (Encode_any ok C N B rs ws ra rc wa wc V ⟨h1, h2, by have := hM.few; have h5 : rs.length ≤ 400 := this.1; have h6 : ws.length ≤ 400 := this.2; omega⟩).mono ?_
  rintro e w' ⟨zs, ecode, a6, m6, k6, rfl, h1, h2, h3, h4, h5⟩
  have h8 : EncIs ⟨C, N, B, rs, ws⟩ (encI ⟨C, N, B, rs, ws⟩) 0 := .inr (.inr ⟨hM, hs, rfl, rfl⟩)
  obtain ⟨rfl, rfl⟩ := h1.one h8
  have h20 := encI_twenty ⟨C, N, B, rs, ws⟩
  obtain ⟨b, off, rfl, -⟩ := h3.at (k := 0) (by omega)
  exact ⟨b, off, k6, by rw [h2], ⟨_, k6, rfl, h3, Ples.some _ _ _, fun ad e => ⟨h4 ad e, h3.blocks (fun e => by rw [e] at h20; simp at h20) _ e⟩⟩, h5⟩

/-- the two cells of a variable set anew -/
theorem two_set {W : World} {A N : Nat} {u0 u1 : Value} (hA : Cls W A [u0, u1]) (hN : N ≤ A) (v0 v1 : Value) :
    Cls ((W.setCell ⟨A, 0, none⟩ v0).setCell ⟨A, 1, none⟩ v1) A [v0, v1] ∧ Below N W ((W.setCell ⟨A, 0, none⟩ v0).setCell ⟨A, 1, none⟩ v1) ∧ ∀ g, g ≠ A → ((W.setCell ⟨A, 0, none⟩ v0).setCell ⟨A, 1, none⟩ v1).heap[g]? = W.heap[g]? := by
  refine ⟨(hA.set (k := 0) v0).set (k := 1) v1, ((Below.refl N W).setCell hN _).setCell hN _, fun g hg => ?_⟩
  rw [Below.heap_setCell _ _ _ _ hg, Below.heap_setCell _ _ _ _ hg]

theorem body_of {w : World} {ok : Nat → Prop} {b k : Nat} {xs : List Int} {n : Nat} (ho : Octs w (some ⟨b, 0, none⟩) k xs) (hn : n = xs.length) (hb : ok b) : IsBody w ok (.slice (some ⟨b, 0, none⟩) n k) xs := ⟨_, k, by rw [hn], ho, fun _ ad e => by cases e; exact hb⟩

set_option maxRecDepth 100000 in
set_option maxHeartbeats 2000000 in
/-- what reads a spot alone -/
theorem readK_any (x : Int) (h0 : 0 ≤ x) (h1 : x < 12) (w : World) :
    Calls Try.prog 21 #[.int .i64 x] w fun e w' => ∃ (lo hi : Value), e = .returned (.agg #[lo, hi]) ∧ Hid (IsBody w' (fun b => w.heap.size < b) lo [115, x] ∧ IsBody w' (fun b => w.heap.size < b) hi [115, x, 0] ∧ Below w.heap.size w w') := by
  generalize hpost : (fun (e : Ending) (w' : World) => ∃ (lo hi : Value), e = .returned (.agg #[lo, hi]) ∧ Hid (IsBody w' (fun b => w.heap.size < b) lo [115, x] ∧ IsBody w' (fun b => w.heap.size < b) hi [115, x, 0] ∧ Below w.heap.size w w')) = Q
  have HP : Hid (∀ lo hi w', IsBody w' (fun b => w.heap.size < b) lo [115, x] ∧ IsBody w' (fun b => w.heap.size < b) hi [115, x, 0] ∧ Below w.heap.size w w' → Q (.returned (.agg #[lo, hi])) w') := fun lo hi w' h => by rw [← hpost]; exact ⟨lo, hi, rfl, h⟩
  clear hpost
  have hw : IntKind.u8.wrap x = x := by rw [IntKind.wrap_u8]; omega
  have hb0 : Below w.heap.size w (w.alloc (.cells #[.slice none 0 0, .slice none 0 0] 41)) := (Below.refl _ w).alloc (Nat.le_refl _) _
  have HV := put_by (Cls.new w [.slice none 0 0, .slice none 0 0] 41)
  have HZ : Hid ((w.alloc (.cells #[.slice none 0 0, .slice none 0 0] 41)).heap.size = w.heap.size + 1) := by simp [Hid]
  have HB0 := put_by hb0
  have c1 := put_by (spot_any x h0 h1 (w.alloc (.cells #[.slice none 0 0, .slice none 0 0] 41)))
  clear hb0
  go_enter Try.func21, Try.ntmps21
  go_upto_region 1 with (fail)
  generalize w.alloc (.cells #[.slice none 0 0, .slice none 0 0] _) = W0 at HV HZ HB0 c1 ⊢
  have HL : Hid (∀ (w1 : World) (b c : Nat), Octs w1 (some ⟨b, 0, none⟩) c [115, x] → W0.heap.size ≤ b → Below W0.heap.size W0 w1 → Cls (w1.alloc (.cells #[.int .u8 115, .int .u8 x, .int .u8 0] 5)) w.heap.size [.slice none 0 0, .slice none 0 0] ∧ (Cls (((w1.alloc (.cells #[.int .u8 115, .int .u8 x, .int .u8 0] 5)).setCell ⟨w.heap.size, 0, none⟩ (.slice (some ⟨b, 0, none⟩) 2 c)).setCell ⟨w.heap.size, 1, none⟩ (.slice (some ⟨w1.heap.size, 0, none⟩) 3 3)) w.heap.size [.slice (some ⟨b, 0, none⟩) 2 c, .slice (some ⟨w1.heap.size, 0, none⟩) 3 3] ∧ (IsBody (((w1.alloc (.cells #[.int .u8 115, .int .u8 x, .int .u8 0] 5)).setCell ⟨w.heap.size, 0, none⟩ (.slice (some ⟨b, 0, none⟩) 2 c)).setCell ⟨w.heap.size, 1, none⟩ (.slice (some ⟨w1.heap.size, 0, none⟩) 3 3)) (fun b => w.heap.size < b) (.slice (some ⟨b, 0, none⟩) 2 c) [115, x] ∧ IsBody (((w1.alloc (.cells #[.int .u8 115, .int .u8 x, .int .u8 0] 5)).setCell ⟨w.heap.size, 0, none⟩ (.slice (some ⟨b, 0, none⟩) 2 c)).setCell ⟨w.heap.size, 1, none⟩ (.slice (some ⟨w1.heap.size, 0, none⟩) 3 3)) (fun b => w.heap.size < b) (.slice (some ⟨w1.heap.size, 0, none⟩) 3 3) [115, x, 0] ∧ Below w.heap.size w (((w1.alloc (.cells #[.int .u8 115, .int .u8 x, .int .u8 0] 5)).setCell ⟨w.heap.size, 0, none⟩ (.slice (some ⟨b, 0, none⟩) 2 c)).setCell ⟨w.heap.size, 1, none⟩ (.slice (some ⟨w1.heap.size, 0, none⟩) 3 3))))) := by
    intro w1 b c ho hb hw1
    have hba : Below w1.heap.size w1 (w1.alloc (.cells #[.int .u8 115, .int .u8 x, .int .u8 0] 5)) := (Below.refl _ _).alloc (Nat.le_refl _) _
    have hz := HZ.out
    have hs := hw1.size
    have hv := (HV.out.later hw1).later hba
    have ho2 := octs_alloc w1 [115, x, 0] 3 5 (0, 0) #[.int .u8 115, .int .u8 x, .int .u8 0] rfl (by simp) (by simp) (fun y hy => by simp only [List.mem_cons, List.not_mem_nil, or_false] at hy; rcases hy with rfl | rfl | rfl <;> omega)
    have ho1 := ho.later hba
    obtain ⟨s1, s2, s3⟩ := two_set (N := w.heap.size) hv (Nat.le_refl _) (.slice (some ⟨b, 0, none⟩) 2 c) (.slice (some ⟨w1.heap.size, 0, none⟩) 3 3)
    have hkk : Kept (fun b => w.heap.size < b) (w1.alloc (.cells #[.int .u8 115, .int .u8 x, .int .u8 0] 5)) (((w1.alloc (.cells #[.int .u8 115, .int .u8 x, .int .u8 0] 5)).setCell ⟨w.heap.size, 0, none⟩ (.slice (some ⟨b, 0, none⟩) 2 c)).setCell ⟨w.heap.size, 1, none⟩ (.slice (some ⟨w1.heap.size, 0, none⟩) 3 3)) := ⟨s2.size, fun g _ hg => s3 g (by have h9 : w.heap.size < g := hg; omega)⟩
    refine ⟨hv, s1, (body_of ho1 rfl (by show w.heap.size < b; omega)).move hkk (fun _ _ h => h), (body_of ho2 rfl (by show w.heap.size < w1.heap.size; omega)).move hkk (fun _ _ h => h), ?_⟩
    exact (HB0.out.trans ((hw1.trans (hba.mono hw1.size)).mono HB0.out.size)).trans s2
  go_wp2_with (first
    | (go_at_call 22; (with_reducible refine c1.out.mono ?_); clear c1; rintro e w1 ⟨b, c, rfl, ho, hb, hw1⟩; have HF := put_by (HL.out w1 b c ho hb hw1).2; obtain ⟨hv, -⟩ := HL.out w1 b c ho hb hw1; obtain ⟨t0, f0⟩ := hv 0 _ rfl; obtain ⟨t1, f1⟩ := hv 1 _ rfl; clear hv ho hb hw1))
  generalize (World.setCell (World.setCell _ _ _) _ _) = WE at HF ⊢
  obtain ⟨v0, -⟩ := HF.out.1 0 _ rfl
  obtain ⟨v1, -⟩ := HF.out.1 1 _ rfl
  exact bodyPost_ret (v := .agg #[.slice (some ⟨b, 0, none⟩) 2 c, .slice (some ⟨w1.heap.size, 0, none⟩) 3 3]) (by simp [results, Try.results21, go_sem, asAddr, v0, v1]) rfl (HP.out _ _ _ HF.out.2)

/-- an intent of one read and one write, in memory -/
structure OnI (c n x v : Int) (X ra wa : Nat) (V : World) : Prop where
  var : Cls V X [.int .i64 c, .int .i64 1, .int .i64 n, .slice (some ⟨ra, 0, none⟩) 1 1, .slice (some ⟨wa, 0, none⟩) 1 1]
  reads : Lies kEnt (fun _ => True) V (some ⟨ra, 0, none⟩) 1 [([115, x], [115, x, 0])]
  writes : Lies kWt (fun _ => True) V (some ⟨wa, 0, none⟩) 1 [⟨[115, x], [v], false⟩]

theorem OnI.later {c n x v : Int} {X ra wa : Nat} {V V' : World} (h : OnI c n x v X ra wa V) (hb : Below V.heap.size V V') : OnI c n x v X ra wa V' := ⟨h.var.later hb, h.reads.later hb, h.writes.later hb⟩

theorem one_laid {w2 w3 : World} {c n x v : Int} {lo hi : Value} {b k : Nat} {ty1 ty3 ty4 : TypeId} (hv : 0 ≤ v ∧ v ≤ 255) (h1 : IsBody w2 (fun _ => True) lo [115, x]) (h2 : IsBody w2 (fun _ => True) hi [115, x, 0]) (ho : Octs w3 (some ⟨b, 0, none⟩) k [115, x]) (hb : Below (w2.alloc (.cells #[lo, hi] ty1)).heap.size (w2.alloc (.cells #[lo, hi] ty1)) w3) :
    OnI c n x v (w3.heap.size + 1 + 1) w2.heap.size (w3.heap.size + 1) (((w3.alloc (.cells #[.int .u8 v] 5)).alloc (.cells #[.slice (some ⟨b, 0, none⟩) 2 k, .slice (some ⟨w3.heap.size, 0, none⟩) 1 1, .bool false] ty3)).alloc (.cells #[.int .i64 c, .int .i64 1, .int .i64 n, .slice (some ⟨w2.heap.size, 0, none⟩) 1 1, .slice (some ⟨w3.heap.size + 1, 0, none⟩) 1 1] ty4)) ∧ Below w2.heap.size w2 (((w3.alloc (.cells #[.int .u8 v] 5)).alloc (.cells #[.slice (some ⟨b, 0, none⟩) 2 k, .slice (some ⟨w3.heap.size, 0, none⟩) 1 1, .bool false] ty3)).alloc (.cells #[.int .i64 c, .int .i64 1, .int .i64 n, .slice (some ⟨w2.heap.size, 0, none⟩) 1 1, .slice (some ⟨w3.heap.size + 1, 0, none⟩) 1 1] ty4)) := by
  have b1 : Below w2.heap.size w2 (w2.alloc (.cells #[lo, hi] ty1)) := (Below.refl _ _).alloc (Nat.le_refl _) _
  have hr : Lies kEnt (fun _ => True) (w2.alloc (.cells #[lo, hi] ty1)) (some ⟨w2.heap.size, 0, none⟩) 1 [([115, x], [115, x, 0])] := lies_one (cs := [lo, hi]) _ rfl _ ⟨lo, hi, rfl, h1, h2⟩ trivial
  have c1 : Below w3.heap.size w3 (w3.alloc (.cells #[.int .u8 v] 5)) := (Below.refl _ _).alloc (Nat.le_refl _) _
  have c2 : Below (w3.alloc (.cells #[.int .u8 v] 5)).heap.size (w3.alloc (.cells #[.int .u8 v] 5)) ((w3.alloc (.cells #[.int .u8 v] 5)).alloc (.cells #[.slice (some ⟨b, 0, none⟩) 2 k, .slice (some ⟨w3.heap.size, 0, none⟩) 1 1, .bool false] ty3)) := (Below.refl _ _).alloc (Nat.le_refl _) _
  have c3 : Below ((w3.alloc (.cells #[.int .u8 v] 5)).alloc (.cells #[.slice (some ⟨b, 0, none⟩) 2 k, .slice (some ⟨w3.heap.size, 0, none⟩) 1 1, .bool false] ty3)).heap.size ((w3.alloc (.cells #[.int .u8 v] 5)).alloc (.cells #[.slice (some ⟨b, 0, none⟩) 2 k, .slice (some ⟨w3.heap.size, 0, none⟩) 1 1, .bool false] ty3)) (((w3.alloc (.cells #[.int .u8 v] 5)).alloc (.cells #[.slice (some ⟨b, 0, none⟩) 2 k, .slice (some ⟨w3.heap.size, 0, none⟩) 1 1, .bool false] ty3)).alloc (.cells #[.int .i64 c, .int .i64 1, .int .i64 n, .slice (some ⟨w2.heap.size, 0, none⟩) 1 1, .slice (some ⟨w3.heap.size + 1, 0, none⟩) 1 1] ty4)) := (Below.refl _ _).alloc (Nat.le_refl _) _
  have z1 : (w3.alloc (.cells #[.int .u8 v] 5)).heap.size = w3.heap.size + 1 := by simp
  have z2 : ((w3.alloc (.cells #[.int .u8 v] 5)).alloc (.cells #[.slice (some ⟨b, 0, none⟩) 2 k, .slice (some ⟨w3.heap.size, 0, none⟩) 1 1, .bool false] ty3)).heap.size = w3.heap.size + 1 + 1 := by simp
  have ov := octs_alloc w3 [v] 1 5 (0, 0) #[.int .u8 v] rfl (by simp) (by simp) (fun y hy => by simp only [List.mem_cons, List.not_mem_nil, or_false] at hy; subst hy; exact hv)
  have hw : Lies kWt (fun _ => True) ((w3.alloc (.cells #[.int .u8 v] 5)).alloc (.cells #[.slice (some ⟨b, 0, none⟩) 2 k, .slice (some ⟨w3.heap.size, 0, none⟩) 1 1, .bool false] ty3)) (some ⟨(w3.alloc (.cells #[.int .u8 v] 5)).heap.size, 0, none⟩) 1 [⟨[115, x], [v], false⟩] := lies_one (cs := [.slice (some ⟨b, 0, none⟩) 2 k, .slice (some ⟨w3.heap.size, 0, none⟩) 1 1, .bool false]) _ rfl _ ⟨_, _, rfl, body_of (ho.later c1) rfl trivial, body_of ov rfl trivial⟩ trivial
  rw [z1] at hw
  have hc := Cls.new ((w3.alloc (.cells #[.int .u8 v] 5)).alloc (.cells #[.slice (some ⟨b, 0, none⟩) 2 k, .slice (some ⟨w3.heap.size, 0, none⟩) 1 1, .bool false] ty3)) [.int .i64 c, .int .i64 1, .int .i64 n, .slice (some ⟨w2.heap.size, 0, none⟩) 1 1, .slice (some ⟨w3.heap.size + 1, 0, none⟩) 1 1] ty4
  rw [z2] at hc
  have b3 : Below w3.heap.size w3 (((w3.alloc (.cells #[.int .u8 v] 5)).alloc (.cells #[.slice (some ⟨b, 0, none⟩) 2 k, .slice (some ⟨w3.heap.size, 0, none⟩) 1 1, .bool false] ty3)).alloc (.cells #[.int .i64 c, .int .i64 1, .int .i64 n, .slice (some ⟨w2.heap.size, 0, none⟩) 1 1, .slice (some ⟨w3.heap.size + 1, 0, none⟩) 1 1] ty4)) := (c1.trans (c2.mono c1.size)).trans (c3.mono (Nat.le_trans c1.size c2.size))
  exact ⟨⟨hc, (hr.later hb).later b3, hw.later c3⟩, b1.trans ((hb.trans (b3.mono hb.size)).mono b1.size)⟩

/-- two entries laid as a list -/
theorem lies_two {W : World} {ok : Nat → Prop} {p q : Value} {x y : List Int} (ty : TypeId) (hx : kLog.rel ok W x [p]) (hy : kLog.rel ok W y [q]) (hok : ok W.heap.size) : Lies kLog ok (W.alloc (.cells #[p, q] ty)) (some ⟨W.heap.size, 0, none⟩) 2 [x, y] := by
  have hb : Below W.heap.size W (W.alloc (.cells #[p, q] ty)) := (Below.refl _ W).alloc (Nat.le_refl _) _
  refine ⟨Nat.le_refl _, (fun e => by cases e), .inr ⟨W.heap.size, 0, [[p], [q]], rfl, by simp, hok, ⟨kLog.move (Kept.of_below hb) (fun _ _ h => h) hx, kLog.move (Kept.of_below hb) (fun _ _ h => h) hy, trivial⟩, fun j u hj => ?_⟩⟩
  simp only [List.flatten_cons, List.flatten_nil, List.append_nil, List.singleton_append] at hj
  have hh := heap_alloc_new W (.cells #[p, q] ty)
  simp only [World.cell?, hh, Nat.zero_add]
  match j, hj with
  | 0, hj => simpa using hj
  | 1, hj => simpa using hj

set_option maxRecDepth 100000 in
set_option maxHeartbeats 2000000 in
theorem MeldFirst_any (l : List Wsh) (la : Option Addr) (lc : Nat) (a b : Int) (w : World) (hL : Lies kWi (fun _ => True) w la lc l) :
    Calls Try.prog 6 #[.slice la l.length lc, .int .i64 a, .int .i64 b] w fun e w' => e = .returned (.bool true) ∧ Below w.heap.size w w' := by
  generalize hpost : (fun (e : Ending) (w' : World) => e = .returned (.bool true) ∧ Below w.heap.size w w') = Q
  have HO : Hid (∀ w', ¬ Q .outgrown w') := fun w' hh => by
    rw [← hpost] at hh
    cases hh.1
  have HP : Hid (∀ w', Below w.heap.size w w' → Q (.returned (.bool true)) w') := fun w' h => by rw [← hpost]; exact ⟨rfl, h⟩
  clear hpost
  have c0 : Hid (Calls Try.prog 8 #[.slice la l.length lc, .int .i64 12] w fun e w' => ∃ (oa : Option Addr) (on oc : Nat) (xa : Option Addr) (xn xc : Nat), e = .returned (.tuple #[.slice oa on oc, .slice xa xn xc, .bool true]) ∧ Hid (∃ js : List Itt, LogJ 12 js ∧ on = js.length ∧ xn = js.length ∧ Lies kLog (fun b => w.heap.size ≤ b) w' oa oc (js.map encI) ∧ Ples oa oc ∧ Lies kItt (fun b => w.heap.size ≤ b) w' xa xc js ∧ Below w.heap.size w w')) := LogOf_law l la lc 12 (by omega) w w (Below.refl _ _) hL
  clear hL
  generalize l.length = nl at c0 ⊢
  obtain ⟨x, hx⟩ : ∃ x, x = a % 12 := ⟨_, rfl⟩
  obtain ⟨y, hy⟩ : ∃ y, y = b % 12 := ⟨_, rfl⟩
  have bx0 : 0 ≤ x := by rw [hx]; exact Int.emod_nonneg _ (by omega)
  have bx1 : x < 12 := by rw [hx]; exact Int.emod_lt_of_pos _ (by omega)
  have by0 : 0 ≤ y := by rw [hy]; exact Int.emod_nonneg _ (by omega)
  have by1 : y < 12 := by rw [hy]; exact Int.emod_lt_of_pos _ (by omega)
  have p1 : Hid (∀ V, Calls Try.prog 15 #[.int .i64 a, .int .i64 12] V fun e w' => e = .returned (.int .i64 x) ∧ V = w') := fun V => by rw [hx]; exact Picked_any a 12 (by omega) (by omega) V
  have p2 : Hid (∀ V, Calls Try.prog 15 #[.int .i64 b, .int .i64 12] V fun e w' => e = .returned (.int .i64 y) ∧ V = w') := fun V => by rw [hy]; exact Picked_any b 12 (by omega) (by omega) V
  clear hx hy
  go_enter Try.func6, Try.ntmps6
  go_upto_region 8 with (first
    | (go_at_call 8; (with_reducible refine c0.out.mono ?_); clear c0; rintro e w1 ⟨oa, on, oc, xa, xn, xc, rfl, H1⟩)
    | (go_at_call 15; (with_reducible refine (p1.out _).mono ?_); clear p1; rintro e w2 ⟨rfl, rfl⟩)
    | (go_at_call 15; (with_reducible refine (p2.out _).mono ?_); clear p2; rintro e w2 ⟨rfl, rfl⟩))
  obtain ⟨js, hJ, hon, -, hlog, hples, -, hbw⟩ := H1.out
  have HJ := put_by (And.intro hJ hon)
  have HLG := put_by hlog
  have HB1 := put_by hbw
  have hon12 : on ≤ 12 := by rw [hon]; exact hJ.1
  clear H1 hJ hon hlog hples hbw
  go_upto_region 9 with (first
    | (go_at_call 21; (with_reducible refine (readK_any x bx0 bx1 _).mono ?_); rintro e w2 ⟨lo, hi, rfl, HR⟩)
    | (go_at_call 22; (with_reducible refine (spot_any x bx0 bx1 _).mono ?_); rintro e w3 ⟨b1, k1, rfl, ho1, hlt1, hb1⟩))
  have H8 : Hid (OnI 100 (on : Int) x 1 (w3.heap.size + 1 + 1) w2.heap.size (w3.heap.size + 1) (((w3.alloc (.cells #[.int .u8 1] 5)).alloc (.cells #[.slice (some ⟨b1, 0, none⟩) 2 k1, .slice (some ⟨w3.heap.size, 0, none⟩) 1 1, .bool false] 63)).alloc (.cells #[.int .i64 100, .int .i64 1, .int .i64 (on : Int), .slice (some ⟨w2.heap.size, 0, none⟩) 1 1, .slice (some ⟨w3.heap.size + 1, 0, none⟩) 1 1] 38)) ∧ Below w1.heap.size w1 (((w3.alloc (.cells #[.int .u8 1] 5)).alloc (.cells #[.slice (some ⟨b1, 0, none⟩) 2 k1, .slice (some ⟨w3.heap.size, 0, none⟩) 1 1, .bool false] 63)).alloc (.cells #[.int .i64 100, .int .i64 1, .int .i64 (on : Int), .slice (some ⟨w2.heap.size, 0, none⟩) 1 1, .slice (some ⟨w3.heap.size + 1, 0, none⟩) 1 1] 38))) := by
    obtain ⟨g1, g2, g3⟩ := HR.out
    have h := one_laid (c := 100) (n := (on : Int)) (x := x) (v := 1) (ty1 := 41) (ty3 := 63) (ty4 := 38) (by omega) (g1.move (Kept.of_below (Below.refl _ _)) (fun _ _ _ => trivial)) (g2.move (Kept.of_below (Below.refl _ _)) (fun _ _ _ => trivial)) ho1 hb1
    exact ⟨h.1, g3.trans (h.2.mono g3.size)⟩
  clear HR ho1 hlt1 hb1
  generalize (((w3.alloc (.cells #[.int .u8 1] 5)).alloc (.cells #[.slice (some ⟨b1, 0, none⟩) 2 k1, .slice (some ⟨w3.heap.size, 0, none⟩) 1 1, .bool false] 63)).alloc (.cells #[.int .i64 100, .int .i64 1, .int .i64 (on : Int), .slice (some ⟨w2.heap.size, 0, none⟩) 1 1, .slice (some ⟨w3.heap.size + 1, 0, none⟩) 1 1] 38)) = W8 at H8 ⊢
  generalize w3.heap.size + 1 + 1 = X1 at H8 ⊢
  generalize w3.heap.size + 1 = wa1 at H8 ⊢
  generalize w2.heap.size = ra1 at H8 ⊢
  go_upto_region 10 with (first
    | (go_at_call 21; (with_reducible refine (readK_any y by0 by1 _).mono ?_); rintro e w4 ⟨lo, hi, rfl, HR⟩)
    | (go_at_call 22; (with_reducible refine (spot_any y by0 by1 _).mono ?_); rintro e w5 ⟨b4, k4, rfl, ho1, hlt1, hb1⟩))
  have H9 : Hid (OnI 101 (on : Int) y 2 (w5.heap.size + 1 + 1) w4.heap.size (w5.heap.size + 1) (((w5.alloc (.cells #[.int .u8 2] 5)).alloc (.cells #[.slice (some ⟨b4, 0, none⟩) 2 k4, .slice (some ⟨w5.heap.size, 0, none⟩) 1 1, .bool false] 63)).alloc (.cells #[.int .i64 101, .int .i64 1, .int .i64 (on : Int), .slice (some ⟨w4.heap.size, 0, none⟩) 1 1, .slice (some ⟨w5.heap.size + 1, 0, none⟩) 1 1] 38)) ∧ OnI 100 (on : Int) x 1 X1 ra1 wa1 (((w5.alloc (.cells #[.int .u8 2] 5)).alloc (.cells #[.slice (some ⟨b4, 0, none⟩) 2 k4, .slice (some ⟨w5.heap.size, 0, none⟩) 1 1, .bool false] 63)).alloc (.cells #[.int .i64 101, .int .i64 1, .int .i64 (on : Int), .slice (some ⟨w4.heap.size, 0, none⟩) 1 1, .slice (some ⟨w5.heap.size + 1, 0, none⟩) 1 1] 38)) ∧ Below w1.heap.size w1 (((w5.alloc (.cells #[.int .u8 2] 5)).alloc (.cells #[.slice (some ⟨b4, 0, none⟩) 2 k4, .slice (some ⟨w5.heap.size, 0, none⟩) 1 1, .bool false] 63)).alloc (.cells #[.int .i64 101, .int .i64 1, .int .i64 (on : Int), .slice (some ⟨w4.heap.size, 0, none⟩) 1 1, .slice (some ⟨w5.heap.size + 1, 0, none⟩) 1 1] 38))) := by
    obtain ⟨g1, g2, g3⟩ := HR.out
    have h := one_laid (c := 101) (n := (on : Int)) (x := y) (v := 2) (ty1 := 41) (ty3 := 63) (ty4 := 38) (by omega) (g1.move (Kept.of_below (Below.refl _ _)) (fun _ _ _ => trivial)) (g2.move (Kept.of_below (Below.refl _ _)) (fun _ _ _ => trivial)) ho1 hb1
    have hb := g3.trans (h.2.mono g3.size)
    exact ⟨h.1, H8.out.1.later hb, H8.out.2.trans (hb.mono H8.out.2.size)⟩
  clear HR ho1 hlt1 hb1 H8
  generalize (((w5.alloc (.cells #[.int .u8 2] 5)).alloc (.cells #[.slice (some ⟨b4, 0, none⟩) 2 k4, .slice (some ⟨w5.heap.size, 0, none⟩) 1 1, .bool false] 63)).alloc (.cells #[.int .i64 101, .int .i64 1, .int .i64 (on : Int), .slice (some ⟨w4.heap.size, 0, none⟩) 1 1, .slice (some ⟨w5.heap.size + 1, 0, none⟩) 1 1] 38)) = W9 at H9 ⊢
  generalize w5.heap.size + 1 + 1 = X2 at H9 ⊢
  generalize w5.heap.size + 1 = wa2 at H9 ⊢
  generalize w4.heap.size = ra2 at H9 ⊢
  obtain ⟨E1, hE1⟩ : ∃ E, E = encI (oneI 100 (on : Int) x 1) := ⟨_, rfl⟩
  obtain ⟨E2, hE2⟩ : ∃ E, E = encI (oneI 101 (on : Int) y 2) := ⟨_, rfl⟩
  obtain ⟨L1, hL1⟩ : ∃ L, L = E1.length := ⟨_, rfl⟩
  obtain ⟨L2, hL2⟩ : ∃ L, L = E2.length := ⟨_, rfl⟩
  have HTL : Hid (TellsI E1 (some (oneI 100 (on : Int) x 1)) ∧ TellsI E2 (some (oneI 101 (on : Int) y 2))) := by
    rw [hE1, hE2]
    exact ⟨oneI_tells (by omega) (by omega), oneI_tells (by omega) (by omega)⟩
  have cE1 : Hid (∀ V, Below W9.heap.size W9 V → Calls Try.prog 23 #[.agg #[.int .i64 100, .int .i64 1, .int .i64 (on : Int), .slice (some ⟨ra1, 0, none⟩) 1 1, .slice (some ⟨wa1, 0, none⟩) 1 1]] V fun e w' => ∃ (b off k : Nat), e = .returned (.tuple #[.slice (some ⟨b, off, none⟩) L1 k, .int .i64 0]) ∧ Hid (kLog.rel (fun _ => True) w' E1 [.slice (some ⟨b, off, none⟩) L1 k] ∧ Below V.heap.size V w')) := fun V hV => by
    have h := H9.out.2.1.later hV
    refine (Encode_lg (C := 100) (N := 1) (B := (on : Int)) h.reads h.writes rfl rfl (oneI_may (by omega) (by omega)) (oneI_short _ _ _ _) L1 (by rw [hL1, hE1]; rfl)).mono ?_
    rintro e w' ⟨b, off, k, h1, h2, h3⟩
    exact ⟨b, off, k, h1, by rw [hE1]; exact kLog.move (Kept.of_below (Below.refl _ _)) (fun _ _ _ => trivial) h2, h3⟩
  have cE2 : Hid (∀ V, Below W9.heap.size W9 V → Calls Try.prog 23 #[.agg #[.int .i64 101, .int .i64 1, .int .i64 (on : Int), .slice (some ⟨ra2, 0, none⟩) 1 1, .slice (some ⟨wa2, 0, none⟩) 1 1]] V fun e w' => ∃ (b off k : Nat), e = .returned (.tuple #[.slice (some ⟨b, off, none⟩) L2 k, .int .i64 0]) ∧ Hid (kLog.rel (fun _ => True) w' E2 [.slice (some ⟨b, off, none⟩) L2 k] ∧ Below V.heap.size V w')) := fun V hV => by
    have h := H9.out.1.later hV
    refine (Encode_lg (C := 101) (N := 1) (B := (on : Int)) h.reads h.writes rfl rfl (oneI_may (by omega) (by omega)) (oneI_short _ _ _ _) L2 (by rw [hL2, hE2]; rfl)).mono ?_
    rintro e w' ⟨b, off, k, h1, h2, h3⟩
    exact ⟨b, off, k, h1, by rw [hE2]; exact kLog.move (Kept.of_below (Below.refl _ _)) (fun _ _ _ => trivial) h2, h3⟩
  have HJS := put_by (first_js HJ.out.1.2.1 x y (n := (on : Int)) (by rw [HJ.out.2]))
  clear hE1 hE2 hL1 hL2
  obtain ⟨x0, -⟩ := H9.out.2.1.var 0 _ rfl
  obtain ⟨x1, -⟩ := H9.out.2.1.var 1 _ rfl
  obtain ⟨x2, -⟩ := H9.out.2.1.var 2 _ rfl
  obtain ⟨x3, -⟩ := H9.out.2.1.var 3 _ rfl
  obtain ⟨x4, -⟩ := H9.out.2.1.var 4 _ rfl
  go_upto_region 11 with (first
    | (go_at_call 23; (with_reducible refine (cE1.out _ (Below.refl _ _)).mono ?_); clear cE1; rintro e w10 ⟨pb, po, pk, rfl, H10⟩))
  clear x0 x1 x2 x3 x4
  have hv := H9.out.1.later H10.out.2
  obtain ⟨x0, -⟩ := hv.var 0 _ rfl
  obtain ⟨x1, -⟩ := hv.var 1 _ rfl
  obtain ⟨x2, -⟩ := hv.var 2 _ rfl
  obtain ⟨x3, -⟩ := hv.var 3 _ rfl
  obtain ⟨x4, -⟩ := hv.var 4 _ rfl
  clear hv
  go_upto_region 12 with (first
    | (go_at_call 23; (with_reducible refine (cE2.out _ H10.out.2).mono ?_); clear cE2; rintro e w11 ⟨qb, qo, qk, rfl, H11⟩))
  clear x0 x1 x2 x3 x4
  have hb11 : Below w1.heap.size w1 w11 := H9.out.2.2.trans ((H10.out.2.trans (H11.out.2.mono H10.out.2.size)).mono H9.out.2.2.size)
  have HLL : Hid (Lies kLog (fun b => b < w11.heap.size) w11 oa oc (js.map encI)) := (HLG.out.later hb11).move (Kept.of_below (Below.refl _ _)) (fun b hb _ => hb)
  have HPQ : Hid (kLog.rel (fun b => b < w11.heap.size) w11 E1 [.slice (some ⟨pb, po, none⟩) L1 pk] ∧ kLog.rel (fun b => b < w11.heap.size) w11 E2 [.slice (some ⟨qb, qo, none⟩) L2 qk]) := ⟨kLog.move (Kept.of_below (Below.refl _ _)) (fun b hb _ => hb) (kLog.move (Kept.of_below H11.out.2) (fun _ _ h => h) H10.out.1), kLog.move (Kept.of_below (Below.refl _ _)) (fun b hb _ => hb) H11.out.1⟩
  have HB11 : Hid (Below w.heap.size w w11) := HB1.out.trans (hb11.mono HB1.out.size)
  have HON : Hid (on = (js.map encI).length) := by show _ = _; rw [List.length_map]; exact HJ.out.2
  have cP : Hid (∀ (V : World) (a : Option Addr) (m c : Nat), Lies kLog (fun _ => True) V a c (js.map encI ++ [E1, E2]) → m = on + 2 → Calls Try.prog 9 #[.agg #[.int .i64 0, .slice none 0 0, .slice none 0 0], .slice a m c] V fun e w' => ∃ (p : Int) (a : Option Addr) (n c : Nat) (a2 : Option Addr) (n2 c2 : Nat) (a3 : Option Addr) (c3 : Nat), e = .returned (.tuple #[.agg #[.int .i64 p, .slice a n c, .slice a2 n2 c2], .slice a3 m c3, .int .i64 0]) ∧ Hid (PlH noSta (js.map some ++ [some (oneI 100 (on : Int) x 1), some (oneI 101 (on : Int) y 2)]) p a n c a2 n2 c2 a3 m c3 w' ∧ Below V.heap.size V w')) := fun V a m c hLV hm =>
    Play_law hLV (All2.append (tells_js HJ.out.1.2.1) ⟨HTL.out.1, HTL.out.2, trivial⟩) (by rw [List.length_append, ← HON.out]; simp only [List.length_cons, List.length_nil]; omega) (by rw [List.length_append, ← HON.out, hm]; rfl)
  clear hb11 H9 H10 H11 HLG HTL
  go_upto_region 13 with (first
    | (at_builtin; refine wpList_append_rowsB (K := kLog) (ok := fun _ => True) (ok2 := fun b => b < w11.heap.size) eltLg rfl (.const (.slice none 0 0)) (.tmp 71) rfl w11.heap.size (.slice none 0 0) [] rfl (Rows.nil _ _ _ _ _) oa oc on (js.map encI) rfl HON.out HLL.out (fun _ _ _ _ => trivial) (fun _ _ _ e => by cases e) (by simp only [List.length_nil]; omega) (by decide) (Nat.le_refl _) ?_; intro v12 w12 r1 r2 r3; have H12 : Hid (Rows kLog (fun _ => True) w12 w11.heap.size 39 v12 (js.map encI) ∧ Below w11.heap.size w11 w12) := ⟨by simpa using r1, below_grown (Below.refl _ _) (Nat.le_refl _) r2 (fun r e => by cases e)⟩; obtain ⟨a12, c12, e12⟩ := rows_form H12.out.1; rw [← HON.out] at e12; subst e12; clear r1 r2 r3)
    | (at_builtin; refine wpList_append_rowsB (K := kLog) (ok := fun _ => True) (ok2 := fun b => (Value.slice a12 on c12).ownBlock ≠ some b) eltLg rfl (.tmp 72) (.tmp 75) rfl w11.heap.size (.slice a12 on c12) (js.map encI) rfl (H12.out.1.later ((Below.refl _ _).alloc (Nat.le_refl _) _)) (some ⟨w12.heap.size, 0, none⟩) 2 2 [E1, E2] rfl rfl (lies_two _ (kLog.move (Kept.of_below H12.out.2) (fun b _ hb e => by have := (rows_lt H12.out.1 b e).1; omega) HPQ.out.1) (kLog.move (Kept.of_below H12.out.2) (fun b _ hb e => by have := (rows_lt H12.out.1 b e).1; omega) HPQ.out.2) (fun e => by have := (rows_lt H12.out.1 _ e).2; omega)) (fun _ _ _ _ => trivial) (fun b _ hb => hb) (by rw [← HON.out]; omega) (by decide) (Nat.le_trans H12.out.2.size (by simp)) ?_; intro v13 w13 r1 r2 r3; have H13 : Hid (Rows kLog (fun _ => True) w13 w11.heap.size 39 v13 (js.map encI ++ [E1, E2]) ∧ Below w11.heap.size w11 w13) := ⟨r1, below_grown (H12.out.2.alloc H12.out.2.size _) (Nat.le_trans H12.out.2.size (by simp)) r2 (fun r e => (rows_lt H12.out.1 r e).1)⟩; obtain ⟨a13, c13, e13⟩ := rows_form H13.out.1; obtain ⟨m13, hm13⟩ : ∃ m13, m13 = (js.map encI ++ [E1, E2]).length := ⟨_, rfl⟩; rw [← hm13] at e13; subst e13; have hm2 : m13 = on + 2 := (by rw [hm13, List.length_append, ← HON.out]; rfl); have HM13 := put_by hm2; clear hm13 hm2 r1 r2 r3)
    | (go_at_call 9; (with_reducible refine (cP.out _ _ _ _ (rows_lies H13.out.1 (fun _ _ => trivial)).2.1 HM13.out).mono ?_); clear cP; rintro e w14 ⟨p1, ca, cn, cc, da, dn, dc, ta, tc, rfl, H14⟩))
  have hb14 := (Below.refl w14.heap.size w14).alloc (Nat.le_refl _) (.cells #[.int .i64 p1, .slice ca cn cc, .slice da dn dc] 30)
  have HV := put_by (Cls.new w14 [.int .i64 p1, .slice ca cn cc, .slice da dn dc] 30)
  have H15 : Hid (Lies kNum (fun _ => True) (w14.alloc (.cells #[.int .i64 p1, .slice ca cn cc, .slice da dn dc] 30)) ta tc ((playM noSta (js.map some)).2 ++ [0, if x = y then 19 else 0]) ∧ Below w.heap.size w (w14.alloc (.cells #[.int .i64 p1, .slice ca cn cc, .slice da dn dc] 30))) := by
    have h1 := H14.out.1.told.later hb14
    rw [HJS.out.2] at h1
    exact ⟨h1, HB11.out.trans ((H13.out.2.trans ((H14.out.2.trans (hb14.mono H14.out.2.size)).mono H13.out.2.size)).mono HB11.out.size)⟩
  have HPS : Hid (p1 = (m13 : Int)) := by
    show p1 = _
    rw [H14.out.1.pos, HJS.out.1, HM13.out]
    rfl
  clear H12 H13 H14 HLL HPQ HB11 HB1 hb14
  generalize w14.heap.size = X3 at HV ⊢
  generalize w14.alloc (.cells #[.int .i64 p1, .slice ca cn cc, .slice da dn dc] _) = W15 at HV H15 ⊢
  have hlc : (playM noSta (js.map some)).2.length = on := by rw [playM_length, List.length_map]; exact HJ.out.2.symm
  obtain ⟨tb, to', rfl, -, hz⟩ := num_at H15.out.1 (k := on) (by rw [List.length_append, hlc]; simp)
  obtain ⟨tb2, to2, e2, -, hz2⟩ := num_at H15.out.1 (k := on + 1) (by rw [List.length_append, hlc]; simp)
  simp only [Option.some.injEq, Addr.mk.injEq, and_true] at e2
  obtain ⟨rfl, rfl⟩ := e2
  obtain ⟨n1, hn1⟩ : ∃ n, n = on + 1 := ⟨_, rfl⟩
  have z0 : W15.cell? ⟨tb, to' + on, none⟩ = some (.int .i64 0) := by
    have h := hz W15 (Below.refl _ _)
    rw [List.getElem_append_right (by rw [hlc]; exact Nat.le_refl _)] at h
    simpa [hlc] using h
  have z1 : W15.cell? ⟨tb, to' + n1, none⟩ = some (.int .i64 (if x = y then 19 else 0)) := by
    have h := hz2 W15 (Below.refl _ _)
    rw [List.getElem_append_right (by rw [hlc]; omega)] at h
    rw [hn1, h]
    congr 2
    simp [hlc]
  have iw1 : IntKind.i64.wrap ((on : Int) + 1) = (n1 : Int) := by rw [IntKind.wrap_i64]; omega
  have iw2 : IntKind.i64.wrap ((on : Int) + 2) = (m13 : Int) := by have := HM13.out; rw [IntKind.wrap_i64]; omega
  have i1 : (on : Int) < (m13 : Int) := by have := HM13.out; omega
  have i2 : (n1 : Int) < (m13 : Int) := by have := HM13.out; omega
  have hV0 : W15.cell? ⟨X3, 0, none⟩ = some (.int .i64 (m13 : Int)) := by rw [← HPS.out]; exact (HV.out 0 _ rfl).1
  have HBE := put_by H15.out.2
  clear hz hz2 hlc hn1 H15 HJS HV HJ HM13
  by_cases hxy : x = y
  · rw [if_pos hxy] at z1
    subst hxy
    go_wp2
    exact HP.out _ HBE.out
  · rw [if_neg hxy] at z1
    go_wp2
    exact HP.out _ HBE.out

end Go.Proofs.Ytjjdednlddnllab
