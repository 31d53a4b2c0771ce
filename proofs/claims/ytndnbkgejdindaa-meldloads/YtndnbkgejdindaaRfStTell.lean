/- The bytes of a state by the document: what the reference's stateBytes comes to. -/
import Derived.Test.YtndnbkgejdindaaMlTellS
import Derived.Test.YtndnbkgejdindaaItRefTell
import Derived.Test.YtndnbkgejdindaaRegTake
namespace Go.Proofs.Ytndnbkgejdindaa
open Go.ChangeShapes Go.WideShapes Go.ChangeAt Go.RowKit

set_option maxRecDepth 100000 in
theorem little_own (n : Nat) (h : n < 4294967296) (B : Nat) (w : World) (hB : B ≤ w.heap.size) :
    Calls Try.prog 44 #[.int .i64 n] w fun e w' => e = .returned (.slice (some ⟨w.heap.size, 0, none⟩) 4 4) ∧ w'.ownsRow B 5 1 (.slice (some ⟨w.heap.size, 0, none⟩) 4 4) 4 ((le4 n).map (Value.int .u8)) ∧ Below w.heap.size w w' := by
  have HB := put_by hB
  clear hB
  go_enter Try.func44, Try.ntmps44
  go_wp2
  go_ret
  exact ⟨rfl, ⟨by simp [le4_length], .inr ⟨_, 4, _, rfl, HB.out, heap_alloc_new _ _, Nat.le_refl _, by unfold maxLen; omega, rfl, rfl⟩⟩, (Below.refl _ _).alloc (Nat.le_refl _) _⟩

/-- a row grows by what lies in new memory -/
theorem InL.app {B L : Nat} {W1 V V2 w9 : World} {cells : List Value} {a : Option Addr} {m q K K' j : Nat} {xs ys : List Int} {v' : Value} (h : InL B W1 L cells (.slice a m q) m xs K V) (hb : Below V.heap.size V V2) (h1 : w9.ownsRow B 5 1 v' (m + j) (xs.map (Value.int .u8) ++ ys.map (Value.int .u8))) (h2 : V2.grownBy w9 (Value.slice a m q).ownBlock) (h3 : v'.ownBlock = (Value.slice a m q).ownBlock ∨ v'.ownBlock = some V2.heap.size) (hj : j = ys.length) (hK : (xs ++ ys).length ≤ K') :
    ∃ a' p', v' = .slice a' (m + j) p' ∧ InL B W1 L cells (.slice a' (m + j) p') (m + j) (xs ++ ys) K' w9 := by
  obtain ⟨a', p', rfl⟩ := own_val h1
  exact ⟨a', p', rfl, h.next (told_later (xs := xs ++ ys) hb h1 (by simp) (by rw [List.length_append, ← h.told.len, hj]) h2 h3) hK⟩

set_option maxRecDepth 100000 in
set_option maxHeartbeats 4000000 in
theorem stateBytes_any (ok : Nat → Prop) (p : Nat) (cs : List Cel) (ds : List Dn) (ca : Option Addr) (cc : Nat) (da : Option Addr) (dc : Nat) (w : World) (hI : StIs ok w cs ds ca cc da dc) (hM : MayS ⟨p, cs, ds⟩) (hT : (encS ⟨p, cs, ds⟩).length ≤ 140737488351232) (hF : cs.length < 4294967296 ∧ ds.length < 4294967296) :
    Calls Try.prog 22 #[.agg #[.int .i64 (p : Int), .slice ca cs.length cc, .slice da ds.length dc]] w fun e w' => SavPost ⟨p, cs, ds⟩ w e w' := by
  generalize hpost : (fun e w' => SavPost ⟨p, cs, ds⟩ w e w') = R
  have HP : Hid (∀ e w', SavPost ⟨p, cs, ds⟩ w e w' → R e w') := fun e w' h => by rw [← hpost]; exact h
  have HO : Hid (∀ w', ¬ R .outgrown w') := fun w' hh => by
    rw [← hpost] at hh
    obtain ⟨a, m, k, h, -⟩ := hh
    cases h
  clear hpost
  have hp : p ≤ 1048576 := by have := hM.pos.2; simp only at this; omega
  have HM := put_by hM
  have HI := put_by hI
  have HBY := put_by (encS_byte (s := ⟨p, cs, ds⟩) hI.bytes)
  obtain ⟨n1, hn1⟩ : ∃ n, n = cs.length := ⟨_, rfl⟩
  obtain ⟨n2, hn2⟩ : ∃ n, n = ds.length := ⟨_, rfl⟩
  have HT : Hid ((encS ⟨p, cs, ds⟩).length = 12 + (cs.flatMap encC).length + (ds.flatMap encD).length ∧ (encS ⟨p, cs, ds⟩).length ≤ 140737488351232) := ⟨by simp only [encS, List.length_append, le4_length]; omega, hT⟩
  have h13 : ∀ l : List Cel, l.length * 13 ≤ (l.flatMap encC).length := fun l => by
    induction l with
    | nil => simp
    | cons x l ih => rw [List.flatMap_cons, List.length_append, List.length_cons, encC_length, Nat.succ_mul]; omega
  have h14 : ∀ l : List Dn, l.length * 13 = (l.flatMap encD).length := fun l => by
    induction l with
    | nil => simp
    | cons x l ih => rw [List.flatMap_cons, List.length_append, List.length_cons, encD_length, Nat.succ_mul, ih]; omega
  have hf1 : n1 ≤ 4294967295 := by have := hF.1; omega
  have hf2 : n2 ≤ 4294967295 := by have := hF.2; omega
  clear h13 h14 hF
  rw [← hn1, ← hn2]
  have HN := put_by (And.intro hn1 hn2)
  have HA := put_by ((Below.refl w.heap.size w).alloc (Nat.le_refl _) (.cells #[.int .i64 (p : Int), .slice ca n1 cc, .slice da n2 dc] 25))
  have HK : Hid (∀ V, Below (w.alloc (.cells #[.int .i64 (p : Int), .slice ca n1 cc, .slice da n2 dc] 25)).heap.size (w.alloc (.cells #[.int .i64 (p : Int), .slice ca n1 cc, .slice da n2 dc] 25)) V → V.cell? ⟨w.heap.size, 1, none⟩ = some (.slice ca n1 cc) ∧ V.cell? ⟨w.heap.size, 2, none⟩ = some (.slice da n2 dc)) := fun V hV => ⟨(hV.cell (p := ⟨w.heap.size, 1, none⟩) (by simp)).trans (by simp), (hV.cell (p := ⟨w.heap.size, 2, none⟩) (by simp)).trans (by simp)⟩
  have x0 : (w.alloc (.cells #[.int .i64 (p : Int), .slice ca n1 cc, .slice da n2 dc] 25)).cell? ⟨w.heap.size, 0, none⟩ = some (.int .i64 (p : Int)) := by simp
  clear hI hM hn1 hn2 hT
  go_enter Try.func22, Try.ntmps22
  go_upto_region 1 with (fail)
  generalize w.alloc (.cells #[.int .i64 (p : Int), .slice ca n1 cc, .slice da n2 dc] 25) = W1 at HA HK x0 ⊢
  have HS0 : Hid (∀ V, Below W1.heap.size W1 V → V.cell? ⟨w.heap.size, 0, none⟩ = some (.int .i64 (p : Int)) ∧ V.cell? ⟨w.heap.size, 1, none⟩ = some (.slice ca n1 cc)) := fun V hV => ⟨(hV.cell (p := ⟨w.heap.size, 0, none⟩) (World.block_lt_of_cell? _ _ x0)).trans x0, (HK.out V hV).1⟩
  have cL1 : Hid (∀ V, Below W1.heap.size W1 V → Calls Try.prog 44 #[.int .i64 (p : Int)] V fun e w' => e = .returned (.slice (some ⟨V.heap.size, 0, none⟩) 4 4) ∧ (w'.cell? ⟨w.heap.size, 0, none⟩ = some (.int .i64 (p : Int)) ∧ w'.cell? ⟨w.heap.size, 1, none⟩ = some (.slice ca n1 cc)) ∧ Hid (w'.ownsRow w.heap.size 5 1 (.slice (some ⟨V.heap.size, 0, none⟩) 4 4) 4 ((le4 p).map (Value.int .u8)) ∧ Below W1.heap.size W1 w')) := fun V hV => (little_own p (by omega) w.heap.size V (Nat.le_trans HA.out.size hV.size)).mono (fun e w' h => ⟨h.1, HS0.out _ (hV.trans (h.2.2.mono hV.size)), h.2.1, hV.trans (h.2.2.mono hV.size)⟩)
  have cL2 : Hid (∀ V, Below W1.heap.size W1 V → Calls Try.prog 44 #[.int .i64 (n1 : Int)] V fun e w' => e = .returned (.slice (some ⟨V.heap.size, 0, none⟩) 4 4) ∧ (w'.cell? ⟨w.heap.size, 0, none⟩ = some (.int .i64 (p : Int)) ∧ w'.cell? ⟨w.heap.size, 1, none⟩ = some (.slice ca n1 cc)) ∧ Hid (Octs w' (some ⟨V.heap.size, 0, none⟩) 4 (le4 n1) ∧ Below V.heap.size V w')) := fun V hV => (little_new n1 (by omega) V).mono (fun e w' h => ⟨h.1, HS0.out _ (hV.trans (h.2.2.mono hV.size)), h.2.1, h.2.2⟩)
  have hS := HS0.out _ ((Below.refl W1.heap.size W1).drew)
  refine wp_region_held (S := fun W => W.cell? ⟨w.heap.size, 0, none⟩ = some (.int .i64 (p : Int)) ∧ W.cell? ⟨w.heap.size, 1, none⟩ = some (.slice ca n1 cc)) (by kernel_rfl) ?_
  change wpAnyH _ _ _ _ _ 9 #[false, false, false, false, false, false, false, false, false] _ W1.drew
  refine takeH (i := 0) 8 (v := .pointer (some ⟨w.heap.size, 0, none⟩)) rfl rfl (by kernel_rfl) (by kernel_rfl) (by kernel_rfl) (fun _ _ _ h => h) (Or.inl ⟨by kernel_rfl, ?_⟩) hS ?_
  · intro wq hq
    go_simp
  simp only [Act.put, List.setIfInBounds_toArray, List.set_cons_zero]
  refine takeH (i := 1) 9 (v := .int .i64 (p : Int)) rfl rfl (by kernel_rfl) (by kernel_rfl) (by kernel_rfl) (fun _ _ _ h => h) (Or.inl ⟨by kernel_rfl, ?_⟩) hS ?_
  · intro wq hq
    obtain ⟨q0, q1⟩ := hq
    go_simp
  simp only [Act.put, List.setIfInBounds_toArray, List.set_cons_zero, List.set_cons_succ]
  refine takeH (i := 3) 11 (v := .pointer (some ⟨w.heap.size, 1, none⟩)) rfl rfl (by kernel_rfl) (by kernel_rfl) (by kernel_rfl) (fun _ _ _ h => h) (Or.inl ⟨by kernel_rfl, ?_⟩) hS ?_
  · intro wq hq
    go_simp
  simp only [Act.put, List.setIfInBounds_toArray, List.set_cons_zero, List.set_cons_succ]
  refine takeH (i := 4) 12 (v := .slice ca n1 cc) rfl rfl (by kernel_rfl) (by kernel_rfl) (by kernel_rfl) (fun _ _ _ h => h) (Or.inl ⟨by kernel_rfl, ?_⟩) hS ?_
  · intro wq hq
    obtain ⟨q0, q1⟩ := hq
    go_simp
  simp only [Act.put, List.setIfInBounds_toArray, List.set_cons_zero, List.set_cons_succ]
  refine takeH (i := 5) 13 (v := .int .i64 (n1 : Int)) rfl rfl (by kernel_rfl) (by kernel_rfl) (by kernel_rfl) (fun _ _ _ h => h) (Or.inl ⟨by kernel_rfl, ?_⟩) hS ?_
  · intro wq hq
    go_simp
  simp only [Act.put, List.setIfInBounds_toArray, List.set_cons_zero, List.set_cons_succ]
  refine wpAnyH_ready (rs := [2]) (by kernel_rfl) (by simp) ?_
  refine AllReadyH.cons rfl (fun K1 hK1 => ?_) AllReadyH.nil
  rw [if_pos (by kernel_rfl)]
  unfold Oper.wp
  go_simp
  go_wp2_with (go_at_call 44; (with_reducible refine (cL1.out _ ((Below.refl W1.heap.size W1).drew)).mono ?_); clear cL1; rintro e u1 ⟨rfl, hS1, L1⟩)
  refine hK1.out _ _ hS1 (fun _ => ?_)
  simp only [List.setIfInBounds_toArray, List.set_cons_zero, List.set_cons_succ]
  refine wpAnyH_ready (rs := [6]) (by kernel_rfl) (by simp) ?_
  refine AllReadyH.cons rfl (fun K1 hK2 => ?_) AllReadyH.nil
  rw [if_pos (by kernel_rfl)]
  unfold Oper.wp
  go_simp
  go_wp2_with (go_at_call 44; (with_reducible refine (cL2.out _ L1.out.2).mono ?_); clear cL2; rintro e u2 ⟨rfl, hS2, L2⟩)
  refine hK2.out _ _ hS2 (fun _ => ?_)
  simp only [List.setIfInBounds_toArray, List.set_cons_zero, List.set_cons_succ]
  refine wpAnyH_ready (rs := [7]) (by kernel_rfl) (by simp) ?_
  refine AllReadyH.cons rfl (fun K1 hK1 => ?_) AllReadyH.nil
  rw [if_pos (by kernel_rfl)]
  refine wp_of_list rfl (by rintro ⟨_, _, hh⟩; exact HO.out _ hh) (wpList_append_oct_at rfl (.tmp 10) (.tmp 14) rfl w.heap.size (.slice (some ⟨W1.heap.size, 0, none⟩) 4 4) 4 _ rfl (own_stays L1.out.1 L2.out.2) (some ⟨u1.heap.size, 0, none⟩) 4 4 (le4 n1) rfl rfl (L2.out.1) (by omega) (Nat.le_trans HA.out.size (Nat.le_trans L1.out.2.size L2.out.2.size)) (fun v9 w9 h1 h2 h3 => list_end ?_))
  obtain ⟨a2, p2, e9⟩ := own_val h1
  subst e9
  have H2 : Hid (Told w.heap.size W1 w9 (.slice none 0 0) (.slice a2 (4 + 4) p2) (4 + 4) (le4 p ++ le4 n1)) := by
    have hb := L1.out.2.trans (L2.out.2.mono L1.out.2.size)
    refine ⟨by rw [List.map_append]; exact h1, by simp [le4_length], ⟨h2.os.trans hb.os, h2.tape.trans hb.tape, h2.output.trans hb.output, Nat.le_trans hb.size h2.size, fun b hlt hne => (h2.block b (Nat.lt_of_lt_of_le hlt hb.size) (fun e => by have := Option.some.inj e; simp only at this; omega)).trans (hb.block b hlt)⟩, .inr ?_⟩
    rcases h3 with h3 | h3
    · exact ⟨_, h3, Nat.le_refl _⟩
    · exact ⟨_, h3, hb.size⟩
  have hS9 : w9.cell? ⟨w.heap.size, 0, none⟩ = some (.int .i64 (p : Int)) ∧ w9.cell? ⟨w.heap.size, 1, none⟩ = some (.slice ca n1 cc) := HS0.out _ H2.out.from
  refine hK1.out _ _ hS9 (fun _ => ?_)
  simp only [List.setIfInBounds_toArray, List.set_cons_zero, List.set_cons_succ]
  clear h1 h2 h3 hK1
  refine takeH (i := 8) 3 (v := .slice a2 (4 + 4) p2) rfl rfl (by kernel_rfl) (by kernel_rfl) (by kernel_rfl) (fun _ _ _ h => h) (Or.inl ⟨by kernel_rfl, ?_⟩) hS9 ?_
  · intro wq hq
    go_simp
  simp only [Act.put, List.setIfInBounds_toArray, List.set_cons_zero, List.set_cons_succ]
  refine wpAnyH_done (by kernel_rfl) ?_ _
  obtain ⟨-, k1⟩ := hS9
  go_upto_region 3 with (fail)
  obtain ⟨hd, hhd⟩ : ∃ hd, hd = le4 p ++ le4 n1 := ⟨_, rfl⟩
  rw [← hhd] at H2
  have HHD : Hid (hd = le4 p ++ le4 n1 ∧ hd.length = 8) := ⟨hhd, by rw [hhd]; simp [le4_length]⟩
  clear hhd x0 L1 L2
  go_loopw [3, 19] (fun b i wr => ∃ (k : Nat) (a : Option Addr) (m q : Nat), k ≤ n1 ∧ i = .int .i64 k ∧ b = .slice a m q ∧ Hid (Told w.heap.size W1 wr (.slice none 0 0) (.slice a m q) m (hd ++ (cs.take k).flatMap encC))) (fun _ i _ => n1 - (intOf i).toNat)
  case atStart => exact ⟨0, a2, 4 + 4, p2, Nat.zero_le _, rfl, rfl, put_by (by simpa using H2.out)⟩
  case round =>
    clear H2 k1
    obtain ⟨k, a, m, q, hk, rfl, rfl, HB⟩ := hrel
    rename World => wr
    by_cases hlt : k < n1
    · have hx : k < cs.length := by rw [← HN.out.1]; exact hlt
      have HBW := put_by (HA.out.trans (HB.out.from.mono HA.out.size))
      have hok := HM.out.cells _ (List.getElem_mem hx)
      obtain ⟨bb, off, a1, c1, a2, c2, rfl, hk1, hk2, hb, hc⟩ := cel_at HI.out.cells hx
      obtain ⟨d0, d1, d2, d3⟩ := hc wr HBW.out
      obtain ⟨xa, xc, e1, hxo, -⟩ := hk1
      cases e1
      obtain ⟨ya, yc, e2, hyo, -⟩ := hk2
      cases e2
      obtain ⟨sn, hsn⟩ : ∃ sn : Nat, (sn : Int) = (cs[k]).since := ⟨(cs[k]).since.toNat, by have := hok.2.2.2.2.1; omega⟩
      have hsn2 : sn < 4294967296 := by have := hok.2.2.2.2.2; simp only at this; omega
      obtain ⟨ky, hky⟩ : ∃ ky, ky = (cs[k]).key := ⟨_, rfl⟩
      obtain ⟨vl, hvl⟩ : ∃ vl, vl = (cs[k]).val := ⟨_, rfl⟩
      obtain ⟨g, hg⟩ : ∃ g, g = (cs[k]).gone := ⟨_, rfl⟩
      have HS : Hid (hd ++ (cs.take (k + 1)).flatMap encC = hd ++ (cs.take k).flatMap encC ++ txt4 ky ++ [flagB g] ++ txt4 vl ++ le4 sn) := by
        rw [take_succ' hx, List.flatMap_append, hky, hvl, hg]
        have : sn = (cs[k]).since.toNat := by omega
        simp [encC, Hid, this]
      have HLn : Hid ((hd ++ (cs.take k).flatMap encC).length + (13 + ky.length + vl.length) ≤ 140737488351232 ∧ ky.length ≤ 1200 ∧ vl.length ≤ 4000) := by
        have h1 := flat_take encC cs (k + 1)
        have h2 := congrArg List.length HS.out
        simp only [List.length_append, txt4_length, le4_length, List.length_singleton] at h2 ⊢
        have h3 := HT.out
        have h4 := HHD.out.2
        refine ⟨by omega, by rw [hky]; exact hok.2.1, by rw [hvl]; exact hok.2.2.1⟩
      rw [← hky] at d0 hxo
      rw [← hvl] at d1 hyo
      rw [← hg] at d2
      rw [← hsn] at d3
      have HKO := put_by (And.intro hxo hyo)
      clear hc hxo hyo hok hky hvl hg hsn
      have HIN : Hid (InL w.heap.size W1 wr.heap.size [.slice a1 ky.length c1, .slice a2 vl.length c2, .bool g, .int .i64 (sn : Int)] (.slice a m q) m (hd ++ (cs.take k).flatMap encC) 140737488351232 (wr.alloc (.cells #[.slice a1 ky.length c1, .slice a2 vl.length c2, .bool g, .int .i64 (sn : Int)] 51))) := InL.start HB.out (by have := HLn.out; omega) #[.slice a1 ky.length c1, .slice a2 vl.length c2, .bool g, .int .i64 (sn : Int)] _
      have cT : Hid (∀ (ta : Option Addr) (tc : Nat) (ts : List Int), ts.length ≤ 4000 → Octs w ta tc ts → ∀ (V : World) (a : Option Addr) (m k' : Nat) (xs : List Int), xs.length + (4 + ts.length) ≤ 140737488351232 → InL w.heap.size W1 wr.heap.size [.slice a1 ky.length c1, .slice a2 vl.length c2, .bool g, .int .i64 (sn : Int)] (.slice a m k') m xs 140737488351232 V → Calls Try.prog 45 #[.slice a m k', .slice ta ts.length tc] V fun e w' => ∃ (a' : Option Addr) (m' p' : Nat), e = .returned (.slice a' m' p') ∧ (w'.cell? ⟨wr.heap.size, 0, none⟩ = some (.slice a1 ky.length c1) ∧ w'.cell? ⟨wr.heap.size, 1, none⟩ = some (.slice a2 vl.length c2) ∧ w'.cell? ⟨wr.heap.size, 2, none⟩ = some (.bool g) ∧ w'.cell? ⟨wr.heap.size, 3, none⟩ = some (.int .i64 (sn : Int))) ∧ Hid (InL w.heap.size W1 wr.heap.size [.slice a1 ky.length c1, .slice a2 vl.length c2, .bool g, .int .i64 (sn : Int)] (.slice a' m' p') m' (xs ++ txt4 ts) 140737488351232 w')) := fun ta tc ts ht ho V a m k' xs hx h => by
        have hV := HA.out.trans (h.told.from.mono HA.out.size)
        refine (withText_any w.heap.size xs ts (by omega) a m k' ta tc (by omega) V hV.size h.told.len h.told.own (ho.later hV) ho.blocks).mono ?_
        rintro e w' ⟨a', m', p', rfl, h9⟩
        have h8 := h.next h9 (K' := 140737488351232) (by rw [List.length_append, txt4_length]; omega)
        exact ⟨a', m', p', rfl, ⟨h8.cell 0 _ rfl, h8.cell 1 _ rfl, h8.cell 2 _ rfl, h8.cell 3 _ rfl⟩, h8⟩
      have cQ : Hid (∀ (V : World) (q : Nat), q < 4294967296 → ∀ {a : Option Addr} {m k' : Nat} {xs : List Int} (_ : Unit), InL w.heap.size W1 wr.heap.size [.slice a1 ky.length c1, .slice a2 vl.length c2, .bool g, .int .i64 (sn : Int)] (.slice a m k') m xs 140737488351232 V → Calls Try.prog 44 #[.int .i64 (q : Int)] V fun e w' => e = .returned (.slice (some ⟨V.heap.size, 0, none⟩) 4 4) ∧ (w'.cell? ⟨wr.heap.size, 0, none⟩ = some (.slice a1 ky.length c1) ∧ w'.cell? ⟨wr.heap.size, 1, none⟩ = some (.slice a2 vl.length c2) ∧ w'.cell? ⟨wr.heap.size, 2, none⟩ = some (.bool g) ∧ w'.cell? ⟨wr.heap.size, 3, none⟩ = some (.int .i64 (sn : Int))) ∧ Hid (Octs w' (some ⟨V.heap.size, 0, none⟩) 4 (le4 q) ∧ Below V.heap.size V w')) := fun V q hq a m k' xs _ h => (little_new q hq V).mono (fun e w' h9 => ⟨h9.1, ⟨(h.later h9.2.2).cell 0 _ rfl, (h.later h9.2.2).cell 1 _ rfl, (h.later h9.2.2).cell 2 _ rfl, (h.later h9.2.2).cell 3 _ rfl⟩, h9.2⟩)
      have cF : Hid (∀ V, Calls Try.prog 46 #[.bool g] V fun e w' => e = .returned (.int .i64 (flagB g)) ∧ V = w') := fun V => flag_any g V
      have e1 := put_by (cT.out a1 c1 ky (by have := HLn.out; omega) HKO.out.1)
      have e3 := put_by (cT.out a2 c2 vl HLn.out.2.2 HKO.out.2)
      have ik : (k : Int) < (n1 : Int) := by omega
      obtain ⟨f, hf⟩ : ∃ f, f = flagB g := ⟨_, rfl⟩
      have HF : Hid (∀ y ∈ [f], 0 ≤ y ∧ y ≤ 255) := fun y hy => by rw [List.mem_singleton.1 hy, hf]; exact flagB_byte _
      have ifw : IntKind.u8.wrap f = f := by have := HF.out f (by simp); rw [IntKind.wrap_u8]; omega
      clear cT HKO HB
      have HL1 : Hid ((hd ++ (cs.take k).flatMap encC).length + (4 + ky.length) ≤ 140737488351232 ∧ (hd ++ (cs.take k).flatMap encC ++ txt4 ky).length + 1 ≤ 140737488351232 ∧ (hd ++ (cs.take k).flatMap encC ++ txt4 ky ++ [f]).length + (4 + vl.length) ≤ 140737488351232 ∧ (hd ++ (cs.take k).flatMap encC ++ txt4 ky ++ [f] ++ txt4 vl).length + 4 ≤ 140737488351232) := by
        have h := HLn.out.1
        simp only [List.length_append, txt4_length, List.length_singleton] at h ⊢
        exact ⟨by omega, by omega, by omega, by omega⟩
      rw [← hf] at HS cF
      clear hf
      generalize ky.length = i1 at d0 HIN e1 e3 HL1 HLn cQ
      generalize vl.length = i2 at d1 HIN e1 e3 HL1 HLn cQ
      go_upto_region 5 with (fail)
      generalize wr.alloc (.cells #[.slice a1 i1 c1, .slice a2 i2 c2, .bool g, .int .i64 (sn : Int)] _) = W5 at HIN ⊢
      have hS := (show (fun W => W.cell? ⟨wr.heap.size, 0, none⟩ = some (.slice a1 i1 c1) ∧ W.cell? ⟨wr.heap.size, 1, none⟩ = some (.slice a2 i2 c2) ∧ W.cell? ⟨wr.heap.size, 2, none⟩ = some (.bool g) ∧ W.cell? ⟨wr.heap.size, 3, none⟩ = some (.int .i64 (sn : Int))) W5.drew from ⟨HIN.out.cell 0 _ rfl, HIN.out.cell 1 _ rfl, HIN.out.cell 2 _ rfl, HIN.out.cell 3 _ rfl⟩)
      refine wp_region_held (S := fun W => W.cell? ⟨wr.heap.size, 0, none⟩ = some (.slice a1 i1 c1) ∧ W.cell? ⟨wr.heap.size, 1, none⟩ = some (.slice a2 i2 c2) ∧ W.cell? ⟨wr.heap.size, 2, none⟩ = some (.bool g) ∧ W.cell? ⟨wr.heap.size, 3, none⟩ = some (.int .i64 (sn : Int))) (by kernel_rfl) ?_
      change wpAnyH _ _ _ _ _ 11 #[false, false, false, false, false, false, false, false, false, false, false] _ W5.drew
      refine takeH (i := 0) 23 (v := .slice a m q) rfl rfl (by kernel_rfl) (by kernel_rfl) (by kernel_rfl) (fun _ _ _ h => h) (Or.inl ⟨by kernel_rfl, ?_⟩) hS ?_
      · intro wq hq
        go_simp
      simp only [Act.put, List.setIfInBounds_toArray, List.set_cons_zero]
      refine takeH (i := 1) 24 (v := .pointer (some ⟨wr.heap.size, 0, none⟩)) rfl rfl (by kernel_rfl) (by kernel_rfl) (by kernel_rfl) (fun _ _ _ h => h) (Or.inl ⟨by kernel_rfl, ?_⟩) hS ?_
      · intro wq hq
        go_simp
      simp only [Act.put, List.setIfInBounds_toArray, List.set_cons_zero, List.set_cons_succ]
      refine takeH (i := 2) 25 (v := .slice a1 i1 c1) rfl rfl (by kernel_rfl) (by kernel_rfl) (by kernel_rfl) (fun _ _ _ h => h) (Or.inl ⟨by kernel_rfl, ?_⟩) hS ?_
      · intro wq hq
        obtain ⟨q0, q1, q2, q3⟩ := hq
        go_simp
      simp only [Act.put, List.setIfInBounds_toArray, List.set_cons_zero, List.set_cons_succ]
      refine takeH (i := 4) 27 (v := .pointer (some ⟨wr.heap.size, 2, none⟩)) rfl rfl (by kernel_rfl) (by kernel_rfl) (by kernel_rfl) (fun _ _ _ h => h) (Or.inl ⟨by kernel_rfl, ?_⟩) hS ?_
      · intro wq hq
        go_simp
      simp only [Act.put, List.setIfInBounds_toArray, List.set_cons_zero, List.set_cons_succ]
      refine takeH (i := 5) 28 (v := .bool g) rfl rfl (by kernel_rfl) (by kernel_rfl) (by kernel_rfl) (fun _ _ _ h => h) (Or.inl ⟨by kernel_rfl, ?_⟩) hS ?_
      · intro wq hq
        obtain ⟨q0, q1, q2, q3⟩ := hq
        go_simp
      simp only [Act.put, List.setIfInBounds_toArray, List.set_cons_zero, List.set_cons_succ]
      refine wpAnyH_ready (rs := [3]) (by kernel_rfl) (by simp) ?_
      refine AllReadyH.cons rfl (fun K1 hK1 => ?_) AllReadyH.nil
      rw [if_pos (by kernel_rfl)]
      unfold Oper.wp
      go_simp
      go_wp2_with (go_at_call 45; (with_reducible refine (e1.out _ _ _ _ _ HL1.out.1 (HIN.out.later (Below.refl _ _).drew)).mono ?_); clear e1; rintro e w5 ⟨a5, m5, p5, rfl, hS5, H5⟩)
      refine hK1.out _ _ hS5 (fun _ => ?_)
      simp only [List.setIfInBounds_toArray, List.set_cons_zero, List.set_cons_succ]
      refine wpAnyH_ready (rs := [6]) (by kernel_rfl) (by simp) ?_
      refine AllReadyH.cons rfl (fun K1 hK2 => ?_) AllReadyH.nil
      rw [if_pos (by kernel_rfl)]
      unfold Oper.wp
      go_simp
      go_wp2_with (go_at_call 46; (with_reducible refine (cF.out _).mono ?_); rintro e w6 ⟨rfl, rfl⟩)
      refine hK2.out _ _ hS5 (fun _ => ?_)
      simp only [List.setIfInBounds_toArray, List.set_cons_zero, List.set_cons_succ]
      refine takeH (i := 7) 30 (v := .int .u8 f) rfl rfl (by kernel_rfl) (by kernel_rfl) (by kernel_rfl) (fun _ _ _ h => h) (Or.inl ⟨by kernel_rfl, ?_⟩) hS5 ?_
      · intro wq hq
        go_simp
      simp only [Act.put, List.setIfInBounds_toArray, List.set_cons_zero, List.set_cons_succ]
      refine wpAnyH_ready (rs := [8]) (by kernel_rfl) (by simp) ?_
      refine AllReadyH.cons rfl (fun K1 hK1 => ?_) AllReadyH.nil
      rw [if_pos (by kernel_rfl)]
      unfold Oper.wp
      go_simp
      have HB6 := put_by ((Below.refl w5.heap.size w5).alloc (Nat.le_refl _) (.cells #[.int .u8 f] 5))
      have HO6 := put_by (octs_alloc w5 [f] 1 5 (0, 0) #[.int .u8 f] rfl (by simp) (by simp) HF.out)
      have h6 := H5.out.later HB6.out
      have hS6 : (fun W => W.cell? ⟨wr.heap.size, 0, none⟩ = some (.slice a1 i1 c1) ∧ W.cell? ⟨wr.heap.size, 1, none⟩ = some (.slice a2 i2 c2) ∧ W.cell? ⟨wr.heap.size, 2, none⟩ = some (.bool g) ∧ W.cell? ⟨wr.heap.size, 3, none⟩ = some (.int .i64 (sn : Int))) (w5.alloc (.cells #[.int .u8 f] 5)) := ⟨h6.cell 0 _ rfl, h6.cell 1 _ rfl, h6.cell 2 _ rfl, h6.cell 3 _ rfl⟩
      refine hK1.out _ _ hS6 (fun _ => ?_)
      simp only [List.setIfInBounds_toArray, List.set_cons_zero, List.set_cons_succ]
      clear hK1 h6
      generalize w5.alloc (.cells #[.int .u8 f] _) = w6 at HB6 HO6 hS6 ⊢
      refine wpAnyH_ready (rs := [9]) (by kernel_rfl) (by simp) ?_
      refine AllReadyH.cons rfl (fun K1 hK1 => ?_) AllReadyH.nil
      rw [if_pos (by kernel_rfl)]
      refine wp_of_list rfl (by rintro ⟨_, _, hh⟩; exact HO.out _ hh) (wpList_append_oct_at rfl (.tmp 26) (.tmp 31) rfl w.heap.size (.slice a5 m5 p5) m5 _ rfl (own_stays H5.out.told.own HB6.out) (some ⟨w5.heap.size, 0, none⟩) 1 1 ([f]) rfl rfl (HO6.out) (by have := H5.out.told.len; have := H5.out.few; omega) (Nat.le_trans (HA.out.trans (H5.out.told.from.mono HA.out.size)).size HB6.out.size) (fun v9 w9 h1 h2 h3 => list_end ?_))
      obtain ⟨a6, p6, e9, h9⟩ := H5.out.app (ys := [f]) HB6.out h1 h2 h3 rfl (K' := 140737488351232) (by have := HL1.out.2.1; simp only [List.length_append, List.length_singleton] at this ⊢; omega)
      subst e9
      have H6 := put_by h9
      have hS9 : (fun W => W.cell? ⟨wr.heap.size, 0, none⟩ = some (.slice a1 i1 c1) ∧ W.cell? ⟨wr.heap.size, 1, none⟩ = some (.slice a2 i2 c2) ∧ W.cell? ⟨wr.heap.size, 2, none⟩ = some (.bool g) ∧ W.cell? ⟨wr.heap.size, 3, none⟩ = some (.int .i64 (sn : Int))) w9 := ⟨h9.cell 0 _ rfl, h9.cell 1 _ rfl, h9.cell 2 _ rfl, h9.cell 3 _ rfl⟩
      refine hK1.out _ _ hS9 (fun _ => ?_)
      simp only [List.setIfInBounds_toArray, List.set_cons_zero, List.set_cons_succ]
      clear h1 h2 h3 hK1 h9
      refine takeH (i := 10) 3 (v := .slice a6 (m5 + 1) p6) rfl rfl (by kernel_rfl) (by kernel_rfl) (by kernel_rfl) (fun _ _ _ h => h) (Or.inl ⟨by kernel_rfl, ?_⟩) hS9 ?_
      · intro wq hq
        go_simp
      simp only [Act.put, List.setIfInBounds_toArray, List.set_cons_zero, List.set_cons_succ]
      refine wpAnyH_done (by kernel_rfl) ?_ _
      go_upto_region 6 with (fail)
      refine wp_region_held (S := fun W => W.cell? ⟨wr.heap.size, 0, none⟩ = some (.slice a1 i1 c1) ∧ W.cell? ⟨wr.heap.size, 1, none⟩ = some (.slice a2 i2 c2) ∧ W.cell? ⟨wr.heap.size, 2, none⟩ = some (.bool g) ∧ W.cell? ⟨wr.heap.size, 3, none⟩ = some (.int .i64 (sn : Int))) (by kernel_rfl) ?_
      change wpAnyH _ _ _ _ _ 9 #[false, false, false, false, false, false, false, false, false] _ w9.drew
      refine takeH (i := 0) 33 (v := .slice a6 (m5 + 1) p6) rfl rfl (by kernel_rfl) (by kernel_rfl) (by kernel_rfl) (fun _ _ _ h => h) (Or.inl ⟨by kernel_rfl, ?_⟩) hS9 ?_
      · intro wq hq
        go_simp
      simp only [Act.put, List.setIfInBounds_toArray, List.set_cons_zero]
      refine takeH (i := 1) 34 (v := .pointer (some ⟨wr.heap.size, 1, none⟩)) rfl rfl (by kernel_rfl) (by kernel_rfl) (by kernel_rfl) (fun _ _ _ h => h) (Or.inl ⟨by kernel_rfl, ?_⟩) hS9 ?_
      · intro wq hq
        go_simp
      simp only [Act.put, List.setIfInBounds_toArray, List.set_cons_zero, List.set_cons_succ]
      refine takeH (i := 2) 35 (v := .slice a2 i2 c2) rfl rfl (by kernel_rfl) (by kernel_rfl) (by kernel_rfl) (fun _ _ _ h => h) (Or.inl ⟨by kernel_rfl, ?_⟩) hS9 ?_
      · intro wq hq
        obtain ⟨q0, q1, q2, q3⟩ := hq
        go_simp
      simp only [Act.put, List.setIfInBounds_toArray, List.set_cons_zero, List.set_cons_succ]
      refine takeH (i := 4) 37 (v := .pointer (some ⟨wr.heap.size, 3, none⟩)) rfl rfl (by kernel_rfl) (by kernel_rfl) (by kernel_rfl) (fun _ _ _ h => h) (Or.inl ⟨by kernel_rfl, ?_⟩) hS9 ?_
      · intro wq hq
        go_simp
      simp only [Act.put, List.setIfInBounds_toArray, List.set_cons_zero, List.set_cons_succ]
      refine takeH (i := 5) 38 (v := .int .i64 (sn : Int)) rfl rfl (by kernel_rfl) (by kernel_rfl) (by kernel_rfl) (fun _ _ _ h => h) (Or.inl ⟨by kernel_rfl, ?_⟩) hS9 ?_
      · intro wq hq
        obtain ⟨q0, q1, q2, q3⟩ := hq
        go_simp
      simp only [Act.put, List.setIfInBounds_toArray, List.set_cons_zero, List.set_cons_succ]
      refine wpAnyH_ready (rs := [3]) (by kernel_rfl) (by simp) ?_
      refine AllReadyH.cons rfl (fun K1 hK1 => ?_) AllReadyH.nil
      rw [if_pos (by kernel_rfl)]
      unfold Oper.wp
      go_simp
      go_wp2_with (go_at_call 45; (with_reducible refine (e3.out _ _ _ _ _ HL1.out.2.2.1 (H6.out.later (Below.refl _ _).drew)).mono ?_); clear e3; rintro e w7 ⟨a7, m7, p7, rfl, hS7, H7⟩)
      refine hK1.out _ _ hS7 (fun _ => ?_)
      simp only [List.setIfInBounds_toArray, List.set_cons_zero, List.set_cons_succ]
      refine wpAnyH_ready (rs := [6]) (by kernel_rfl) (by simp) ?_
      refine AllReadyH.cons rfl (fun K1 hK2 => ?_) AllReadyH.nil
      rw [if_pos (by kernel_rfl)]
      unfold Oper.wp
      go_simp
      go_wp2_with (go_at_call 44; (with_reducible refine (cQ.out _ sn hsn2 () H7.out).mono ?_); rintro e u8 ⟨rfl, hS8, L8⟩)
      refine hK2.out _ _ hS8 (fun _ => ?_)
      simp only [List.setIfInBounds_toArray, List.set_cons_zero, List.set_cons_succ]
      refine wpAnyH_ready (rs := [7]) (by kernel_rfl) (by simp) ?_
      refine AllReadyH.cons rfl (fun K1 hK1 => ?_) AllReadyH.nil
      rw [if_pos (by kernel_rfl)]
      refine wp_of_list rfl (by rintro ⟨_, _, hh⟩; exact HO.out _ hh) (wpList_append_oct_at rfl (.tmp 36) (.tmp 39) rfl w.heap.size (.slice a7 m7 p7) m7 _ rfl (own_stays H7.out.told.own L8.out.2) (some ⟨w7.heap.size, 0, none⟩) 4 4 (le4 sn) rfl rfl (L8.out.1) (by have := H7.out.told.len; have := H7.out.few; omega) (Nat.le_trans (HA.out.trans (H7.out.told.from.mono HA.out.size)).size L8.out.2.size) (fun v9 wz h1 h2 h3 => list_end ?_))
      obtain ⟨a8, p8, e9, h9⟩ := H7.out.app (ys := le4 sn) L8.out.2 h1 h2 h3 rfl (K' := 140737488351232) (by have := HL1.out.2.2.2; simp only [List.length_append, le4_length] at this ⊢; omega)
      subst e9
      have H8 := put_by h9
      have hS10 : (fun W => W.cell? ⟨wr.heap.size, 0, none⟩ = some (.slice a1 i1 c1) ∧ W.cell? ⟨wr.heap.size, 1, none⟩ = some (.slice a2 i2 c2) ∧ W.cell? ⟨wr.heap.size, 2, none⟩ = some (.bool g) ∧ W.cell? ⟨wr.heap.size, 3, none⟩ = some (.int .i64 (sn : Int))) wz := ⟨h9.cell 0 _ rfl, h9.cell 1 _ rfl, h9.cell 2 _ rfl, h9.cell 3 _ rfl⟩
      refine hK1.out _ _ hS10 (fun _ => ?_)
      simp only [List.setIfInBounds_toArray, List.set_cons_zero, List.set_cons_succ]
      clear h1 h2 h3 hK1 h9
      refine takeH (i := 8) 3 (v := .slice a8 (m7 + 4) p8) rfl rfl (by kernel_rfl) (by kernel_rfl) (by kernel_rfl) (fun _ _ _ h => h) (Or.inl ⟨by kernel_rfl, ?_⟩) hS10 ?_
      · intro wq hq
        go_simp
      simp only [Act.put, List.setIfInBounds_toArray, List.set_cons_zero, List.set_cons_succ]
      refine wpAnyH_done (by kernel_rfl) ?_ _
      go_wp2
      go_roundw
      case rel => exact ⟨k + 1, a8, m7 + 4, p8, by omega, by go_num, rfl, by rw [HS.out]; exact H8.out.told⟩
      case measure => simp [intOf]; omega
    · obtain rfl : k = n1 := by omega
      have HT1 : Hid (Told w.heap.size W1 wr (.slice none 0 0) (.slice a m q) m (hd ++ cs.flatMap encC) ∧ (hd ++ cs.flatMap encC).length ≤ 140737488351232) := by
        have h := HB.out
        rw [List.take_of_length_le (by rw [← HN.out.1]; exact Nat.le_refl _)] at h
        exact ⟨h, by rw [List.length_append]; have := HT.out; have := HHD.out.2; omega⟩
      obtain ⟨k1, k2⟩ := HK.out wr HB.out.from
      clear HB
      have cL : Hid (Calls Try.prog 44 #[.int .i64 (n2 : Int)] wr fun e w' => e = .returned (.slice (some ⟨wr.heap.size, 0, none⟩) 4 4) ∧ Hid (Octs w' (some ⟨wr.heap.size, 0, none⟩) 4 (le4 n2) ∧ Below wr.heap.size wr w')) := (little_new n2 (by omega) wr).mono (fun e w' h => ⟨h.1, h.2⟩)
      have kA : Hid (∀ (u5 : World), Below wr.heap.size wr u5 → ∀ (v' : Value) (w5 : World), w5.ownsRow w.heap.size 5 1 v' (m + 4) ((hd ++ cs.flatMap encC).map (Value.int .u8) ++ (le4 n2).map (Value.int .u8)) → u5.grownBy w5 (Value.slice a m q).ownBlock → (v'.ownBlock = (Value.slice a m q).ownBlock ∨ v'.ownBlock = some u5.heap.size) → ∃ a5 p5, v' = .slice a5 (m + 4) p5 ∧ (w5.cell? ⟨w.heap.size, 1, none⟩ = some (.slice ca k cc) ∧ w5.cell? ⟨w.heap.size, 2, none⟩ = some (.slice da n2 dc)) ∧ Hid (Told w.heap.size W1 w5 (.slice none 0 0) (.slice a5 (m + 4) p5) (m + 4) (hd ++ cs.flatMap encC ++ le4 n2))) := fun u5 hb v' w5 h1 h2 h3 => by
        obtain ⟨a5, p5, rfl⟩ := own_val h1
        have h9 := HT1.out.1.trans (told_later (xs := hd ++ cs.flatMap encC ++ le4 n2) hb h1 (by simp) (by rw [List.length_append, le4_length, ← HT1.out.1.len]) h2 h3)
        exact ⟨a5, p5, rfl, HK.out _ h9.from, h9⟩
      have hm9 : m ≤ 140737488351232 := by rw [HT1.out.1.len]; exact HT1.out.2
      go_upto_region 10 with (first
        | (go_at_call 44; (with_reducible refine cL.out.mono ?_); clear cL; rintro e u5 ⟨rfl, L5⟩)
        | (at_builtin; refine wpList_append_oct_at rfl (.tmp 42) (.tmp 46) rfl w.heap.size (.slice a m q) m _ rfl (own_stays HT1.out.1.own L5.out.2) (some ⟨wr.heap.size, 0, none⟩) 4 4 (le4 n2) rfl rfl L5.out.1 (by omega) (Nat.le_trans (HA.out.trans (HT1.out.1.from.mono HA.out.size)).size L5.out.2.size) ?_; intro v' w5 h1 h2 h3; obtain ⟨a5, p5, e5, ⟨k3, k4⟩, H5⟩ := kA.out _ L5.out.2 _ _ h1 h2 h3; subst e5; clear h1 h2 h3))
      obtain ⟨he, hhe⟩ : ∃ he, he = hd ++ cs.flatMap encC ++ le4 n2 := ⟨_, rfl⟩
      rw [← hhe] at H5
      have HHE : Hid (he = hd ++ cs.flatMap encC ++ le4 n2 ∧ he.length = 12 + (cs.flatMap encC).length) := ⟨hhe, by rw [hhe, List.length_append, List.length_append, le4_length, HHD.out.2]; omega⟩
      clear hhe HT1 k1 k2 kA L5 hm9
      go_loopw [3, 51] (fun b i wr => ∃ (k : Nat) (a : Option Addr) (m q : Nat), k ≤ n2 ∧ i = .int .i64 k ∧ b = .slice a m q ∧ Hid (Told w.heap.size W1 wr (.slice none 0 0) (.slice a m q) m (he ++ (ds.take k).flatMap encD))) (fun _ i _ => n2 - (intOf i).toNat)
      case atStart => exact ⟨0, a5, m + 4, p5, Nat.zero_le _, rfl, rfl, put_by (by simpa using H5.out)⟩
      case round =>
        clear H5 k3 k4 hk hlt
        obtain ⟨j, a, m, q, hk, rfl, rfl, HB⟩ := hrel
        rename World => wr
        by_cases hlt : j < n2
        · have hx : j < ds.length := by rw [← HN.out.2]; exact hlt
          have HBW := put_by (HA.out.trans (HB.out.from.mono HA.out.size))
          have hok := HM.out.dones _ (List.getElem_mem hx)
          obtain ⟨bb, off, rfl, hb, hc⟩ := dn_at HI.out.dones hx
          obtain ⟨d0, d1, d2, d3⟩ := hc wr HBW.out
          have ho1 := hok.1
          have ho2 := hok.2.1
          have ho3 := hok.2.2
          simp only at ho3
          obtain ⟨cn, hcn⟩ : ∃ cn : Nat, (cn : Int) = (ds[j]).client := ⟨(ds[j]).client.toNat, by omega⟩
          obtain ⟨mn, hmn⟩ : ∃ mn : Nat, (mn : Int) = (ds[j]).number := ⟨(ds[j]).number.toNat, by omega⟩
          obtain ⟨qn, hqn⟩ : ∃ qn : Nat, (qn : Int) = (ds[j]).pos := ⟨(ds[j]).pos.toNat, by omega⟩
          obtain ⟨g, hg⟩ : ∃ g, g = (ds[j]).kept := ⟨_, rfl⟩
          have hcn2 : cn < 4294967296 := by omega
          have hmn2 : mn < 4294967296 := by omega
          have hqn2 : qn < 4294967296 := by omega
          have HS : Hid (he ++ (ds.take (j + 1)).flatMap encD = he ++ (ds.take j).flatMap encD ++ le4 cn ++ le4 mn ++ le4 qn ++ [flagB g]) := by
            rw [take_succ' hx, List.flatMap_append, hg]
            have t1 : cn = (ds[j]).client.toNat := by omega
            have t2 : mn = (ds[j]).number.toNat := by omega
            have t3 : qn = (ds[j]).pos.toNat := by omega
            simp [encD, Hid, t1, t2, t3]
          have HLn : Hid ((he ++ (ds.take j).flatMap encD).length + 13 ≤ 140737488351232) := by
            have h1 := flat_take encD ds (j + 1)
            have h2 := congrArg List.length HS.out
            simp only [List.length_append, le4_length, List.length_singleton] at h2
            have h3 := HT.out
            have h4 := HHE.out.2
            show _ ≤ _
            rw [List.length_append]
            omega
          rw [← hcn] at d0
          rw [← hmn] at d1
          rw [← hqn] at d2
          rw [← hg] at d3
          clear hc hok ho1 ho2 ho3 hcn hmn hqn hg
          have HIN : Hid (InL w.heap.size W1 wr.heap.size [.int .i64 (cn : Int), .int .i64 (mn : Int), .int .i64 (qn : Int), .bool g] (.slice a m q) m (he ++ (ds.take j).flatMap encD) 140737488351232 (wr.alloc (.cells #[.int .i64 (cn : Int), .int .i64 (mn : Int), .int .i64 (qn : Int), .bool g] 53))) := InL.start HB.out (by have := HLn.out; omega) #[.int .i64 (cn : Int), .int .i64 (mn : Int), .int .i64 (qn : Int), .bool g] _
          have cQ : Hid (∀ (V : World) (q : Nat), q < 4294967296 → ∀ {a : Option Addr} {m k' : Nat} {xs : List Int} (_ : Unit), InL w.heap.size W1 wr.heap.size [.int .i64 (cn : Int), .int .i64 (mn : Int), .int .i64 (qn : Int), .bool g] (.slice a m k') m xs 140737488351232 V → Calls Try.prog 44 #[.int .i64 (q : Int)] V fun e w' => e = .returned (.slice (some ⟨V.heap.size, 0, none⟩) 4 4) ∧ (w'.cell? ⟨wr.heap.size, 0, none⟩ = some (.int .i64 (cn : Int)) ∧ w'.cell? ⟨wr.heap.size, 1, none⟩ = some (.int .i64 (mn : Int)) ∧ w'.cell? ⟨wr.heap.size, 2, none⟩ = some (.int .i64 (qn : Int)) ∧ w'.cell? ⟨wr.heap.size, 3, none⟩ = some (.bool g)) ∧ Hid (Octs w' (some ⟨V.heap.size, 0, none⟩) 4 (le4 q) ∧ Below V.heap.size V w')) := fun V q hq a m k' xs _ h => (little_new q hq V).mono (fun e w' h9 => ⟨h9.1, ⟨(h.later h9.2.2).cell 0 _ rfl, (h.later h9.2.2).cell 1 _ rfl, (h.later h9.2.2).cell 2 _ rfl, (h.later h9.2.2).cell 3 _ rfl⟩, h9.2⟩)
          have cF : Hid (∀ V, Calls Try.prog 46 #[.bool g] V fun e w' => e = .returned (.int .i64 (flagB g)) ∧ V = w') := fun V => flag_any g V
          have ik : (j : Int) < (n2 : Int) := by omega
          obtain ⟨f, hf⟩ : ∃ f, f = flagB g := ⟨_, rfl⟩
          have HF : Hid (∀ y ∈ [f], 0 ≤ y ∧ y ≤ 255) := fun y hy => by rw [List.mem_singleton.1 hy, hf]; exact flagB_byte _
          have ifw : IntKind.u8.wrap f = f := by have := HF.out f (by simp); rw [IntKind.wrap_u8]; omega
          clear HB
          have HL1 : Hid ((he ++ (ds.take j).flatMap encD).length + 4 ≤ 140737488351232 ∧ (he ++ (ds.take j).flatMap encD ++ le4 cn).length + 4 ≤ 140737488351232 ∧ (he ++ (ds.take j).flatMap encD ++ le4 cn ++ le4 mn).length + 4 ≤ 140737488351232 ∧ (he ++ (ds.take j).flatMap encD ++ le4 cn ++ le4 mn ++ le4 qn).length + 1 ≤ 140737488351232) := by
            have h := HLn.out
            simp only [List.length_append, le4_length] at h ⊢
            exact ⟨by omega, by omega, by omega, by omega⟩
          rw [← hf] at HS cF
          clear hf
          go_upto_region 12 with (fail)
          generalize wr.alloc (.cells #[.int .i64 (cn : Int), .int .i64 (mn : Int), .int .i64 (qn : Int), .bool g] _) = W5 at HIN ⊢
          have HJ := put_by (HIN.out.later (Below.refl _ _).drew)
          have hS := (show (fun W => W.cell? ⟨wr.heap.size, 0, none⟩ = some (.int .i64 (cn : Int)) ∧ W.cell? ⟨wr.heap.size, 1, none⟩ = some (.int .i64 (mn : Int)) ∧ W.cell? ⟨wr.heap.size, 2, none⟩ = some (.int .i64 (qn : Int)) ∧ W.cell? ⟨wr.heap.size, 3, none⟩ = some (.bool g)) W5.drew from ⟨HIN.out.cell 0 _ rfl, HIN.out.cell 1 _ rfl, HIN.out.cell 2 _ rfl, HIN.out.cell 3 _ rfl⟩)
          refine wp_region_held (S := fun W => W.cell? ⟨wr.heap.size, 0, none⟩ = some (.int .i64 (cn : Int)) ∧ W.cell? ⟨wr.heap.size, 1, none⟩ = some (.int .i64 (mn : Int)) ∧ W.cell? ⟨wr.heap.size, 2, none⟩ = some (.int .i64 (qn : Int)) ∧ W.cell? ⟨wr.heap.size, 3, none⟩ = some (.bool g)) (by kernel_rfl) ?_
          change wpAnyH _ _ _ _ _ 14 #[false, false, false, false, false, false, false, false, false, false, false, false, false, false] _ W5.drew
          refine takeH (i := 0) 55 (v := .slice a m q) rfl rfl (by kernel_rfl) (by kernel_rfl) (by kernel_rfl) (fun _ _ _ h => h) (Or.inl ⟨by kernel_rfl, ?_⟩) hS ?_
          · intro wq hq
            go_simp
          simp only [Act.put, List.setIfInBounds_toArray, List.set_cons_zero]
          refine takeH (i := 1) 56 (v := .pointer (some ⟨wr.heap.size, 0, none⟩)) rfl rfl (by kernel_rfl) (by kernel_rfl) (by kernel_rfl) (fun _ _ _ h => h) (Or.inl ⟨by kernel_rfl, ?_⟩) hS ?_
          · intro wq hq
            go_simp
          simp only [Act.put, List.setIfInBounds_toArray, List.set_cons_zero, List.set_cons_succ]
          refine takeH (i := 2) 57 (v := .int .i64 (cn : Int)) rfl rfl (by kernel_rfl) (by kernel_rfl) (by kernel_rfl) (fun _ _ _ h => h) (Or.inl ⟨by kernel_rfl, ?_⟩) hS ?_
          · intro wq hq
            obtain ⟨q0, q1, q2, q3⟩ := hq
            go_simp
          simp only [Act.put, List.setIfInBounds_toArray, List.set_cons_zero, List.set_cons_succ]
          refine takeH (i := 5) 60 (v := .pointer (some ⟨wr.heap.size, 1, none⟩)) rfl rfl (by kernel_rfl) (by kernel_rfl) (by kernel_rfl) (fun _ _ _ h => h) (Or.inl ⟨by kernel_rfl, ?_⟩) hS ?_
          · intro wq hq
            go_simp
          simp only [Act.put, List.setIfInBounds_toArray, List.set_cons_zero, List.set_cons_succ]
          refine takeH (i := 6) 61 (v := .int .i64 (mn : Int)) rfl rfl (by kernel_rfl) (by kernel_rfl) (by kernel_rfl) (fun _ _ _ h => h) (Or.inl ⟨by kernel_rfl, ?_⟩) hS ?_
          · intro wq hq
            obtain ⟨q0, q1, q2, q3⟩ := hq
            go_simp
          simp only [Act.put, List.setIfInBounds_toArray, List.set_cons_zero, List.set_cons_succ]
          refine takeH (i := 9) 64 (v := .pointer (some ⟨wr.heap.size, 2, none⟩)) rfl rfl (by kernel_rfl) (by kernel_rfl) (by kernel_rfl) (fun _ _ _ h => h) (Or.inl ⟨by kernel_rfl, ?_⟩) hS ?_
          · intro wq hq
            go_simp
          simp only [Act.put, List.setIfInBounds_toArray, List.set_cons_zero, List.set_cons_succ]
          refine takeH (i := 10) 65 (v := .int .i64 (qn : Int)) rfl rfl (by kernel_rfl) (by kernel_rfl) (by kernel_rfl) (fun _ _ _ h => h) (Or.inl ⟨by kernel_rfl, ?_⟩) hS ?_
          · intro wq hq
            obtain ⟨q0, q1, q2, q3⟩ := hq
            go_simp
          simp only [Act.put, List.setIfInBounds_toArray, List.set_cons_zero, List.set_cons_succ]
          refine wpAnyH_ready (rs := [3]) (by kernel_rfl) (by simp) ?_
          refine AllReadyH.cons rfl (fun K1 hK2 => ?_) AllReadyH.nil
          rw [if_pos (by kernel_rfl)]
          unfold Oper.wp
          go_simp
          go_wp2_with (go_at_call 44; (with_reducible refine (cQ.out _ cn hcn2 () HJ.out).mono ?_); rintro e u6 ⟨rfl, hSu6, Lu6⟩)
          refine hK2.out _ _ hSu6 (fun _ => ?_)
          simp only [List.setIfInBounds_toArray, List.set_cons_zero, List.set_cons_succ]
          refine wpAnyH_ready (rs := [4]) (by kernel_rfl) (by simp) ?_
          refine AllReadyH.cons rfl (fun K1 hK1 => ?_) AllReadyH.nil
          rw [if_pos (by kernel_rfl)]
          refine wp_of_list rfl (by rintro ⟨_, _, hh⟩; exact HO.out _ hh) (wpList_append_oct_at rfl (.tmp 55) (.tmp 58) rfl w.heap.size (.slice a m q) m _ rfl (own_stays HJ.out.told.own Lu6.out.2) (some ⟨W5.drew.heap.size, 0, none⟩) 4 4 (le4 cn) rfl rfl (Lu6.out.1) (by have := HJ.out.told.len; have := HJ.out.few; omega) (Nat.le_trans (HA.out.trans (HJ.out.told.from.mono HA.out.size)).size Lu6.out.2.size) (fun v9 w6 h1 h2 h3 => list_end ?_))
          obtain ⟨a6, p6, e9, h9⟩ := HJ.out.app (ys := le4 cn) Lu6.out.2 h1 h2 h3 rfl (K' := 140737488351232) (by have := HL1.out.1; simp only [List.length_append, le4_length] at this ⊢; omega)
          subst e9
          have H6 := put_by h9
          have hSw6 : (fun W => W.cell? ⟨wr.heap.size, 0, none⟩ = some (.int .i64 (cn : Int)) ∧ W.cell? ⟨wr.heap.size, 1, none⟩ = some (.int .i64 (mn : Int)) ∧ W.cell? ⟨wr.heap.size, 2, none⟩ = some (.int .i64 (qn : Int)) ∧ W.cell? ⟨wr.heap.size, 3, none⟩ = some (.bool g)) w6 := ⟨h9.cell 0 _ rfl, h9.cell 1 _ rfl, h9.cell 2 _ rfl, h9.cell 3 _ rfl⟩
          refine hK1.out _ _ hSw6 (fun _ => ?_)
          simp only [List.setIfInBounds_toArray, List.set_cons_zero, List.set_cons_succ]
          clear h1 h2 h3 hK1 h9
          refine wpAnyH_ready (rs := [7]) (by kernel_rfl) (by simp) ?_
          refine AllReadyH.cons rfl (fun K1 hK4 => ?_) AllReadyH.nil
          rw [if_pos (by kernel_rfl)]
          unfold Oper.wp
          go_simp
          go_wp2_with (go_at_call 44; (with_reducible refine (cQ.out _ mn hmn2 () H6.out).mono ?_); rintro e u7 ⟨rfl, hSu7, Lu7⟩)
          refine hK4.out _ _ hSu7 (fun _ => ?_)
          simp only [List.setIfInBounds_toArray, List.set_cons_zero, List.set_cons_succ]
          refine wpAnyH_ready (rs := [8]) (by kernel_rfl) (by simp) ?_
          refine AllReadyH.cons rfl (fun K1 hK1 => ?_) AllReadyH.nil
          rw [if_pos (by kernel_rfl)]
          refine wp_of_list rfl (by rintro ⟨_, _, hh⟩; exact HO.out _ hh) (wpList_append_oct_at rfl (.tmp 59) (.tmp 62) rfl w.heap.size (.slice a6 (m + 4) p6) (m + 4) _ rfl (own_stays H6.out.told.own Lu7.out.2) (some ⟨w6.heap.size, 0, none⟩) 4 4 (le4 mn) rfl rfl (Lu7.out.1) (by have := H6.out.told.len; have := H6.out.few; omega) (Nat.le_trans (HA.out.trans (H6.out.told.from.mono HA.out.size)).size Lu7.out.2.size) (fun v9 w7 h1 h2 h3 => list_end ?_))
          obtain ⟨a7, p7, e9, h9⟩ := H6.out.app (ys := le4 mn) Lu7.out.2 h1 h2 h3 rfl (K' := 140737488351232) (by have := HL1.out.2.1; simp only [List.length_append, le4_length] at this ⊢; omega)
          subst e9
          have H7 := put_by h9
          have hSw7 : (fun W => W.cell? ⟨wr.heap.size, 0, none⟩ = some (.int .i64 (cn : Int)) ∧ W.cell? ⟨wr.heap.size, 1, none⟩ = some (.int .i64 (mn : Int)) ∧ W.cell? ⟨wr.heap.size, 2, none⟩ = some (.int .i64 (qn : Int)) ∧ W.cell? ⟨wr.heap.size, 3, none⟩ = some (.bool g)) w7 := ⟨h9.cell 0 _ rfl, h9.cell 1 _ rfl, h9.cell 2 _ rfl, h9.cell 3 _ rfl⟩
          refine hK1.out _ _ hSw7 (fun _ => ?_)
          simp only [List.setIfInBounds_toArray, List.set_cons_zero, List.set_cons_succ]
          clear h1 h2 h3 hK1 h9
          refine wpAnyH_ready (rs := [11]) (by kernel_rfl) (by simp) ?_
          refine AllReadyH.cons rfl (fun K1 hK6 => ?_) AllReadyH.nil
          rw [if_pos (by kernel_rfl)]
          unfold Oper.wp
          go_simp
          go_wp2_with (go_at_call 44; (with_reducible refine (cQ.out _ qn hqn2 () H7.out).mono ?_); rintro e u8 ⟨rfl, hSu8, Lu8⟩)
          refine hK6.out _ _ hSu8 (fun _ => ?_)
          simp only [List.setIfInBounds_toArray, List.set_cons_zero, List.set_cons_succ]
          refine wpAnyH_ready (rs := [12]) (by kernel_rfl) (by simp) ?_
          refine AllReadyH.cons rfl (fun K1 hK1 => ?_) AllReadyH.nil
          rw [if_pos (by kernel_rfl)]
          refine wp_of_list rfl (by rintro ⟨_, _, hh⟩; exact HO.out _ hh) (wpList_append_oct_at rfl (.tmp 63) (.tmp 66) rfl w.heap.size (.slice a7 ((m + 4) + 4) p7) ((m + 4) + 4) _ rfl (own_stays H7.out.told.own Lu8.out.2) (some ⟨w7.heap.size, 0, none⟩) 4 4 (le4 qn) rfl rfl (Lu8.out.1) (by have := H7.out.told.len; have := H7.out.few; omega) (Nat.le_trans (HA.out.trans (H7.out.told.from.mono HA.out.size)).size Lu8.out.2.size) (fun v9 w8 h1 h2 h3 => list_end ?_))
          obtain ⟨a8, p8, e9, h9⟩ := H7.out.app (ys := le4 qn) Lu8.out.2 h1 h2 h3 rfl (K' := 140737488351232) (by have := HL1.out.2.2.1; simp only [List.length_append, le4_length] at this ⊢; omega)
          subst e9
          have H8 := put_by h9
          have hSw8 : (fun W => W.cell? ⟨wr.heap.size, 0, none⟩ = some (.int .i64 (cn : Int)) ∧ W.cell? ⟨wr.heap.size, 1, none⟩ = some (.int .i64 (mn : Int)) ∧ W.cell? ⟨wr.heap.size, 2, none⟩ = some (.int .i64 (qn : Int)) ∧ W.cell? ⟨wr.heap.size, 3, none⟩ = some (.bool g)) w8 := ⟨h9.cell 0 _ rfl, h9.cell 1 _ rfl, h9.cell 2 _ rfl, h9.cell 3 _ rfl⟩
          refine hK1.out _ _ hSw8 (fun _ => ?_)
          simp only [List.setIfInBounds_toArray, List.set_cons_zero, List.set_cons_succ]
          clear h1 h2 h3 hK1 h9
          refine takeH (i := 13) 3 (v := .slice a8 ((m + 4 + 4) + 4) p8) rfl rfl (by kernel_rfl) (by kernel_rfl) (by kernel_rfl) (fun _ _ _ h => h) (Or.inl ⟨by kernel_rfl, ?_⟩) hSw8 ?_
          · intro wq hq
            go_simp
          simp only [Act.put, List.setIfInBounds_toArray, List.set_cons_zero, List.set_cons_succ]
          refine wpAnyH_done (by kernel_rfl) ?_ _
          have kB : Hid (∀ (u9 : World), Below w8.heap.size w8 u9 → ∀ (v' : Value) (wz : World), wz.ownsRow w.heap.size 5 1 v' (m + 4 + 4 + 4 + 1) ((he ++ (ds.take j).flatMap encD ++ le4 cn ++ le4 mn ++ le4 qn).map (Value.int .u8) ++ [f].map (Value.int .u8)) → u9.grownBy wz (Value.slice a8 (m + 4 + 4 + 4) p8).ownBlock → (v'.ownBlock = (Value.slice a8 (m + 4 + 4 + 4) p8).ownBlock ∨ v'.ownBlock = some u9.heap.size) → ∃ a9 p9, v' = .slice a9 (m + 4 + 4 + 4 + 1) p9 ∧ Hid (InL w.heap.size W1 wr.heap.size [.int .i64 (cn : Int), .int .i64 (mn : Int), .int .i64 (qn : Int), .bool g] (.slice a9 (m + 4 + 4 + 4 + 1) p9) (m + 4 + 4 + 4 + 1) (he ++ (ds.take j).flatMap encD ++ le4 cn ++ le4 mn ++ le4 qn ++ [f]) 140737488351232 wz)) := fun u9 hb v' wz h1 h2 h3 => by
            obtain ⟨a9, p9, e9, h9⟩ := H8.out.app (ys := [f]) hb h1 h2 h3 rfl (K' := 140737488351232) (by have := HL1.out.2.2.2; simp only [List.length_append, List.length_singleton] at this ⊢; omega)
            exact ⟨a9, p9, e9, h9⟩
          have hm9 : m + 4 + 4 + 4 ≤ 140737488351232 := by rw [H8.out.told.len]; exact H8.out.few
          obtain ⟨-, -, -, y3⟩ := hSw8
          go_wp2_with (first
            | (go_at_call 46; (with_reducible refine (cF.out _).mono ?_); rintro e w9 ⟨rfl, rfl⟩)
            | (at_builtin; refine wpList_append_oct_at rfl (.tmp 68) (.tmp 73) rfl w.heap.size (.slice a8 (m + 4 + 4 + 4) p8) (m + 4 + 4 + 4) _ rfl (own_stays H8.out.told.own ((Below.refl w8.heap.size w8).alloc (Nat.le_refl _) _)) (some ⟨w8.heap.size, 0, none⟩) 1 1 [f] rfl rfl (octs_alloc w8 [f] 1 5 (0, 0) #[.int .u8 f] rfl (by simp) (by simp) HF.out) (by omega) (Nat.le_trans (HA.out.trans (H8.out.told.from.mono HA.out.size)).size (by simp)) ?_; intro v' wz h1 h2 h3; obtain ⟨a9, p9, e9, H9⟩ := kB.out _ ((Below.refl w8.heap.size w8).alloc (Nat.le_refl _) _) _ _ h1 h2 h3; subst e9; clear h1 h2 h3))
          go_roundw
          case rel => exact ⟨j + 1, a9, m + 4 + 4 + 4 + 1, p9, by omega, by go_num, rfl, by rw [HS.out]; exact H9.out.told⟩
          case measure => simp [intOf]; omega
        · have HT9 : Hid (SavPost ⟨p, cs, ds⟩ w (.returned (.slice a m q)) wr) := by
            have h := HB.out
            rw [List.take_of_length_le (by rw [← HN.out.2]; omega)] at h
            have e : he ++ ds.flatMap encD = encS ⟨p, cs, ds⟩ := by
              rw [HHE.out.1, HHD.out.1, encS, HN.out.1, HN.out.2]
              simp
            rw [e] at h
            have hW := HA.out.trans (h.from.mono HA.out.size)
            obtain ⟨a9, p9, e9, o9⟩ := own_octs (xs := encS ⟨p, cs, ds⟩) h.len rfl (by have := HT.out.2; omega) HBY.out h.own
            simp only [Value.slice.injEq] at e9
            obtain ⟨rfl, -, rfl⟩ := e9
            exact ⟨a, m, q, rfl, h.len, o9, own_new h.own, hW⟩
          have ik : ¬ (j : Int) < (n2 : Int) := by omega
          clear HB
          go_wp2
          exact HP.out _ _ HT9.out

/-- what has few bytes has few things -/
theorem encS_fewB (s : Sta) (hT : (encS s).length ≤ 900000000) : s.cells.length < 4294967296 ∧ s.dones.length < 4294967296 := by
  have h1 : ∀ l : List Cel, l.length ≤ (l.flatMap encC).length := fun l => by
    induction l with
    | nil => simp
    | cons x l ih => rw [List.flatMap_cons, List.length_append, List.length_cons, encC_length]; omega
  have h2 : ∀ l : List Dn, l.length ≤ (l.flatMap encD).length := fun l => by
    induction l with
    | nil => simp
    | cons x l ih => rw [List.flatMap_cons, List.length_append, List.length_cons, encD_length]; omega
  have h3 := h1 s.cells
  have h4 := h2 s.dones
  simp only [encS, List.length_append] at hT
  omega

end Go.Proofs.Ytndnbkgejdindaa
