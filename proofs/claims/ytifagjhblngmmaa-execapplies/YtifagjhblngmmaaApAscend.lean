/- Whether keys ascend: the code's way and the reference's. -/
import Derived.Test.YtifagjhblngmmaaRtOrder
namespace Go.Proofs.Ytifagjhblngmmaa
open Go.ChangeShapes Go.WideShapes Go.ChangeAt Go.RowKit

/-- what the question comes to -/
def AscPost (l : List Ent) (w : World) (e : Ending) (w' : World) : Prop := ∃ r : Bool, e = .returned (.bool r) ∧ (r = true ↔ Asc l) ∧ Below w.heap.size w w'

theorem asc_first (l : List Ent) : Asc (l.take 1) := by
  cases l with
  | nil => exact List.Pairwise.nil
  | cons x l => exact List.pairwise_singleton _ _

theorem asc_take {l : List Ent} (h : Asc l) (k : Nat) : Asc (l.take k) := List.Pairwise.sublist (List.take_sublist k l) h

theorem asc_step {l : List Ent} {i : Nat} (h0 : 0 < i) (hi : i < l.length) (h : Asc (l.take i)) : Asc (l.take (i + 1)) ↔ ahead (l[i - 1]'(by omega)).1 l[i].1 = true := by
  rw [List.take_succ_eq_append_getElem hi]
  have hlen : (l.take i).length = i := by rw [List.length_take]; omega
  constructor
  · intro ha
    refine (List.pairwise_append.1 ha).2.2 (l[i - 1]'(by omega)) ?_ l[i] (List.mem_singleton.2 rfl)
    exact List.mem_take_iff_getElem.2 ⟨i - 1, by omega, rfl⟩
  · intro ha
    refine List.pairwise_append.2 ⟨h, List.pairwise_singleton _ _, fun a hm b hb => ?_⟩
    rw [List.mem_singleton.1 hb]
    obtain ⟨j, hj, rfl⟩ := List.mem_take_iff_getElem.1 hm
    rcases Nat.lt_or_ge j (i - 1) with hlt | hge
    · have h1 := List.pairwise_iff_getElem.1 h j (i - 1) (by omega) (by omega) hlt
      simp only [List.getElem_take] at h1
      exact ahead_trans h1 ha
    · have : j = i - 1 := by omega
      subst this
      exact ha

set_option maxRecDepth 100000 in
set_option maxHeartbeats 4000000 in
theorem ascend_any (ok : Nat → Prop) (l : List Ent) (hfew : l.length ≤ 90000) (la : Option Addr) (lc : Nat) (w : World) (hL : Lies kEnt ok w la lc l) :
    Calls Try.prog 7 #[.slice la l.length lc] w fun e w' => AscPost l w e w' := by
  generalize hpost : (fun e w' => AscPost l w e w') = R
  have HP : Hid (∀ (w' : World) (r : Bool), (r = true ↔ Asc l) → Below w.heap.size w w' → R (.returned (.bool r)) w') := fun w' r h2 h3 => by rw [← hpost]; exact ⟨r, rfl, h2, h3⟩
  clear hpost
  obtain ⟨n, hn⟩ : ∃ n, n = l.length := ⟨_, rfl⟩
  rw [← hn]
  have HL := put_by hL
  have HN := put_by hn
  have hn9 : n ≤ 90000 := by omega
  clear hL hn hfew
  go_enter Try.func7, Try.ntmps7
  go_wp2
  go_loopw [3] (fun i wr => ∃ (k : Nat), (k + 1 ≤ n ∨ k = 0) ∧ i = .int .i64 ((k : Int) + 1) ∧ Hid (Asc (l.take (k + 1)) ∧ Below w.heap.size w wr)) (fun i _ => n + 1 - (intOf i).toNat)
  case atStart => exact ⟨0, .inr rfl, rfl, asc_first l, Below.refl _ _⟩
  case round =>
    obtain ⟨k, hkn, rfl, HR⟩ := hrel
    rename World => wr
    by_cases hlt : k + 1 < n
    · have hx : k + 1 < l.length := by rw [← HN.out]; exact hlt
      have hy : k < l.length := by omega
      obtain ⟨b4, off, rfl, hb, _, cs, ⟨u, v, rfl, hu, hw⟩, hc⟩ := HL.out.at hx
      obtain ⟨b4', off', e4, -, _, cs, ⟨u', v', rfl, hu', hw'⟩, hc'⟩ := HL.out.at hy
      simp only [Option.some.injEq, Addr.mk.injEq, and_true] at e4
      obtain ⟨rfl, rfl⟩ := e4
      obtain ⟨xa, xc, rfl, hxo, -⟩ := id hu
      obtain ⟨ya, yc, rfl, hyo, -⟩ := id hu'
      have d0 : wr.cell? ⟨b4, off + (k + 1) * 2, none⟩ = some (.slice xa (l[k + 1]).1.length xc) := (HR.out.2.cell (p := ⟨b4, off + (k + 1) * 2, none⟩) hb).trans (by simpa using hc 0 _ rfl)
      have d1 : wr.cell? ⟨b4, off + k * 2, none⟩ = some (.slice ya (l[k]).1.length yc) := (HR.out.2.cell (p := ⟨b4, off + k * 2, none⟩) hb).trans (by simpa using hc' 0 _ rfl)
      have HS := put_by (asc_step (by omega) hx HR.out.1)
      simp only [Nat.add_sub_cancel] at HS
      have cC : Hid (∀ V : World, Below wr.heap.size wr V → Calls Try.prog 15 #[.slice ya (l[k]).1.length yc, .slice xa (l[k + 1]).1.length xc] V fun e w' => ∃ rc : Int, e = .returned (.int .i64 rc) ∧ w'.cell? ⟨b4, off + (k + 1) * 2, none⟩ = some (.slice xa (l[k + 1]).1.length xc) ∧ w'.cell? ⟨b4, off + k * 2, none⟩ = some (.slice ya (l[k]).1.length yc) ∧ decide (0 ≤ rc) = !(ahead (l[k]).1 (l[k + 1]).1) ∧ Hid (Below w.heap.size w w')) := fun V hr => by
        have hV := HR.out.2.trans (hr.mono HR.out.2.size)
        have hbV : b4 < wr.heap.size := World.block_lt_of_cell? _ _ d0
        refine (Compare_any _ _ _ _ _ _ V (hyo.later hV) (hxo.later hV)).mono ?_
        rintro e w' ⟨rfl, rfl⟩
        refine ⟨_, rfl, (hr.cell (p := ⟨b4, off + (k + 1) * 2, none⟩) hbV).trans d0, (hr.cell (p := ⟨b4, off + k * 2, none⟩) hbV).trans d1, ?_, hV⟩
        rw [← cmpK_lt]
        by_cases h : cmpK (l[k]).1 (l[k + 1]).1 < 0
        · rw [decide_eq_true h, decide_eq_false (by omega)]; rfl
        · rw [decide_eq_false h, decide_eq_true (by omega)]; rfl
      have HD := put_by ((Below.refl wr.heap.size wr).drew)
      have HT : Hid (∀ k, Asc l → Asc (l.take k)) := fun k h => asc_take h k
      have ik : (k : Int) + 1 < (n : Int) := by omega
      have ij : IntKind.i64.wrap (k : Int) = (k : Int) := by rw [IntKind.wrap_i64]; omega
      have im : (k : Int) < (n : Int) := by omega
      have il : (0 : Int) ≤ (k : Int) + 1 := by omega
      have io : ((k : Int) + 1).toNat = k + 1 := by omega
      clear hc hu hw hc' hu' hw' hxo hyo HR
      generalize (l[k + 1]).1.length = i1 at d0 cC
      generalize (l[k]).1.length = i2 at d1 cC
      obtain ⟨q, hq⟩ : ∃ q, q = ahead (l[k]).1 (l[k + 1]).1 := ⟨_, rfl⟩
      rw [← hq] at HS cC
      clear hq hx hy hkn hlt
      cases q with
      | true =>
        go_upto_region 4 with (fail)
        go_region_held3 (fun V => V.cell? ⟨b4, off + (k + 1) * 2, none⟩ = some (.slice xa i1 xc) ∧ V.cell? ⟨b4, off + k * 2, none⟩ = some (.slice ya i2 yc)) (go_keep) (first
          | (go_at_call 15; (with_reducible refine (cC.out _ HD.out).mono ?_); clear cC; rintro e w1 ⟨rc, rfl, j0, j1, hrc, H1⟩))
        all_goals
          go_wp2
          go_roundw
          case rel => exact ⟨k + 1, .inl (by omega), by go_num, HS.out.2 (by simp), H1.out⟩
          case measure => simp [intOf]; omega
      | false =>
        go_upto_region 4 with (fail)
        go_region_held3 (fun V => V.cell? ⟨b4, off + (k + 1) * 2, none⟩ = some (.slice xa i1 xc) ∧ V.cell? ⟨b4, off + k * 2, none⟩ = some (.slice ya i2 yc)) (go_keep) (first
          | (go_at_call 15; (with_reducible refine (cC.out _ HD.out).mono ?_); clear cC; rintro e w1 ⟨rc, rfl, j0, j1, hrc, H1⟩))
        all_goals
          go_wp2
          refine HP.out _ false ⟨fun h => (by cases h), fun h => ?_⟩ H1.out
          exact absurd (HS.out.1 (HT.out _ h)) (by simp)
    · have H9 : Hid (Asc l) := by
        have h := HR.out.1
        rwa [List.take_of_length_le (by rw [← HN.out]; omega)] at h
      have HB := put_by HR.out.2
      have ik : ¬ (k : Int) + 1 < (n : Int) := by omega
      clear HR
      go_wp2
      exact HP.out _ true ⟨fun _ => H9.out, fun _ => rfl⟩ HB.out

set_option maxRecDepth 100000 in
set_option maxHeartbeats 4000000 in
theorem rascends_any (ok : Nat → Prop) (l : List Ent) (hfew : l.length ≤ 90000) (la : Option Addr) (lc : Nat) (w : World) (hL : Lies kEnt ok w la lc l) :
    Calls Try.prog 10 #[.slice la l.length lc] w fun e w' => AscPost l w e w' := by
  generalize hpost : (fun e w' => AscPost l w e w') = R
  have HP : Hid (∀ (w' : World) (r : Bool), (r = true ↔ Asc l) → Below w.heap.size w w' → R (.returned (.bool r)) w') := fun w' r h2 h3 => by rw [← hpost]; exact ⟨r, rfl, h2, h3⟩
  clear hpost
  obtain ⟨n, hn⟩ : ∃ n, n = l.length := ⟨_, rfl⟩
  rw [← hn]
  have HL := put_by hL
  have HN := put_by hn
  have hn9 : n ≤ 90000 := by omega
  clear hL hn hfew
  go_enter Try.func10, Try.ntmps10
  go_wp2
  go_loopw [3] (fun i wr => ∃ (k : Nat), (k + 1 ≤ n ∨ k = 0) ∧ i = .int .i64 ((k : Int) + 1) ∧ Hid (Asc (l.take (k + 1)) ∧ Below w.heap.size w wr)) (fun i _ => n + 1 - (intOf i).toNat)
  case atStart => exact ⟨0, .inr rfl, rfl, asc_first l, Below.refl _ _⟩
  case round =>
    obtain ⟨k, hkn, rfl, HR⟩ := hrel
    rename World => wr
    by_cases hlt : k + 1 < n
    · have hx : k + 1 < l.length := by rw [← HN.out]; exact hlt
      have hy : k < l.length := by omega
      obtain ⟨b4, off, rfl, hb, _, cs, ⟨u, v, rfl, hu, hw⟩, hc⟩ := HL.out.at hx
      obtain ⟨b4', off', e4, -, _, cs, ⟨u', v', rfl, hu', hw'⟩, hc'⟩ := HL.out.at hy
      simp only [Option.some.injEq, Addr.mk.injEq, and_true] at e4
      obtain ⟨rfl, rfl⟩ := e4
      obtain ⟨xa, xc, rfl, hxo, -⟩ := id hu
      obtain ⟨ya, yc, rfl, hyo, -⟩ := id hu'
      have d0 : wr.cell? ⟨b4, off + (k + 1) * 2, none⟩ = some (.slice xa (l[k + 1]).1.length xc) := (HR.out.2.cell (p := ⟨b4, off + (k + 1) * 2, none⟩) hb).trans (by simpa using hc 0 _ rfl)
      have d1 : wr.cell? ⟨b4, off + k * 2, none⟩ = some (.slice ya (l[k]).1.length yc) := (HR.out.2.cell (p := ⟨b4, off + k * 2, none⟩) hb).trans (by simpa using hc' 0 _ rfl)
      have HS := put_by (asc_step (by omega) hx HR.out.1)
      simp only [Nat.add_sub_cancel] at HS
      have cC : Hid (∀ V : World, Below wr.heap.size wr V → Calls Try.prog 20 #[.slice ya (l[k]).1.length yc, .slice xa (l[k + 1]).1.length xc] V fun e w' => ∃ rc : Bool, e = .returned (.bool rc) ∧ w'.cell? ⟨b4, off + (k + 1) * 2, none⟩ = some (.slice xa (l[k + 1]).1.length xc) ∧ w'.cell? ⟨b4, off + k * 2, none⟩ = some (.slice ya (l[k]).1.length yc) ∧ rc = ahead (l[k]).1 (l[k + 1]).1 ∧ Hid (Below w.heap.size w w')) := fun V hr => by
        have hV := HR.out.2.trans (hr.mono HR.out.2.size)
        have hbV : b4 < wr.heap.size := World.block_lt_of_cell? _ _ d0
        refine (bytesLess_any _ _ _ _ _ _ V (hyo.later hV) (hxo.later hV)).mono ?_
        rintro e w' ⟨rfl, hb2⟩
        have hr2 := hr.trans (hb2.mono hr.size)
        exact ⟨_, rfl, (hr2.cell (p := ⟨b4, off + (k + 1) * 2, none⟩) hbV).trans d0, (hr2.cell (p := ⟨b4, off + k * 2, none⟩) hbV).trans d1, rfl, hV.trans (hb2.mono hV.size)⟩
      have HD := put_by ((Below.refl wr.heap.size wr).drew)
      have HT : Hid (∀ k, Asc l → Asc (l.take k)) := fun k h => asc_take h k
      have ik : (k : Int) + 1 < (n : Int) := by omega
      have ij : IntKind.i64.wrap (k : Int) = (k : Int) := by rw [IntKind.wrap_i64]; omega
      have im : (k : Int) < (n : Int) := by omega
      have il : (0 : Int) ≤ (k : Int) + 1 := by omega
      have io : ((k : Int) + 1).toNat = k + 1 := by omega
      clear hc hu hw hc' hu' hw' hxo hyo HR
      generalize (l[k + 1]).1.length = i1 at d0 cC
      generalize (l[k]).1.length = i2 at d1 cC
      obtain ⟨q, hq⟩ : ∃ q, q = ahead (l[k]).1 (l[k + 1]).1 := ⟨_, rfl⟩
      rw [← hq] at HS cC
      clear hq hx hy hkn hlt
      cases q with
      | true =>
        go_upto_region 4 with (fail)
        go_region_held3 (fun V => V.cell? ⟨b4, off + (k + 1) * 2, none⟩ = some (.slice xa i1 xc) ∧ V.cell? ⟨b4, off + k * 2, none⟩ = some (.slice ya i2 yc)) (go_keep) (first
          | (go_at_call 20; (with_reducible refine (cC.out _ HD.out).mono ?_); clear cC; rintro e w1 ⟨rc, rfl, j0, j1, hrc, H1⟩))
        all_goals
          go_wp2
          go_roundw
          case rel => exact ⟨k + 1, .inl (by omega), by go_num, HS.out.2 (by simp), H1.out⟩
          case measure => simp [intOf]; omega
      | false =>
        go_upto_region 4 with (fail)
        go_region_held3 (fun V => V.cell? ⟨b4, off + (k + 1) * 2, none⟩ = some (.slice xa i1 xc) ∧ V.cell? ⟨b4, off + k * 2, none⟩ = some (.slice ya i2 yc)) (go_keep) (first
          | (go_at_call 20; (with_reducible refine (cC.out _ HD.out).mono ?_); clear cC; rintro e w1 ⟨rc, rfl, j0, j1, hrc, H1⟩))
        all_goals
          go_wp2
          refine HP.out _ false ⟨fun h => (by cases h), fun h => ?_⟩ H1.out
          exact absurd (HS.out.1 (HT.out _ h)) (by simp)
    · have H9 : Hid (Asc l) := by
        have h := HR.out.1
        rwa [List.take_of_length_le (by rw [← HN.out]; omega)] at h
      have HB := put_by HR.out.2
      have ik : ¬ (k : Int) + 1 < (n : Int) := by omega
      clear HR
      go_wp2
      exact HP.out _ true ⟨fun _ => H9.out, fun _ => rfl⟩ HB.out

end Go.Proofs.Ytifagjhblngmmaa
