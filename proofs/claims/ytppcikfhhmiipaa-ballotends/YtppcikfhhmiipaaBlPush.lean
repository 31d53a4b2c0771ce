/- Turns made of pushes: the keep side's Turns. -/
import Derived.Test.YtppcikfhhmiipaaTnArg
import Derived.Deep.CutBlock
namespace Go.Proofs.Ytppcikfhhmiipaa
open Go.ChangeShapes Go.WideShapes Go.ChangeAt Go.RowKit Go.Maps

/-- what a push makes, at place i -/
def pushK (k : Int) : Int := if k % 12 = 0 ∨ k % 12 = 1 then 1 else if k % 12 = 2 then 3 else if k % 12 = 3 then 4 else 2
def pushT (i : Nat) (p : Tn) : Tn := ⟨pushK p.kind, p.who % (3 * (i : Int) + 6), 1 + p.round % 9, 1 + p.value % 5⟩
/-- the first k of them -/
def pushS (l : List Tn) : Nat → List Tn
  | 0 => []
  | k + 1 => pushS l k ++ (match l[k]? with
    | some p => [pushT k p]
    | none => [])

theorem pushS_length (l : List Tn) (k : Nat) (hk : k ≤ l.length) : (pushS l k).length = k := by
  induction k with
  | zero => rfl
  | succ k ih =>
    have hx : k < l.length := hk
    simp only [pushS, List.length_append, ih (by omega), List.getElem?_eq_getElem hx, List.length_singleton]

/-- a variable of the call's own is written -/
theorem TsI.own {w W : World} {ts : List Tn} {f : Value} (h : TsI w ts f W) {L i : Nat} {v : Value} (hL : w.heap.size ≤ L) (hf : f.ownBlock ≠ some L) : TsI w ts f (W.setCell ⟨L, i, none⟩ v) := by
  refine ⟨?_, h.below.setCell hL _⟩
  obtain ⟨css, q1, q2⟩ := h.rows
  exact ⟨css, own_kept q1 (fun g hg => heap_setCell_other _ _ _ _ (fun e => hf (by rw [hg]; exact congrArg some e))), All2.imp (fun _ _ q => q) q2⟩

set_option maxRecDepth 20000 in
set_option maxHeartbeats 8000000 in
theorem Turns_any (ok : Nat → Prop) (l : List Tn) (n : Nat) (hn : n ≤ 200) (a : Option Addr) (m c : Nat) (hm : m = l.length) (w : World) (hL : Lies kPu ok w a c l) :
    Calls Try.prog 10 #[.slice a m c, .int .i64 (n : Int)] w fun e w' => ∃ (a' : Option Addr) (c' : Nat), e = .returned (.slice a' (min m n) c') ∧ TsI w (pushS l (min m n)) (.slice a' (min m n) c') w' := by
  have cK : Hid (∀ a k : Int, 0 < k → k ≤ 9223372036854775807 → ∀ W, Calls Try.prog 9 #[.int .i64 a, .int .i64 k] W fun e w' => e = .returned (.int .i64 (a % k)) ∧ W = w') := put_by fun a k h1 h2 W => Picked_any a k h1 h2 W
  have HL := put_by hL
  have HM := put_by hm
  have hn2 : (n : Int) ≤ 200 := by omega
  have H0 : Hid (TsI w (pushS l 0) (.slice none 0 0) w) := put_by ⟨Rows.nil _ _ _ _ _, Below.refl _ _⟩
  have hmn1 : min m n ≤ m ∧ min m n ≤ n ∧ (min m n = m ∨ min m n = n) := by omega
  generalize min m n = mn at *
  obtain ⟨g1, g2, g3⟩ := hmn1
  clear hL hm
  go_enter Try.func10, Try.ntmps10
  go_wp2
  go_loopw [5, 6] (fun f i wr => ∃ (k : Nat) (a' : Option Addr) (c' : Nat), k ≤ mn ∧ i = .int .i64 k ∧ f = .slice a' k c' ∧ Hid (TsI w (pushS l k) (.slice a' k c') wr)) (fun _ i _ => n - (intOf i).toNat)
  case atStart => exact ⟨0, none, 0, Nat.zero_le _, rfl, rfl, H0.out⟩
  case round =>
    obtain ⟨k, a', c', hk, rfl, rfl, HT⟩ := hrel
    by_cases hlt : k < mn
    · have h1 : (k : Int) < (m : Int) := by omega
      have h2 : (k : Int) < (n : Int) := by omega
      have hx : k < l.length := by rw [← HM.out]; omega
      have hps : pushS l (k + 1) = pushS l k ++ [pushT k l[k]] := by simp only [pushS, List.getElem?_eq_getElem hx]
      obtain ⟨b4, off, rfl, hb4, _, cs, rfl, hc⟩ := HL.out.at hx
      have hcell : ∀ j x, [Value.int .i64 (l[k]).kind, .int .i64 (l[k]).who, .int .i64 (l[k]).round, .int .i64 (l[k]).value][j]? = some x → wr.cell? ⟨b4, off + k * 4 + j, none⟩ = some x := fun j x hj => (HT.out.below.cell (p := ⟨b4, off + k * 4 + j, none⟩) hb4).trans (hc j x hj)
      have d0 := hcell 0 _ rfl
      have d1 := hcell 1 _ rfl
      have d2 := hcell 2 _ rfl
      have d3 := hcell 3 _ rfl
      simp only [Nat.add_zero] at d0
      have HPS := put_by hps
      have hlen := pushS_length l k (by omega)
      have HLEN := put_by hlen
      clear hcell hc hps hlen
      obtain ⟨p, hp⟩ : ∃ p, p = l[k] := ⟨_, rfl⟩
      rw [← hp] at d0 d1 d2 d3 HPS
      clear hp
      have i1 : IntKind.i64.wrap (3 * (k : Int)) = 3 * (k : Int) := by rw [IntKind.wrap_i64]; omega
      have i2 : IntKind.i64.wrap (3 * (k : Int) + 6) = 3 * (k : Int) + 6 := by rw [IntKind.wrap_i64]; omega
      have i3 : IntKind.i64.wrap (1 + p.round % 9) = 1 + p.round % 9 := by rw [IntKind.wrap_i64]; omega
      have i4 : IntKind.i64.wrap (1 + p.value % 5) = 1 + p.value % 5 := by rw [IntKind.wrap_i64]; omega
      go_upto_region 6 with (fail)
      have hb1 := (Below.refl wr.heap.size wr).alloc (Nat.le_refl _) (.cells #[.int .i64 p.kind, .int .i64 p.who, .int .i64 p.round, .int .i64 p.value] 61)
      have hP := Cs.new wr [.int .i64 p.kind, .int .i64 p.who, .int .i64 p.round, .int .i64 p.value] #[.int .i64 p.kind, .int .i64 p.who, .int .i64 p.round, .int .i64 p.value] rfl 61
      have hz1 : (wr.alloc (.cells #[.int .i64 p.kind, .int .i64 p.who, .int .i64 p.round, .int .i64 p.value] 61)).heap.size = wr.heap.size + 1 := alloc_size _ _
      generalize wr.alloc (.cells #[.int .i64 p.kind, .int .i64 p.who, .int .i64 p.round, .int .i64 p.value] 61) = V1 at *
      have hlt1 := hP.lt
      obtain ⟨p0, -⟩ := hP 0 _ rfl
      obtain ⟨p1, -⟩ := hP 1 _ rfl
      obtain ⟨p2, -⟩ := hP 2 _ rfl
      obtain ⟨p3, -⟩ := hP 3 _ rfl
      simp only [Nat.zero_add] at p0 p1 p2 p3
      have HZ1 := put_by hz1
      have HB1 := put_by hb1
      have HP := put_by hP
      clear hz1 hb1 hP d0 d1 d2 d3
      have HFA : Hid ((Value.slice a' k c').ownBlock ≠ some (wr.heap.size + 1)) := put_by (fun e => by have := (rows_lt HT.out.rows _ e).2; omega)
      have HWR : Hid (w.heap.size ≤ wr.heap.size) := put_by HT.out.below.size
      go_cut [8] from 24 to 55 (fun v W => v = .pointer (some ⟨wr.heap.size + 1, 0, none⟩) ∧ Hid (TsI w (pushS l k) (.slice a' k c') W ∧ Cs W (wr.heap.size + 1) 0 [.int .i64 2, .int .i64 (p.who % (3 * (k : Int) + 6)), .int .i64 (1 + p.round % 9), .int .i64 (1 + p.value % 5)] ∧ Cs W wr.heap.size 0 [.int .i64 p.kind, .int .i64 p.who, .int .i64 p.round, .int .i64 p.value]))
      case first =>
        have HE : Hid (TsI w (pushS l k) (.slice a' k c') (V1.alloc (.cells #[.int .i64 2, .int .i64 (p.who % (3 * (k : Int) + 6)), .int .i64 (1 + p.round % 9), .int .i64 (1 + p.value % 5)] 34)).drew ∧ Cs (V1.alloc (.cells #[.int .i64 2, .int .i64 (p.who % (3 * (k : Int) + 6)), .int .i64 (1 + p.round % 9), .int .i64 (1 + p.value % 5)] 34)).drew (wr.heap.size + 1) 0 [.int .i64 2, .int .i64 (p.who % (3 * (k : Int) + 6)), .int .i64 (1 + p.round % 9), .int .i64 (1 + p.value % 5)] ∧ Cs (V1.alloc (.cells #[.int .i64 2, .int .i64 (p.who % (3 * (k : Int) + 6)), .int .i64 (1 + p.round % 9), .int .i64 (1 + p.value % 5)] 34)).drew wr.heap.size 0 [.int .i64 p.kind, .int .i64 p.who, .int .i64 p.round, .int .i64 p.value]) := put_by (by
          have hb2 := ((Below.refl _ V1).alloc (Nat.le_refl _) (.cells #[.int .i64 2, .int .i64 (p.who % (3 * (k : Int) + 6)), .int .i64 (1 + p.round % 9), .int .i64 (1 + p.value % 5)] 34)).drew
          have hc : Cs (V1.alloc (.cells #[.int .i64 2, .int .i64 (p.who % (3 * (k : Int) + 6)), .int .i64 (1 + p.round % 9), .int .i64 (1 + p.value % 5)] 34)).drew V1.heap.size 0 [.int .i64 2, .int .i64 (p.who % (3 * (k : Int) + 6)), .int .i64 (1 + p.round % 9), .int .i64 (1 + p.value % 5)] := (Cs.new V1 [.int .i64 2, .int .i64 (p.who % (3 * (k : Int) + 6)), .int .i64 (1 + p.round % 9), .int .i64 (1 + p.value % 5)] #[.int .i64 2, .int .i64 (p.who % (3 * (k : Int) + 6)), .int .i64 (1 + p.round % 9), .int .i64 (1 + p.value % 5)] rfl 34).move rfl
          rw [HZ1.out] at hc
          exact ⟨(HT.out.later HB1.out).later hb2, hc, HP.out.move (hb2.block _ hlt1)⟩)
        go_region_held3 (fun W => W.cell? ⟨wr.heap.size, 1, none⟩ = some (.int .i64 p.who) ∧ W.cell? ⟨wr.heap.size, 2, none⟩ = some (.int .i64 p.round) ∧ W.cell? ⟨wr.heap.size, 3, none⟩ = some (.int .i64 p.value)) (go_keep) (first | (go_at_call 9; (with_reducible refine (cK.out _ _ ?_ ?_ _).mono ?_); (first | decide | omega); (first | decide | omega); rintro e w' ⟨rfl, rfl⟩))
        all_goals
          generalize (V1.alloc (.cells #[.int .i64 2, .int .i64 (p.who % (3 * (k : Int) + 6)), .int .i64 (1 + p.round % 9), .int .i64 (1 + p.value % 5)] 34)).drew = V2 at *
          go_wp2
          go_meet
          exact ⟨by rw [HZ1.out], HE.out⟩
      case rest =>
        obtain ⟨rfl, HE⟩ := hcut
        clear p0 p1 p2 p3 HP HB1 HT
        have HTI := put_by HE.1
        obtain ⟨t0, f0⟩ := HE.2.1 0 _ rfl
        obtain ⟨t1, -⟩ := HE.2.1 1 _ rfl
        obtain ⟨t2, -⟩ := HE.2.1 2 _ rfl
        obtain ⟨t3, -⟩ := HE.2.1 3 _ rfl
        obtain ⟨p0, -⟩ := HE.2.2 0 _ rfl
        simp only [Nat.zero_add] at t0 t1 t2 t3 f0 p0
        have hTl := HE.2.1.lt
        clear HE
        have HPK : Hid (∀ W, Calls Try.prog 9 #[.int .i64 p.kind, .int .i64 12] W fun e w' => e = .returned (.int .i64 (p.kind % 12)) ∧ W = w') := put_by (fun W => cK.out _ _ (by decide) (by decide) W)
        clear cK
        by_cases hq : p.kind % 12 = 0
        · have hkq : p.kind % 12 = 0 := hq
          have HPT : Hid (pushT k p = ⟨1, p.who % (3 * (k : Int) + 6), 1 + p.round % 9, 1 + p.value % 5⟩) := put_by (by simp [pushT, pushK, hkq])
          rw [hkq] at HPK
          have HX : Hid (TsI w (pushS l k) (.slice a' k c') (wc.setCell ⟨wr.heap.size + 1, 0, none⟩ (.int .i64 1))) := put_by (HTI.out.own (by have := HTI.out.below.size; have := HZ1.out; have := HWR.out; omega) HFA.out)
          clear hkq hq
          go_wp2_with (first
            | (go_at_call 9; (with_reducible refine (HPK.out _).mono ?_); rintro e w' ⟨rfl, rfl⟩)
            | (at_builtin; refine wpList_append_one eltTn rfl (.tmp 52) (.tmp 54) rfl w.heap.size (.slice a' k c') (pushS l k) rfl HX.out.rows ⟨1, p.who % (3 * (k : Int) + 6), 1 + p.round % 9, 1 + p.value % 5⟩ [.int .i64 1, .int .i64 (p.who % (3 * (k : Int) + 6)), .int .i64 (1 + p.round % 9), .int .i64 (1 + p.value % 5)] _ _ (by simp [Act.eval]) rfl (tn_rel _ _ _ _ _ _ (by omega)) (fun _ _ => trivial) (by rw [HLEN.out]; omega) (by decide) HX.out.below.size ?_; intro v7 w7 r1 r2 r3; have HT7 := put_by (HX.out.put r1 r2); clear r1 r2 r3; obtain ⟨a7, c7, e7⟩ := HT7.out.form; rw [List.length_append, List.length_singleton, HLEN.out] at e7; subst e7))
          go_roundw
          case rel => exact ⟨k + 1, _, _, by omega, by go_num, rfl, by rw [HPS.out, HPT.out]; exact HT7.out⟩
          case measure => simp [intOf]; omega
        · by_cases hq : p.kind % 12 = 1
          · have hkq : p.kind % 12 = 1 := hq
            have HPT : Hid (pushT k p = ⟨1, p.who % (3 * (k : Int) + 6), 1 + p.round % 9, 1 + p.value % 5⟩) := put_by (by simp [pushT, pushK, hkq])
            rw [hkq] at HPK
            have HX : Hid (TsI w (pushS l k) (.slice a' k c') (wc.setCell ⟨wr.heap.size + 1, 0, none⟩ (.int .i64 1))) := put_by (HTI.out.own (by have := HTI.out.below.size; have := HZ1.out; have := HWR.out; omega) HFA.out)
            clear hkq hq
            go_wp2_with (first
              | (go_at_call 9; (with_reducible refine (HPK.out _).mono ?_); rintro e w' ⟨rfl, rfl⟩)
              | (at_builtin; refine wpList_append_one eltTn rfl (.tmp 52) (.tmp 54) rfl w.heap.size (.slice a' k c') (pushS l k) rfl HX.out.rows ⟨1, p.who % (3 * (k : Int) + 6), 1 + p.round % 9, 1 + p.value % 5⟩ [.int .i64 1, .int .i64 (p.who % (3 * (k : Int) + 6)), .int .i64 (1 + p.round % 9), .int .i64 (1 + p.value % 5)] _ _ (by simp [Act.eval]) rfl (tn_rel _ _ _ _ _ _ (by omega)) (fun _ _ => trivial) (by rw [HLEN.out]; omega) (by decide) HX.out.below.size ?_; intro v7 w7 r1 r2 r3; have HT7 := put_by (HX.out.put r1 r2); clear r1 r2 r3; obtain ⟨a7, c7, e7⟩ := HT7.out.form; rw [List.length_append, List.length_singleton, HLEN.out] at e7; subst e7))
            go_roundw
            case rel => exact ⟨k + 1, _, _, by omega, by go_num, rfl, by rw [HPS.out, HPT.out]; exact HT7.out⟩
            case measure => simp [intOf]; omega
          · by_cases hq : p.kind % 12 = 2
            · have hkq : p.kind % 12 = 2 := hq
              have HPT : Hid (pushT k p = ⟨3, p.who % (3 * (k : Int) + 6), 1 + p.round % 9, 1 + p.value % 5⟩) := put_by (by simp [pushT, pushK, hkq])
              rw [hkq] at HPK
              have HX : Hid (TsI w (pushS l k) (.slice a' k c') (wc.setCell ⟨wr.heap.size + 1, 0, none⟩ (.int .i64 3))) := put_by (HTI.out.own (by have := HTI.out.below.size; have := HZ1.out; have := HWR.out; omega) HFA.out)
              clear hkq hq
              go_wp2_with (first
                | (go_at_call 9; (with_reducible refine (HPK.out _).mono ?_); rintro e w' ⟨rfl, rfl⟩)
                | (at_builtin; refine wpList_append_one eltTn rfl (.tmp 52) (.tmp 54) rfl w.heap.size (.slice a' k c') (pushS l k) rfl HX.out.rows ⟨3, p.who % (3 * (k : Int) + 6), 1 + p.round % 9, 1 + p.value % 5⟩ [.int .i64 3, .int .i64 (p.who % (3 * (k : Int) + 6)), .int .i64 (1 + p.round % 9), .int .i64 (1 + p.value % 5)] _ _ (by simp [Act.eval]) rfl (tn_rel _ _ _ _ _ _ (by omega)) (fun _ _ => trivial) (by rw [HLEN.out]; omega) (by decide) HX.out.below.size ?_; intro v7 w7 r1 r2 r3; have HT7 := put_by (HX.out.put r1 r2); clear r1 r2 r3; obtain ⟨a7, c7, e7⟩ := HT7.out.form; rw [List.length_append, List.length_singleton, HLEN.out] at e7; subst e7))
              go_roundw
              case rel => exact ⟨k + 1, _, _, by omega, by go_num, rfl, by rw [HPS.out, HPT.out]; exact HT7.out⟩
              case measure => simp [intOf]; omega
            · by_cases hq : p.kind % 12 = 3
              · have hkq : p.kind % 12 = 3 := hq
                have HPT : Hid (pushT k p = ⟨4, p.who % (3 * (k : Int) + 6), 1 + p.round % 9, 1 + p.value % 5⟩) := put_by (by simp [pushT, pushK, hkq])
                rw [hkq] at HPK
                have HX : Hid (TsI w (pushS l k) (.slice a' k c') (wc.setCell ⟨wr.heap.size + 1, 0, none⟩ (.int .i64 4))) := put_by (HTI.out.own (by have := HTI.out.below.size; have := HZ1.out; have := HWR.out; omega) HFA.out)
                clear hkq hq
                go_wp2_with (first
                  | (go_at_call 9; (with_reducible refine (HPK.out _).mono ?_); rintro e w' ⟨rfl, rfl⟩)
                  | (at_builtin; refine wpList_append_one eltTn rfl (.tmp 52) (.tmp 54) rfl w.heap.size (.slice a' k c') (pushS l k) rfl HX.out.rows ⟨4, p.who % (3 * (k : Int) + 6), 1 + p.round % 9, 1 + p.value % 5⟩ [.int .i64 4, .int .i64 (p.who % (3 * (k : Int) + 6)), .int .i64 (1 + p.round % 9), .int .i64 (1 + p.value % 5)] _ _ (by simp [Act.eval]) rfl (tn_rel _ _ _ _ _ _ (by omega)) (fun _ _ => trivial) (by rw [HLEN.out]; omega) (by decide) HX.out.below.size ?_; intro v7 w7 r1 r2 r3; have HT7 := put_by (HX.out.put r1 r2); clear r1 r2 r3; obtain ⟨a7, c7, e7⟩ := HT7.out.form; rw [List.length_append, List.length_singleton, HLEN.out] at e7; subst e7))
                go_roundw
                case rel => exact ⟨k + 1, _, _, by omega, by go_num, rfl, by rw [HPS.out, HPT.out]; exact HT7.out⟩
                case measure => simp [intOf]; omega
              · rename_i n0 n1 n2
                have HPT : Hid (pushT k p = ⟨2, p.who % (3 * (k : Int) + 6), 1 + p.round % 9, 1 + p.value % 5⟩) := put_by (by simp [pushT, pushK, n0, n1, n2, hq])
                obtain ⟨q, hqq⟩ : ∃ q, q = p.kind % 12 := ⟨_, rfl⟩
                rw [← hqq] at n0 n1 n2 hq HPK
                have b0 : (q == 0) = false := by simp [n0]
                have b1 : (q == 1) = false := by simp [n1]
                have b2 : (q == 2) = false := by simp [n2]
                have b3 : (q == 3) = false := by simp [hq]
                clear n0 n1 n2 hq hqq
                have HX := HTI
                go_wp2_with (first
                  | (go_at_call 9; (with_reducible refine (HPK.out _).mono ?_); rintro e w' ⟨rfl, rfl⟩)
                  | (at_builtin; refine wpList_append_one eltTn rfl (.tmp 52) (.tmp 54) rfl w.heap.size (.slice a' k c') (pushS l k) rfl HX.out.rows ⟨2, p.who % (3 * (k : Int) + 6), 1 + p.round % 9, 1 + p.value % 5⟩ [.int .i64 2, .int .i64 (p.who % (3 * (k : Int) + 6)), .int .i64 (1 + p.round % 9), .int .i64 (1 + p.value % 5)] _ _ (by simp [Act.eval]) rfl (tn_rel _ _ _ _ _ _ (by omega)) (fun _ _ => trivial) (by rw [HLEN.out]; omega) (by decide) HX.out.below.size ?_; intro v7 w7 r1 r2 r3; have HT7 := put_by (HX.out.put r1 r2); clear r1 r2 r3; obtain ⟨a7, c7, e7⟩ := HT7.out.form; rw [List.length_append, List.length_singleton, HLEN.out] at e7; subst e7))
                go_roundw
                case rel => exact ⟨k + 1, _, _, by omega, by go_num, rfl, by rw [HPS.out, HPT.out]; exact HT7.out⟩
                case measure => simp [intOf]; omega
    · have hkm : k = mn := by omega
      subst hkm
      by_cases h1 : k < m
      · have h2 : (k : Int) < (m : Int) := by omega
        have h3 : ¬ (k : Int) < (n : Int) := by omega
        clear H0
        go_wp2
        exact bodyPost_ret (v := .slice a' k c') (by simp [results, Try.results10, go_sem]) rfl ⟨a', c', rfl, HT.out⟩
      · have h2 : ¬ (k : Int) < (m : Int) := by omega
        clear H0
        go_wp2
        exact bodyPost_ret (v := .slice a' k c') (by simp [results, Try.results10, go_sem]) rfl ⟨a', c', rfl, HT.out⟩

end Go.Proofs.Ytppcikfhhmiipaa
