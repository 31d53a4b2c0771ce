/- The reference's Applied: entries behind writes. -/
import Derived.Test.YtifagjhblngmmaaApApply
import Derived.Test.YtifagjhblngmmaaRtWith
namespace Go.Proofs.Ytifagjhblngmmaa
open Go.ChangeShapes Go.WideShapes Go.ChangeAt Go.RowKit

set_option maxHeartbeats 4000000 in
theorem applied_size (l : List Ent) (ws : List Write1) (h : 200 < l.length ∨ 400 < ws.length) (la wa : Option Addr) (lc wc : Nat) (w : World) :
    Calls Try.prog 5 #[.slice la l.length lc, .slice wa ws.length wc] w fun e w' => APost l ws w e w' := by
  generalize hpost : (fun e w' => APost l ws w e w') = R
  have HP : Hid (R (.returned (.tuple #[.slice none 0 0, .int .i64 1])) w) := by
    rw [← hpost]
    exact APost.none (.inl ⟨h, rfl, rfl⟩) (Below.refl _ _)
  clear hpost
  generalize l.length = n at *
  generalize ws.length = m at *
  by_cases h1 : 200 < n
  · have i1 : (200 : Int) < (n : Int) := by omega
    clear h
    go_enter Try.func5, Try.ntmps5
    go_wp2
    exact HP.out
  · have i1 : ¬ (200 : Int) < (n : Int) := by omega
    have i2 : (400 : Int) < (m : Int) := by omega
    have i3 : decide ((200 : Int) < (n : Int)) = false := decide_eq_false i1
    have i4 : decide ((400 : Int) < (m : Int)) = true := decide_eq_true i2
    clear h
    go_enter Try.func5, Try.ntmps5
    go_wp2
    exact HP.out

/-- the list so far -/
def Sofar (l : List Ent) (w : World) (a : Option Addr) (p c : Nat) (wr : World) : Prop := p = l.length ∧ Lies kEnt (fun _ => True) wr a c l ∧ Below w.heap.size w wr

theorem Sofar.later {l : List Ent} {w wr W : World} {a : Option Addr} {p c : Nat} (h : Sofar l w a p c wr) (hb : Below wr.heap.size wr W) : Sofar l w a p c W := ⟨h.1, h.2.1.later hb, h.2.2.trans (hb.mono h.2.2.size)⟩

set_option maxRecDepth 100000 in
set_option maxHeartbeats 8000000 in
theorem applied_any (l : List Ent) (ws : List Write1) (hl : l.length ≤ 200) (hw : ws.length ≤ 400) (la wa : Option Addr) (lc wc : Nat) (w : World) (hL : Lies kEnt (fun _ => True) w la lc l) (hW : Lies kWr (fun _ => True) w wa wc ws) :
    Calls Try.prog 5 #[.slice la l.length lc, .slice wa ws.length wc] w fun e w' => APost l ws w e w' := by
  generalize hpost : (fun e w' => APost l ws w e w') = R
  have HP : Hid (∀ e w', APost l ws w e w' → R e w') := fun e w' h => by rw [← hpost]; exact h
  clear hpost
  have cA : Hid (Calls Try.prog 10 #[.slice la l.length lc] w fun e w' => ∃ r : Bool, e = .returned (.bool r) ∧ Hid ((r = true ↔ Asc l) ∧ Below w.heap.size w w')) := (rascends_any _ l (by omega) la lc w hL).mono fun e w' ⟨r, h1, h2, h3⟩ => ⟨r, h1, h2, h3⟩
  have HL := put_by (And.intro hL (And.intro hl hw))
  have HW := put_by hW
  clear hL hW
  obtain ⟨n, hn⟩ : ∃ n, n = l.length := ⟨_, rfl⟩
  obtain ⟨m, hm⟩ : ∃ m, m = ws.length := ⟨_, rfl⟩
  rw [← hn] at cA hl ⊢
  rw [← hm] at hw ⊢
  have HN := put_by (And.intro hn hm)
  have i1 : ¬ (200 : Int) < (n : Int) := by omega
  have i2 : ¬ (400 : Int) < (m : Int) := by omega
  have i3 : decide ((200 : Int) < (n : Int)) = false := decide_eq_false i1
  have i4 : decide ((400 : Int) < (m : Int)) = false := decide_eq_false i2
  clear hn hm
  go_enter Try.func5, Try.ntmps5
  go_wp2_with (first
    | (go_at_call 10; (with_reducible refine cA.out.mono ?_); clear cA; rintro e w1 ⟨r, rfl, H1⟩; refine hidGoal ?_))
  cases r with
  | false =>
    unfold Hid
    have H9 : Hid (APost l ws w (.returned (.tuple #[.slice none 0 0, .int .i64 4])) w1) := by
      refine APost.none (.inr ⟨HL.out.2.1, HL.out.2.2, .inl ⟨fun h => ?_, rfl, rfl⟩⟩) H1.out.2
      have := H1.out.1.2 h
      simp at this
    clear H1
    go_wp2
    exact HP.out _ _ H9.out
  | true =>
    unfold Hid
    have HA : Hid (Asc l) := H1.out.1.1 rfl
    have hL1 := HL.out.1.later H1.out.2
    have HB1 := put_by H1.out.2
    go_wp2_with (first
      | (at_builtin; refine wpList_append_rows (ok := fun _ => True) (ok2 := fun _ => True) eltE rfl (.const (.slice none 0 0)) (.tmp 20) rfl w1.heap.size (.slice none 0 0) [] rfl (Rows.nil _ _ _ _ _) la lc n l rfl HN.out.1 hL1 (fun _ _ h _ => h) (fun _ _ _ h => by cases h) (by simp; omega) (by decide) (Nat.le_refl _) ?_; intro v' w2 r1 r2 r3; refine hidGoal ?_))
    obtain ⟨a0, c0, e0⟩ := rows_form r1
    subst e0
    have H2 : Hid (Sofar (applyK l (ws.take 0)) w a0 ([] ++ l).length c0 w2) := by
      obtain ⟨-, g2, -, -⟩ := rows_lies r1 (fun _ _ => trivial)
      exact ⟨by simp [applyK], by simpa [applyK] using g2, below_grown HB1.out HB1.out.size r2 (fun r h => by cases h)⟩
    generalize ([] ++ l).length = p0 at H2 ⊢
    clear r1 r2 r3 hL1 H1 HB1
    unfold Hid
    go_wp2
    go_loopw [6, 24] (fun s i wr => ∃ (k : Nat) (a : Option Addr) (p c : Nat), k ≤ m ∧ i = .int .i64 k ∧ s = .slice a p c ∧ Hid (Sofar (applyK l (ws.take k)) w a p c wr)) (fun _ i _ => m - (intOf i).toNat)
    case atStart => exact ⟨0, a0, p0, c0, Nat.zero_le _, rfl, rfl, H2.out⟩
    case round =>
      obtain ⟨k, a, p, c, hk, rfl, rfl, HR⟩ := hrel
      rename World => wr
      by_cases hlt : k < m
      · have hx : k < ws.length := by rw [← HN.out.2]; exact hlt
        obtain ⟨b4, off, rfl, hb, _, cs, ⟨u, v, rfl, hu, hv⟩, hc⟩ := HW.out.at hx
        obtain ⟨xa, xc, rfl, hxo, -⟩ := id hu
        obtain ⟨ya, yc, rfl, hyo, -⟩ := id hv
        have hbr := HR.out.2.2
        have d0 : wr.cell? ⟨b4, off + k * 3, none⟩ = some (.slice xa (ws[k]).key.length xc) := (hbr.cell (p := ⟨b4, off + k * 3, none⟩) hb).trans (by simpa using hc 0 _ rfl)
        have d1 : wr.cell? ⟨b4, off + k * 3 + 1, none⟩ = some (.slice ya (ws[k]).val.length yc) := (hbr.cell (p := ⟨b4, off + k * 3 + 1, none⟩) hb).trans (hc 1 _ rfl)
        have d2 : wr.cell? ⟨b4, off + k * 3 + 2, none⟩ = some (.bool (ws[k]).gone) := (hbr.cell (p := ⟨b4, off + k * 3 + 2, none⟩) hb).trans (hc 2 _ rfl)
        have hlen : (applyK l (ws.take k)).length ≤ 70000 := by
          have h1 := applyK_length l (ws.take k)
          have h2 := HL.out.2
          rw [List.length_take] at h1
          omega
        have hpl := HR.out.1
        have H0 := put_by (WrB.new wr (.slice xa (ws[k]).key.length xc) (.slice ya (ws[k]).val.length yc) (ws[k]).gone 32)
        have cO : Hid (∀ W, WrB wr (.slice xa (ws[k]).key.length xc) (.slice ya (ws[k]).val.length yc) (ws[k]).gone W → (ws[k]).gone = true → Calls Try.prog 11 #[.slice a p c, .slice xa (ws[k]).key.length xc] W fun e w' => ∃ (a' : Option Addr) (p' c' : Nat) (q : Bool), e = .returned (.tuple #[.slice a' p' c', .bool q]) ∧ Hid (Sofar (applyK l (ws.take (k + 1))) w a' p' c' w')) := fun W hV hgn => by
          have hS := HR.out.later hV.below
          rw [hpl]
          refine (rwithout_any (fun _ => True) (applyK l (ws.take k)) (by omega) (ws[k]).key a c xa xc W (fun _ _ => trivial) hS.2.1 (hxo.later hS.2.2)).mono ?_
          rintro e w' ⟨a', p', c', rfl, q1, q2, -, q3⟩
          refine ⟨a', p', c', _, rfl, ?_⟩
          have e9 : applyK l (ws.take (k + 1)) = dropK (applyK l (ws.take k)) (ws[k]).key := by rw [applyK_take hx, wrK, hgn]; rfl
          rw [e9]
          exact ⟨q1, q2, hS.2.2.trans (q3.mono hS.2.2.size)⟩
        have c1 : Hid (∀ W, WrB wr (.slice xa (ws[k]).key.length xc) (.slice ya (ws[k]).val.length yc) (ws[k]).gone W → Calls Try.prog 13 #[.slice xa (ws[k]).key.length xc] W fun e w' => ∃ (a1 : Option Addr) (n1 q1 : Nat), e = .returned (.slice a1 n1 q1) ∧ Hid (WrB wr (.slice xa (ws[k]).key.length xc) (.slice ya (ws[k]).val.length yc) (ws[k]).gone w' ∧ n1 = (ws[k]).key.length ∧ IsBody w' (fun _ => True) (.slice a1 n1 q1) (ws[k]).key)) := fun W hV => by
          have hS := HR.out.later hV.below
          refine (ownBytes_any xa xc (ws[k]).key W (hxo.later hS.2.2)).mono ?_
          rintro e w' ⟨a1, q1, rfl, r1, r2, r3⟩
          exact ⟨a1, _, q1, rfl, hV.later r3, rfl, a1, q1, rfl, r1, fun _ _ _ => trivial⟩
        have c2 : Hid (∀ (W : World) (a1 : Option Addr) (n1 q1 : Nat), (WrB wr (.slice xa (ws[k]).key.length xc) (.slice ya (ws[k]).val.length yc) (ws[k]).gone W ∧ n1 = (ws[k]).key.length ∧ IsBody W (fun _ => True) (.slice a1 n1 q1) (ws[k]).key) → Calls Try.prog 13 #[.slice ya (ws[k]).val.length yc] W fun e w' => ∃ (a2 : Option Addr) (n2 q2 : Nat), e = .returned (.slice a2 n2 q2) ∧ Hid (WrB wr (.slice xa (ws[k]).key.length xc) (.slice ya (ws[k]).val.length yc) (ws[k]).gone w' ∧ (n1 = (ws[k]).key.length ∧ IsBody w' (fun _ => True) (.slice a1 n1 q1) (ws[k]).key) ∧ n2 = (ws[k]).val.length ∧ IsBody w' (fun _ => True) (.slice a2 n2 q2) (ws[k]).val)) := fun W a1 n1 q1 ⟨hV, e1, hb1⟩ => by
          have hS := HR.out.later hV.below
          refine (ownBytes_any ya yc (ws[k]).val W (hyo.later hS.2.2)).mono ?_
          rintro e w' ⟨a2, q2, rfl, r1, r2, r3⟩
          exact ⟨a2, _, q2, rfl, hV.later r3, ⟨e1, hb1.later r3⟩, rfl, a2, q2, rfl, r1, fun _ _ _ => trivial⟩
        have cW : Hid (∀ (W : World) (a1 : Option Addr) (n1 q1 : Nat) (a2 : Option Addr) (n2 q2 : Nat), (WrB wr (.slice xa (ws[k]).key.length xc) (.slice ya (ws[k]).val.length yc) (ws[k]).gone W ∧ (n1 = (ws[k]).key.length ∧ IsBody W (fun _ => True) (.slice a1 n1 q1) (ws[k]).key) ∧ n2 = (ws[k]).val.length ∧ IsBody W (fun _ => True) (.slice a2 n2 q2) (ws[k]).val) → (ws[k]).gone = false → Calls Try.prog 12 #[.slice a p c, .agg #[.slice a1 n1 q1, .slice a2 n2 q2]] W fun e w' => ∃ (a3 : Option Addr) (n3 q3 : Nat), e = .returned (.slice a3 n3 q3) ∧ w'.cell? ⟨wr.heap.size, 0, none⟩ = some (.slice xa (ws[k]).key.length xc) ∧ w'.cell? ⟨wr.heap.size, 1, none⟩ = some (.slice ya (ws[k]).val.length yc) ∧ Hid (Sofar (applyK l (ws.take (k + 1))) w a3 n3 q3 w')) := fun W a1 n1 q1 a2 n2 q2 ⟨hV, ⟨e1, hb1⟩, e2, hb2⟩ hgn => by
          have hS := HR.out.later hV.below
          rw [hpl]
          subst e1 e2
          refine (rwith_any (fun _ => True) (applyK l (ws.take k)) (by omega) ((ws[k]).key, (ws[k]).val) a c a1 a2 q1 q2 W (fun _ _ => trivial) hS.2.1 hb1 hb2).mono ?_
          rintro e w' ⟨a3, n3, q3, rfl, g1, g2, -, g3⟩
          have e9 : applyK l (ws.take (k + 1)) = putK (applyK l (ws.take k)) ((ws[k]).key, (ws[k]).val) := by rw [applyK_take hx, wrK, hgn]; rfl
          refine ⟨a3, n3, q3, rfl, (hV.later g3).c0, (hV.later g3).c1, ?_⟩
          rw [e9]
          exact ⟨g1, g2, hS.2.2.trans (g3.mono hS.2.2.size)⟩
        have ik : (k : Int) < (m : Int) := by omega
        clear hc hu hv hxo hyo HR hbr hlen hpl
        generalize (ws[k]).key.length = i5 at d0 cO c1 c2 cW H0
        generalize (ws[k]).val.length = i6 at d1 cO c1 c2 cW H0
        generalize (ws[k]).gone = gn at d2 cO c1 c2 cW H0
        go_upto_region 9 with (fail)
        generalize wr.alloc (.cells #[.slice xa i5 xc, .slice ya i6 yc, .bool gn] 32) = W0 at H0 ⊢
        obtain ⟨-, -, b0, b1, b2⟩ := id H0.out
        cases gn with
        | true =>
          go_wp2_with (first
            | (go_at_call 11; (with_reducible refine (cO.out _ H0.out (by simp)).mono ?_); clear cO; rintro e w5 ⟨a', p', c', q, rfl, H5⟩))
          go_roundw
          case rel => exact ⟨k + 1, a', p', c', by omega, by go_num, rfl, H5⟩
          case measure => simp [intOf]; omega
        | false =>
          go_upto_region 11 with (fail)
          have HD := put_by (H0.out.later (Below.refl _ _).drew)
          go_region_held3 (fun V => V.cell? ⟨wr.heap.size, 0, none⟩ = some (.slice xa i5 xc) ∧ V.cell? ⟨wr.heap.size, 1, none⟩ = some (.slice ya i6 yc)) (go_keep) (first
            | (go_at_call 13; (with_reducible refine (c1.out _ HD.out).mono ?_); clear c1; rintro e w1 ⟨a1, n1, q1, rfl, H1⟩; obtain ⟨-, -, j0, j1, -⟩ := id H1.out.1)
            | (go_at_call 13; (with_reducible refine (c2.out _ _ _ _ H1.out).mono ?_); clear c2; rintro e w2 ⟨a2, n2, q2, rfl, H2⟩; obtain ⟨-, -, l0, l1, -⟩ := id H2.out.1)
            | (go_at_call 12; (with_reducible refine (cW.out _ _ _ _ _ _ _ H2.out (by simp)).mono ?_); clear cW; rintro e w3 ⟨a3, n3, q3, rfl, o0, o1, H3⟩))
          all_goals
            go_wp2
            go_roundw
            case rel => exact ⟨k + 1, a3, n3, q3, by omega, by go_num, rfl, H3⟩
            case measure => simp [intOf]; omega
      · have hkm : k = m := by omega
        subst hkm
        have H3 : Hid (Sofar (applyK l ws) w a p c wr) := by
          have h := HR.out
          rwa [List.take_of_length_le (by rw [← HN.out.2]; exact Nat.le_refl _)] at h
        clear HR
        by_cases hp : 200 < p
        · have ip : (200 : Int) < (p : Int) := by omega
          have H9 : Hid (APost l ws w (.returned (.tuple #[.slice none 0 0, .int .i64 1])) wr) := APost.none (.inr ⟨HL.out.2.1, HL.out.2.2, .inr ⟨HA.out, .inl ⟨by rw [← H3.out.1]; exact hp, rfl, rfl⟩⟩⟩) H3.out.2.2
          clear H3
          go_wp2
          exact HP.out _ _ H9.out
        · have ip : ¬ (200 : Int) < (p : Int) := by omega
          have H9 : Hid (APost l ws w (.returned (.tuple #[.slice a p c, .int .i64 0])) wr) := ⟨_, _, a, p, c, rfl, .inr ⟨HL.out.2.1, HL.out.2.2, .inr ⟨HA.out, .inr ⟨by rw [← H3.out.1]; omega, rfl, rfl⟩⟩⟩, H3.out.1, H3.out.2.1, H3.out.2.2⟩
          clear H3
          go_wp2
          exact HP.out _ _ H9.out

end Go.Proofs.Ytifagjhblngmmaa
