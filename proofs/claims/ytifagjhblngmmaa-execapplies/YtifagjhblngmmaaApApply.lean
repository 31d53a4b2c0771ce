/- exec.Apply: entries behind writes. -/
import Derived.Test.YtifagjhblngmmaaApWritten
import Derived.Test.YtifagjhblngmmaaApCopied
import Derived.Test.YtifagjhblngmmaaApAscend
import Derived.Test.YtifagjhblngmmaaApArg
namespace Go.Proofs.Ytifagjhblngmmaa
open Go.ChangeShapes Go.WideShapes Go.ChangeAt Go.RowKit

/-- entries behind writes, one by one -/
def applyK (l : List Ent) (ws : List Write1) : List Ent := ws.foldl wrK l

theorem applyK_take {l : List Ent} {ws : List Write1} {k : Nat} (hk : k < ws.length) : applyK l (ws.take (k + 1)) = wrK (applyK l (ws.take k)) ws[k] := by
  rw [applyK, List.take_succ_eq_append_getElem hk, List.foldl_append]
  rfl

theorem applyK_asc {l : List Ent} (h : Asc l) : ∀ (ws : List Write1), Asc (applyK l ws) := by
  intro ws
  induction ws generalizing l with
  | nil => exact h
  | cons x ws ih => exact ih (wrK_asc h x)

theorem applyK_length (l : List Ent) (ws : List Write1) : (applyK l ws).length ≤ l.length + ws.length := by
  induction ws generalizing l with
  | nil => exact Nat.le_refl _
  | cons x ws ih =>
    have h1 := ih (wrK l x)
    have h2 := wrK_length l x
    simp only [applyK, List.foldl_cons, List.length_cons] at h1 ⊢
    omega

/-- what is asked: entries and a code -/
def AnsIs (l : List Ent) (ws : List Write1) (out : List Ent) (code : Int) : Prop :=
  ((200 < l.length ∨ 400 < ws.length) ∧ out = [] ∧ code = 1) ∨
    (l.length ≤ 200 ∧ ws.length ≤ 400 ∧ ((¬ Asc l ∧ out = [] ∧ code = 4) ∨ (Asc l ∧ ((200 < (applyK l ws).length ∧ out = [] ∧ code = 1) ∨ ((applyK l ws).length ≤ 200 ∧ out = applyK l ws ∧ code = 0)))))

theorem AnsIs.one {l : List Ent} {ws : List Write1} {o o' : List Ent} {c c' : Int} (h : AnsIs l ws o c) (h' : AnsIs l ws o' c') : o = o' ∧ c = c' := by
  rcases h with ⟨h1, rfl, rfl⟩ | ⟨h1, h2, ⟨h3, rfl, rfl⟩ | ⟨h3, ⟨h4, rfl, rfl⟩ | ⟨h4, rfl, rfl⟩⟩⟩ <;> rcases h' with ⟨g1, rfl, rfl⟩ | ⟨g1, g2, ⟨g3, rfl, rfl⟩ | ⟨g3, ⟨g4, rfl, rfl⟩ | ⟨g4, rfl, rfl⟩⟩⟩ <;> first
    | exact ⟨rfl, rfl⟩
    | (exfalso; omega)
    | exact absurd g3 h3
    | exact absurd h3 g3

theorem AnsIs.few {l : List Ent} {ws : List Write1} {o : List Ent} {c : Int} (h : AnsIs l ws o c) : o.length ≤ 200 := by
  rcases h with ⟨h1, rfl, rfl⟩ | ⟨h1, h2, ⟨h3, rfl, rfl⟩ | ⟨h3, ⟨h4, rfl, rfl⟩ | ⟨h4, rfl, rfl⟩⟩⟩ <;> first
    | exact Nat.zero_le _
    | exact h4

def APost (l : List Ent) (ws : List Write1) (w : World) (e : Ending) (w' : World) : Prop :=
  ∃ (out : List Ent) (code : Int) (a : Option Addr) (n c : Nat), e = .returned (.tuple #[.slice a n c, .int .i64 code]) ∧ AnsIs l ws out code ∧ n = out.length ∧ Lies kEnt (fun _ => True) w' a c out ∧ Below w.heap.size w w'

theorem APost.none {l : List Ent} {ws : List Write1} {code : Int} {w w' : World} (h : AnsIs l ws [] code) (hb : Below w.heap.size w w') : APost l ws w (.returned (.tuple #[.slice .none 0 0, .int .i64 code])) w' :=
  ⟨[], code, .none, 0, 0, rfl, h, rfl, Lies.nil _ _ _ (fun _ => rfl), hb⟩

set_option maxHeartbeats 4000000 in
theorem apply_size (l : List Ent) (ws : List Write1) (h : 200 < l.length ∨ 400 < ws.length) (la wa : Option Addr) (lc wc : Nat) (w : World) :
    Calls Try.prog 4 #[.slice la l.length lc, .slice wa ws.length wc] w fun e w' => APost l ws w e w' := by
  generalize hpost : (fun e w' => APost l ws w e w') = R
  have HP : Hid (R (.returned (.tuple #[.slice none 0 0, .int .i64 1])) w) := by
    rw [← hpost]
    exact APost.none (.inl ⟨h, rfl, rfl⟩) (Below.refl _ _)
  clear hpost
  generalize l.length = n at *
  generalize ws.length = m at *
  by_cases h1 : 200 < n
  · have i1 : (200 : Int) < (n : Int) := by omega
    clear h
    go_enter Try.func4, Try.ntmps4
    go_wp2
    exact HP.out
  · have i1 : ¬ (200 : Int) < (n : Int) := by omega
    have i2 : (400 : Int) < (m : Int) := by omega
    have i3 : decide ((200 : Int) < (n : Int)) = false := decide_eq_false i1
    have i4 : decide ((400 : Int) < (m : Int)) = true := decide_eq_true i2
    clear h
    go_enter Try.func4, Try.ntmps4
    go_wp2
    exact HP.out

set_option maxRecDepth 100000 in
set_option maxHeartbeats 8000000 in
theorem apply_any (l : List Ent) (ws : List Write1) (hl : l.length ≤ 200) (hw : ws.length ≤ 400) (la wa : Option Addr) (lc wc : Nat) (w : World) (hL : Lies kEnt (fun _ => True) w la lc l) (hW : Lies kWr (fun _ => True) w wa wc ws) :
    Calls Try.prog 4 #[.slice la l.length lc, .slice wa ws.length wc] w fun e w' => APost l ws w e w' := by
  generalize hpost : (fun e w' => APost l ws w e w') = R
  have HP : Hid (∀ e w', APost l ws w e w' → R e w') := fun e w' h => by rw [← hpost]; exact h
  clear hpost
  have hL2 : Lies kEnt (fun b => b < w.heap.size) w la lc l := hL.move (Kept.of_below (Below.refl _ _)) (fun _ hb _ => hb)
  have hW2 : Lies kWr (fun b => b < w.heap.size) w wa wc ws := hW.move (Kept.of_below (Below.refl _ _)) (fun _ hb _ => hb)
  have cA : Hid (Calls Try.prog 7 #[.slice la l.length lc] w fun e w' => ∃ r : Bool, e = .returned (.bool r) ∧ Hid ((r = true ↔ Asc l) ∧ Below w.heap.size w w')) := (ascend_any _ l (by omega) la lc w hL).mono fun e w' ⟨r, h1, h2, h3⟩ => ⟨r, h1, h2, h3⟩
  have HL := put_by (And.intro hL2 (And.intro hl hw))
  have HW := put_by hW2
  clear hL2 hW2 hL hW
  obtain ⟨n, hn⟩ : ∃ n, n = l.length := ⟨_, rfl⟩
  obtain ⟨m, hm⟩ : ∃ m, m = ws.length := ⟨_, rfl⟩
  rw [← hn] at cA hl ⊢
  rw [← hm] at hw ⊢
  have HN := put_by (And.intro hn hm)
  have i1 : ¬ (200 : Int) < (n : Int) := by omega
  have i2 : ¬ (400 : Int) < (m : Int) := by omega
  have i3 : decide ((200 : Int) < (n : Int)) = false := decide_eq_false i1
  have i4 : decide ((400 : Int) < (m : Int)) = false := decide_eq_false i2
  clear hn hm
  go_enter Try.func4, Try.ntmps4
  go_wp2_with (first
    | (go_at_call 7; (with_reducible refine cA.out.mono ?_); clear cA; rintro e w1 ⟨r, rfl, H1⟩; refine hidGoal ?_))
  cases r with
  | false =>
    unfold Hid
    have H9 : Hid (APost l ws w (.returned (.tuple #[.slice none 0 0, .int .i64 4])) w1) := by
      refine APost.none (.inr ⟨HL.out.2.1, HL.out.2.2, .inl ⟨fun h => ?_, rfl, rfl⟩⟩) H1.out.2
      have := H1.out.1.2 h
      simp at this
    clear H1
    go_wp2
    exact HP.out _ _ H9.out
  | true =>
    unfold Hid
    have HA : Hid (Asc l) := H1.out.1.1 rfl
    have hL1 := HL.out.1.later H1.out.2
    have HB1 := put_by H1.out.2
    go_wp2_with (first
      | (at_builtin; refine wpList_append_rows (ok := fun b => b < w.heap.size) (ok2 := fun b => b < w.heap.size) eltE rfl (.const (.slice none 0 0)) (.tmp 22) rfl w.heap.size (.slice none 0 0) [] rfl (Rows.nil _ _ _ _ _) la lc n l rfl HN.out.1 hL1 (fun _ _ h _ => h) (fun _ _ _ h => by cases h) (by simp; omega) (by decide) HB1.out.size ?_; intro v' w2 r1 r2 r3; refine hidGoal ?_))
    obtain ⟨a0, c0, e0⟩ := rows_form r1
    subst e0
    have H2 : Hid (Own w.heap.size w2 (.slice a0 ([] ++ l).length c0) (applyK l (ws.take 0)) ∧ Below w.heap.size w w2) := ⟨by simpa [applyK] using r1, below_grown HB1.out HB1.out.size r2 (fun r h => by cases h)⟩
    generalize ([] ++ l).length = p0 at H2 ⊢
    clear r1 r2 r3 hL1 H1 HB1
    unfold Hid
    go_wp2
    go_loopw [6, 26] (fun s i wr => ∃ (k : Nat) (a : Option Addr) (p c : Nat), k ≤ m ∧ i = .int .i64 k ∧ s = .slice a p c ∧ Hid (Own w.heap.size wr (.slice a p c) (applyK l (ws.take k)) ∧ Below w.heap.size w wr)) (fun _ i _ => m - (intOf i).toNat)
    case atStart => exact ⟨0, a0, p0, c0, Nat.zero_le _, rfl, rfl, H2.out⟩
    case round =>
      obtain ⟨k, a, p, c, hk, rfl, rfl, HR⟩ := hrel
      rename World => wr
      by_cases hlt : k < m
      · have hx : k < ws.length := by rw [← HN.out.2]; exact hlt
        obtain ⟨b4, off, rfl, hb, _, cs, ⟨u, v, rfl, hu, hv⟩, hc⟩ := HW.out.at hx
        obtain ⟨xa, xc, rfl, -, -⟩ := id hu
        obtain ⟨ya, yc, rfl, -, -⟩ := id hv
        have d0 : wr.cell? ⟨b4, off + k * 3, none⟩ = some (.slice xa (ws[k]).key.length xc) := (HR.out.2.cell (p := ⟨b4, off + k * 3, none⟩) hb).trans (by simpa using hc 0 _ rfl)
        have d1 : wr.cell? ⟨b4, off + k * 3 + 1, none⟩ = some (.slice ya (ws[k]).val.length yc) := (HR.out.2.cell (p := ⟨b4, off + k * 3 + 1, none⟩) hb).trans (hc 1 _ rfl)
        have d2 : wr.cell? ⟨b4, off + k * 3 + 2, none⟩ = some (.bool (ws[k]).gone) := (HR.out.2.cell (p := ⟨b4, off + k * 3 + 2, none⟩) hb).trans (hc 2 _ rfl)
        have cW : Hid (∀ ty, Calls Try.prog 8 #[.slice a p c, .agg #[.slice xa (ws[k]).key.length xc, .slice ya (ws[k]).val.length yc, .bool (ws[k]).gone]] (wr.alloc (.cells #[.slice xa (ws[k]).key.length xc, .slice ya (ws[k]).val.length yc, .bool (ws[k]).gone] ty)) fun e w' => ∃ (a' : Option Addr) (p' c' : Nat), e = .returned (.slice a' p' c') ∧ Hid (Own w.heap.size w' (.slice a' p' c') (applyK l (ws.take (k + 1))) ∧ Below w.heap.size w w')) := fun ty => by
          have hba := (Below.refl _ wr).alloc (Nat.le_refl _) (.cells #[.slice xa (ws[k]).key.length xc, .slice ya (ws[k]).val.length yc, .bool (ws[k]).gone] ty)
          have hbw := HR.out.2.trans (hba.mono HR.out.2.size)
          have hpl : p = (applyK l (ws.take k)).length := by
            obtain ⟨a9, c9, e9⟩ := rows_form HR.out.1
            simp only [Value.slice.injEq] at e9
            exact e9.2.1
          have hlen : (applyK l (ws.take k)).length ≤ 80000 := by
            have h1 := applyK_length l (ws.take k)
            have h2 := HL.out.2
            rw [List.length_take] at h1
            omega
          have hO := HR.out.1.later hba
          rw [hpl] at hO ⊢
          refine (written_any w.heap.size (applyK l (ws.take k)) hlen (applyK_asc HA.out _) a c (ws[k]).key (ws[k]).val (ws[k]).gone xa ya xc yc _ hbw.size hO (hu.later hbw) (hv.later hbw)).mono ?_
          rintro e w' ⟨a', p', c', rfl, q1, q2⟩
          exact ⟨a', p', c', rfl, by rw [applyK_take hx]; exact q1, hbw.trans q2⟩
        have ik : (k : Int) < (m : Int) := by omega
        clear hc hu hv HR
        generalize (ws[k]).key.length = i5 at d0 cW
        generalize (ws[k]).val.length = i6 at d1 cW
        generalize (ws[k]).gone = gn at d2 cW
        go_wp2_with (first
          | (go_at_call 8; (with_reducible refine (cW.out _).mono ?_); clear cW; rintro e w5 ⟨a', p', c', rfl, H5⟩))
        go_roundw
        case rel => exact ⟨k + 1, a', p', c', by omega, by go_num, rfl, H5⟩
        case measure => simp [intOf]; omega
      · have hkm : k = m := by omega
        subst hkm
        have H3 : Hid (p = (applyK l ws).length ∧ Own w.heap.size wr (.slice a p c) (applyK l ws) ∧ Below w.heap.size w wr) := by
          have h := HR.out
          rw [List.take_of_length_le (by rw [← HN.out.2]; exact Nat.le_refl _)] at h
          obtain ⟨a9, c9, e9⟩ := rows_form h.1
          simp only [Value.slice.injEq] at e9
          exact ⟨e9.2.1, h⟩
        clear HR
        by_cases hp : 200 < p
        · have ip : (200 : Int) < (p : Int) := by omega
          have H9 : Hid (APost l ws w (.returned (.tuple #[.slice none 0 0, .int .i64 1])) wr) := APost.none (.inr ⟨HL.out.2.1, HL.out.2.2, .inr ⟨HA.out, .inl ⟨by rw [← H3.out.1]; exact hp, rfl, rfl⟩⟩⟩) H3.out.2.2
          clear H3
          go_wp2
          exact HP.out _ _ H9.out
        · have ip : ¬ (200 : Int) < (p : Int) := by omega
          have cC : Hid (Calls Try.prog 9 #[.slice a p c] wr fun e w' => ∃ (a' : Option Addr) (p' c' : Nat), e = .returned (.slice a' p' c') ∧ Hid (APost l ws w (.returned (.tuple #[.slice a' p' c', .int .i64 0])) w')) := by
            have h1 := H3.out.1
            have h2 := H3.out.2.1.lies
            rw [h1]
            refine (ecopied_any _ (applyK l ws) (by omega) a c wr h2).mono ?_
            rintro e w' ⟨a', p', c', rfl, q1, q2, q3⟩
            exact ⟨a', p', c', rfl, _, _, a', p', c', rfl, .inr ⟨HL.out.2.1, HL.out.2.2, .inr ⟨HA.out, .inr ⟨by omega, rfl, rfl⟩⟩⟩, q1, q2, H3.out.2.2.trans (q3.mono H3.out.2.2.size)⟩
          clear H3
          go_wp2_with (first
            | (go_at_call 9; (with_reducible refine cC.out.mono ?_); clear cC; rintro e w5 ⟨a', p', c', rfl, H5⟩))
          exact HP.out _ _ H5.out

end Go.Proofs.Ytifagjhblngmmaa
