/- ParseNames' walk: a kept word is no name, all others are. -/
import Derived.Test.YtgpopopgmmfnmabDoorParseParse
import Derived.Test.YtgpopopgmmfnmabDoorNamesTabs
import Derived.Test.YtgpopopgmmfnmabDoorKeepWord
namespace Go.Proofs.YtgpopopgmmfnmabDoor
open Go.ChangeShapes Go.WideShapes Go.ChangeAt Go.RowKit

def namesToks (u : List UInt8) : List Tok := [⟨1, 0, [100, 101, 108, 101, 116, 101]⟩, ⟨1, 0, [102, 114, 111, 109]⟩, ⟨1, 0, u⟩]

theorem names_parse (u : List UInt8) (hu : isWord u = true) : parseP (namesToks u) = readP (namesToks u) := by
  have : firstBad (namesToks u) = none := firstBad_none fun j hj => by
    match j, hj with
    | 0, _ => exact (by decide +kernel : may ⟨1, 0, [100, 101, 108, 101, 116, 101]⟩ = true)
    | 1, _ => exact (by decide +kernel : may ⟨1, 0, [102, 114, 111, 109]⟩ = true)
    | 2, _ => show may ⟨1, 0, u⟩ = true; simp [may, hu]
  unfold parseP
  rw [if_neg (by simp [namesToks]), this]

theorem names_read (u : List UInt8) : readP (namesToks u) = if kept u then (noStm, 2, 4) else ({ noStm with kind := 5, table := u }, 0, 0) := by
  cases hk : kept u <;> simp [readP, namesToks, statementP, deleteP, needs, oneOf, anyOf, isOne, St.next, St.adv, St.stop, nameP, isName, whereP, mayBe, noStm, zeroTok, hk]

abbrev namesObj (s : ByteArray) : Obj := .cells #[.int .i64 1, .int .i64 0, .string ⟨#[100, 101, 108, 101, 116, 101]⟩, .int .i64 1, .int .i64 0, .string ⟨#[102, 114, 111, 109]⟩, .int .i64 1, .int .i64 0, .string s] 37

theorem names_toks (W : World) (u : List UInt8) : Toks (W.alloc (namesObj (str u))) (some ⟨W.heap.size, 0, none⟩) 3 (namesToks u) := by
  refine ⟨by simp [namesToks], fun t ht => ?_, .inr ⟨W.heap.size, 0, rfl, by simp, fun i hi => ?_⟩⟩
  · simp only [namesToks, List.mem_cons, List.not_mem_nil, or_false] at ht
    rcases ht with rfl | rfl | rfl <;> exact (by decide : (0 : Int) ≤ 9223372036854775807)
  · simp only [World.cell?_alloc_new]
    match i, hi with
    | 0, _ => exact ⟨rfl, rfl, rfl⟩
    | 1, _ => exact ⟨rfl, rfl, rfl⟩
    | 2, _ => exact ⟨rfl, rfl, rfl⟩

theorem names_var {w W : World} (hb : Below w.heap.size w W) (x : SD) : ∃ W', (W.alloc zeroStm).setCells W.heap.size 0 (stmCells x).toArray.toList = W' ∧ Hid (Below w.heap.size w W' ∧ VarB W' W.heap.size (stmCells x)) := by
  have h1 : Below W.heap.size W (W.alloc zeroStm) := (Below.refl _ W).alloc (Nat.le_refl _) _
  have h2 := h1.trans ((setFrom_keeps W.heap.size (stmCells x) (W.alloc zeroStm) 0).below (Nat.le_refl _) h1.size)
  exact ⟨_, rfl, hb.trans (h2.mono hb.size), (VarB.new W _ 33).all (stmCells x) rfl⟩

theorem names_Parse (u : List UInt8) (hu : isWord u = true) {w W : World} (tabs : NamesTabs w) (h : Hid (Below w.heap.size w W)) :
    Calls Tryd.prog 5 #[.slice (some ⟨W.heap.size, 0, none⟩) 3 3] (W.alloc (namesObj (str u))) fun e W' => ∃ x : SD, e = .returned (.tuple #[stmval x, .int .i64 ((readP (namesToks u)).2.1 : Int), .int .i64 (readP (namesToks u)).2.2]) ∧ Hid (Below w.heap.size w W' ∧ x.kind = (readP (namesToks u)).1.kind ∧ x.table = str (readP (namesToks u)).1.table) := by
  have hb := h.out.trans (((Below.refl _ W).alloc (Nat.le_refl _) (namesObj (str u))).mono h.out.size)
  have tb := tabs.later hb
  have := Parse_any (some ⟨W.heap.size, 0, none⟩) 3 (namesToks u) _ (names_toks W u) (fun a ha => by cases ha; simp) tb.may.1 tb.may.2 tb.op
  rw [names_parse u hu] at this
  exact this.mono fun _ _ ⟨x, h1, h2⟩ => ⟨x, h1, hb.trans (h2.out.1.mono hb.size), h2.out.2.kind, h2.out.2.table⟩

set_option maxRecDepth 100000 in
set_option maxHeartbeats 8000000 in
theorem names_walk (s : ByteArray) (hs : s.size ≤ 9223372036854775807) (w : World) (tab : NamesTabs w) :
    Calls Tryd.prog 3 #[.string s] w fun e w' => e = .returned (.bool true) ∧ Below w.heap.size w w' := by
  have cW := WordOf_any s hs w
  have k1 : ∀ W : World, Calls Tryd.prog 6 #[.string ⟨#[119, 104, 101, 114, 101]⟩] W fun e w' => e = .returned (.bool true) ∧ W = w' := fun W => by
    have := Kept_any [119, 104, 101, 114, 101] W
    rw [show kept [119, 104, 101, 114, 101] = true by decide +kernel] at this
    exact this
  have k2 : ∀ W : World, Calls Tryd.prog 6 #[.string ⟨#[119, 104, 101, 110, 99, 101]⟩] W fun e w' => e = .returned (.bool false) ∧ W = w' := fun W => by
    have := Kept_any [119, 104, 101, 110, 99, 101] W
    rw [show kept [119, 104, 101, 110, 99, 101] = false by decide +kernel] at this
    exact this
  have cP := hide (fun (u : List UInt8) (hu : isWord u = true) (W : World) (h : Hid (Below w.heap.size w W)) => names_Parse u hu tab h)
  have cK := hide (fun (u : List UInt8) (W : World) => Kept_any u W)
  clear tab
  go_enter Tryd.func3, Tryd.ntmps3
  go_wp2_with (go_at_call 4; refine cW.mono ?_; rintro e w1 ⟨u, rfl, hu1, hu2, hb⟩; have HB := hide hb; have HU := hide (hu1.isWord hu2); clear hb hu1 hu2)
  have cP1 := fun W h => cP.out u HU.out W h
  have cK1 := cK.out u
  clear cP cK cW
  rw [names_read u] at cP1
  cases hk : kept u
  · rw [hk] at cP1 cK1
    simp only [Bool.false_eq_true, if_false] at cP1
    go_wp2_with (first
      | (go_at_call 5; (with_reducible refine (cP1 _ HB).mono ?_); rintro e w2 ⟨x, rfl, HB2⟩)
      | (refine wpList_store_mid rfl 33 (.tmp 4) (.tmp 16) rfl w2.heap.size 0 (stmCells x).toArray rfl rfl (init_there _ _) (stm_size _) (stm_one _) ?_; obtain ⟨w3, e3, HB3⟩ := names_var HB2.out.1 x; rw [e3]; clear e3; have hk0 : x.kind = 5 := HB2.out.2.1; have hk2 : x.table = str u := HB2.out.2.2; have z0 : w3.cell? ⟨w2.heap.size, 0, none⟩ = some (.int .i64 5) := (by rw [← hk0]; exact HB3.out.2.2.1 0 _ rfl); have z2 : w3.cell? ⟨w2.heap.size, 2, none⟩ = some (.string (str u)) := (by rw [← hk2]; exact HB3.out.2.2.1 2 _ rfl))
      | (go_at_call 6; (with_reducible refine (k1 _).mono ?_); rintro e w' ⟨rfl, rfl⟩)
      | (go_at_call 6; (with_reducible refine (k2 _).mono ?_); rintro e w' ⟨rfl, rfl⟩)
      | (go_at_call 6; (with_reducible refine (cK1 _).mono ?_); rintro e w' ⟨rfl, rfl⟩))
    go_ret
    exact ⟨by simp, HB3.out.1⟩
  · rw [hk] at cP1 cK1
    simp only [if_true] at cP1
    go_wp2_with (first
      | (go_at_call 5; (with_reducible refine (cP1 _ HB).mono ?_); rintro e w2 ⟨x, rfl, HB2⟩)
      | (refine wpList_store_mid rfl 33 (.tmp 4) (.tmp 16) rfl w2.heap.size 0 (stmCells x).toArray rfl rfl (init_there _ _) (stm_size _) (stm_one _) ?_; obtain ⟨w3, e3, HB3⟩ := names_var HB2.out.1 x; rw [e3]; clear e3)
      | (go_at_call 6; (with_reducible refine (k1 _).mono ?_); rintro e w' ⟨rfl, rfl⟩)
      | (go_at_call 6; (with_reducible refine (k2 _).mono ?_); rintro e w' ⟨rfl, rfl⟩)
      | (go_at_call 6; (with_reducible refine (cK1 _).mono ?_); rintro e w' ⟨rfl, rfl⟩))
    go_ret
    exact ⟨by simp, HB3.out.1⟩

end Go.Proofs.YtgpopopgmmfnmabDoor
