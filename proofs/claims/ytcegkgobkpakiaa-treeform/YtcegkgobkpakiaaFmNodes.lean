/- Nodes: the deeds played, and what listed tells of one version. -/
import Derived.Test.YtcegkgobkpakiaaTrRun
namespace Go.Proofs.Ytcegkgobkpakiaa
open Go.ChangeShapes Go.WideShapes Go.ChangeAt Go.RowKit

/-- all that is left of a version: the root of a tree that holds it, somewhere in memory -/
def RootIs (W : World) (l : List Ent) (u v : Value) : Prop := ∃ (h : Nat) (t : Tr h), (kNd h).rel (fun _ => True) W t [u, v] ∧ Wd h t ∧ flat h t = l

set_option maxRecDepth 10000 in
set_option maxHeartbeats 8000000 in
theorem Nodes_any (ok : Nat → Prop) (ds : List Dd) (hds : ds.length ≤ 400) (hkd : ∀ d ∈ ds, d.kind = 1 ∨ d.kind = 2) (ver : Nat) (hver : ver < (playK [[]] ds).2.length) (LP : Option Addr → Nat → Nat → World → Prop) (da : Option Addr) (dc : Nat) (w : World) (hL : Lies kDd ok w da dc ds)
    (hlist : ∀ (W : World) (a : Option Addr) (n c : Nat) (b : Option Addr) (m d : Nat), Below w.heap.size w W → RootIs W ((playK [[]] ds).2.getD ver []) (.slice a n c) (.slice b m d) → Calls Try.prog 15 #[.agg #[.slice a n c, .slice b m d]] W fun e w' => ∃ (a' : Option Addr) (n' c' : Nat), e = .returned (.slice a' n' c') ∧ Hid (LP a' n' c' w')) :
    Calls Try.prog 8 #[.slice da ds.length dc, .int .i64 ver] w fun e w' => ∃ (a : Option Addr) (n c : Nat), e = .returned (.tuple #[.slice a n c, .int .i64 0]) ∧ LP a n c w' := by
  obtain ⟨n, hn⟩ : ∃ n, n = ds.length := ⟨_, rfl⟩
  rw [← hn]
  have hn4 : (n : Int) ≤ 400 := by omega
  have HL := put_by hL
  have HN := put_by hn
  have HKD := put_by (And.intro hkd hver)
  have cLi := put_by hlist
  have H0 := put_by (playI_new w 54)
  clear hL hn hds hkd hver hlist
  go_enter Try.func8, Try.ntmps8
  go_wp2
  generalize (w.alloc (.cells #[.slice none 0 0, .slice none 0 0] 53)).alloc (.cells #[.slice (some ⟨w.heap.size, 0, none⟩) 1 1] 54) = W0 at H0 ⊢
  go_loopw [16] (fun i wr => ∃ k : Nat, k ≤ n ∧ i = .int .i64 k ∧ Hid (∃ v, PlayI w (w.heap.size + 1) (playK [[]] (ds.take k)).2 [] (.slice none 0 0) v wr)) (fun i _ => n - (intOf i).toNat)
  case atStart => exact ⟨0, Nat.zero_le _, rfl, _, H0.out⟩
  case round =>
    obtain ⟨k, hk, rfl, HR⟩ := hrel
    by_cases hlt : k < n
    · have hx : k < ds.length := by rw [← HN.out]; exact hlt
      obtain ⟨b4, off, rfl, hb4, _, cs, ⟨u, v, rfl, hu, hv⟩, hc⟩ := HL.out.at hx
      obtain ⟨ka, kc, rfl, -, -⟩ := id hu
      obtain ⟨ea, ec, rfl, -, -⟩ := id hv
      obtain ⟨vv, hI⟩ := HR.out
      obtain ⟨va, vc, rfl⟩ := rows_form hI.box.rows
      have hcell : ∀ j x, [Value.int .i64 (ds[k]).kind, .int .i64 (ds[k]).ver, .slice ka (ds[k]).key.length kc, .slice ea (ds[k]).val.length ec, .int .i64 (ds[k]).lim][j]? = some x → wr.cell? ⟨b4, off + k * 5 + j, none⟩ = some x := fun j x hj => (hI.below.cell (p := ⟨b4, off + k * 5 + j, none⟩) hb4).trans (hc j x hj)
      have d0 := hcell 0 _ rfl
      have d1 := hcell 1 _ rfl
      have d2 := hcell 2 _ rfl
      have d3 := hcell 3 _ rfl
      have d4 := hcell 4 _ rfl
      simp only [Nat.add_zero] at d0
      have hsn : ds.take (k + 1) = ds.take k ++ [ds[k]] := List.take_succ_eq_append_getElem hx
      have htl : (ds.take k).length = k := by rw [List.length_take]; omega
      have hbd : Below wr.heap.size wr (wr.alloc (.cells #[.int .i64 (ds[k]).kind, .int .i64 (ds[k]).ver, .slice ka (ds[k]).key.length kc, .slice ea (ds[k]).val.length ec, .int .i64 (ds[k]).lim] 45)) := (Below.refl _ wr).alloc (Nat.le_refl _) _
      have hI1 := hI.later hbd
      have hkk : (ds[k]).kind = 1 ∨ (ds[k]).kind = 2 := HKD.out.1 _ (List.getElem_mem hx)
      have cP : Hid (Calls Try.prog 13 #[.pointer (some ⟨w.heap.size + 1, 0, none⟩), .agg #[.int .i64 (ds[k]).kind, .int .i64 (ds[k]).ver, .slice ka (ds[k]).key.length kc, .slice ea (ds[k]).val.length ec, .int .i64 (ds[k]).lim]] (wr.alloc (.cells #[.int .i64 (ds[k]).kind, .int .i64 (ds[k]).ver, .slice ka (ds[k]).key.length kc, .slice ea (ds[k]).val.length ec, .int .i64 (ds[k]).lim] 45)) fun e w2 => ∃ (p q : Int) (a' : Option Addr) (n' c' : Nat) (b' : Option Addr) (m' d' : Nat), e = .returned (.agg #[.int .i64 p, .int .i64 q, .slice a' n' c', .slice b' m' d']) ∧ Hid (∃ v', PlayI w (w.heap.size + 1) (playK [[]] (ds.take (k + 1))).2 [] (.slice none 0 0) v' w2)) := by
        have hvl : ∀ g, (Value.slice va (playK [[]] (ds.take k)).2.length vc).ownBlock = some g → w.heap.size ≤ g := fun g e => (rows_lt hI.box.rows g e).1
        have hokd : ∀ b, b < w.heap.size → ok b → ((b ≠ w.heap.size + 1 ∧ (Value.slice none 0 0).ownBlock ≠ some b) ∧ (Value.slice va (playK [[]] (ds.take k)).2.length vc).ownBlock ≠ some b) := fun b hb _ => ⟨⟨by omega, fun e => by cases e⟩, fun e => by have := hvl b e; omega⟩
        have hfr1 : Fresh (fun b => b ≠ w.heap.size + 1 ∧ (Value.slice none 0 0).ownBlock ≠ some b) (wr.alloc (.cells #[.int .i64 (ds[k]).kind, .int .i64 (ds[k]).ver, .slice ka (ds[k]).key.length kc, .slice ea (ds[k]).val.length ec, .int .i64 (ds[k]).lim] 45)) := fun b hb => by
          have h1 : w.heap.size + 1 < wr.heap.size := World.block_lt_of_cell? _ _ hI.box.cell
          have h2 := hbd.size
          exact ⟨by omega, fun e => by cases e⟩
        have hm1 := playK_many (ds.take k) [[]]
        rw [htl] at hm1
        simp only [List.length_cons, List.length_nil] at hm1
        have hm2 : ∀ l ∈ (playK [[]] (ds.take k)).2, l.length ≤ 90000 := fun l hl => by
          have := playK_few (ds.take k) (vs := [[]]) (n := 0) (by simp) l hl
          rw [htl] at this
          omega
        refine (play_any _ _ ds[k] ka ea kc ec _ w.heap.size va vc _ hI1.box hfr1 (by omega) hm2 (hu.move (Kept.of_below hI1.below) hokd) (hv.move (Kept.of_below hI1.below) hokd)).mono ?_
        intro e w2 hs
        obtain ⟨v', a', n', c', b', m', d', rfl, r1, -⟩ := hI1.step hs
        refine ⟨_, _, a', n', c', b', m', d', rfl, v', ?_⟩
        rw [hsn, playK_snoc]
        exact r1
      clear hcell hc hu hv hI1 hbd hsn htl hI
      generalize (ds[k]).kind = i1 at d0 cP hkk
      generalize (ds[k]).ver = i2 at d1 cP
      generalize (ds[k]).key.length = i3 at d2 cP
      generalize (ds[k]).val.length = i4 at d3 cP
      generalize (ds[k]).lim = i5 at d4 cP
      have ik : (k : Int) < (n : Int) := by omega
      rcases hkk with rfl | rfl
      all_goals
        go_wp2_with (first
          | (go_at_call 13; refine cP.out.mono ?_; clear cP; rintro e w2 ⟨p, q, a', n', c', b', m', d', rfl, H2⟩))
        go_roundw
        case rel => exact ⟨k + 1, by omega, by go_num, H2.out⟩
        case measure => simp [intOf]; omega
    · have hkm : k = n := by omega
      subst hkm
      obtain ⟨vv, hI⟩ := HR.out
      rw [List.take_of_length_le (by rw [← HN.out]; exact Nat.le_refl _)] at hI
      obtain ⟨g, cap, p, q, ev, hcap, hrel, hp, hq, hg⟩ := rows_at hI.box.rows HKD.out.2
      subst ev
      have hcellv := hI.box.cell
      have hRoot : Hid (∃ (a : Option Addr) (n c : Nat) (b : Option Addr) (m d : Nat), p = .slice a n c ∧ q = .slice b m d ∧ Hid (RootIs wr ((playK [[]] ds).2.getD ver []) (.slice a n c) (.slice b m d))) := by
        obtain ⟨h, t, hr, hd, hfl⟩ := hrel
        obtain ⟨a, n, c, b, m, d, e⟩ := nd_form hr
        simp only [List.cons.injEq, and_true] at e
        obtain ⟨rfl, rfl⟩ := e
        refine ⟨a, n, c, b, m, d, rfl, rfl, h, t, (kNd h).move (Kept.of_below (Below.refl _ _)) (fun _ _ _ => trivial) hr, hd, ?_⟩
        rw [hfl]
        simp [List.getD, List.getElem?_eq_getElem HKD.out.2]
      obtain ⟨a, n1, c, b, m, d, rfl, rfl, HRT⟩ := hRoot.out
      have HB := put_by hI.below
      have cH : Hid (∀ W : World, Calls Try.prog 14 #[.slice (some ⟨g, 0, none⟩) (playK [[]] ds).2.length cap, .int .i64 ver] W fun e w' => e = .returned (.bool true) ∧ w' = W) := fun W => by
        have e : decide ((0 : Int) ≤ ver ∧ (ver : Int) < ((playK [[]] ds).2.length : Int)) = true := decide_eq_true (by have := HKD.out.2; omega)
        have := has_any (some ⟨g, 0, none⟩) (playK [[]] ds).2.length cap ver W
        rw [e] at this
        exact this
      have iv : (ver : Int) < ((playK [[]] ds).2.length : Int) := by have := HKD.out.2; omega
      have hcc : (playK [[]] ds).2.length ≤ cap := hcap
      have cN := put_by (cLi.out _ _ _ _ _ _ _ HB.out HRT.out)
      clear hI hrel hRoot HR HL H0 HKD cLi hcap HRT
      generalize (playK [[]] ds).2.length = vl at *
      go_wp2_with (first
        | (go_at_call 14; (with_reducible refine (cH.out _).mono ?_); rintro e w2 ⟨rfl, rfl⟩)
        | (go_at_call 15; (with_reducible refine cN.out.mono ?_); clear cN; rintro e w3 ⟨a', n', c', rfl, H3⟩))
      exact bodyPost_ret (v := .tuple #[.slice a' n' c', .int .i64 0]) (by simp [results, Try.results8, go_sem]) rfl ⟨a', n', c', rfl, H3.out⟩

end Go.Proofs.Ytcegkgobkpakiaa
