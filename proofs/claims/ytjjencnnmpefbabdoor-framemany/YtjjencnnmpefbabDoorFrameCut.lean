/- What Cut comes to at frames, one behind the other, and what stands behind them. -/
import Derived.Test.YtjjencnnmpefbabDoorFrameOpen
import Derived.Test.YtjjencnnmpefbabDoorRowsStep
namespace Go.Proofs.YtjjencnnmpefbabDoor
open Go.ChangeShapes Go.WideShapes Go.ChangeAt Go.RowKit

/-- frames, one behind the other -/
def framesOf (bs : List (List Int)) : List Int := (bs.map frameOf).flatten

theorem framesOf_append (xs ys : List (List Int)) : framesOf (xs ++ ys) = framesOf xs ++ framesOf ys := by simp [framesOf]

theorem framesOf_one (x : List Int) : framesOf [x] = frameOf x := by simp [framesOf]

theorem framesOf_cons (x : List Int) (xs : List (List Int)) : framesOf (x :: xs) = frameOf x ++ framesOf xs := by simp [framesOf]

theorem take_succ_getD (bs : List (List Int)) (k : Nat) (hk : k < bs.length) : bs.take (k + 1) = bs.take k ++ [bs.getD k []] := by
  rw [List.take_succ_eq_append_getElem hk]
  simp [List.getD, hk]

theorem framesOf_succ (bs : List (List Int)) (k : Nat) (hk : k < bs.length) : (framesOf (bs.take (k + 1))).length = (framesOf (bs.take k)).length + ((bs.getD k []).length + 8) := by
  rw [take_succ_getD bs k hk, framesOf_append, framesOf_one, List.length_append, frameOf_length]

theorem frames_drop (bs : List (List Int)) (tail : List Int) (k : Nat) (hk : k < bs.length) : (framesOf bs ++ tail).drop (framesOf (bs.take k)).length = frameOf (bs.getD k []) ++ (framesOf (bs.drop (k + 1)) ++ tail) := by
  have e : framesOf bs = framesOf (bs.take k) ++ (frameOf (bs.getD k []) ++ framesOf (bs.drop (k + 1))) := by
    conv => lhs; rw [← List.take_append_drop (k + 1) bs]
    rw [take_succ_getD bs k hk, framesOf_append, framesOf_append, framesOf_one, List.append_assoc]
  rw [e, List.append_assoc, List.drop_left, List.append_assoc]

theorem frames_le (bs : List (List Int)) (tail : List Int) (k : Nat) (hk : k < bs.length) : (framesOf (bs.take k)).length + 8 ≤ (framesOf bs ++ tail).length := by
  have h := congrArg List.length (frames_drop bs tail k hk)
  simp only [List.length_drop, List.length_append, frameOf_length] at h ⊢
  omega

set_option maxHeartbeats 2000000 in
theorem Cut_any (ao : Option Addr) (cap : Nat) (bs : List (List Int)) (tail : List Int) (er : Int) (hm : bs.length ≤ 100) (hbl : ∀ x ∈ bs, x.length ≤ 4000)
    (htail : (tail = [] ∧ er = 0) ∨ (tail ≠ [] ∧ openErr tail = er ∧ er ≠ 0)) (w : World) (tab : Fours w) (he : Octs w ao cap (framesOf bs ++ tail)) :
    Calls Tryd.prog 9 #[.slice ao (framesOf bs ++ tail).length cap] w fun e w' => ∃ ao' cap', e = .returned (.tuple #[.slice ao' bs.length cap', .int .i64 (framesOf bs).length, .int .i64 er]) ∧ Rws w' ao' cap' bs ∧ Below w.heap.size w w' := by
  have hl := he.2.1
  have hcap := he.1
  have HE : Hid (Octs w ao cap (framesOf bs ++ tail)) := he
  have HBL : Hid (∀ x ∈ bs, x.length ≤ 4000) := hbl
  have HTL : Hid ((tail = [] ∧ er = 0) ∨ (tail ≠ [] ∧ openErr tail = er ∧ er ≠ 0)) := htail
  clear he hbl htail
  obtain ⟨n, hn⟩ : ∃ n, n = (framesOf bs ++ tail).length := ⟨_, rfl⟩
  rw [← hn] at hl hcap
  rw [← hn]
  have HN : Hid (n = (framesOf bs ++ tail).length) := hn
  clear hn
  obtain ⟨m, hm1⟩ : ∃ m, m = bs.length := ⟨_, rfl⟩
  rw [← hm1] at hm
  rw [← hm1]
  have HM : Hid (m = bs.length) := hm1
  clear hm1
  obtain ⟨tot, htot⟩ : ∃ t, t = (framesOf bs).length := ⟨_, rfl⟩
  rw [← htot]
  have HT : Hid (tot = (framesOf bs).length) := htot
  clear htot
  obtain ⟨i1, hi1, hy0, hy1, hy2⟩ := info_parts Tryd.infoRow
  go_enter Tryd.func9, Tryd.ntmps9
  go_wp2
  go_loopw [5, 6] (fun v i wr => ∃ (k at_ c : Nat) (a : Option Addr) (us : List Value), k ≤ m ∧ at_ ≤ n ∧ v = .slice a k c ∧ i = .int .i64 at_ ∧
      Hid (at_ = (framesOf (bs.take k)).length ∧ wr.ownsRow w.heap.size 22 1 (.slice a k c) k us ∧ All2 (IsBody wr (fun g => Value.ownBlock (.slice a k c) ≠ some g)) us (bs.take k) ∧ Below w.heap.size w wr))
    (fun _ i _ => n - (intOf i).toNat)
  case atStart => exact ⟨0, 0, 0, none, [], Nat.zero_le _, Nat.zero_le _, rfl, rfl, by simp [framesOf], World.ownsRow_nil _ _ _ _, trivial, Below.refl _ _⟩
  case round =>
    obtain ⟨k, at_, c, a, us, hk, hat_, rfl, rfl, HR⟩ := hrel
    by_cases hlt : k < m
    · have hx : k < bs.length := by rw [← HM.out]; exact hlt
      have hle := frames_le bs tail k hx
      rw [← HR.out.1, ← HN.out] at hle
      have hdr := frames_drop bs tail k hx
      rw [← HR.out.1] at hdr
      obtain ⟨b, off, rfl, -⟩ := HE.out.at (k := 0) (by rw [← HN.out]; omega)
      have hxl : (bs.getD k []).length ≤ 4000 := HBL.out _ (by simp only [List.getD, List.getElem?_eq_getElem hx, Option.getD_some]; exact List.getElem_mem hx)
      have HO : Calls Tryd.prog 5 #[.slice (some ⟨b, off + at_, none⟩) (n - at_) (cap - at_)] wr fun e w' => ∃ ao' cap', e = .returned (.tuple #[.slice ao' (bs.getD k []).length cap', .int .i64 ((bs.getD k []).length + 8 : Nat), .int .i64 0]) ∧ Octs w' ao' cap' (bs.getD k []) ∧ (∀ a, ao' = some a → wr.heap.size ≤ a.block) ∧ Below wr.heap.size wr w' := by
        have := Open_new _ (cap - at_) _ wr (tab.later HR.out.2.2.2) ((HE.out.later HR.out.2.2.2).drop (k := at_) (by rw [← HN.out]; omega))
        obtain ⟨q1, q2, q3⟩ := open_frame (bs.getD k []) (framesOf (bs.drop (k + 1)) ++ tail) hxl
        rw [List.length_drop, ← HN.out, hdr, q1, q2, q3] at this
        exact this
      have HS : Hid (at_ + ((bs.getD k []).length + 8) = (framesOf (bs.take (k + 1))).length ∧ bs.take (k + 1) = bs.take k ++ [bs.getD k []]) := ⟨by rw [framesOf_succ bs k hx, ← HR.out.1], take_succ_getD bs k hx⟩
      have hs2 : at_ + ((bs.getD k []).length + 8) ≤ n := by
        have := congrArg List.length hdr
        rw [List.length_drop, ← HN.out, List.length_append, frameOf_length] at this
        omega
      clear hdr
      obtain ⟨xs, hxs⟩ : ∃ xs, xs = bs.getD k [] := ⟨_, rfl⟩
      rw [← hxs] at HO HS hs2 hxl
      obtain ⟨nx, hnx⟩ : ∃ nx, nx = xs.length := ⟨_, rfl⟩
      rw [← hnx] at HO HS hs2 hxl
      have HNX : Hid (nx = xs.length) := hnx
      clear hnx hxs hx
      have hne : ¬ cap = at_ := by omega
      have h100 : ((k : Int) == 100) = false := by
        simp only [beq_eq_false_iff_ne, ne_eq]
        omega
      go_wp2_with (first
        | (go_at_call 5; (with_reducible refine HO.mono ?_); rintro e w1 ⟨a1, c1, rfl, o1, hnew, b1⟩)
        | (at_builtin; refine wpList_append_own_at _ rfl (.tmp 32) (.tmp 34) 31 rfl w.heap.size 22 i1 (.slice none 0 0) 1 24 Tryd.underlying31 hi1 hy0 hy1 hy2 rfl (by decide) _ _ _ rfl ((own_stays HR.out.2.1 b1).alloc _) ⟨w1.heap.size, 0, none⟩ 1 1 [.slice a1 nx c1] rfl rfl (cell_one_new _ _ _) (slice_oneCell _ _ _) (by unfold maxLen; omega) (by omega) (by have := HR.out.2.2.2.size; have := b1.size; rw [alloc_size]; omega) ?_; intro v' w2 hown' hg' _ hat'))
      obtain ⟨g, c2, rfl⟩ := own_form hown' (by omega)
      have hst := rows_step HR.out.2.1 HR.out.2.2.1 HR.out.2.2.2 HR.out.2.2.2.size b1 o1 hnew (by rw [← HNX.out]; exact hg') (by rw [← HNX.out]; exact hat')
      go_wp2
      go_roundw
      case rel => exact ⟨k + 1, at_ + (nx + 8), c2, some ⟨g, 0, none⟩, _, by omega, hs2, rfl, by go_num, HS.out.1, hown', by rw [HS.out.2, HNX.out]; exact hst.1, hst.2⟩
      case measure => simp [intOf]; omega
    · have hkm : k = m := by omega
      have hall : bs.take k = bs := by rw [hkm, HM.out]; exact List.take_length
      have hto : at_ = tot := by rw [HR.out.1, hall, HT.out]
      have hown := HR.out.2.1
      have hbod := HR.out.2.2.1
      rw [hall] at hbod
      obtain ⟨a9, c9, e9, o9⟩ := own_rows (xss := bs) (by rw [hkm]; exact HM.out) (by rw [← HM.out]; omega) hown hbod
      rw [← HM.out, hkm] at e9
      have hnt : n = tot + tail.length := by rw [HN.out, List.length_append, ← HT.out]
      have HR9 : Hid (Rws wr a9 c9 bs) := o9
      have HB9 : Hid (Below w.heap.size w wr) := HR.out.2.2.2
      simp only [Value.slice.injEq] at e9
      obtain ⟨rfl, -, rfl⟩ := e9
      rcases HTL.out with ⟨h1, h2⟩ | ⟨h1, h2, h3⟩
      · have hnn : n = at_ := by rw [hnt, h1, hto]; rfl
        clear hall hown hbod hnt HTL HR o9 h1
        subst h2 hkm hto hnn
        go_wp2
        go_ret3
        exact ⟨_, _, rfl, HR9.out, HB9.out⟩
      · have htp : 0 < tail.length := List.length_pos_iff.2 h1
        have hlt2 : at_ < n := by omega
        obtain ⟨b, off, rfl, -⟩ := HE.out.at (k := 0) (by rw [← HN.out]; omega)
        have HO : Calls Tryd.prog 5 #[.slice (some ⟨b, off + at_, none⟩) (n - at_) (cap - at_)] wr fun e w' => ∃ ao' cap', e = .returned (.tuple #[.slice ao' 0 cap', .int .i64 0, .int .i64 er]) ∧ Below wr.heap.size wr w' := by
          have := Open_any _ (cap - at_) _ wr (tab.later HB9.out) ((HE.out.later HB9.out).drop (k := at_) (by rw [← HN.out]; omega))
          obtain ⟨q2, q3⟩ := open_bad (xs := tail) (by rw [h2]; exact h3)
          rw [List.length_drop, ← HN.out, List.drop_left' (by rw [hto, HT.out]), q2, q3, h2] at this
          exact this.mono fun _ _ ⟨x, y, z1, _, z3⟩ => ⟨x, y, z1, z3⟩
        have hcb : (er == 0) = false := by simpa using h3
        have hne : ¬ cap = at_ := by omega
        clear hall hown hbod hnt HTL HR o9 h1 h2 h3 htp
        subst hkm hto
        go_wp2_with (go_at_call 5; (with_reducible refine HO.mono ?_); rintro e w1 ⟨a1, c1, rfl, b1⟩)
        go_ret3
        exact ⟨_, _, rfl, HR9.out.later b1, HB9.out.trans (b1.mono HB9.out.size)⟩

end Go.Proofs.YtjjencnnmpefbabDoor
