/- What FrameMany comes to at every list of slices of bytes, every slice of bytes and every whole number. -/
import Derived.Test.YtjjencnnmpefbabDoorFrameSeal
import Derived.Test.YtjjencnnmpefbabDoorFrameCut
import Derived.Test.YtjjencnnmpefbabDoorManyStep
import Derived.Test.YtjjencnnmpefbabDoorSameRows
import Derived.Test.YtjjencnnmpefbabDoorOctetsKeep
import Derived.Test.YtjjencnnmpefbabDoorPicked
namespace Go.Proofs.YtjjencnnmpefbabDoor
open Go.ChangeShapes Go.WideShapes Go.ChangeAt Go.RowKit

theorem framesOf_le (bs : List (List Int)) (h : ∀ x ∈ bs, x.length ≤ 200) : (framesOf bs).length ≤ 208 * bs.length := by
  induction bs with
  | nil => simp [framesOf]
  | cons x xs ih =>
    rw [framesOf_cons, List.length_append, frameOf_length, List.length_cons]
    have h1 := h x (by simp)
    have h2 := ih (fun y hy => h y (by simp [hy]))
    omega

theorem framesOf_byte (bs : List (List Int)) (h : ∀ x ∈ bs, ∀ y ∈ x, 0 ≤ y ∧ y ≤ 255) : ∀ y ∈ framesOf bs, 0 ≤ y ∧ y ≤ 255 := by
  intro y hy
  simp only [framesOf, List.mem_flatten, List.mem_map] at hy
  obtain ⟨l, ⟨x, hx, rfl⟩, hl⟩ := hy
  exact frameOf_byte (h x hx) y hl

/-- the first twenty, of each the first two hundred -/
def bodiesOf (xss : List (List Int)) : List (List Int) := (xss.take 20).map (fun x => x.take 200)

theorem bodiesOf_length (xss : List (List Int)) : (bodiesOf xss).length = min 20 xss.length := by simp [bodiesOf]

theorem bodiesOf_getD (xss : List (List Int)) (k : Nat) (hk : k < (bodiesOf xss).length) : (bodiesOf xss).getD k [] = (xss.getD k []).take 200 := by
  rw [bodiesOf_length] at hk
  have h1 : k < 20 := by omega
  have h2 : k < xss.length := by omega
  simp [bodiesOf, List.getD, h1, h2]

theorem bodiesOf_le (xss : List (List Int)) : ∀ x ∈ bodiesOf xss, x.length ≤ 200 := by
  intro x hx
  simp only [bodiesOf, List.mem_map] at hx
  obtain ⟨y, _, rfl⟩ := hx
  simp
  omega

theorem Rws.bytes {w : World} {ao : Option Addr} {cap : Nat} {xss : List (List Int)} (h : Rws w ao cap xss) : ∀ x ∈ xss, ∀ y ∈ x, 0 ≤ y ∧ y ≤ 255 := by
  intro x hx
  obtain ⟨i, hi, rfl⟩ := List.getElem_of_mem hx
  obtain ⟨_, _, _, _, _, _, o⟩ := h.at hi
  have e : xss.getD i [] = xss[i] := by simp [List.getD, hi]
  rw [e] at o
  exact o.2.2.2.1

theorem bodiesOf_byte (xss : List (List Int)) (h : ∀ x ∈ xss, ∀ y ∈ x, 0 ≤ y ∧ y ≤ 255) : ∀ x ∈ bodiesOf xss, ∀ y ∈ x, 0 ≤ y ∧ y ≤ 255 := by
  intro x hx y hy
  simp only [bodiesOf, List.mem_map] at hx
  obtain ⟨z, hz, rfl⟩ := hx
  exact h z (List.mem_of_mem_take hz) y (List.mem_of_mem_take hy)

set_option maxHeartbeats 8000000 in
theorem FrameMany_any (a0 : Option Addr) (cap0 : Nat) (xss : List (List Int)) (a1 : Option Addr) (cap1 : Nat) (ls : List Int) (a2 : Int) (w : World) (tab : Fours w) (h0 : Rws w a0 cap0 xss) (h1 : Octs w a1 cap1 ls) :
    Calls Tryd.prog 4 #[.slice a0 xss.length cap0, .slice a1 ls.length cap1, .int .i64 a2] w fun e w' => e = .returned (.bool true) ∧ Below w.heap.size w w' := by
  obtain ⟨bs, hbs⟩ : ∃ bs, bs = bodiesOf xss := ⟨_, rfl⟩
  have hl0 := h0.2.1
  have hbl : bs.length = min 20 xss.length := by rw [hbs]; exact bodiesOf_length xss
  have HBG : Hid (∀ k, k < bs.length → bs.getD k [] = (xss.getD k []).take 200) := by rw [hbs]; exact fun k hk => bodiesOf_getD xss k hk
  have HB2 : Hid (∀ x ∈ bs, x.length ≤ 200) := by rw [hbs]; exact bodiesOf_le xss
  have HBB : Hid (∀ x ∈ bs, ∀ y ∈ x, 0 ≤ y ∧ y ≤ 255) := by rw [hbs]; exact bodiesOf_byte xss h0.bytes
  have HE0 : Hid (Rws w a0 cap0 xss) := h0
  have HE1 : Hid (Octs w a1 cap1 ls) := h1
  have HO1 : ∀ v1, Octs v1 a1 cap1 ls → Calls Tryd.prog 6 #[.slice a1 ls.length cap1, .int .i64 200] v1 fun e w' => ∃ ao' cap', e = .returned (.slice ao' (ls.take 200).length cap') ∧ Octs w' ao' cap' (ls.take 200) ∧ Below v1.heap.size v1 w' := fun v1 h => Octets_any a1 cap1 ls 200 (by omega) v1 h
  have hll : (ls.take 200).length ≤ 200 := by simp; omega
  have hlb : ∀ y ∈ ls.take 200, 0 ≤ y ∧ y ≤ 255 := fun y hy => h1.2.2.2.1 y (List.mem_of_mem_take hy)
  clear h0 h1 hbs
  -- the frame that is torn
  obtain ⟨ps, hps⟩ : ∃ ps, ps = ls.take 200 := ⟨_, rfl⟩
  rw [← hps] at HO1 hll hlb
  clear hps
  obtain ⟨fs, hfs⟩ : ∃ fs, fs = frameOf ps := ⟨_, rfl⟩
  have hfl : fs.length = ps.length + 8 := by rw [hfs]; exact frameOf_length ps
  have hfb : ∀ y ∈ fs, 0 ≤ y ∧ y ≤ 255 := by rw [hfs]; exact frameOf_byte hlb
  have HX : ∀ a cap v1, Fours v1 → Octs v1 a cap ps → Calls Tryd.prog 7 #[.slice a ps.length cap] v1 fun e w' => ∃ ao' cap', e = .returned (.tuple #[.slice ao' (ps.length + 8) cap', .int .i64 0]) ∧ Octs w' ao' cap' fs ∧ Below v1.heap.size v1 w' := by
    intro a cap v1 t h
    have := Seal_any a cap ps v1 t h
    rw [show sealVal ps = fs by rw [hfs]; exact if_neg (by omega), show sealErr ps = 0 from if_neg (by omega), hfl] at this
    exact this
  obtain ⟨j, hj⟩ : ∃ j : Nat, (j : Int) = a2 % ((ps.length + 7 : Nat) : Int) := ⟨(a2 % ((ps.length + 7 : Nat) : Int)).toNat, Int.toNat_of_nonneg (Int.emod_nonneg _ (by omega))⟩
  have hjl : j < ps.length + 7 := by
    have := Int.emod_lt_of_pos a2 (b := ((ps.length + 7 : Nat) : Int)) (by omega)
    omega
  have HK : ∀ v1, Calls Tryd.prog 11 #[.int .i64 a2, .int .i64 ((ps.length : Int) + 8 - 1)] v1 fun e w' => e = .returned (.int .i64 (j : Int)) ∧ v1 = w' := by
    intro v1
    have := Picked_any a2 ((ps.length + 7 : Nat) : Int) (by omega) (by omega) v1
    rw [← hj] at this
    rw [show (ps.length : Int) + 8 - 1 = ((ps.length + 7 : Nat) : Int) by omega]
    exact this
  obtain ⟨ts, hts⟩ : ∃ ts, ts = fs.take (1 + j) := ⟨_, rfl⟩
  have htl : ts.length = 1 + j := by rw [hts, List.length_take, hfl]; omega
  have HTB : Hid (∀ y ∈ ts, 0 ≤ y ∧ y ≤ 255) := fun y hy => hfb y (by rw [hts] at hy; exact List.mem_of_mem_take hy)
  have HTK : Hid (∀ a cap v1, Octs v1 a cap fs → Octs v1 a cap ts ∧ ps.length + 8 ≤ cap) := by
    intro a cap v1 h
    rw [hts]
    refine ⟨h.take _, ?_⟩
    rw [← hfl]
    exact h.1
  have hte : openErr ts = 5 := by
    have := (open_cut ps (by omega) (1 + j) (by omega)).1
    rwa [← hfs, ← hts] at this
  have htn : ts ≠ [] := fun e => by rw [e] at htl; simp at htl; omega
  -- what Cut makes of the frames, and of the frames and a torn one
  have hb4 : ∀ x ∈ bs, x.length ≤ 4000 := fun x hx => by have := HB2.out x hx; omega
  have HC1 : ∀ a cap v1, Fours v1 → Octs v1 a cap (framesOf bs) → Calls Tryd.prog 9 #[.slice a (framesOf bs).length cap] v1 fun e w' => ∃ ao' cap', e = .returned (.tuple #[.slice ao' bs.length cap', .int .i64 (framesOf bs).length, .int .i64 0]) ∧ Rws w' ao' cap' bs ∧ Below v1.heap.size v1 w' := by
    intro a cap v1 t h
    have := Cut_any a cap bs [] 0 (by omega) hb4 (.inl ⟨rfl, rfl⟩) v1 t (by rw [List.append_nil]; exact h)
    rwa [List.append_nil] at this
  have HC2 : ∀ a cap v1, Fours v1 → Octs v1 a cap (framesOf bs ++ ts) → Calls Tryd.prog 9 #[.slice a ((framesOf bs).length + (1 + j)) cap] v1 fun e w' => ∃ ao' cap', e = .returned (.tuple #[.slice ao' bs.length cap', .int .i64 (framesOf bs).length, .int .i64 5]) ∧ Rws w' ao' cap' bs ∧ Below v1.heap.size v1 w' := by
    intro a cap v1 t h
    have := Cut_any a cap bs ts 5 (by omega) hb4 (.inr ⟨htn, hte, by omega⟩) v1 t h
    rwa [List.length_append, htl] at this
  have HS : ∀ a a' d d' v1, Rws v1 a d bs → Rws v1 a' d' bs → Calls Tryd.prog 10 #[.slice a bs.length d, .slice a' bs.length d'] v1 fun e w' => e = .returned (.bool true) ∧ Below v1.heap.size v1 w' := fun a a' d d' v1 h h' => sameLists_same a a' d d' bs v1 h h'
  have hfle := framesOf_le bs HB2.out
  have HFB : Hid (∀ y ∈ framesOf bs, 0 ≤ y ∧ y ≤ 255) := framesOf_byte bs HBB.out
  -- lengths by names
  obtain ⟨np, hnp⟩ : ∃ n, n = ps.length := ⟨_, rfl⟩
  rw [← hnp] at HO1 HX HK HTK hll hjl
  obtain ⟨n0, hn0⟩ : ∃ n, n = xss.length := ⟨_, rfl⟩
  rw [← hn0] at hl0 hbl
  rw [← hn0]
  have HN0 : Hid (n0 = xss.length) := hn0
  obtain ⟨n1, hn1⟩ : ∃ n, n = ls.length := ⟨_, rfl⟩
  rw [← hn1] at HO1
  rw [← hn1]
  obtain ⟨m, hm⟩ : ∃ m, m = bs.length := ⟨_, rfl⟩
  rw [← hm] at HC1 HC2 HS hfle hbl HBG
  have HM : Hid (m = bs.length) := hm
  obtain ⟨tot, htot⟩ : ∃ t, t = (framesOf bs).length := ⟨_, rfl⟩
  rw [← htot] at HC1 HC2 hfle
  have HT : Hid (tot = (framesOf bs).length) := htot
  have HTL : Hid (1 + j = ts.length) := htl.symm
  have hm20 : m ≤ 20 := by omega
  have hmn : m ≤ n0 := by omega
  have hmx : m < n0 → ¬ m < 20 := by omega
  have HMX : Hid (m < n0 → ¬ m < 20) := hmx
  clear hbl hmx hnp hn0 hn1 hm htot hfs hfl hfb hlb hts htl hte htn hb4 hj
  obtain ⟨i1, hi1, hy0, hy1, hy2⟩ := info_parts Tryd.infoRow
  go_enter Tryd.func4, Tryd.ntmps4
  go_wp2
  go_loopw [7, 8, 9] (fun u v i wr => ∃ (k nv uc vc : Nat) (ua va : Option Addr) (us : List Value), k ≤ m ∧ nv ≤ 208 * k ∧ u = .slice ua k uc ∧ v = .slice va nv vc ∧ i = .int .i64 k ∧
      Hid (nv = (framesOf (bs.take k)).length ∧ wr.ownsRow w.heap.size 22 1 (.slice ua k uc) k us ∧ wr.ownsRow w.heap.size 5 1 (.slice va nv vc) nv ((framesOf (bs.take k)).map (Value.int .u8)) ∧
        Aparted (.slice ua k uc) (.slice va nv vc) ∧ All2 (IsBody wr (Off (.slice ua k uc) (.slice va nv vc))) us (bs.take k) ∧ Below w.heap.size w wr))
    (fun _ _ i _ => 20 - (intOf i).toNat)
  case atStart => exact ⟨0, 0, 0, 0, none, none, [], Nat.zero_le _, Nat.zero_le _, rfl, rfl, rfl, by simp [framesOf], World.ownsRow_nil _ _ _ _, by simpa [framesOf] using World.ownsRow_nil _ _ _ _, .inl rfl, trivial, Below.refl _ _⟩
  case round =>
    obtain ⟨k, nv, uc, vc, ua, va, us, hk, hnv, rfl, rfl, rfl, HR⟩ := hrel
    by_cases hlt : k < m
    · have hk0 : k < n0 := by omega
      have hk20 : k < 20 := by omega
      obtain ⟨b, off, xa, xc, rfl, hcell, ox⟩ := HE0.out.at (k := k) (by rw [← HN0.out]; exact hk0)
      have hcell := (HR.out.2.2.2.2.2.cell (p := ⟨b, off + k, none⟩) (World.block_lt_of_cell? _ _ hcell)).trans hcell
      have hox := ox.2.1
      have HO : Calls Tryd.prog 6 #[.slice xa (xss.getD k []).length xc, .int .i64 200] wr fun e w' => ∃ ao' cap', e = .returned (.slice ao' (bs.getD k []).length cap') ∧ Octs w' ao' cap' (bs.getD k []) ∧ (∀ a, ao' = some a → wr.heap.size ≤ a.block) ∧ Below wr.heap.size wr w' := by
        rw [HBG.out k hlt]
        exact Octets_new xa xc _ 200 (by omega) wr (ox.later HR.out.2.2.2.2.2)
      generalize (xss.getD k []).length = nx at hcell hox HO
      have hkb : k < bs.length := by rw [← HM.out]; exact hlt
      have hxl : (bs.getD k []).length ≤ 200 := HB2.out _ (by simp only [List.getD, List.getElem?_eq_getElem hkb, Option.getD_some]; exact List.getElem_mem hkb)
      have HSL : ∀ a cap v1, Fours v1 → Octs v1 a cap (bs.getD k []) → Calls Tryd.prog 7 #[.slice a (bs.getD k []).length cap] v1 fun e w' => ∃ ao' cap', e = .returned (.tuple #[.slice ao' ((bs.getD k []).length + 8) cap', .int .i64 0]) ∧ Octs w' ao' cap' (frameOf (bs.getD k [])) ∧ (∀ a, ao' = some a → v1.heap.size ≤ a.block) ∧ Below v1.heap.size v1 w' := by
        intro a cap v1 t h
        have := Seal_new a cap _ v1 t h
        rw [show sealVal (bs.getD k []) = frameOf (bs.getD k []) from if_neg (by omega), show sealErr (bs.getD k []) = 0 from if_neg (by omega), frameOf_length] at this
        exact this
      have HST : Hid (nv + ((bs.getD k []).length + 8) = (framesOf (bs.take (k + 1))).length ∧ bs.take (k + 1) = bs.take k ++ [bs.getD k []] ∧ (framesOf (bs.take k)).map (Value.int .u8) ++ (frameOf (bs.getD k [])).map (Value.int .u8) = (framesOf (bs.take (k + 1))).map (Value.int .u8)) := by
        refine ⟨by rw [framesOf_succ bs k hkb, ← HR.out.1], take_succ_getD bs k hkb, ?_⟩
        rw [take_succ_getD bs k hkb, framesOf_append, framesOf_one, List.map_append]
      obtain ⟨xs, hxs⟩ : ∃ xs, xs = bs.getD k [] := ⟨_, rfl⟩
      rw [← hxs] at HO HSL HST hxl
      obtain ⟨bl, hbl2⟩ : ∃ n, n = xs.length := ⟨_, rfl⟩
      rw [← hbl2] at HO HSL HST hxl
      have HXL : Hid (bl = xs.length ∧ bl + 8 = (frameOf xs).length) := ⟨hbl2, by rw [frameOf_length, hbl2]⟩
      clear hxs hbl2 hkb ox
      go_wp2_with (first
        | (go_at_call 6; (with_reducible refine HO.mono ?_); rintro e w1 ⟨x1, d1, rfl, o1, hf1, b1⟩)
        | (go_at_call 7; (with_reducible refine (HSL x1 d1 _ ((tab.later HR.out.2.2.2.2.2).later b1) o1).mono ?_); rintro e w2 ⟨x2, d2, rfl, o2, hf2, b2⟩; have b12 := b1.trans (b2.mono b1.size))
        | (at_builtin; refine wpList_append_own_at _ rfl (.tmp 44) (.tmp 46) 31 rfl w.heap.size 22 i1 (.slice none 0 0) 1 24 Tryd.underlying31 hi1 hy0 hy1 hy2 rfl (by decide) _ _ _ rfl ((own_stays HR.out.2.1 b12).alloc _) ⟨w2.heap.size, 0, none⟩ 1 1 [.slice x1 bl d1] rfl rfl (cell_one_new _ _ _) (slice_oneCell _ _ _) (by unfold maxLen; omega) (by omega) (by have := HR.out.2.2.2.2.2.size; have := b12.size; rw [alloc_size]; omega) ?_; intro u3 w3 hown3 hg3 _ hat3; obtain ⟨g3, c3, e3⟩ := own_form hown3 (by omega); subst e3; obtain ⟨hv3, o3, hap3, hbod3, bb3⟩ := many_mid HR.out.2.2.2.2.2.size HR.out.2.2.2.2.2 HR.out.2.1 HR.out.2.2.1 HR.out.2.2.2.1 HR.out.2.2.2.2.1 b1 o1 hf1 b2 o2 hf2 (by rw [← HXL.out.1]; exact hg3) (by rw [← HXL.out.1]; exact hat3); rw [← HXL.out.1] at hbod3)
        | (at_builtin; refine wpList_append_oct_at rfl (.tmp 48) (.tmp 49) rfl w.heap.size _ _ _ rfl hv3 x2 d2 (bl + 8) (frameOf xs) rfl HXL.out.2 o3 (by omega) bb3.size ?_; intro v4 w4 hown4 hg4 hat4; obtain ⟨a4, c4, e4, -⟩ := own_slice hown4; subst e4; obtain ⟨hu4, hap4, hbod4, bb4⟩ := many_end bb3.size bb3 hown3 hv3 hap3 hbod3 hg4 hat4))
      go_roundw
      case rel =>
        refine ⟨k + 1, nv + (bl + 8), c3, c4, some ⟨g3, 0, none⟩, a4, _, by omega, by omega, rfl, rfl, by go_num, HST.out.1, hu4, ?_, hap4, ?_, bb4⟩
        · rw [← HST.out.2.2]; exact hown4
        · rw [HST.out.2.1]; exact hbod4
      case measure => simp [intOf]; omega
    · have hkm : k = m := by omega
      have hall : bs.take k = bs := by rw [hkm, HM.out]; exact List.take_length
      have hto : nv = tot := by rw [HR.out.1, hall, HT.out]
      have hbod := HR.out.2.2.2.2.1
      have hv9 := HR.out.2.2.1
      rw [hall] at hbod hv9
      obtain ⟨a9, c9, e9, o9⟩ := own_rows (xss := bs) (by rw [hkm]; exact HM.out) (by rw [← HM.out]; omega) HR.out.2.1 hbod
      rw [← HM.out, hkm] at e9
      simp only [Value.slice.injEq] at e9
      obtain ⟨rfl, -, rfl⟩ := e9
      obtain ⟨a8, c8, e8, o8⟩ := own_octs (xs := framesOf bs) (by rw [hto]; exact HT.out) rfl (by rw [← HT.out]; omega) HFB.out hv9
      rw [← HT.out, hto] at e8
      simp only [Value.slice.injEq] at e8
      obtain ⟨rfl, -, rfl⟩ := e8
      have bb := HR.out.2.2.2.2.2
      have HEB := HE1.out.later bb
      have tab := tab.later bb
      clear hall hbod hv9 HR HBG HB2 HBB
      subst hto
      have HEX : Hid (k < n0 → ¬ k < 20) := by rw [hkm]; exact HMX.out
      clear HMX
      subst hkm
      have HALL : Hid (∀ y ∈ framesOf bs ++ ts, 0 ≤ y ∧ y ≤ 255) := by
        intro y hy
        rcases List.mem_append.1 hy with h | h
        · exact HFB.out y h
        · exact HTB.out y h
      by_cases hk0 : k < n0
      · have hk20 : ¬ k < 20 := HEX.out hk0
        go_wp2_with (first
          | (at_builtin; refine wpList_append_oct rfl (.const (.slice none 0 0)) (.tmp 52) rfl wr.heap.size _ _ _ rfl (World.ownsRow_nil _ _ _ _) va vc nv (framesOf bs) rfl HT.out o8 (by omega) (Nat.le_refl _) ?_; intro v3 w3 hown3 hg3; rw [Nat.zero_add, List.nil_append] at hown3; have b3 : Below wr.heap.size wr w3 := (Below.refl _ wr).grown hg3 (Nat.le_refl _) (by intro k hk; cases hk); obtain ⟨a3, c3, e3, o3⟩ := own_octs (xs := framesOf bs) HT.out rfl (by rw [← HT.out]; omega) HFB.out hown3; rw [← HT.out] at e3; subst e3; have tab := tab.later b3)
          | (go_at_call 9; (with_reducible refine (HC1 a3 c3 _ tab o3).mono ?_); rintro e w4 ⟨a4, c4, rfl, o4, b4⟩; have b3 := b3.trans (b4.mono b3.size); have tab := tab.later b4)
          | (go_at_call 10; (with_reducible refine (HS a4 ua c4 uc _ o4 (o9.later b3)).mono ?_); rintro e w5 ⟨rfl, b5⟩; have b3 := b3.trans (b5.mono b3.size); have tab := tab.later b5)
          | (go_at_call 6; (with_reducible refine (HO1 _ (HEB.later b3)).mono ?_); rintro e w6 ⟨a6, c6, rfl, o6, b6⟩; have b3 := b3.trans (b6.mono b3.size); have tab := tab.later b6)
          | (go_at_call 7; (with_reducible refine (HX a6 c6 _ tab o6).mono ?_); rintro e w7 ⟨a7, c7, rfl, o7, b7⟩; have b3 := b3.trans (b7.mono b3.size); have tab := tab.later b7; obtain ⟨o7, hc7⟩ := HTK.out _ _ _ o7)
          | (go_at_call 11; (with_reducible refine (HK _).mono ?_); rintro e w10 ⟨rfl, rfl⟩)
          | (at_builtin; refine wpList_append_oct rfl (.const (.slice none 0 0)) (.tmp 94) rfl w7.heap.size _ _ _ rfl (World.ownsRow_nil _ _ _ _) va vc nv (framesOf bs) rfl HT.out (o8.later b3) (by omega) (Nat.le_refl _) ?_; intro v11 w11 hown11 hg11; rw [Nat.zero_add, List.nil_append] at hown11; have b11 : Below w7.heap.size w7 w11 := (Below.refl _ w7).grown hg11 (Nat.le_refl _) (by intro k hk; cases hk))
          | (at_builtin; refine wpList_append_oct rfl (.tmp 95) (.tmp 96) rfl w7.heap.size _ _ _ rfl hown11 a7 c7 (1 + j) ts rfl HTL.out (o7.later b11) (by omega) b11.size ?_; intro v12 w12 hown12 hg12; have b12 : Below w7.heap.size w7 w12 := b11.grown hg12 b11.size (fun k hk => (hown11.lt k hk).1); have b3 := b3.trans (b12.mono b3.size); have tab := tab.later b12; obtain ⟨a12, c12, e12, o12⟩ := own_octs (xs := framesOf bs ++ ts) (by rw [List.length_append, ← HT.out, ← HTL.out]) (by rw [List.map_append]) (by rw [List.length_append, ← HT.out, ← HTL.out]; omega) HALL.out hown12; rw [List.length_append, ← HT.out, ← HTL.out] at e12; subst e12)
          | (go_at_call 9; (with_reducible refine (HC2 a12 c12 _ tab o12).mono ?_); rintro e w13 ⟨a13, c13, rfl, o13, b13⟩; have b3 := b3.trans (b13.mono b3.size))
          | (go_at_call 10; (with_reducible refine (HS a13 ua c13 uc _ o13 (o9.later b3)).mono ?_); rintro e w14 ⟨rfl, b14⟩; have b3 := b3.trans (b14.mono b3.size)))
        go_ret
        exact ⟨rfl, bb.trans (b3.mono bb.size)⟩
      · go_wp2_with (first
          | (at_builtin; refine wpList_append_oct rfl (.const (.slice none 0 0)) (.tmp 52) rfl wr.heap.size _ _ _ rfl (World.ownsRow_nil _ _ _ _) va vc nv (framesOf bs) rfl HT.out o8 (by omega) (Nat.le_refl _) ?_; intro v3 w3 hown3 hg3; rw [Nat.zero_add, List.nil_append] at hown3; have b3 : Below wr.heap.size wr w3 := (Below.refl _ wr).grown hg3 (Nat.le_refl _) (by intro k hk; cases hk); obtain ⟨a3, c3, e3, o3⟩ := own_octs (xs := framesOf bs) HT.out rfl (by rw [← HT.out]; omega) HFB.out hown3; rw [← HT.out] at e3; subst e3; have tab := tab.later b3)
          | (go_at_call 9; (with_reducible refine (HC1 a3 c3 _ tab o3).mono ?_); rintro e w4 ⟨a4, c4, rfl, o4, b4⟩; have b3 := b3.trans (b4.mono b3.size); have tab := tab.later b4)
          | (go_at_call 10; (with_reducible refine (HS a4 ua c4 uc _ o4 (o9.later b3)).mono ?_); rintro e w5 ⟨rfl, b5⟩; have b3 := b3.trans (b5.mono b3.size); have tab := tab.later b5)
          | (go_at_call 6; (with_reducible refine (HO1 _ (HEB.later b3)).mono ?_); rintro e w6 ⟨a6, c6, rfl, o6, b6⟩; have b3 := b3.trans (b6.mono b3.size); have tab := tab.later b6)
          | (go_at_call 7; (with_reducible refine (HX a6 c6 _ tab o6).mono ?_); rintro e w7 ⟨a7, c7, rfl, o7, b7⟩; have b3 := b3.trans (b7.mono b3.size); have tab := tab.later b7; obtain ⟨o7, hc7⟩ := HTK.out _ _ _ o7)
          | (go_at_call 11; (with_reducible refine (HK _).mono ?_); rintro e w10 ⟨rfl, rfl⟩)
          | (at_builtin; refine wpList_append_oct rfl (.const (.slice none 0 0)) (.tmp 94) rfl w7.heap.size _ _ _ rfl (World.ownsRow_nil _ _ _ _) va vc nv (framesOf bs) rfl HT.out (o8.later b3) (by omega) (Nat.le_refl _) ?_; intro v11 w11 hown11 hg11; rw [Nat.zero_add, List.nil_append] at hown11; have b11 : Below w7.heap.size w7 w11 := (Below.refl _ w7).grown hg11 (Nat.le_refl _) (by intro k hk; cases hk))
          | (at_builtin; refine wpList_append_oct rfl (.tmp 95) (.tmp 96) rfl w7.heap.size _ _ _ rfl hown11 a7 c7 (1 + j) ts rfl HTL.out (o7.later b11) (by omega) b11.size ?_; intro v12 w12 hown12 hg12; have b12 : Below w7.heap.size w7 w12 := b11.grown hg12 b11.size (fun k hk => (hown11.lt k hk).1); have b3 := b3.trans (b12.mono b3.size); have tab := tab.later b12; obtain ⟨a12, c12, e12, o12⟩ := own_octs (xs := framesOf bs ++ ts) (by rw [List.length_append, ← HT.out, ← HTL.out]) (by rw [List.map_append]) (by rw [List.length_append, ← HT.out, ← HTL.out]; omega) HALL.out hown12; rw [List.length_append, ← HT.out, ← HTL.out] at e12; subst e12)
          | (go_at_call 9; (with_reducible refine (HC2 a12 c12 _ tab o12).mono ?_); rintro e w13 ⟨a13, c13, rfl, o13, b13⟩; have b3 := b3.trans (b13.mono b3.size))
          | (go_at_call 10; (with_reducible refine (HS a13 ua c13 uc _ o13 (o9.later b3)).mono ?_); rintro e w14 ⟨rfl, b14⟩; have b3 := b3.trans (b14.mono b3.size)))
        go_ret
        exact ⟨rfl, bb.trans (b3.mono bb.size)⟩

end Go.Proofs.YtjjencnnmpefbabDoor
