/- What begins with bytes lies from them on, ahead of the next, and nothing else does. -/
import Derived.Test.YtbidmjadmjphgabRows
import Derived.Test.YtbidmjadmjphgabNextOwn
import Derived.Test.YtbidmjadmjphgabOctetsKeep
import Derived.Test.YtbidmjadmjphgabLessBytes
import Derived.WalkKit
import Derived.ProofKit
import Derived.OpenShut
import Derived.ShutString
import Derived.ChangeOld
import Derived.Below
import Derived.SizedLaws
namespace Go.Proofs.Ytbidmjadmjphgab.keyPrefix
open Go.ChangeShapes Go.WideShapes Go.ChangeAt Go.RowKit
open Go.ChangeMaps (open_string shut_string)
set_option linter.unusedVariables false

theorem own : ownKnob Try.prog.godebug = none := by kernel_rfl
theorem bytesOfElem : Try.prog.bytesOf 5 = 1 := by kernel_rfl
theorem laidOut : laidOutB Try.prog = true := by kernel_rfl

/-- WHAT THE WALK IS TOLD OF A SLICE OF INTEGERS THAT CAME IN: it is nil; or it leads to a row of 'cap' cells, the numbers 'zs' (the first 'len' are its elements, the rest its spare room), each fitting its kind. -/
def IsRow (k : IntKind) (w : World) (a : Option Addr) (len cap : Nat) (zs : List Int) : Prop :=
  (a = none ∧ len = 0 ∧ cap = 0 ∧ zs = []) ∨
  ∃ x, a = some x ∧ len ≤ cap ∧ cap ≤ maxLen ∧ zs.length = cap ∧ (∀ i, i < zs.length → w.cell? (x.add i) = some (.int k (zs.getD i 0))) ∧ ∀ n ∈ zs, (Lit.int k n).wf = true

/-! ### STEP 1: THE WALK: the Go text returns true, AND WRITES NOTHING THAT WAS THERE: 'Below w.heap.size w w'' (Derived/Below.lean: '.refl', '.alloc', '.drew', '.setCell' at a new block, '.trans'). Open each 'IsRow' by 'rcases' AHEAD of 'go_enter'; part every test ahead of the walk. -/
set_option maxHeartbeats 2000000 in
theorem walk (a0 : Option Addr) (len0 cap0 : Nat) (z0 : List Int) (a1 : Option Addr) (len1 cap1 : Nat) (z1 : List Int) (a2 : Bool) (w : World) (w0 : IsRow .u8 w a0 len0 cap0 z0) (rr0 : cap0 * 1 ≤ 140737488351232) (w1 : IsRow .u8 w a1 len1 cap1 z1) (rr1 : cap1 * 1 ≤ 140737488351232) :
    Calls Try.prog 3 #[.slice a0 len0 cap0, .slice a1 len1 cap1, .bool a2] w fun e w' => e = .returned (.bool true) ∧ Below w.heap.size w w' := by
  obtain ⟨xs, rfl, he0⟩ := row_octs (by omega) w0
  obtain ⟨ks, rfl, he1⟩ := row_octs (by omega) w1
  clear w0 w1
  have h0 : Calls Try.prog 4 #[.slice a0 xs.length cap0, .int .i64 1200] w fun e w' => ∃ ao' cap', e = .returned (.slice ao' (xs.take 1200).length cap') ∧ Octs w' ao' cap' (xs.take 1200) ∧ Below w.heap.size w w' := Octets_any a0 cap0 xs 1200 (by omega) w he0
  have HO : ∀ v1, Octs v1 a1 cap1 ks → Calls Try.prog 4 #[.slice a1 ks.length cap1, .int .i64 1200] v1 fun e w' => ∃ ao' cap', e = .returned (.slice ao' (ks.take 1200).length cap') ∧ Octs w' ao' cap' (ks.take 1200) ∧ Below v1.heap.size v1 w' := fun v1 h => Octets_any a1 cap1 ks 1200 (by omega) v1 h
  have hpb : ∀ y ∈ xs.take 1200, 0 ≤ y ∧ y ≤ 255 := fun y hy => he0.2.2.2.1 y (List.mem_of_mem_take hy)
  have hbb : ∀ y ∈ ks.take 1200, 0 ≤ y ∧ y ≤ 255 := fun y hy => he1.2.2.2.1 y (List.mem_of_mem_take hy)
  have HE : Hid (Octs w a1 cap1 ks) := he1
  have hpl : (xs.take 1200).length ≤ 1200 := by simp; omega
  have hbl : (ks.take 1200).length ≤ 1200 := by simp; omega
  obtain ⟨ps, hps⟩ : ∃ ps, ps = xs.take 1200 := ⟨_, rfl⟩
  obtain ⟨bs, hbs⟩ : ∃ bs, bs = ks.take 1200 := ⟨_, rfl⟩
  rw [← hps] at h0 hpb hpl
  rw [← hbs] at HO hbb hbl
  clear hps hbs he0 he1
  obtain ⟨n0, hn0⟩ : ∃ n, n = xs.length := ⟨_, rfl⟩
  obtain ⟨n1, hn1⟩ : ∃ n, n = ks.length := ⟨_, rfl⟩
  rw [← hn0] at h0
  rw [← hn1] at HO
  rw [← hn0, ← hn1]
  clear hn0 hn1
  obtain ⟨ys, hys⟩ : ∃ ys, ys = if a2 = true then ps ++ bs else bs := ⟨_, rfl⟩
  have hyb : ∀ y ∈ ys, 0 ≤ y ∧ y ≤ 255 := by
    intro y hy
    rw [hys] at hy
    split at hy
    · rcases List.mem_append.1 hy with h | h
      · exact hpb y h
      · exact hbb y h
    · exact hbb y hy
  have hyl : ys.length ≤ 2400 := by
    rw [hys]
    split
    · simp; omega
    · omega
  have hsmall : ¬ 1200 < ps.length := by omega
  obtain ⟨ns, hns⟩ : ∃ ns, ns = nextVal ps := ⟨_, rfl⟩
  obtain ⟨c, hc⟩ : ∃ c, c = nextErr ps := ⟨_, rfl⟩
  have HX : ∀ a cap v1, Octs v1 a cap ps → Calls Try.prog 5 #[.slice a ps.length cap] v1 fun e w' => ∃ ao' cap', e = .returned (.tuple #[.slice ao' ns.length cap', .int .i64 c]) ∧ Octs w' ao' cap' ns ∧ Below v1.heap.size v1 w' := by
    intro a cap v1 h
    rw [hns, hc]
    exact Next_any a cap ps v1 h
  have HB : ∀ a a' d d' v1, Octs v1 a d ys → Octs v1 a' d' ps → _ := fun a a' d d' v1 h h' => begins_any a a' d d' ys ps v1 h h'
  have HL1 : ∀ a a' d d' v1, Octs v1 a d ps → Octs v1 a' d' ns → _ := fun a a' d d' v1 h h' => lessBytes_any a a' d d' ps ns v1 h h'
  have HL2 : ∀ a a' d d' v1, Octs v1 a d ys → Octs v1 a' d' ps → _ := fun a a' d d' v1 h h' => lessBytes_any a a' d d' ys ps v1 h h'
  have HL3 : ∀ a a' d d' v1, Octs v1 a d ys → Octs v1 a' d' ns → _ := fun a a' d d' v1 h h' => lessBytes_any a a' d d' ys ns v1 h h'
  obtain ⟨np, hnp⟩ : ∃ n, n = ps.length := ⟨_, rfl⟩
  obtain ⟨nb, hnb⟩ : ∃ n, n = bs.length := ⟨_, rfl⟩
  obtain ⟨ny, hny⟩ : ∃ n, n = ys.length := ⟨_, rfl⟩
  rw [← hnp] at h0 HX HB HL1 HL2 hpl
  rw [← hnb] at HO hbl
  rw [← hny] at HB HL2 HL3 hyl
  have HP : Hid (np = ps.length) := hnp
  have HNB : Hid (nb = bs.length) := hnb
  have HY : Hid (ny = ys.length) := hny
  have HYB : Hid (∀ y ∈ ys, 0 ≤ y ∧ y ≤ 255) := hyb
  have HYS : Hid (ys = if a2 = true then ps ++ bs else bs) := hys
  rcases hst : stemLen ps ps.length with _ | j
  · have hh := high_of_none hst
    have hs := starts_high ps ys hh hyb
    rw [hs] at HB
    obtain ⟨q, hq⟩ : ∃ q, q = ahead ys ps := ⟨_, rfl⟩
    rw [← hq] at HB HL2
    obtain rfl : ns = [] := by rw [hns]; exact nextVal_none hsmall hst
    obtain rfl : c = 6 := by rw [hc]; exact nextErr_none hsmall hst
    have HH : Hid (∀ y ∈ ps, y = 255) := hh
    have HYN : a2 = false → Hid (ny = nb) := by
      intro h
      rw [hny, hnb, hys, h]
      rfl
    have HYP : a2 = true → Hid (ys = ps ++ bs ∧ np + nb = ys.length) := by
      intro h
      have e : ys = ps ++ bs := by rw [hys, h]; rfl
      exact ⟨e, by rw [e, List.length_append, ← hnp, ← hnb]⟩
    have HYE : a2 = false → Hid (bs = ys) := by
      intro h
      rw [hys, h]
      rfl
    clear hh hs hq hns hc hst hsmall hys hyb hpb hbb hnp hnb hny HYS HL1 HL3
    cases a2
    · have hy1 := (HYN rfl).out
      have hy2 := (HYE rfl).out
      subst hy1
      subst hy2
      clear HYN HYP HYE
      go_enter Try.func3, Try.ntmps3
      go_wp2_with (first
        | (go_at_call 4; with_reducible refine h0.mono ?_; rintro e w1 ⟨b0, c0, rfl, o1, bb⟩)
        | (go_at_call 4; with_reducible refine (HO _ (HE.out.later bb)).mono ?_; rintro e w2 ⟨b1, c1, rfl, o2, b2⟩; have o1 := o1.later b2; have bb := bb.trans (b2.mono bb.size))
        | (go_at_call 5; with_reducible refine (HX b0 c0 _ o1).mono ?_; rintro e w5 ⟨b3, c3, rfl, o3, b5⟩; have o1 := o1.later b5; have o2 := o2.later b5; have bb := bb.trans (b5.mono bb.size)))
      go_loopw [11] (fun i wr => ∃ k : Nat, k ≤ np ∧ i = .int .i64 k ∧ w5 = wr) (fun i _ => np - (intOf i).toNat)
      case atStart => exact ⟨0, Nat.zero_le _, rfl, rfl⟩
      case round =>
        obtain ⟨k, hk, rfl, rfl⟩ := hrel
        by_cases hlt : k < np
        · obtain ⟨b, off, rfl, hcell, -, -⟩ := o1.at (k := k) (by rw [← HP.out]; exact hlt)
          rw [HH.out (ps.getD k 0) (by have hk2 : k < ps.length := by rw [← HP.out]; exact hlt
                                       simp only [List.getD, List.getElem?_eq_getElem hk2, Option.getD_some]
                                       exact List.getElem_mem hk2)] at hcell
          go_wp2
          go_roundw
          case rel => exact ⟨k + 1, by omega, by go_num, trivial⟩
          case measure => simp [intOf]; omega
        · have hkn : k = np := by omega
          go_wp2_with (first
            | (go_at_call 6; with_reducible refine (HB b1 b0 c1 c0 _ o2 o1).mono ?_; rintro e w6 ⟨rfl, b6⟩; have o1 := o1.later b6; have o2 := o2.later b6; have o3 := o3.later b6; have bb := bb.trans (b6.mono bb.size))
            | (go_at_call 7; with_reducible refine (HL2 b1 b0 c1 c0 _ o2 o1).mono ?_; rintro e w7 ⟨rfl, b7⟩; have o1 := o1.later b7; have o2 := o2.later b7; have o3 := o3.later b7; have bb := bb.trans (b7.mono bb.size)))
          go_ret
          refine ⟨?_, bb⟩
          simp
    · have HYQ := HYP rfl
      clear HYN HYE HYP
      go_enter Try.func3, Try.ntmps3
      go_wp2_with (first
        | (go_at_call 4; with_reducible refine h0.mono ?_; rintro e w1 ⟨b0, c0, rfl, o1, bb⟩)
        | (go_at_call 4; with_reducible refine (HO _ (HE.out.later bb)).mono ?_; rintro e w2 ⟨b1, c1, rfl, o2, b2⟩; have o1 := o1.later b2; have bb := bb.trans (b2.mono bb.size))
        | (at_builtin; refine wpList_append_oct rfl (.const (.slice none 0 0)) (.tmp 17) rfl w2.heap.size _ _ _ rfl (World.ownsRow_nil _ _ _ _) b0 c0 np ps rfl HP.out o1 (by omega) (Nat.le_refl _) ?_; intro v3 w3 hown3 hg3; rw [Nat.zero_add, List.nil_append] at hown3; have b3 : Below w2.heap.size w2 w3 := (Below.refl _ w2).grown hg3 (Nat.le_refl _) (by intro k hk; cases hk))
        | (at_builtin; refine wpList_append_oct rfl (.tmp 18) (.tmp 19) rfl w2.heap.size _ _ _ rfl hown3 b1 c1 nb bs rfl HNB.out (o2.later b3) (by omega) b3.size ?_; intro v4 w4 hown4 hg4; have b4 : Below w2.heap.size w2 w4 := b3.grown hg4 b3.size (fun k hk => (hown3.lt k hk).1); have o1 := o1.later b4; have bb := bb.trans (b4.mono bb.size); obtain ⟨b1, c1, e4, o2⟩ := own_octs (xs := ys) HYQ.out.2 (by rw [HYQ.out.1, List.map_append]) (by rw [← HY.out]; omega) HYB.out hown4; rw [← HY.out] at e4; subst e4)
        | (go_at_call 5; with_reducible refine (HX b0 c0 _ o1).mono ?_; rintro e w5 ⟨b3, c3, rfl, o3, b5⟩; have o1 := o1.later b5; have o2 := o2.later b5; have bb := bb.trans (b5.mono bb.size)))
      go_loopw [11] (fun i wr => ∃ k : Nat, k ≤ np ∧ i = .int .i64 k ∧ w5 = wr) (fun i _ => np - (intOf i).toNat)
      case atStart => exact ⟨0, Nat.zero_le _, rfl, rfl⟩
      case round =>
        obtain ⟨k, hk, rfl, rfl⟩ := hrel
        by_cases hlt : k < np
        · obtain ⟨b, off, rfl, hcell, -, -⟩ := o1.at (k := k) (by rw [← HP.out]; exact hlt)
          rw [HH.out (ps.getD k 0) (by have hk2 : k < ps.length := by rw [← HP.out]; exact hlt
                                       simp only [List.getD, List.getElem?_eq_getElem hk2, Option.getD_some]
                                       exact List.getElem_mem hk2)] at hcell
          go_wp2
          go_roundw
          case rel => exact ⟨k + 1, by omega, by go_num, trivial⟩
          case measure => simp [intOf]; omega
        · have hkn : k = np := by omega
          go_wp2_with (first
            | (go_at_call 6; with_reducible refine (HB b1 b0 c1 c0 _ o2 o1).mono ?_; rintro e w6 ⟨rfl, b6⟩; have o1 := o1.later b6; have o2 := o2.later b6; have o3 := o3.later b6; have bb := bb.trans (b6.mono bb.size))
            | (go_at_call 7; with_reducible refine (HL2 b1 b0 c1 c0 _ o2 o1).mono ?_; rintro e w7 ⟨rfl, b7⟩; have o1 := o1.later b7; have o2 := o2.later b7; have o3 := o3.later b7; have bb := bb.trans (b7.mono bb.size)))
          go_ret
          refine ⟨?_, bb⟩
          simp
  · obtain ⟨hi, hparted, hhigh⟩ := parted hst
    have hs : starts ys ps = (!ahead ys ps && ahead ys ns) := by
      rw [hns, nextVal_some hsmall hst]
      have := starts_next (ps.take j) (ps.getD j 0) hi ys hhigh hyb
      rw [← hparted] at this
      exact this
    have hs2 : ahead ps ns = true := by
      rw [hns, nextVal_some hsmall hst]
      have := ahead_next (ps.take j) (ps.getD j 0) hi
      rw [← hparted] at this
      exact this
    rw [hs] at HB
    rw [hs2] at HL1
    obtain ⟨p, hp⟩ : ∃ p, p = ahead ys ps := ⟨_, rfl⟩
    obtain ⟨q, hq⟩ : ∃ q, q = ahead ys ns := ⟨_, rfl⟩
    rw [← hp, ← hq] at HB
    rw [← hp] at HL2
    rw [← hq] at HL3
    obtain rfl : c = 0 := by rw [hc]; exact nextErr_some hsmall hst
    obtain ⟨nn, hnn⟩ : ∃ n, n = ns.length := ⟨_, rfl⟩
    rw [← hnn] at HX HL1 HL3
    have HYN : a2 = false → Hid (ny = nb) := by
      intro h
      rw [hny, hnb, hys, h]
      rfl
    have HYP : a2 = true → Hid (ys = ps ++ bs ∧ np + nb = ys.length) := by
      intro h
      have e : ys = ps ++ bs := by rw [hys, h]; rfl
      exact ⟨e, by rw [e, List.length_append, ← hnp, ← hnb]⟩
    have HYE : a2 = false → Hid (bs = ys) := by
      intro h
      rw [hys, h]
      rfl
    clear hs hs2 hp hq hparted hhigh hns hc hst hsmall hys hyb hpb hbb hnp hnb hny hnn HYS
    cases a2
    · have hy1 := (HYN rfl).out
      have hy2 := (HYE rfl).out
      subst hy1
      subst hy2
      clear HYN HYP HYE
      cases p <;> cases q <;> simp only [Bool.not_true, Bool.not_false, Bool.and_true, Bool.and_false] at HB
      all_goals
        go_enter Try.func3, Try.ntmps3
        go_wp2_with (first
          | (go_at_call 4; with_reducible refine h0.mono ?_; rintro e w1 ⟨b0, c0, rfl, o1, bb⟩)
          | (go_at_call 4; with_reducible refine (HO _ (HE.out.later bb)).mono ?_; rintro e w2 ⟨b1, c1, rfl, o2, b2⟩; have o1 := o1.later b2; have bb := bb.trans (b2.mono bb.size))
          | (go_at_call 5; with_reducible refine (HX b0 c0 _ o1).mono ?_; rintro e w5 ⟨b3, c3, rfl, o3, b5⟩; have o1 := o1.later b5; have o2 := o2.later b5; have bb := bb.trans (b5.mono bb.size))
          | (go_at_call 6; with_reducible refine (HB b1 b0 c1 c0 _ o2 o1).mono ?_; rintro e w6 ⟨rfl, b6⟩; have o1 := o1.later b6; have o2 := o2.later b6; have o3 := o3.later b6; have bb := bb.trans (b6.mono bb.size))
          | (go_at_call 7; with_reducible refine (HL1 b0 b3 c0 c3 _ o1 o3).mono ?_; rintro e w7 ⟨rfl, b7⟩; have o1 := o1.later b7; have o2 := o2.later b7; have o3 := o3.later b7; have bb := bb.trans (b7.mono bb.size))
          | (go_at_call 7; with_reducible refine (HL2 b1 b0 c1 c0 _ o2 o1).mono ?_; rintro e w7 ⟨rfl, b7⟩; have o1 := o1.later b7; have o2 := o2.later b7; have o3 := o3.later b7; have bb := bb.trans (b7.mono bb.size))
          | (go_at_call 7; with_reducible refine (HL3 b1 b3 c1 c3 _ o2 o3).mono ?_; rintro e w7 ⟨rfl, b7⟩; have o1 := o1.later b7; have o2 := o2.later b7; have o3 := o3.later b7; have bb := bb.trans (b7.mono bb.size)))
        all_goals
          go_ret
          refine ⟨?_, bb⟩
          simp
    · have HYQ := HYP rfl
      clear HYN HYE HYP
      cases p <;> cases q <;> simp only [Bool.not_true, Bool.not_false, Bool.and_true, Bool.and_false] at HB
      all_goals
        go_enter Try.func3, Try.ntmps3
        go_wp2_with (first
          | (go_at_call 4; with_reducible refine h0.mono ?_; rintro e w1 ⟨b0, c0, rfl, o1, bb⟩)
          | (go_at_call 4; with_reducible refine (HO _ (HE.out.later bb)).mono ?_; rintro e w2 ⟨b1, c1, rfl, o2, b2⟩; have o1 := o1.later b2; have bb := bb.trans (b2.mono bb.size))
          | (at_builtin; refine wpList_append_oct rfl (.const (.slice none 0 0)) (.tmp 17) rfl w2.heap.size _ _ _ rfl (World.ownsRow_nil _ _ _ _) b0 c0 np ps rfl HP.out o1 (by omega) (Nat.le_refl _) ?_; intro v3 w3 hown3 hg3; rw [Nat.zero_add, List.nil_append] at hown3; have b3 : Below w2.heap.size w2 w3 := (Below.refl _ w2).grown hg3 (Nat.le_refl _) (by intro k hk; cases hk))
          | (at_builtin; refine wpList_append_oct rfl (.tmp 18) (.tmp 19) rfl w2.heap.size _ _ _ rfl hown3 b1 c1 nb bs rfl HNB.out (o2.later b3) (by omega) b3.size ?_; intro v4 w4 hown4 hg4; have b4 : Below w2.heap.size w2 w4 := b3.grown hg4 b3.size (fun k hk => (hown3.lt k hk).1); have o1 := o1.later b4; have bb := bb.trans (b4.mono bb.size); obtain ⟨b1, c1, e4, o2⟩ := own_octs (xs := ys) HYQ.out.2 (by rw [HYQ.out.1, List.map_append]) (by rw [← HY.out]; omega) HYB.out hown4; rw [← HY.out] at e4; subst e4)
          | (go_at_call 5; with_reducible refine (HX b0 c0 _ o1).mono ?_; rintro e w5 ⟨b3, c3, rfl, o3, b5⟩; have o1 := o1.later b5; have o2 := o2.later b5; have bb := bb.trans (b5.mono bb.size))
          | (go_at_call 6; with_reducible refine (HB b1 b0 c1 c0 _ o2 o1).mono ?_; rintro e w6 ⟨rfl, b6⟩; have o1 := o1.later b6; have o2 := o2.later b6; have o3 := o3.later b6; have bb := bb.trans (b6.mono bb.size))
          | (go_at_call 7; with_reducible refine (HL1 b0 b3 c0 c3 _ o1 o3).mono ?_; rintro e w7 ⟨rfl, b7⟩; have o1 := o1.later b7; have o2 := o2.later b7; have o3 := o3.later b7; have bb := bb.trans (b7.mono bb.size))
          | (go_at_call 7; with_reducible refine (HL2 b1 b0 c1 c0 _ o2 o1).mono ?_; rintro e w7 ⟨rfl, b7⟩; have o1 := o1.later b7; have o2 := o2.later b7; have o3 := o3.later b7; have bb := bb.trans (b7.mono bb.size))
          | (go_at_call 7; with_reducible refine (HL3 b1 b3 c1 c3 _ o2 o3).mono ?_; rintro e w7 ⟨rfl, b7⟩; have o1 := o1.later b7; have o2 := o2.later b7; have o3 := o3.later b7; have bb := bb.trans (b7.mono bb.size)))
        all_goals
          go_ret
          refine ⟨?_, bb⟩
          simp

/-! ### THE ROW's STEP: WRITTEN OUT: LEAVE IT -/
set_option maxRecDepth 100000 in
theorem lifted (os : Os) (started : os.Started) (H : Type) (enc : TypeId × Value → H) :
    ReturnsInHanded {} Try.checked os 3 .any (Rows.keyPrefixSpec.pre6 enc Try.prog Try.f3 Rows.keyPrefixRow.domain false) (Rows.keyPrefixSpec.post enc Try.prog Try.f3 false true false false) := by
  refine returnsInHanded_of_change_sized (C := Try.checked) own started (by kernel_rfl) Try.func3
    (ChangeSpec.witness6 (enc := enc) (C := Try.checked) false ⟨#[], #[.slice none 0 0, .slice none 0 0, .bool false], []⟩ 8 (by kernel_rfl) (by kernel_rfl) (by kernel_rfl) (by kernel_rfl)) ?_
  intro W base args ds gs before hval0 hW hcnd hsz0 _
  have hval : ∀ (j : Nat) t v, Try.f3.params[j]? = some t → args[j]? = some v → Value.okWide Try.prog W .any base t v := hval0
  have hW' := hW
  obtain ⟨p, q, hA0, hV, rfl, hfz, hnd⟩ := hW
  have hA : DataW.TrodAll enc Try.prog W 0 (fun _ => true) true Try.f3.params.toList args.toList ds p := hA0
  have hsz : (DataW.weightsEach Try.prog (Try.f3.params.toList ++ Rows.keyPrefixSpec.plain.varTypes Try.prog) (ds ++ gs)).all (· ≤ reachBytes) = true := hsz0
  clear hsz0
  rw [Try.params3] at hA hval hsz
  obtain ⟨v0, vs0, d0, ds0, p0, q0, hargs, rfl, rfl, h0, r0⟩ := trodAll_cons hA
  obtain ⟨v1, vs1, d1, ds1, p1, q1, rfl, rfl, rfl, h1, r1⟩ := trodAll_cons r0
  obtain ⟨v2, vs2, d2, ds2, p2, q2, rfl, rfl, rfl, h2, r2⟩ := trodAll_cons r1
  obtain ⟨rfl, rfl, rfl⟩ := trodAll_nil r2
  obtain rfl : args = #[v0, v1, v2] := by cases args; simp_all
  obtain ⟨rfl, rfl⟩ := trodVars_none hV
  obtain ⟨a0, len0, cap0, rfl⟩ := okWide_slice Try.underlying22 (hval 0 22 v0 rfl rfl)
  have k0 := h0
  have lt0 : ∀ x ∈ p0, x.block < W.heap.size := by obtain ⟨m, hm⟩ := k0; exact DataW.trod_lt m _ _ _ hm
  obtain ⟨z0, w0, rr0⟩ : ∃ zs, IsRow .u8 W a0 len0 cap0 zs ∧ cap0 * 1 ≤ 140737488351232 := by
    obtain ⟨fuel, hf⟩ := h0
    rcases open_ints Try.underlying22 Try.underlying5 (by kernel_rfl) hf with ⟨hcs, _⟩ | ⟨x, l, c, zs, hcs, _, hl, hm, hz, hx, hcell, hwz⟩
    · simp [Value.cells] at hcs
      obtain ⟨rfl, rfl, rfl⟩ := hcs
      exact ⟨[], .inl ⟨rfl, rfl, rfl, rfl⟩, by omega⟩
    · simp [Value.cells] at hcs
      obtain ⟨rfl, rfl, rfl⟩ := hcs
      have hd := congrArg Prod.fst hx
      simp only at hd
      subst hd
      have hs := sized_slice hsz (j := 0) rfl rfl Try.underlying22
      rw [bytesOfElem] at hs
      have hz2 : zs.length = cap0 := by simpa using hz
      simp only [lits, List.length_map, List.length_take, List.length_drop, reachBytes] at hs
      exact ⟨zs, .inr ⟨_, rfl, hl, hm, by simpa using hz, hcell, hwz⟩, by omega⟩
  obtain ⟨a1, len1, cap1, rfl⟩ := okWide_slice Try.underlying22 (hval 1 22 v1 rfl rfl)
  have k1 := h1
  have lt1 : ∀ x ∈ p1, x.block < W.heap.size := by obtain ⟨m, hm⟩ := k1; exact DataW.trod_lt m _ _ _ hm
  obtain ⟨z1, w1, rr1⟩ : ∃ zs, IsRow .u8 W a1 len1 cap1 zs ∧ cap1 * 1 ≤ 140737488351232 := by
    obtain ⟨fuel, hf⟩ := h1
    rcases open_ints Try.underlying22 Try.underlying5 (by kernel_rfl) hf with ⟨hcs, _⟩ | ⟨x, l, c, zs, hcs, _, hl, hm, hz, hx, hcell, hwz⟩
    · simp [Value.cells] at hcs
      obtain ⟨rfl, rfl, rfl⟩ := hcs
      exact ⟨[], .inl ⟨rfl, rfl, rfl, rfl⟩, by omega⟩
    · simp [Value.cells] at hcs
      obtain ⟨rfl, rfl, rfl⟩ := hcs
      have hd := congrArg Prod.fst hx
      simp only at hd
      subst hd
      have hs := sized_slice hsz (j := 1) rfl rfl Try.underlying22
      rw [bytesOfElem] at hs
      have hz2 : zs.length = cap1 := by simpa using hz
      simp only [lits, List.length_map, List.length_take, List.length_drop, reachBytes] at hs
      exact ⟨zs, .inr ⟨_, rfl, hl, hm, by simpa using hz, hcell, hwz⟩, by omega⟩
  obtain ⟨a2, rfl, rfl, rfl⟩ := open_bool Try.underlying4 (hval 2 4 v2 rfl rfl) h2
  clear hA0 hval0
  refine (walk a0 len0 cap0 z0 a1 len1 cap1 z1 a2 W w0 rr0 w1 rr1).mono fun e W' ⟨he, bel⟩ => ?_
  subst he
  exact ⟨_, rfl, _, _, _, [], _, [], hW', trodAll_mk1 (shut_bool Try.underlying4 _), (trodAll_cons_mk (Below.trod laidOut (by kernel_rfl) (of_decide_eq_true (by kernel_rfl)) k0 bel lt0) (trodAll_cons_mk (Below.trod laidOut (by kernel_rfl) (of_decide_eq_true (by kernel_rfl)) k1 bel lt1) (trodAll_cons_mk (shut_bool Try.underlying4 _) trodAll_mk0))), rfl, bel.frame _, fun h => by cases h⟩

theorem over : Rows.keyPrefixRow.holds Try.pinned (OpenSpec.ofChange Rows.keyPrefixSpec) :=
  OpenClaim.holds_of_wide 3 Try.f3 rfl rfl rfl rfl rfl rfl rfl ⟨rfl, rfl, rfl, rfl, rfl⟩ rfl rfl rfl rfl rfl (by kernel_rfl) Try.func3 (by kernel_rfl)
    (of_decide_eq_true (by kernel_rfl)) (by unfold Func.isWrapper; first | (rw [if_pos (by decide +kernel)]; kernel_rfl) | (rw [if_neg (by decide +kernel)]; exact ⟨rfl, rfl⟩))
    (fun os started H enc _ => lifted os started H enc)

/-- ████ THE STATEMENT ████ -/
theorem proved : Rows.KeyPrefixSaid := over
end Go.Proofs.Ytbidmjadmjphgab.keyPrefix
namespace Go.Proofs.Ytbidmjadmjphgab
theorem keyPrefix_holds : Rows.KeyPrefixSaid := keyPrefix.proved
end Go.Proofs.Ytbidmjadmjphgab
