/- The reference's Decode at every slice of bytes. -/
import Derived.Test.YtjilcljchdmbjaaRfDecP
import Derived.Test.YtjilcljchdmbjaaItRefTellI
import Derived.Test.YtjilcljchdmbjaaItRefMay
import Derived.Deep.RegionHeld3
namespace Go.Proofs.Ytjilcljchdmbjaa
open Go.ChangeShapes Go.WideShapes Go.ChangeAt Go.RowKit

/-- the first loop, on the way -/
def L1 (w : World) (X : Nat) (c n s : Int) (xs : List Int) (s3 : Option (List Int)) (N : Nat) (p : Int) (j : Nat) (wr : World) : Prop :=
  ∃ (ra : Option Addr) (rm rc : Nat) (l : List Ent) (st2 : Option (List Int)), RJ w X [.int .i64 c, .int .i64 n, .int .i64 s, .slice ra rm rc, .slice none 0 0] wr ∧ Rows kEnt (fun b => X < b) wr (X + 1) 49 (.slice ra rm rc) l ∧ Prgs cutRd s3 N l st2 ∧ Pos xs p st2 ∧ j + l.length = N ∧ rm = l.length ∧ rm ≤ 4001

/-- the second loop, on the way -/
def L2 (w : World) (X F : Nat) (c n s : Int) (ra : Option Addr) (rm rc : Nat) (rs : List Ent) (xs : List Int) (s4 : Option (List Int)) (N : Nat) (p : Int) (j : Nat) (wr : World) : Prop :=
  ∃ (wa : Option Addr) (wm wc : Nat) (l : List Wt) (st2 : Option (List Int)), RJ w X [.int .i64 c, .int .i64 n, .int .i64 s, .slice ra rm rc, .slice wa wm wc] wr ∧ Lies kEnt (fun b => X < b ∧ b < F) wr ra rc rs ∧ Rows kWt (fun b => F ≤ b) wr F 43 (.slice wa wm wc) l ∧ Prgs cutWtL s4 N l st2 ∧ Pos xs p st2 ∧ j + l.length = N ∧ wm = l.length ∧ wm ≤ 4001 ∧ F ≤ wr.heap.size ∧ X < F

theorem pos_at {xs : List Int} {p : Int} {st : Option (List Int)} (h : Pos xs p st) (hp : 0 ≤ p) : ∃ k : Nat, p = k ∧ k ≤ xs.length ∧ st = some (xs.drop k) := by
  rcases h with ⟨rfl, _⟩ | h
  · omega
  · exact h

theorem wtl_bad {st st1 : Option (List Int)} {ts : List Int} (h : TextIs st ts st1) (h1 : st1 = none ∨ st1 = some []) : st.bind cutWtL = none := by
  cases st with
  | none => rfl
  | some b =>
    show cutWtL b = none
    rcases h with ⟨r, e, rfl⟩ | ⟨e, _, _⟩
    · replace e : cutT b = some (ts, r) := e
      rcases h1 with h1 | h1
      · cases h1
      · cases h1
        simp only [cutWtL, e]
    · replace e : cutT b = none := e
      simp only [cutWtL, e]

theorem wtl_of {st st3 : Option (List Int)} {ts v r : List Int} {y : Int} {g : Bool} (h : TextIs st ts (some (y :: r))) (hg : decide (y = 1) = g) (h3 : TextIs (some r) v st3) : OneIs cutWtL st ⟨ts, v, g⟩ st3 := by
  subst hg
  cases st with
  | none =>
    rcases h with ⟨r', e, _⟩ | ⟨_, _, e⟩
    · cases e
    · cases e
  | some b =>
    rcases h with ⟨r', e, e1⟩ | ⟨_, _, e⟩
    · cases e1
      replace e : cutT b = some (ts, y :: r) := e
      rcases h3 with ⟨r3, e3, rfl⟩ | ⟨e3, _, rfl⟩
      · replace e3 : cutT r = some (v, r3) := e3
        exact .inl ⟨r3, show cutWtL b = _ by simp only [cutWtL, e, e3], rfl⟩
      · replace e3 : cutT r = none := e3
        exact .inr ⟨show cutWtL b = _ by simp only [cutWtL, e, e3], rfl⟩
    · cases e

theorem pos_no {xs : List Int} {p : Int} {st : Option (List Int)} (h : Pos xs p st) (hp : ¬ 0 ≤ p) : p = -1 ∧ st = none := by
  rcases h with h | ⟨k, rfl, _⟩
  · exact h
  · omega

set_option maxRecDepth 100000 in
set_option maxHeartbeats 8000000 in
theorem IntentDecoded_any (a : Option Addr) (cap : Nat) (xs : List Int) (w : World) (ho : Octs w a cap xs) :
    Calls Try.prog 8 #[.slice a xs.length cap] w fun e w' => DPost xs w e w' := by
  generalize hpost : (fun e w' => DPost xs w e w') = Q
  have HO : Hid (∀ w', ¬ Q .outgrown w') := fun w' hh => by
    rw [← hpost] at hh
    obtain ⟨c, n, s, ra, rn, rc, wa, wn, wc, code, h, -⟩ := hh
    cases h
  have HP : Hid (∀ e w', DPost xs w e w' → Q e w') := fun e w' h => by rw [← hpost]; exact h
  clear hpost
  have HA := put_by ((Below.refl w.heap.size w).alloc (Nat.le_refl _) (.cells #[.int .i64 0, .int .i64 0, .int .i64 0, .slice none 0 0, .slice none 0 0] 26))
  have HC := put_by (Cls.new w [.int .i64 0, .int .i64 0, .int .i64 0, .slice none 0 0, .slice none 0 0] 26)
  have HS : Hid ((w.alloc (.cells #[.int .i64 0, .int .i64 0, .int .i64 0, .slice none 0 0, .slice none 0 0] 26)).heap.size = w.heap.size + 1) := by simp [Hid]
  by_cases hf : xs.length ≤ 4000
  · by_cases hl : 20 ≤ xs.length
    · obtain ⟨b, off, rfl, -⟩ := ho.at (k := 0) (by omega)
      have hcap := ho.1
      have hf0 : Hid (xs.length ≤ 4000 ∧ 20 ≤ xs.length) := ⟨hf, hl⟩
      have HX : Hid (Octs w (some ⟨b, off, none⟩) cap xs) := ho
      have cF : Hid (∀ (V : World) (k : Nat), Below w.heap.size w V → k + 4 ≤ xs.length → Calls Try.prog 16 #[.slice (some ⟨b, off + k, none⟩) (xs.length - k) (cap - k)] V fun e w' => ∃ q : Nat, e = .returned (.int .i64 (q : Int)) ∧ q ≤ 4294967295 ∧ Hid (cut4 (xs.drop k) = some (q, xs.drop (k + 4)) ∧ Below V.heap.size V w')) := fun V k hV hk => (little_at b off cap xs k hk V (ho.later hV)).mono (fun e w' ⟨q, h1, h2, h3, h4⟩ => ⟨q, h1, h2, h3, h4⟩)
      have cT : Hid (∀ (V : World) (p : Int) (st : Option (List Int)), Below w.heap.size w V → Pos xs p st → Calls Try.prog 17 #[.slice (some ⟨b, off, none⟩) xs.length cap, .int .i64 p] V fun e w' => ∃ (a1 : Option Addr) (m1 c1 : Nat) (p1 : Int), e = .returned (.tuple #[.slice a1 m1 c1, .int .i64 p1]) ∧ -1 ≤ p1 ∧ p1 ≤ 4000 ∧ Hid (∃ ts st', m1 = ts.length ∧ Octs w' a1 c1 ts ∧ (∀ ad, a1 = some ad → V.heap.size ≤ ad.block) ∧ TextIs st ts st' ∧ Pos xs p1 st' ∧ Below V.heap.size V w')) := fun V p st hV hp => (cutText_any _ cap xs p st V (ho.later hV) hf hp).mono (fun e w' ⟨a1, m1, c1, p1, h1, h2, h3, h4⟩ => ⟨a1, m1, c1, p1, h1, h2, h3, h4⟩)
      obtain ⟨q0, hq0⟩ : ∃ q, q = (num4 xs).toNat := ⟨_, rfl⟩
      obtain ⟨q4, hq4⟩ : ∃ q, q = (num4 (xs.drop 4)).toNat := ⟨_, rfl⟩
      obtain ⟨q8, hq8⟩ : ∃ q, q = (num4 (xs.drop 8)).toNat := ⟨_, rfl⟩
      have e0 : cut4 xs = some (q0, xs.drop 4) := by rw [cut4, if_pos (by omega), hq0]
      have e4 : cut4 (xs.drop 4) = some (q4, xs.drop 8) := by rw [cut4, if_pos (by rw [List.length_drop]; omega), hq4, List.drop_drop]
      have e8 : cut4 (xs.drop 8) = some (q8, xs.drop 12) := by rw [cut4, if_pos (by rw [List.length_drop]; omega), hq8, List.drop_drop]
      have HN : Hid (∀ (rs : List Ent) (ws : List Wt) (s4 st : Option (List Int)), ManyIs cutRd (some (xs.drop 12)) rs s4 → ManyIs cutWtL s4 ws st → ChainL xs q0 q4 q8 rs ws st) := fun rs ws s4 st h1 h2 => ⟨some (xs.drop 4), some (xs.drop 8), some (xs.drop 12), s4, .inl ⟨q0, _, e0, rfl, rfl⟩, .inl ⟨q4, _, e4, rfl, rfl⟩, .inl ⟨q8, _, e8, rfl, rfl⟩, h1, h2⟩
      have d0 : Hid (∀ (W0 : World) (B : Option Nat) (V : World), Below w.heap.size w W0 → BJ w W0 B V → Calls Try.prog 16 #[.slice (some ⟨b, off, none⟩) xs.length cap] V fun e w' => e = .returned (.int .i64 (q0 : Int)) ∧ Hid (BJ w W0 B w')) := fun W0 B V h1 h2 => by
        have := cF.out V 0 (h1.trans (h2.below.mono h1.size)) (by omega)
        rw [Nat.add_zero, Nat.sub_zero, Nat.sub_zero] at this
        refine this.mono ?_
        rintro e w' ⟨q, rfl, -, g1, g2⟩
        rw [List.drop_zero, e0] at g1
        cases g1
        exact ⟨rfl, h2.later g2⟩
      have d4 : Hid (∀ (W0 : World) (B : Option Nat) (V : World), Below w.heap.size w W0 → BJ w W0 B V → Calls Try.prog 16 #[.slice (some ⟨b, off + 4, none⟩) (xs.length - 4) (cap - 4)] V fun e w' => e = .returned (.int .i64 (q4 : Int)) ∧ Hid (BJ w W0 B w')) := fun W0 B V h1 h2 => by
        refine (cF.out V 4 (h1.trans (h2.below.mono h1.size)) (by omega)).mono ?_
        rintro e w' ⟨q, rfl, -, g1, g2⟩
        rw [e4] at g1
        cases g1
        exact ⟨rfl, h2.later g2⟩
      have d8 : Hid (∀ (W0 : World) (B : Option Nat) (V : World), Below w.heap.size w W0 → BJ w W0 B V → Calls Try.prog 16 #[.slice (some ⟨b, off + 8, none⟩) (xs.length - 8) (cap - 8)] V fun e w' => e = .returned (.int .i64 (q8 : Int)) ∧ Hid (BJ w W0 B w')) := fun W0 B V h1 h2 => by
        refine (cF.out V 8 (h1.trans (h2.below.mono h1.size)) (by omega)).mono ?_
        rintro e w' ⟨q, rfl, -, g1, g2⟩
        rw [e8] at g1
        cases g1
        exact ⟨rfl, h2.later g2⟩
      obtain ⟨m, hm⟩ : ∃ m, m = xs.length := ⟨_, rfl⟩
      rw [← hm] at cF cT d0 d4 d8 hcap hf hl ⊢
      have HM := put_by hm
      clear ho hm hq0 hq4 hq8 e0 e4 e8
      have i4 : (4 : Int) ≤ (m : Int) := by omega
      have i8 : (8 : Int) ≤ (m : Int) := by omega
      have i12 : (12 : Int) ≤ (m : Int) := by omega
      have ic : (m : Int) ≤ (cap : Int) := by omega
      have j4 : cap ≠ 4 := by omega
      have j8 : cap ≠ 8 := by omega
      have j12 : cap ≠ 12 := by omega
      have k4 : 4 ≠ cap := by omega
      have k8 : 8 ≠ cap := by omega
      have k12 : 12 ≠ cap := by omega
      have l4 : (4 : Int) ≤ (cap : Int) := by omega
      have l8 : (8 : Int) ≤ (cap : Int) := by omega
      have l12 : (12 : Int) ≤ (cap : Int) := by omega
      go_enter Try.func8, Try.ntmps8
      go_upto_region 3 with (fail)
      have HJ : Hid (BJ w (w.alloc (.cells #[.int .i64 0, .int .i64 0, .int .i64 0, .slice none 0 0, .slice none 0 0] 26)) none (w.alloc (.cells #[.int .i64 0, .int .i64 0, .int .i64 0, .slice none 0 0, .slice none 0 0] 26))) := ⟨Below.refl _ _, by rw [HS.out]; omega, HA.out, HC.out, fun X e => by cases e⟩
      generalize w.alloc (.cells #[.int .i64 0, .int .i64 0, .int .i64 0, .slice none 0 0, .slice none 0 0] _) = W0 at HA HC HS HJ ⊢
      go_cut [4] from 19 to 27 (fun p wx => ∃ X : Nat, p = .pointer (some ⟨X, 0, none⟩) ∧ Hid (RJ w X [.int .i64 q0, .int .i64 q4, .int .i64 q8, .slice none 0 0, .slice none 0 0] wx))
      case first =>
        have HJ0 := HJ
        replace HJ := put_by (HJ.out.later (Below.refl _ _).drew)
        go_region_held3 (fun _ => True) (trivial) (first
          | (go_at_call 16; (first | (with_reducible refine (d0.out _ _ _ HA.out HJ.out).mono ?_) | (with_reducible refine (d0.out _ _ _ HA.out (HJ.out.made _)).mono ?_) | (with_reducible refine (d0.out _ _ _ HA.out ((HJ0.out.made _).later (Below.refl _ _).drew)).mono ?_)); clear d0; rintro e w1 ⟨rfl, HJ⟩; try (obtain ⟨z0, o0⟩ := (HJ.out.var _ rfl).1 0 _ rfl; obtain ⟨z1, o1⟩ := (HJ.out.var _ rfl).1 1 _ rfl; obtain ⟨z2, o2⟩ := (HJ.out.var _ rfl).1 2 _ rfl; obtain ⟨z3, o3⟩ := (HJ.out.var _ rfl).1 3 _ rfl; obtain ⟨z4, o4⟩ := (HJ.out.var _ rfl).1 4 _ rfl))
          | (go_at_call 16; (first | (with_reducible refine (d4.out _ _ _ HA.out HJ.out).mono ?_) | (with_reducible refine (d4.out _ _ _ HA.out (HJ.out.made _)).mono ?_) | (with_reducible refine (d4.out _ _ _ HA.out ((HJ0.out.made _).later (Below.refl _ _).drew)).mono ?_)); clear d4; rintro e w4 ⟨rfl, HJ⟩; try (obtain ⟨z0, o0⟩ := (HJ.out.var _ rfl).1 0 _ rfl; obtain ⟨z1, o1⟩ := (HJ.out.var _ rfl).1 1 _ rfl; obtain ⟨z2, o2⟩ := (HJ.out.var _ rfl).1 2 _ rfl; obtain ⟨z3, o3⟩ := (HJ.out.var _ rfl).1 3 _ rfl; obtain ⟨z4, o4⟩ := (HJ.out.var _ rfl).1 4 _ rfl))
          | (go_at_call 16; (first | (with_reducible refine (d8.out _ _ _ HA.out HJ.out).mono ?_) | (with_reducible refine (d8.out _ _ _ HA.out (HJ.out.made _)).mono ?_) | (with_reducible refine (d8.out _ _ _ HA.out ((HJ0.out.made _).later (Below.refl _ _).drew)).mono ?_)); clear d8; rintro e w8 ⟨rfl, HJ⟩; try (obtain ⟨z0, o0⟩ := (HJ.out.var _ rfl).1 0 _ rfl; obtain ⟨z1, o1⟩ := (HJ.out.var _ rfl).1 1 _ rfl; obtain ⟨z2, o2⟩ := (HJ.out.var _ rfl).1 2 _ rfl; obtain ⟨z3, o3⟩ := (HJ.out.var _ rfl).1 3 _ rfl; obtain ⟨z4, o4⟩ := (HJ.out.var _ rfl).1 4 _ rfl)))
        all_goals
          first
            | (have HK := put_by (HJ.out.set q0 q4 q8)
               generalize World.setCell _ _ _ = W9 at HK ⊢
               go_wp2
               go_meet
               exact ⟨_, rfl, HK.out⟩)
            | (have HK := put_by (HJ.out.new q0 q4 q8 26)
               generalize World.alloc _ _ = W9 at HK ⊢
               go_wp2
               go_meet
               exact ⟨_, rfl, HK.out⟩)
      case rest =>
        obtain ⟨X, rfl, HK⟩ := hcut
        clear HJ HA HC HS d0 d4 d8
        have d12 : Hid (∀ V, Below w.heap.size w V → Calls Try.prog 16 #[.slice (some ⟨b, off + 12, none⟩) (m - 12) (cap - 12)] V fun e w' => ∃ q : Nat, e = .returned (.int .i64 (q : Int)) ∧ q ≤ 4294967295 ∧ Hid (cut4 (xs.drop 12) = some (q, xs.drop 16) ∧ Below V.heap.size V w')) := fun V hV => cF.out V 12 hV (by omega)
        go_upto_region 6 with (first
          | (go_at_call 16; (with_reducible refine (d12.out _ HK.out.below).mono ?_); clear d12; rintro e w1 ⟨N, rfl, hN, H1⟩))
        have HL : Hid (L1 w X q0 q4 q8 xs (some (xs.drop 12)) N 16 N w1) := ⟨none, 0, 0, [], some (xs.drop 16), HK.out.later H1.out.2, Rows.nil _ _ _ _ _, .inl ⟨xs.drop 16, xs.drop 16, H1.out.1, by rw [List.length_drop]; have := hf0.out.1; omega, rfl, rfl⟩, .inr ⟨16, rfl, by have := hf0.out.2; omega, rfl⟩, rfl, rfl, by omega⟩
        clear HK H1 i4 i8 i12 j4 j8 j12 k4 k8 k12 l4 l8 l12
        go_loopw [5, 6] (fun at_ nn wr => ∃ (p : Int) (j : Nat), at_ = .int .i64 p ∧ nn = .int .i64 (j : Int) ∧ (-1 ≤ p ∧ p ≤ 4000) ∧ j ≤ 4294967295 ∧ Hid (L1 w X q0 q4 q8 xs (some (xs.drop 12)) N p j wr)) (fun _ nn _ => (intOf nn).toNat)
        case atStart => exact ⟨16, N, rfl, rfl, ⟨by omega, by omega⟩, hN, HL.out⟩
        case round =>
          obtain ⟨p, j, rfl, rfl, ⟨hp1, hp2⟩, hj, HL⟩ := hrel
          rename World => wr
          by_cases hgo : 0 < j ∧ 0 ≤ p
          · obtain ⟨hj0, hp0⟩ := hgo
            obtain ⟨j9, rfl⟩ : ∃ j9, j = j9 + 1 := ⟨j - 1, by omega⟩
            have i1 : (0 : Int) < (j9 : Int) + 1 := by omega
            have i2 : IntKind.i64.wrap ((j9 : Int) + 1 - 1) = (j9 : Int) := by rw [IntKind.wrap_i64]; omega
            obtain ⟨ra, rm, rc, l, st2, g1, g2, g3, g4, g5, g6, g7⟩ := HL.out
            have HG := put_by (And.intro g1 (And.intro g2 (And.intro g3 (And.intro g5 g6))))
            have hne : st2 ≠ none := by obtain ⟨k, -, -, e⟩ := pos_at g4 hp0; rw [e]; simp
            have H4 : Hid (rm ≤ 4000 ∧ st2 ≠ none) := ⟨by rw [g6]; exact g3.few cutRd_len hne, hne⟩
            have HP1 := put_by g4
            have HBa := put_by ((Below.refl wr.heap.size wr).alloc (Nat.le_refl _) (.cells #[.slice none 0 0, .slice none 0 0] 49))
            have HT1 := put_by (Two.new wr (.slice none 0 0) (.slice none 0 0) 49)
            clear g1 g2 g3 g4 g5 g6 g7 hne HL
            go_upto_region 9 with (fail)
            have HZ1 : Hid (wr.heap.size < (wr.alloc (.cells #[.slice none 0 0, .slice none 0 0] 49)).heap.size) := by simp [Hid]
            generalize wr.alloc (.cells #[.slice none 0 0, .slice none 0 0] _) = V1 at HBa HT1 HZ1 ⊢
            have HB1 : Hid (Below w.heap.size w V1) := HG.out.1.below.trans (HBa.out.mono HG.out.1.below.size)
            go_upto_region 10 with (first
              | (go_at_call 17; (with_reducible refine (cT.out _ _ st2 HB1.out HP1.out).mono ?_); rintro e w2 ⟨a1, m1, c1, p1, rfl, hq1, hq2, H2⟩; obtain ⟨t0, t1, f0, f1⟩ := HT1.out.later (let ⟨_, _, _, _, _, _, _, hb⟩ := H2.out; hb)))
            have HT3 := put_by ((Two.mk t0 t1 f0 f1).set0 (.slice a1 m1 c1))
            have H3 : Hid (∃ ts st3, TextIs st2 ts st3 ∧ Pos xs p1 st3 ∧ IsBody (w2.setCell ⟨wr.heap.size, 0, none⟩ (.slice a1 m1 c1)) (fun b => wr.heap.size < b) (.slice a1 m1 c1) ts ∧ Below wr.heap.size wr (w2.setCell ⟨wr.heap.size, 0, none⟩ (.slice a1 m1 c1)) ∧ wr.heap.size < (w2.setCell ⟨wr.heap.size, 0, none⟩ (.slice a1 m1 c1)).heap.size) := by
              obtain ⟨ts, st3, k1, k2, k3, k4, k5, k6⟩ := H2.out
              have hz := HZ1.out
              refine ⟨ts, st3, k4, k5, ?_, (HBa.out.trans (k6.mono HBa.out.size)).setCell (Nat.le_refl _) _, by have := k6.size; simp; omega⟩
              exact IsBody.move (kept_old (grown_set _) (Nat.lt_irrefl _)) (fun _ _ q => q) ⟨a1, c1, by rw [k1], k2, fun _ ad e => by have := k3 ad e; omega⟩
            clear H2 HB1 HP1 HT1 HBa HZ1 t0 t1 f0 f1
            generalize w2.setCell _ _ = V3 at HT3 H3 ⊢
            have HB3 : Hid (Below w.heap.size w V3) := let ⟨_, _, _, _, _, hb, _⟩ := H3.out; HG.out.1.below.trans (hb.mono HG.out.1.below.size)
            have c9 : Hid (Calls Try.prog 17 #[.slice (some ⟨b, off, none⟩) m cap, .int .i64 p1] V3 fun e w' => ∃ (a2 : Option Addr) (m2 c2 : Nat) (p2 : Int), e = .returned (.tuple #[.slice a2 m2 c2, .int .i64 p2]) ∧ -1 ≤ p2 ∧ p2 ≤ 4000 ∧ Two w' wr.heap.size (.slice a1 m1 c1) (.slice none 0 0) ∧ Hid (∃ x st4, OneIs cutRd st2 x st4 ∧ Pos xs p2 st4 ∧ kEnt.rel (fun b => wr.heap.size < b) w' x [.slice a1 m1 c1, .slice a2 m2 c2] ∧ Below wr.heap.size wr w')) := by
              obtain ⟨ts, st3, k1, k2, k3, k4, k5⟩ := H3.out
              refine (cT.out V3 p1 st3 HB3.out k2).mono ?_
              rintro e w' ⟨a2, m2, c2, p2, rfl, r1, r2, ts2, st4, n1, n2, n3, n4, n5, n6⟩
              exact ⟨a2, m2, c2, p2, rfl, r1, r2, HT3.out.later n6, (ts, ts2), st4, rd_of k1 n4, n5, ⟨_, _, rfl, k3.later n6, a2, c2, by rw [n1], n2, fun _ ad e => by have := n3 ad e; omega⟩, k4.trans (n6.mono k4.size)⟩
            go_upto_region 11 with (first
              | (go_at_call 17; (with_reducible refine c9.out.mono ?_); clear c9; rintro e w4 ⟨a2, m2, c2, p2, rfl, hr1, hr2, ⟨t0, t1, f0, f1⟩, H4b⟩))
            have HT5 := put_by ((Two.mk t0 t1 f0 f1).set1 (.slice a2 m2 c2))
            have H5 : Hid (∃ x st4, OneIs cutRd st2 x st4 ∧ Pos xs p2 st4 ∧ kEnt.rel (fun b => wr.heap.size < b) (w4.setCell ⟨wr.heap.size, 1, none⟩ (.slice a2 m2 c2)) x [.slice a1 m1 c1, .slice a2 m2 c2] ∧ Below wr.heap.size wr (w4.setCell ⟨wr.heap.size, 1, none⟩ (.slice a2 m2 c2))) := by
              obtain ⟨x, st4, k1, k2, k3, k4⟩ := H4b.out
              exact ⟨x, st4, k1, k2, kEnt.move (kept_old (grown_set _) (Nat.lt_irrefl _)) (fun _ _ q => q) k3, k4.setCell (Nat.le_refl _) _⟩
            clear H3 HT3 H4b HB3 t0 t1 f0 f1
            generalize w4.setCell _ _ = V5 at HT5 H5 ⊢
            obtain ⟨x, st4, k1, k2, k3, k4⟩ := H5.out
            have HJ5 : Hid (RJ w X [.int .i64 q0, .int .i64 q4, .int .i64 q8, .slice ra rm rc, .slice none 0 0] V5 ∧ Rows kEnt (fun b => X < b) V5 (X + 1) 49 (.slice ra rm rc) l) := ⟨HG.out.1.later k4, HG.out.2.1.later k4⟩
            have HR5 : Hid (kEnt.rel (fun b => X < b ∧ (Value.slice ra rm rc).ownBlock ≠ some b) V5 x [.slice a1 m1 c1, .slice a2 m2 c2]) := kEnt.move (Kept.of_below (Below.refl _ _)) (fun b _ hb => ⟨by have := HG.out.1.ord; omega, fun e => by have := (rows_lt HG.out.2.1 b e).2; omega⟩) k3
            have HO5 : Hid (OneIs cutRd st2 x st4 ∧ Pos xs p2 st4) := ⟨k1, k2⟩
            obtain ⟨x3, y3⟩ := HJ5.out.1.var 3 _ rfl
            obtain ⟨t0, t1, f0, f1⟩ := HT5.out
            clear k1 k2 k3 k4 H5 HT5
            go_upto_region 7 with (first
              | (at_builtin; refine wpList_append_one (K := kEnt) (ok := fun b => X < b) eltR rfl (.tmp 54) (.tmp 56) rfl (X + 1) (.slice ra rm rc) l rfl HJ5.out.2 x [.slice a1 m1 c1, .slice a2 m2 c2] _ _ rfl rfl HR5.out (fun b hb => by have := HJ5.out.1.ord; show X < b; omega) (by have := H4.out.1; have := HG.out.2.2.2.2; omega) (by decide) (by have := HJ5.out.1.ord; omega) ?_; intro v' w6 r1 r2 r3; obtain ⟨a6, c6, hv'⟩ := rows_form r1; subst hv'; have H6 := put_by (And.intro r1 (HJ5.out.1.own r2 (fun g e => by have := (rows_lt HJ5.out.2 g e).1; omega))); obtain ⟨x6, y6⟩ := H6.out.2.var 3 _ rfl; clear r1 r2 r3; have HN6 : Hid ((l ++ [x]).length = rm + 1) := (by rw [List.length_append, List.length_singleton, ← HG.out.2.2.2.2]; exact rfl); generalize (l ++ [x]).length = m6 at H6 HN6 x6 ⊢))
            have H7 : Hid (L1 w X q0 q4 q8 xs (some (xs.drop 12)) N p2 j9 (w6.setCell ⟨X, 3, none⟩ (.slice a6 m6 c6))) := by
              have hg6 : w6.grownBy (w6.setCell ⟨X, 3, none⟩ (.slice a6 m6 c6)) (some X) := grown_set _
              have hlen : (l ++ [x]).length = l.length + 1 := by simp
              obtain ⟨n1, n2, n3, n4, n5⟩ := HG.out
              have hN6 := HN6.out
              have h4 := H4.out.1
              refine ⟨a6, m6, c6, l ++ [x], st4, H6.out.2.store (k := 3) (.slice a6 m6 c6), H6.out.1.move (kept_old hg6 (Nat.lt_irrefl X)) (fun g e => hg6.block g (rows_lt H6.out.1 g e).2 (fun e2 => by have := (rows_lt H6.out.1 g e).1; have := Option.some.inj e2; omega)), n3.step (by omega) H4.out.2 HO5.out.1, HO5.out.2, by omega, by omega, by omega⟩
            clear H6 HJ5 HR5 HO5 HG x3 y3 x6 y6 t0 t1 f0 f1
            generalize w6.setCell _ _ = V7 at H7 ⊢
            go_wp2
            go_roundw
            case rel => exact ⟨p2, j9, rfl, by go_num, ⟨hr1, hr2⟩, by omega, H7.out⟩
            case measure => simp [intOf]
          · obtain ⟨ra, rm, rc, rs, st4, g1, g2, g3, g4, g5, g6, g7⟩ := HL.out
            have hM : ManyIs cutRd (some (xs.drop 12)) rs st4 := g3.done (by
              by_cases hp0 : 0 ≤ p
              · left; omega
              · right; exact (pos_no g4 hp0).2)
            have HG : Hid (RJ w X [.int .i64 q0, .int .i64 q4, .int .i64 q8, .slice ra rm rc, .slice none 0 0] wr ∧ ManyIs cutRd (some (xs.drop 12)) rs st4 ∧ (rm = rs.length ∧ rm ≤ 4001) ∧ Lies kEnt (fun b => X < b) wr ra rc rs) := ⟨g1, hM, ⟨g6, g7⟩, (rows_lies g2 (fun b hb => by omega)).2.1⟩
            by_cases hp4 : 0 ≤ p ∧ p + 4 ≤ (m : Int)
            · obtain ⟨hp0, hp5⟩ := hp4
              obtain ⟨k, rfl, hk, rfl⟩ := pos_at g4 hp0
              have hj : j = 0 := by omega
              subst hj
              clear g1 g2 g3 g4 g5 g6 g7 hM HL hgo hp0 hp1 hp2
              have i1 : ¬ ((m : Int) < (k : Int) + 4) := by omega
              have i2 : (k : Int) ≤ (m : Int) := by omega
              have i3 : k ≠ cap := by omega
              have i4 : cap ≠ k := by omega
              have i5 : IntKind.i64.wrap ((k : Int) + 4) = (k : Int) + 4 := by rw [IntKind.wrap_i64]; omega
              have dk := put_by (cF.out wr k HG.out.1.below (by omega))
              go_upto_region 16 with (first
                | (go_at_call 16; (with_reducible refine dk.out.mono ?_); clear dk; rintro e w7 ⟨N2, rfl, hN2, H7⟩))
              obtain ⟨F, hF⟩ : ∃ F, F = w7.heap.size := ⟨_, rfl⟩
              have HCh : Hid (ManyIs cutRd (some (xs.drop 12)) rs (some (xs.drop k)) ∧ rm = rs.length ∧ rm ≤ 4001) := ⟨HG.out.2.1, HG.out.2.2.1⟩
              have HL2 : Hid (L2 w X F q0 q4 q8 ra rm rc rs xs (some (xs.drop k)) N2 ((k : Int) + 4) N2 w7) := by
                have hj := HG.out.1.later H7.out.2
                have hlen := HM.out
                have hs := H7.out.2.size
                exact ⟨none, 0, 0, [], some (xs.drop (k + 4)), hj, (HG.out.2.2.2.later H7.out.2).move (Kept.of_below (Below.refl _ _)) (fun b hb hx => ⟨hx, by omega⟩), Rows.nil _ _ _ _ _, .inl ⟨xs.drop (k + 4), xs.drop (k + 4), H7.out.1, by rw [List.length_drop]; have := hf0.out.1; omega, rfl, rfl⟩, .inr ⟨k + 4, by omega, by omega, rfl⟩, by simp, rfl, by omega, by omega, by have := hj.ord; omega⟩
              have HK4 : Hid (k + 4 ≤ 4000) := by show k + 4 ≤ 4000; omega
              clear HG H7 hF i1 i2 i3 i4 i5 hp5
              go_loopw [5, 8] (fun at_ nn wr => ∃ (p : Int) (j : Nat), at_ = .int .i64 p ∧ nn = .int .i64 (j : Int) ∧ (-1 ≤ p ∧ p ≤ 4000) ∧ j ≤ 4294967295 ∧ Hid (L2 w X F q0 q4 q8 ra rm rc rs xs (some (xs.drop k)) N2 p j wr)) (fun _ nn _ => (intOf nn).toNat)
              case atStart => exact ⟨(k : Int) + 4, N2, rfl, rfl, ⟨by omega, by have := HK4.out; omega⟩, hN2, HL2.out⟩
              case round =>
                obtain ⟨p, j, rfl, rfl, ⟨hp1, hp2⟩, hj, HL⟩ := hrel
                rename World => wr
                by_cases hgo : 0 < j ∧ 0 ≤ p
                · obtain ⟨hj0, hp0⟩ := hgo
                  obtain ⟨j9, rfl⟩ : ∃ j9, j = j9 + 1 := ⟨j - 1, by omega⟩
                  have i1 : (0 : Int) < (j9 : Int) + 1 := by omega
                  have i2 : IntKind.i64.wrap ((j9 : Int) + 1 - 1) = (j9 : Int) := by rw [IntKind.wrap_i64]; omega
                  obtain ⟨wa, wm, wc, l, st2, g1, g2, g3, g4, g5, g6, g7, g8, g9, g10⟩ := HL.out
                  have HG2 := put_by (And.intro g1 (And.intro g2 (And.intro g3 (And.intro g4 (And.intro g6 (And.intro g7 (And.intro g9 g10)))))))
                  have hne : st2 ≠ none := by obtain ⟨k, -, -, e⟩ := pos_at g5 hp0; rw [e]; simp
                  have H4 : Hid (wm ≤ 4000 ∧ st2 ≠ none) := ⟨by rw [g7]; exact g4.few cutWtL_len hne, hne⟩
                  have HP1 := put_by g5
                  have HBa := put_by ((Below.refl wr.heap.size wr).alloc (Nat.le_refl _) (.cells #[.slice none 0 0, .slice none 0 0, .bool false] 43))
                  have HT1 := put_by (Cls.new wr [.slice none 0 0, .slice none 0 0, .bool false] 43)
                  clear g1 g2 g3 g4 g5 g6 g7 g8 g9 g10 hne HL
                  go_upto_region 19 with (fail)
                  have HZ1 : Hid (wr.heap.size < (wr.alloc (.cells #[.slice none 0 0, .slice none 0 0, .bool false] 43)).heap.size) := by simp [Hid]
                  generalize wr.alloc (.cells #[.slice none 0 0, .slice none 0 0, .bool false] _) = V1 at HBa HT1 HZ1 ⊢
                  have HB1 : Hid (Below w.heap.size w V1) := HG2.out.1.below.trans (HBa.out.mono HG2.out.1.below.size)
                  go_upto_region 20 with (first
                    | (go_at_call 17; (with_reducible refine (cT.out _ _ st2 HB1.out HP1.out).mono ?_); rintro e w2 ⟨a1, m1, c1, p1, rfl, hq1, hq2, H2⟩; obtain ⟨t0, f0⟩ := (HT1.out.later (let ⟨_, _, _, _, _, _, _, hb⟩ := H2.out; hb)) 0 _ rfl))
                  have HT3 := put_by ((HT1.out.later (let ⟨_, _, _, _, _, _, _, hb⟩ := H2.out; hb)).set (k := 0) (.slice a1 m1 c1))
                  have H3 : Hid (∃ ts st3, TextIs st2 ts st3 ∧ Pos xs p1 st3 ∧ IsBody (w2.setCell ⟨wr.heap.size, 0, none⟩ (.slice a1 m1 c1)) (fun b => wr.heap.size < b) (.slice a1 m1 c1) ts ∧ Below wr.heap.size wr (w2.setCell ⟨wr.heap.size, 0, none⟩ (.slice a1 m1 c1)) ∧ wr.heap.size < (w2.setCell ⟨wr.heap.size, 0, none⟩ (.slice a1 m1 c1)).heap.size) := by
                    obtain ⟨ts, st3, k1, k2, k3, k4, k5, k6⟩ := H2.out
                    have hz := HZ1.out
                    refine ⟨ts, st3, k4, k5, ?_, (HBa.out.trans (k6.mono HBa.out.size)).setCell (Nat.le_refl _) _, by have := k6.size; simp; omega⟩
                    exact IsBody.move (kept_old (grown_set _) (Nat.lt_irrefl _)) (fun _ _ q => q) ⟨a1, c1, by rw [k1], k2, fun _ ad e => by have := k3 ad e; omega⟩
                  clear H2 HB1 HP1 HT1 HBa HZ1 t0 f0
                  generalize w2.setCell _ _ = V3 at HT3 H3 ⊢
                  obtain ⟨ts, st3, k1, k2, k3, k4, k5⟩ := H3.out
                  have HJ3 := put_by (HG2.out.1.later k4)
                  by_cases hin : 0 ≤ p1 ∧ p1 < (m : Int)
                  · obtain ⟨hin0, hin1⟩ := hin
                    obtain ⟨kk, rfl, hkk, rfl⟩ := pos_at k2 hin0
                    have hkm : kk < xs.length := by rw [← HM.out]; omega
                    have hd : xs.drop kk = xs[kk] :: xs.drop (kk + 1) := List.drop_eq_getElem_cons hkm
                    obtain ⟨b', off', e', kc, yl, yu⟩ := (HX.out.later HJ3.out.below).at (k := kk) hkm
                    cases e'
                    have hgd : xs.getD kk 0 = xs[kk] := by simp [List.getD, hkm]
                    rw [hgd] at kc yl yu
                    have H3b : Hid (TextIs st2 ts (some (xs[kk] :: xs.drop (kk + 1))) ∧ IsBody V3 (fun b => wr.heap.size < b) (.slice a1 m1 c1) ts ∧ Below wr.heap.size wr V3 ∧ wr.heap.size < V3.heap.size ∧ Pos xs ((kk : Int) + 1) (some (xs.drop (kk + 1)))) := ⟨by rw [← hd]; exact k1, k3, k4, k5, .inr ⟨kk + 1, by omega, by omega, rfl⟩⟩
                    generalize xs[kk] = y at H3b kc yl yu
                    obtain ⟨g, hg⟩ : ∃ g, decide (y = 1) = g := ⟨_, rfl⟩
                    have HGy := put_by hg
                    have hg2 : (y == 1) = g := by rw [← hg]; exact rfl
                    obtain ⟨t2, f2⟩ := HT3.out 2 _ rfl
                    have m0 : ¬ ((kk : Int) < 0) := by omega
                    have m1' : ¬ ((m : Int) ≤ (kk : Int)) := by omega
                    have m2' : 0 ≤ (kk : Int) := by omega
                    clear k1 k2 k3 k4 k5 H3 hd hgd hkm hkk
                    go_upto_region 23 with (fail)
                    have HT4 := put_by (HT3.out.set (k := 2) (.bool g))
                    have H4c : Hid (IsBody (V3.setCell ⟨wr.heap.size, 2, none⟩ (.bool g)) (fun b => wr.heap.size < b) (.slice a1 m1 c1) ts ∧ Below wr.heap.size wr (V3.setCell ⟨wr.heap.size, 2, none⟩ (.bool g)) ∧ wr.heap.size < (V3.setCell ⟨wr.heap.size, 2, none⟩ (.bool g)).heap.size) := ⟨IsBody.move (kept_old (grown_set _) (Nat.lt_irrefl _)) (fun _ _ q => q) H3b.out.2.1, H3b.out.2.2.1.setCell (Nat.le_refl _) _, by simpa using H3b.out.2.2.2.1⟩
                    clear HT3 t2 f2 kc HJ3
                    generalize V3.setCell _ _ = V4 at HT4 H4c ⊢
                    have HB4 : Hid (Below w.heap.size w V4) := HG2.out.1.below.trans (H4c.out.2.1.mono HG2.out.1.below.size)
                    have c9 : Hid (Calls Try.prog 17 #[.slice (some ⟨b, off, none⟩) m cap, .int .i64 ((kk : Int) + 1)] V4 fun e w' => ∃ (a2 : Option Addr) (m2 c2 : Nat) (p2 : Int), e = .returned (.tuple #[.slice a2 m2 c2, .int .i64 p2]) ∧ -1 ≤ p2 ∧ p2 ≤ 4000 ∧ Hid (Cls w' wr.heap.size [.slice a1 m1 c1, .slice none 0 0, .bool g] ∧ ∃ x st4, OneIs cutWtL st2 x st4 ∧ Pos xs p2 st4 ∧ kWt.rel (fun b => wr.heap.size < b) w' x [.slice a1 m1 c1, .slice a2 m2 c2, .bool g] ∧ Below wr.heap.size wr w')) := by
                      refine (cT.out V4 _ _ HB4.out H3b.out.2.2.2.2).mono ?_
                      rintro e w' ⟨a2, m2, c2, p2, rfl, r1, r2, ts2, st4, n1, n2, n3, n4, n5, n6⟩
                      exact ⟨a2, m2, c2, p2, rfl, r1, r2, HT4.out.later n6, ⟨ts, ts2, g⟩, st4, wtl_of H3b.out.1 HGy.out n4, n5, ⟨_, _, rfl, H4c.out.1.later n6, a2, c2, by rw [n1], n2, fun _ ad e => by have := n3 ad e; have := H4c.out.2.2; omega⟩, H4c.out.2.1.trans (n6.mono H4c.out.2.1.size)⟩
                    clear hg hg2 HGy yl yu
                    go_upto_region 24 with (first
                      | (go_at_call 17; (with_reducible refine c9.out.mono ?_); clear c9; rintro e w4 ⟨a2, m2, c2, p2, rfl, hr1, hr2, H4b⟩; obtain ⟨t1, f1⟩ := H4b.out.1 1 _ rfl))
                    have HT5 := put_by (H4b.out.1.set (k := 1) (.slice a2 m2 c2))
                    have H5 : Hid (∃ x st4, OneIs cutWtL st2 x st4 ∧ Pos xs p2 st4 ∧ kWt.rel (fun b => wr.heap.size < b) (w4.setCell ⟨wr.heap.size, 1, none⟩ (.slice a2 m2 c2)) x [.slice a1 m1 c1, .slice a2 m2 c2, .bool g] ∧ Below wr.heap.size wr (w4.setCell ⟨wr.heap.size, 1, none⟩ (.slice a2 m2 c2))) := by
                      obtain ⟨-, x, st4, k1, k2, k3, k4⟩ := H4b.out
                      exact ⟨x, st4, k1, k2, kWt.move (kept_old (grown_set _) (Nat.lt_irrefl _)) (fun _ _ q => q) k3, k4.setCell (Nat.le_refl _) _⟩
                    clear H3b H4c HT4 H4b HB4 t1 f1
                    generalize w4.setCell _ _ = V5 at HT5 H5 ⊢
                    obtain ⟨x, st4, k1, k2, k3, k4⟩ := H5.out
                    have HJ5 : Hid (RJ w X [.int .i64 q0, .int .i64 q4, .int .i64 q8, .slice ra rm rc, .slice wa wm wc] V5 ∧ Rows kWt (fun b => F ≤ b) V5 F 43 (.slice wa wm wc) l ∧ Lies kEnt (fun b => X < b ∧ b < F) V5 ra rc rs ∧ F ≤ V5.heap.size) := ⟨HG2.out.1.later k4, HG2.out.2.2.1.later k4, HG2.out.2.1.later k4, Nat.le_trans HG2.out.2.2.2.2.2.2.1 k4.size⟩
                    have HR5 : Hid (kWt.rel (fun b => F ≤ b ∧ (Value.slice wa wm wc).ownBlock ≠ some b) V5 x [.slice a1 m1 c1, .slice a2 m2 c2, .bool g]) := kWt.move (Kept.of_below (Below.refl _ _)) (fun b _ hb => ⟨by have := HG2.out.2.2.2.2.2.2.1; omega, fun e => by have := (rows_lt HG2.out.2.2.1 b e).2; omega⟩) k3
                    have HO5 : Hid (OneIs cutWtL st2 x st4 ∧ Pos xs p2 st4) := ⟨k1, k2⟩
                    obtain ⟨x3, y3⟩ := HJ5.out.1.var 4 _ rfl
                    obtain ⟨t0, -⟩ := HT5.out 0 _ rfl
                    obtain ⟨t1, -⟩ := HT5.out 1 _ rfl
                    obtain ⟨t2, -⟩ := HT5.out 2 _ rfl
                    clear k1 k2 k3 k4 H5 HT5
                    go_upto_region 17 with (first
                      | (at_builtin; refine wpList_append_one (K := kWt) (ok := fun b => F ≤ b) eltW rfl (.tmp 114) (.tmp 116) rfl F (.slice wa wm wc) l rfl HJ5.out.2.1 x [.slice a1 m1 c1, .slice a2 m2 c2, .bool g] _ _ rfl rfl HR5.out (fun b hb => by have := HJ5.out.2.2.2; show F ≤ b; omega) (by have := H4.out.1; have := HG2.out.2.2.2.2.2.1; omega) (by decide) HJ5.out.2.2.2 ?_; intro v' w6 r1 r2 r3; obtain ⟨a6, c6, hv'⟩ := rows_form r1; subst hv'; have H6 := put_by (And.intro r1 (And.intro (HJ5.out.1.own r2 (fun g e => by have := (rows_lt HJ5.out.2.1 g e).1; have := HG2.out.2.2.2.2.2.2.2; omega)) (And.intro (HJ5.out.2.2.1.move (Kept.of_grown r2 (fun b hb e => by have := (rows_lt HJ5.out.2.1 b e).1; omega)) (fun _ _ q => q)) r2.size))); obtain ⟨x6, y6⟩ := H6.out.2.1.var 4 _ rfl; clear r1 r2 r3; have HN6 : Hid ((l ++ [x]).length = wm + 1) := (by rw [List.length_append, List.length_singleton, ← HG2.out.2.2.2.2.2.1]; exact rfl); generalize (l ++ [x]).length = m6 at H6 HN6 x6 ⊢))
                    have H7 : Hid (L2 w X F q0 q4 q8 ra rm rc rs xs (some (xs.drop k)) N2 p2 j9 (w6.setCell ⟨X, 4, none⟩ (.slice a6 m6 c6))) := by
                      have hg6 : w6.grownBy (w6.setCell ⟨X, 4, none⟩ (.slice a6 m6 c6)) (some X) := grown_set _
                      have hlen : (l ++ [x]).length = l.length + 1 := by simp
                      obtain ⟨n1, n2, n3, n4, n5, n6, n7, n8⟩ := HG2.out
                      have hN6 := HN6.out
                      have h4 := H4.out.1
                      have h5 := HJ5.out.2.2.2
                      refine ⟨a6, m6, c6, l ++ [x], st4, H6.out.2.1.store (k := 4) (.slice a6 m6 c6), H6.out.2.2.1.move (kept_old hg6 (fun h => Nat.lt_irrefl X h.1)) (fun _ _ q => q), H6.out.1.move (kept_old hg6 (by omega)) (fun g e => hg6.block g (rows_lt H6.out.1 g e).2 (fun e2 => by have := (rows_lt H6.out.1 g e).1; have := Option.some.inj e2; omega)), n4.step (by omega) H4.out.2 HO5.out.1, HO5.out.2, by omega, by omega, by omega, by have := H6.out.2.2.2; simp; omega, n8⟩
                    clear H6 HJ5 HR5 HO5 HG2 x3 y3 x6 y6 t0 t1 t2
                    generalize w6.setCell _ _ = V7 at H7 ⊢
                    go_wp2
                    go_roundw
                    case rel => exact ⟨p2, j9, rfl, by go_num, ⟨hr1, hr2⟩, by omega, H7.out⟩
                    case measure => simp [intOf]
                  · have HZ0 : Hid (RJ w X [.int .i64 q0, .int .i64 q4, .int .i64 q8, .slice ra rm rc, .slice wa wm wc] V3 ∧ ∀ y, ¬ DecIs xs y) := by
                      refine ⟨HJ3.out, ?_⟩
                      have hbad : st2.bind cutWtL = none := wtl_bad k1 (by
                        by_cases hp : 0 ≤ p1
                        · obtain ⟨kk, rfl, hkk, rfl⟩ := pos_at k2 hp
                          right
                          rw [List.drop_eq_nil_of_le (by rw [← HM.out]; omega)]
                        · left; exact (pos_no k2 hp).2)
                      have hst := HG2.out.2.2.2.1.step (x := ⟨[], [], false⟩) (by have := HG2.out.2.2.2.2.1; omega) H4.out.2 (.inr ⟨hbad, rfl⟩)
                      exact (HN.out rs _ _ none HCh.out.1 (hst.done (.inr rfl))).none (by simp)
                    clear k1 k2 k3 k4 k5 H3 HT3 HJ3
                    by_cases hp : p1 < 0
                    · obtain ⟨u0, o0⟩ := HZ0.out.1.res 0 _ rfl
                      obtain ⟨u1, o1⟩ := HZ0.out.1.res 1 _ rfl
                      obtain ⟨u2, o2⟩ := HZ0.out.1.res 2 _ rfl
                      obtain ⟨u3, o3⟩ := HZ0.out.1.res 3 _ rfl
                      obtain ⟨u4, o4⟩ := HZ0.out.1.res 4 _ rfl
                      have HF := put_by (five_set (N := w.heap.size) (HZ0.out.1.res) rfl (Nat.le_refl _) (.int .i64 0) (.int .i64 0) (.int .i64 0) (.slice none 0 0) (.slice none 0 0))
                      have HQ := put_by (And.intro (HZ0.out.1.below) (HZ0.out.2))
                      go_wp2
                      generalize ((((V3.setCell _ _).setCell _ _).setCell _ _).setCell _ _).setCell _ _ = W9 at HF ⊢
                      obtain ⟨v0, -⟩ := HF.out.1 0 _ rfl
                      obtain ⟨v1, -⟩ := HF.out.1 1 _ rfl
                      obtain ⟨v2, -⟩ := HF.out.1 2 _ rfl
                      obtain ⟨v3, -⟩ := HF.out.1 3 _ rfl
                      obtain ⟨v4, -⟩ := HF.out.1 4 _ rfl
                      go_wp2
                      exact bodyPost_ret (v := .tuple #[.agg #[.int .i64 0, .int .i64 0, .int .i64 0, .slice none 0 0, .slice none 0 0], .int .i64 4]) (by simp [results, Try.results8, go_sem, asAddr, v0, v1, v2, v3, v4]) rfl (HP.out _ _ (DPost.zero (HQ.out.1.trans HF.out.2.1) HQ.out.2))
                    · have i3 : (m : Int) ≤ p1 := by omega
                      obtain ⟨u0, o0⟩ := HZ0.out.1.res 0 _ rfl
                      obtain ⟨u1, o1⟩ := HZ0.out.1.res 1 _ rfl
                      obtain ⟨u2, o2⟩ := HZ0.out.1.res 2 _ rfl
                      obtain ⟨u3, o3⟩ := HZ0.out.1.res 3 _ rfl
                      obtain ⟨u4, o4⟩ := HZ0.out.1.res 4 _ rfl
                      have HF := put_by (five_set (N := w.heap.size) (HZ0.out.1.res) rfl (Nat.le_refl _) (.int .i64 0) (.int .i64 0) (.int .i64 0) (.slice none 0 0) (.slice none 0 0))
                      have HQ := put_by (And.intro (HZ0.out.1.below) (HZ0.out.2))
                      go_wp2
                      generalize ((((V3.setCell _ _).setCell _ _).setCell _ _).setCell _ _).setCell _ _ = W9 at HF ⊢
                      obtain ⟨v0, -⟩ := HF.out.1 0 _ rfl
                      obtain ⟨v1, -⟩ := HF.out.1 1 _ rfl
                      obtain ⟨v2, -⟩ := HF.out.1 2 _ rfl
                      obtain ⟨v3, -⟩ := HF.out.1 3 _ rfl
                      obtain ⟨v4, -⟩ := HF.out.1 4 _ rfl
                      go_wp2
                      exact bodyPost_ret (v := .tuple #[.agg #[.int .i64 0, .int .i64 0, .int .i64 0, .slice none 0 0, .slice none 0 0], .int .i64 4]) (by simp [results, Try.results8, go_sem, asAddr, v0, v1, v2, v3, v4]) rfl (HP.out _ _ (DPost.zero (HQ.out.1.trans HF.out.2.1) HQ.out.2))
                · obtain ⟨wa, wm, wc, ws, st5, g1, g2, g3, g4, g5, g6, g7, g8, g9, g10⟩ := HL.out
                  have hM : ManyIs cutWtL (some (xs.drop k)) ws st5 := g4.done (by
                    by_cases hp0 : 0 ≤ p
                    · left; omega
                    · right; exact (pos_no g5 hp0).2)
                  have HCL : Hid (ChainL xs q0 q4 q8 rs ws st5) := HN.out rs ws _ st5 HCh.out.1 hM
                  have HJ := put_by g1
                  have HI : Hid (ItIs (fun _ => True) wr rs ws ra rc wa wc ∧ rm = rs.length ∧ wm = ws.length ∧ ItIs (fun b => w.heap.size < b) wr rs ws ra rc wa wc) := by
                    have hw := (rows_lies g3 (fun b hb => hb)).2.1
                    have hlr := HCh.out.2
                    have ho := g1.ord
                    exact ⟨⟨g2.move (Kept.of_below (Below.refl _ _)) (fun _ _ _ => trivial), hw.move (Kept.of_below (Below.refl _ _)) (fun _ _ _ => trivial), by omega, by omega⟩, hlr.1, g7, ⟨g2.move (Kept.of_below (Below.refl _ _)) (fun b _ hb => by omega), hw.move (Kept.of_below (Below.refl _ _)) (fun b _ hb => by omega), by omega, by omega⟩⟩
                  by_cases hpm : p = (m : Int)
                  · have hj0 : j = 0 := by omega
                    subst hj0
                    obtain ⟨r, hr⟩ := bool_of (MayI ⟨q0, q4, q8, rs, ws⟩)
                    have hMay := IntentMay_any (fun b => w.heap.size < b) q0 q4 q8 rs ws ra rc wa wc wr HI.out.2.2.2 r hr
                    rw [← HI.out.2.1, ← HI.out.2.2.1] at hMay
                    have HU : Hid (∀ y, DecIs xs y → y = ⟨q0, q4, q8, rs, ws⟩) := fun y hy => by
                      have h := HCL.out
                      rw [← hy.2.1] at h
                      exact (h.same hy.1).2
                    have HR := put_by hr
                    have d1 : Hid (Calls Try.prog 18 #[.agg #[.int .i64 q0, .int .i64 q4, .int .i64 q8, .slice ra rm rc, .slice wa wm wc]] wr fun e w' => e = .returned (.bool r) ∧ Hid (RJ w X [.int .i64 q0, .int .i64 q4, .int .i64 q8, .slice ra rm rc, .slice wa wm wc] w' ∧ ItIs (fun b => w.heap.size < b) w' rs ws ra rc wa wc)) := by
                      refine hMay.mono ?_
                      rintro e w' ⟨rfl, hb⟩
                      exact ⟨rfl, HJ.out.later hb, HI.out.2.2.2.later hb⟩
                    obtain ⟨x0, -⟩ := HJ.out.var 0 _ rfl
                    obtain ⟨x1, -⟩ := HJ.out.var 1 _ rfl
                    obtain ⟨x2, -⟩ := HJ.out.var 2 _ rfl
                    obtain ⟨x3, -⟩ := HJ.out.var 3 _ rfl
                    obtain ⟨x4, -⟩ := HJ.out.var 4 _ rfl
                    have HLn : Hid (rm = rs.length ∧ wm = ws.length) := ⟨HI.out.2.1, HI.out.2.2.1⟩
                    subst hpm
                    clear g1 g2 g3 g4 g5 g6 g7 g8 g9 g10 hM HCL HJ HI HL hMay hr hgo
                    cases r with
                    | false =>
                      have HNo : Hid (∀ y, ¬ DecIs xs y) := fun y hy => by
                        have e := HU.out y hy
                        have := HR.out.2 (e ▸ hy.1)
                        cases this
                      go_upto_region 26 with (first
                        | (go_at_call 18; (with_reducible refine d1.out.mono ?_); clear d1; rintro e w8 ⟨rfl, H8⟩))
                      obtain ⟨u0, o0⟩ := H8.out.1.res 0 _ rfl
                      obtain ⟨u1, o1⟩ := H8.out.1.res 1 _ rfl
                      obtain ⟨u2, o2⟩ := H8.out.1.res 2 _ rfl
                      obtain ⟨u3, o3⟩ := H8.out.1.res 3 _ rfl
                      obtain ⟨u4, o4⟩ := H8.out.1.res 4 _ rfl
                      have HF := put_by (five_set (N := w.heap.size) (H8.out.1.res) rfl (Nat.le_refl _) (.int .i64 0) (.int .i64 0) (.int .i64 0) (.slice none 0 0) (.slice none 0 0))
                      have HQ := put_by (And.intro (H8.out.1.below) (HNo.out))
                      go_wp2
                      generalize ((((w8.setCell _ _).setCell _ _).setCell _ _).setCell _ _).setCell _ _ = W9 at HF ⊢
                      obtain ⟨v0, -⟩ := HF.out.1 0 _ rfl
                      obtain ⟨v1, -⟩ := HF.out.1 1 _ rfl
                      obtain ⟨v2, -⟩ := HF.out.1 2 _ rfl
                      obtain ⟨v3, -⟩ := HF.out.1 3 _ rfl
                      obtain ⟨v4, -⟩ := HF.out.1 4 _ rfl
                      go_wp2
                      exact bodyPost_ret (v := .tuple #[.agg #[.int .i64 0, .int .i64 0, .int .i64 0, .slice none 0 0, .slice none 0 0], .int .i64 4]) (by simp [results, Try.results8, go_sem, asAddr, v0, v1, v2, v3, v4]) rfl (HP.out _ _ (DPost.zero (HQ.out.1.trans HF.out.2.1) HQ.out.2))
                    | true =>
                      have d2 : Hid (∀ V, (RJ w X [.int .i64 q0, .int .i64 q4, .int .i64 q8, .slice ra rm rc, .slice wa wm wc] V ∧ ItIs (fun b => w.heap.size < b) V rs ws ra rc wa wc) → Calls Try.prog 20 #[.agg #[.int .i64 q0, .int .i64 q4, .int .i64 q8, .slice ra rm rc, .slice wa wm wc]] V fun e w' => ∃ (a2 : Option Addr) (m2 c2 : Nat), e = .returned (.slice a2 m2 c2) ∧ Hid (m2 = (encI ⟨q0, q4, q8, rs, ws⟩).length ∧ Octs w' a2 c2 (encI ⟨q0, q4, q8, rs, ws⟩) ∧ RJ w X [.int .i64 q0, .int .i64 q4, .int .i64 q8, .slice ra rm rc, .slice wa wm wc] w' ∧ ItIs (fun b => w.heap.size < b) w' rs ws ra rc wa wc)) := fun V ⟨h1, h2⟩ => by
                        have h := intentBytes_any (fun b => w.heap.size < b) q0 q4 q8 rs ws ra rc wa wc V h2 (HR.out.1 rfl)
                        rw [← HLn.out.1, ← HLn.out.2] at h
                        refine h.mono ?_
                        rintro e w' ⟨a2, m2, c2, rfl, g1, g2, -, g3⟩
                        exact ⟨a2, m2, c2, rfl, g1, g2, h1.later g3, h2.later g3⟩
                      obtain ⟨E, hE⟩ := bool_of (encI ⟨q0, q4, q8, rs, ws⟩ = xs)
                      have d3 : Hid (∀ (V : World) (a2 : Option Addr) (m2 c2 : Nat), (m2 = (encI ⟨q0, q4, q8, rs, ws⟩).length ∧ Octs V a2 c2 (encI ⟨q0, q4, q8, rs, ws⟩) ∧ RJ w X [.int .i64 q0, .int .i64 q4, .int .i64 q8, .slice ra rm rc, .slice wa wm wc] V ∧ ItIs (fun b => w.heap.size < b) V rs ws ra rc wa wc) → Calls Try.prog 19 #[.slice a2 m2 c2, .slice (some ⟨b, off, none⟩) m cap] V fun e w' => e = .returned (.bool E) ∧ Hid (RJ w X [.int .i64 q0, .int .i64 q4, .int .i64 q8, .slice ra rm rc, .slice wa wm wc] w' ∧ ItIs (fun b => w.heap.size < b) w' rs ws ra rc wa wc)) := fun V a2 m2 c2 ⟨h1, h2, h3, h4⟩ => by
                        have h := bytesSame_any a2 _ c2 cap _ xs V h2 (HX.out.later h3.below)
                        rw [← h1, ← HM.out] at h
                        refine h.mono ?_
                        rintro e w' ⟨rfl, rfl⟩
                        exact ⟨by congr 2; cases E with | true => exact decide_eq_true (hE.1 rfl) | false => exact decide_eq_false (fun e => by cases hE.2 e), h3, h4⟩
                      have HE2 := put_by hE
                      clear hE
                      have HM1 : Hid (MayI ⟨q0, q4, q8, rs, ws⟩) := HR.out.1 rfl
                      clear HR
                      cases E with
                      | false =>
                        have HNo : Hid (∀ y, ¬ DecIs xs y) := fun y hy => by
                          have e := HU.out y hy
                          have := HE2.out.2 (e ▸ hy.2.1)
                          cases this
                        clear HE2 HU HM1
                        go_upto_region 26 with (first
                          | (go_at_call 18; (with_reducible refine d1.out.mono ?_); clear d1; rintro e w8 ⟨rfl, H8⟩; obtain ⟨y0, -⟩ := H8.out.1.var 0 _ rfl; obtain ⟨y1, -⟩ := H8.out.1.var 1 _ rfl; obtain ⟨y2, -⟩ := H8.out.1.var 2 _ rfl; obtain ⟨y3, -⟩ := H8.out.1.var 3 _ rfl; obtain ⟨y4, -⟩ := H8.out.1.var 4 _ rfl)
                          | (go_at_call 20; (with_reducible refine (d2.out _ H8.out).mono ?_); clear d2; rintro e w9 ⟨a2, m2, c2, rfl, H9⟩)
                          | (go_at_call 19; (with_reducible refine (d3.out _ _ _ _ H9.out).mono ?_); clear d3; rintro e w10 ⟨rfl, H10⟩))
                        obtain ⟨u0, o0⟩ := H10.out.1.res 0 _ rfl
                        obtain ⟨u1, o1⟩ := H10.out.1.res 1 _ rfl
                        obtain ⟨u2, o2⟩ := H10.out.1.res 2 _ rfl
                        obtain ⟨u3, o3⟩ := H10.out.1.res 3 _ rfl
                        obtain ⟨u4, o4⟩ := H10.out.1.res 4 _ rfl
                        have HF := put_by (five_set (N := w.heap.size) (H10.out.1.res) rfl (Nat.le_refl _) (.int .i64 0) (.int .i64 0) (.int .i64 0) (.slice none 0 0) (.slice none 0 0))
                        have HQ := put_by (And.intro (H10.out.1.below) (HNo.out))
                        go_wp2
                        generalize ((((w10.setCell _ _).setCell _ _).setCell _ _).setCell _ _).setCell _ _ = W9 at HF ⊢
                        obtain ⟨v0, -⟩ := HF.out.1 0 _ rfl
                        obtain ⟨v1, -⟩ := HF.out.1 1 _ rfl
                        obtain ⟨v2, -⟩ := HF.out.1 2 _ rfl
                        obtain ⟨v3, -⟩ := HF.out.1 3 _ rfl
                        obtain ⟨v4, -⟩ := HF.out.1 4 _ rfl
                        go_wp2
                        exact bodyPost_ret (v := .tuple #[.agg #[.int .i64 0, .int .i64 0, .int .i64 0, .slice none 0 0, .slice none 0 0], .int .i64 4]) (by simp [results, Try.results8, go_sem, asAddr, v0, v1, v2, v3, v4]) rfl (HP.out _ _ (DPost.zero (HQ.out.1.trans HF.out.2.1) HQ.out.2))
                      | true =>
                        have HDx : Hid (DecIs xs ⟨(q0 : Int), (q4 : Int), (q8 : Int), rs, ws⟩) := ⟨HM1.out, HE2.out.1 rfl, hf0.out.1⟩
                        clear HE2 HU HM1
                        go_upto_region 27 with (first
                          | (go_at_call 18; (with_reducible refine d1.out.mono ?_); clear d1; rintro e w8 ⟨rfl, H8⟩; obtain ⟨y0, -⟩ := H8.out.1.var 0 _ rfl; obtain ⟨y1, -⟩ := H8.out.1.var 1 _ rfl; obtain ⟨y2, -⟩ := H8.out.1.var 2 _ rfl; obtain ⟨y3, -⟩ := H8.out.1.var 3 _ rfl; obtain ⟨y4, -⟩ := H8.out.1.var 4 _ rfl)
                          | (go_at_call 20; (with_reducible refine (d2.out _ H8.out).mono ?_); clear d2; rintro e w9 ⟨a2, m2, c2, rfl, H9⟩)
                          | (go_at_call 19; (with_reducible refine (d3.out _ _ _ _ H9.out).mono ?_); clear d3; rintro e w10 ⟨rfl, H10⟩; obtain ⟨v0', -⟩ := H10.out.1.var 0 _ rfl; obtain ⟨v1', -⟩ := H10.out.1.var 1 _ rfl; obtain ⟨v2', -⟩ := H10.out.1.var 2 _ rfl; obtain ⟨v3', -⟩ := H10.out.1.var 3 _ rfl; obtain ⟨v4', -⟩ := H10.out.1.var 4 _ rfl))
                        obtain ⟨u0, o0⟩ := H10.out.1.res 0 _ rfl
                        obtain ⟨u1, o1⟩ := H10.out.1.res 1 _ rfl
                        obtain ⟨u2, o2⟩ := H10.out.1.res 2 _ rfl
                        obtain ⟨u3, o3⟩ := H10.out.1.res 3 _ rfl
                        obtain ⟨u4, o4⟩ := H10.out.1.res 4 _ rfl
                        have HF := put_by (five_set (N := w.heap.size) H10.out.1.res rfl (Nat.le_refl _) (.int .i64 q0) (.int .i64 q4) (.int .i64 q8) (.slice ra rm rc) (.slice wa wm wc))
                        go_wp2
                        generalize ((((w10.setCell _ _).setCell _ _).setCell _ _).setCell _ _).setCell _ _ = W9 at HF ⊢
                        obtain ⟨v0, -⟩ := HF.out.1 0 _ rfl
                        obtain ⟨v1, -⟩ := HF.out.1 1 _ rfl
                        obtain ⟨v2, -⟩ := HF.out.1 2 _ rfl
                        obtain ⟨v3, -⟩ := HF.out.1 3 _ rfl
                        obtain ⟨v4, -⟩ := HF.out.1 4 _ rfl
                        have HD9 : Hid (DPost xs w (.returned (.tuple #[.agg #[.int .i64 q0, .int .i64 q4, .int .i64 q8, .slice ra rm rc, .slice wa wm wc], .int .i64 0])) W9) := ⟨(q0 : Int), (q4 : Int), (q8 : Int), ra, rm, rc, wa, wm, wc, 0, rfl, H10.out.1.below.trans HF.out.2.1, rs, ws, HLn.out.1, HLn.out.2, ⟨H10.out.2.reads.move (HF.out.2.2 _ (Nat.lt_irrefl _)) (fun _ _ h => Nat.le_of_lt h), H10.out.2.writes.move (HF.out.2.2 _ (Nat.lt_irrefl _)) (fun _ _ h => Nat.le_of_lt h), H10.out.2.few⟩, .inl ⟨HDx.out, rfl⟩⟩
                        go_wp2
                        exact bodyPost_ret (v := .tuple #[.agg #[.int .i64 q0, .int .i64 q4, .int .i64 q8, .slice ra rm rc, .slice wa wm wc], .int .i64 0]) (by simp [results, Try.results8, go_sem, asAddr, v0, v1, v2, v3, v4]) rfl (HP.out _ _ HD9.out)
                  · have HZ0 : Hid (RJ w X [.int .i64 q0, .int .i64 q4, .int .i64 q8, .slice ra rm rc, .slice wa wm wc] wr ∧ ∀ y, ¬ DecIs xs y) := ⟨HJ.out, HCL.out.none (fun e => hpm (by
                      rcases g5 with ⟨_, e2⟩ | ⟨kk, rfl, hkk, e2⟩
                      · rw [e2] at e; cases e
                      · rw [e2] at e
                        have := congrArg List.length (Option.some.inj e)
                        rw [List.length_drop, List.length_nil, ← HM.out] at this
                        have := HM.out
                        omega))⟩
                    clear g1 g2 g3 g4 g5 g6 g7 g8 g9 g10 hM HCL HJ HI HL
                    have ipm : (p != (m : Int)) = true := by simpa using hpm
                    by_cases hp0 : 0 ≤ p
                    · have i2 : ¬ (0 : Int) < (j : Int) := by omega
                      obtain ⟨u0, o0⟩ := HZ0.out.1.res 0 _ rfl
                      obtain ⟨u1, o1⟩ := HZ0.out.1.res 1 _ rfl
                      obtain ⟨u2, o2⟩ := HZ0.out.1.res 2 _ rfl
                      obtain ⟨u3, o3⟩ := HZ0.out.1.res 3 _ rfl
                      obtain ⟨u4, o4⟩ := HZ0.out.1.res 4 _ rfl
                      have HF := put_by (five_set (N := w.heap.size) (HZ0.out.1.res) rfl (Nat.le_refl _) (.int .i64 0) (.int .i64 0) (.int .i64 0) (.slice none 0 0) (.slice none 0 0))
                      have HQ := put_by (And.intro (HZ0.out.1.below) (HZ0.out.2))
                      go_wp2
                      generalize ((((wr.setCell _ _).setCell _ _).setCell _ _).setCell _ _).setCell _ _ = W9 at HF ⊢
                      obtain ⟨v0, -⟩ := HF.out.1 0 _ rfl
                      obtain ⟨v1, -⟩ := HF.out.1 1 _ rfl
                      obtain ⟨v2, -⟩ := HF.out.1 2 _ rfl
                      obtain ⟨v3, -⟩ := HF.out.1 3 _ rfl
                      obtain ⟨v4, -⟩ := HF.out.1 4 _ rfl
                      go_wp2
                      exact bodyPost_ret (v := .tuple #[.agg #[.int .i64 0, .int .i64 0, .int .i64 0, .slice none 0 0, .slice none 0 0], .int .i64 4]) (by simp [results, Try.results8, go_sem, asAddr, v0, v1, v2, v3, v4]) rfl (HP.out _ _ (DPost.zero (HQ.out.1.trans HF.out.2.1) HQ.out.2))
                    · have i1 : ¬ (0 : Int) ≤ p := by omega
                      by_cases hj0 : (0 : Int) < (j : Int)
                      · obtain ⟨u0, o0⟩ := HZ0.out.1.res 0 _ rfl
                        obtain ⟨u1, o1⟩ := HZ0.out.1.res 1 _ rfl
                        obtain ⟨u2, o2⟩ := HZ0.out.1.res 2 _ rfl
                        obtain ⟨u3, o3⟩ := HZ0.out.1.res 3 _ rfl
                        obtain ⟨u4, o4⟩ := HZ0.out.1.res 4 _ rfl
                        have HF := put_by (five_set (N := w.heap.size) (HZ0.out.1.res) rfl (Nat.le_refl _) (.int .i64 0) (.int .i64 0) (.int .i64 0) (.slice none 0 0) (.slice none 0 0))
                        have HQ := put_by (And.intro (HZ0.out.1.below) (HZ0.out.2))
                        go_wp2
                        generalize ((((wr.setCell _ _).setCell _ _).setCell _ _).setCell _ _).setCell _ _ = W9 at HF ⊢
                        obtain ⟨v0, -⟩ := HF.out.1 0 _ rfl
                        obtain ⟨v1, -⟩ := HF.out.1 1 _ rfl
                        obtain ⟨v2, -⟩ := HF.out.1 2 _ rfl
                        obtain ⟨v3, -⟩ := HF.out.1 3 _ rfl
                        obtain ⟨v4, -⟩ := HF.out.1 4 _ rfl
                        go_wp2
                        exact bodyPost_ret (v := .tuple #[.agg #[.int .i64 0, .int .i64 0, .int .i64 0, .slice none 0 0, .slice none 0 0], .int .i64 4]) (by simp [results, Try.results8, go_sem, asAddr, v0, v1, v2, v3, v4]) rfl (HP.out _ _ (DPost.zero (HQ.out.1.trans HF.out.2.1) HQ.out.2))
                      · obtain ⟨u0, o0⟩ := HZ0.out.1.res 0 _ rfl
                        obtain ⟨u1, o1⟩ := HZ0.out.1.res 1 _ rfl
                        obtain ⟨u2, o2⟩ := HZ0.out.1.res 2 _ rfl
                        obtain ⟨u3, o3⟩ := HZ0.out.1.res 3 _ rfl
                        obtain ⟨u4, o4⟩ := HZ0.out.1.res 4 _ rfl
                        have HF := put_by (five_set (N := w.heap.size) (HZ0.out.1.res) rfl (Nat.le_refl _) (.int .i64 0) (.int .i64 0) (.int .i64 0) (.slice none 0 0) (.slice none 0 0))
                        have HQ := put_by (And.intro (HZ0.out.1.below) (HZ0.out.2))
                        go_wp2
                        generalize ((((wr.setCell _ _).setCell _ _).setCell _ _).setCell _ _).setCell _ _ = W9 at HF ⊢
                        obtain ⟨v0, -⟩ := HF.out.1 0 _ rfl
                        obtain ⟨v1, -⟩ := HF.out.1 1 _ rfl
                        obtain ⟨v2, -⟩ := HF.out.1 2 _ rfl
                        obtain ⟨v3, -⟩ := HF.out.1 3 _ rfl
                        obtain ⟨v4, -⟩ := HF.out.1 4 _ rfl
                        go_wp2
                        exact bodyPost_ret (v := .tuple #[.agg #[.int .i64 0, .int .i64 0, .int .i64 0, .slice none 0 0, .slice none 0 0], .int .i64 4]) (by simp [results, Try.results8, go_sem, asAddr, v0, v1, v2, v3, v4]) rfl (HP.out _ _ (DPost.zero (HQ.out.1.trans HF.out.2.1) HQ.out.2))
            · have HNo : Hid (∀ y, ¬ DecIs xs y) := by
                refine (HN.out rs [] st4 none hM (.inr ⟨fun n2 b2 e => ?_, rfl⟩)).none (by simp)
                exfalso
                by_cases hp0 : 0 ≤ p
                · obtain ⟨k, rfl, hk, rfl⟩ := pos_at g4 hp0
                  have := cut4_len (show cut4 (xs.drop k) = some (n2, b2) from e)
                  rw [List.length_drop, ← HM.out] at this
                  omega
                · rw [(pos_no g4 hp0).2] at e
                  cases e
              clear g1 g2 g3 g4 g5 g6 g7 hM HL
              by_cases hp0 : 0 ≤ p
              · have i1 : ¬ (p < 0) := by omega
                have i2 : ¬ (0 : Int) < (j : Int) := by omega
                have i3 : (m : Int) < p + 4 := by omega
                obtain ⟨u0, o0⟩ := HG.out.1.res 0 _ rfl
                obtain ⟨u1, o1⟩ := HG.out.1.res 1 _ rfl
                obtain ⟨u2, o2⟩ := HG.out.1.res 2 _ rfl
                obtain ⟨u3, o3⟩ := HG.out.1.res 3 _ rfl
                obtain ⟨u4, o4⟩ := HG.out.1.res 4 _ rfl
                have HF := put_by (five_set (N := w.heap.size) (HG.out.1.res) rfl (Nat.le_refl _) (.int .i64 0) (.int .i64 0) (.int .i64 0) (.slice none 0 0) (.slice none 0 0))
                have HQ := put_by (And.intro (HG.out.1.below) (HNo.out))
                go_wp2
                generalize ((((wr.setCell _ _).setCell _ _).setCell _ _).setCell _ _).setCell _ _ = W9 at HF ⊢
                obtain ⟨v0, -⟩ := HF.out.1 0 _ rfl
                obtain ⟨v1, -⟩ := HF.out.1 1 _ rfl
                obtain ⟨v2, -⟩ := HF.out.1 2 _ rfl
                obtain ⟨v3, -⟩ := HF.out.1 3 _ rfl
                obtain ⟨v4, -⟩ := HF.out.1 4 _ rfl
                go_wp2
                exact bodyPost_ret (v := .tuple #[.agg #[.int .i64 0, .int .i64 0, .int .i64 0, .slice none 0 0, .slice none 0 0], .int .i64 4]) (by simp [results, Try.results8, go_sem, asAddr, v0, v1, v2, v3, v4]) rfl (HP.out _ _ (DPost.zero (HQ.out.1.trans HF.out.2.1) HQ.out.2))
              · have i1 : p < 0 := by omega
                by_cases hj0 : (0 : Int) < (j : Int)
                · obtain ⟨u0, o0⟩ := HG.out.1.res 0 _ rfl
                  obtain ⟨u1, o1⟩ := HG.out.1.res 1 _ rfl
                  obtain ⟨u2, o2⟩ := HG.out.1.res 2 _ rfl
                  obtain ⟨u3, o3⟩ := HG.out.1.res 3 _ rfl
                  obtain ⟨u4, o4⟩ := HG.out.1.res 4 _ rfl
                  have HF := put_by (five_set (N := w.heap.size) (HG.out.1.res) rfl (Nat.le_refl _) (.int .i64 0) (.int .i64 0) (.int .i64 0) (.slice none 0 0) (.slice none 0 0))
                  have HQ := put_by (And.intro (HG.out.1.below) (HNo.out))
                  go_wp2
                  generalize ((((wr.setCell _ _).setCell _ _).setCell _ _).setCell _ _).setCell _ _ = W9 at HF ⊢
                  obtain ⟨v0, -⟩ := HF.out.1 0 _ rfl
                  obtain ⟨v1, -⟩ := HF.out.1 1 _ rfl
                  obtain ⟨v2, -⟩ := HF.out.1 2 _ rfl
                  obtain ⟨v3, -⟩ := HF.out.1 3 _ rfl
                  obtain ⟨v4, -⟩ := HF.out.1 4 _ rfl
                  go_wp2
                  exact bodyPost_ret (v := .tuple #[.agg #[.int .i64 0, .int .i64 0, .int .i64 0, .slice none 0 0, .slice none 0 0], .int .i64 4]) (by simp [results, Try.results8, go_sem, asAddr, v0, v1, v2, v3, v4]) rfl (HP.out _ _ (DPost.zero (HQ.out.1.trans HF.out.2.1) HQ.out.2))
                · obtain ⟨u0, o0⟩ := HG.out.1.res 0 _ rfl
                  obtain ⟨u1, o1⟩ := HG.out.1.res 1 _ rfl
                  obtain ⟨u2, o2⟩ := HG.out.1.res 2 _ rfl
                  obtain ⟨u3, o3⟩ := HG.out.1.res 3 _ rfl
                  obtain ⟨u4, o4⟩ := HG.out.1.res 4 _ rfl
                  have HF := put_by (five_set (N := w.heap.size) (HG.out.1.res) rfl (Nat.le_refl _) (.int .i64 0) (.int .i64 0) (.int .i64 0) (.slice none 0 0) (.slice none 0 0))
                  have HQ := put_by (And.intro (HG.out.1.below) (HNo.out))
                  go_wp2
                  generalize ((((wr.setCell _ _).setCell _ _).setCell _ _).setCell _ _).setCell _ _ = W9 at HF ⊢
                  obtain ⟨v0, -⟩ := HF.out.1 0 _ rfl
                  obtain ⟨v1, -⟩ := HF.out.1 1 _ rfl
                  obtain ⟨v2, -⟩ := HF.out.1 2 _ rfl
                  obtain ⟨v3, -⟩ := HF.out.1 3 _ rfl
                  obtain ⟨v4, -⟩ := HF.out.1 4 _ rfl
                  go_wp2
                  exact bodyPost_ret (v := .tuple #[.agg #[.int .i64 0, .int .i64 0, .int .i64 0, .slice none 0 0, .slice none 0 0], .int .i64 4]) (by simp [results, Try.results8, go_sem, asAddr, v0, v1, v2, v3, v4]) rfl (HP.out _ _ (DPost.zero (HQ.out.1.trans HF.out.2.1) HQ.out.2))
    · have HN : Hid (∀ y, ¬ DecIs xs y) := fun y hy => by have := encI_long y; rw [hy.2.1] at this; exact hl this
      clear ho
      obtain ⟨m, hm⟩ : ∃ m, m = xs.length := ⟨_, rfl⟩
      rw [← hm] at hf hl ⊢
      clear hm HS
      have h1 : (m : Int) < 20 := by omega
      have h2 : ¬ (4000 : Int) < (m : Int) := by omega
      go_enter Try.func8, Try.ntmps8
      go_upto_region 1 with (fail)
      generalize w.alloc (.cells #[.int .i64 0, .int .i64 0, .int .i64 0, .slice none 0 0, .slice none 0 0] _) = W0 at HA HC ⊢
      obtain ⟨u0, o0⟩ := HC.out 0 _ rfl
      obtain ⟨u1, o1⟩ := HC.out 1 _ rfl
      obtain ⟨u2, o2⟩ := HC.out 2 _ rfl
      obtain ⟨u3, o3⟩ := HC.out 3 _ rfl
      obtain ⟨u4, o4⟩ := HC.out 4 _ rfl
      have HF := put_by (five_set (N := w.heap.size) (HC.out) rfl (Nat.le_refl _) (.int .i64 0) (.int .i64 0) (.int .i64 0) (.slice none 0 0) (.slice none 0 0))
      have HQ := put_by (And.intro (HA.out) (HN.out))
      go_wp2
      generalize ((((W0.setCell _ _).setCell _ _).setCell _ _).setCell _ _).setCell _ _ = W9 at HF ⊢
      obtain ⟨v0, -⟩ := HF.out.1 0 _ rfl
      obtain ⟨v1, -⟩ := HF.out.1 1 _ rfl
      obtain ⟨v2, -⟩ := HF.out.1 2 _ rfl
      obtain ⟨v3, -⟩ := HF.out.1 3 _ rfl
      obtain ⟨v4, -⟩ := HF.out.1 4 _ rfl
      go_wp2
      exact bodyPost_ret (v := .tuple #[.agg #[.int .i64 0, .int .i64 0, .int .i64 0, .slice none 0 0, .slice none 0 0], .int .i64 4]) (by simp [results, Try.results8, go_sem, asAddr, v0, v1, v2, v3, v4]) rfl (HP.out _ _ (DPost.zero (HQ.out.1.trans HF.out.2.1) HQ.out.2))
  · have HN : Hid (∀ y, ¬ DecIs xs y) := fun y hy => hf hy.2.2
    clear ho
    obtain ⟨m, hm⟩ : ∃ m, m = xs.length := ⟨_, rfl⟩
    rw [← hm] at hf ⊢
    clear hm HS
    have h1 : (4000 : Int) < (m : Int) := by omega
    go_enter Try.func8, Try.ntmps8
    go_upto_region 1 with (fail)
    generalize w.alloc (.cells #[.int .i64 0, .int .i64 0, .int .i64 0, .slice none 0 0, .slice none 0 0] _) = W0 at HA HC ⊢
    obtain ⟨u0, o0⟩ := HC.out 0 _ rfl
    obtain ⟨u1, o1⟩ := HC.out 1 _ rfl
    obtain ⟨u2, o2⟩ := HC.out 2 _ rfl
    obtain ⟨u3, o3⟩ := HC.out 3 _ rfl
    obtain ⟨u4, o4⟩ := HC.out 4 _ rfl
    have HF := put_by (five_set (N := w.heap.size) (HC.out) rfl (Nat.le_refl _) (.int .i64 0) (.int .i64 0) (.int .i64 0) (.slice none 0 0) (.slice none 0 0))
    have HQ := put_by (And.intro (HA.out) (HN.out))
    go_wp2
    generalize ((((W0.setCell _ _).setCell _ _).setCell _ _).setCell _ _).setCell _ _ = W9 at HF ⊢
    obtain ⟨v0, -⟩ := HF.out.1 0 _ rfl
    obtain ⟨v1, -⟩ := HF.out.1 1 _ rfl
    obtain ⟨v2, -⟩ := HF.out.1 2 _ rfl
    obtain ⟨v3, -⟩ := HF.out.1 3 _ rfl
    obtain ⟨v4, -⟩ := HF.out.1 4 _ rfl
    go_wp2
    exact bodyPost_ret (v := .tuple #[.agg #[.int .i64 0, .int .i64 0, .int .i64 0, .slice none 0 0, .slice none 0 0], .int .i64 4]) (by simp [results, Try.results8, go_sem, asAddr, v0, v1, v2, v3, v4]) rfl (HP.out _ _ (DPost.zero (HQ.out.1.trans HF.out.2.1) HQ.out.2))

end Go.Proofs.Ytjilcljchdmbjaa
