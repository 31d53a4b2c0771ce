/- What Seal comes to at every slice of bytes. -/
import Derived.Test.YtjjencnnmpefbabDoorFrameFour
import Derived.Test.YtjjencnnmpefbabDoorFoursLaid
import Derived.Test.YtjjencnnmpefbabDoorOctAppend
import Derived.Test.YtjjencnnmpefbabDoorLitOcts
namespace Go.Proofs.YtjjencnnmpefbabDoor
open Go.ChangeShapes Go.WideShapes Go.ChangeAt Go.RowKit

theorem le4_ints (n : Nat) (h : n < 4294967296) : le4 n = [(n : Int) % 256, (n : Int) / 256 % 256, (n : Int) / 65536 % 256, (n : Int) / 16777216] := by
  simp only [le4, List.cons.injEq, and_true]
  omega

/-- two arrays of four bytes that were laid, a new row behind them: what stood ahead stands -/
theorem seal_made {w w3 w5 : World} {ao : Option Addr} {cap : Nat} {xs : List Int} {T : TypeId} {a0 a1 a2 a3 c0 c1 c2 c3 : Int} (he : Octs w ao cap xs) (b3 : Below w.heap.size w w3)
    (ha : ∀ y ∈ [a0, a1, a2, a3], 0 ≤ y ∧ y ≤ 255) (hc : ∀ y ∈ [c0, c1, c2, c3], 0 ≤ y ∧ y ≤ 255)
    (hg : ((w3.alloc (.cells #[.int .u8 a0, .int .u8 a1, .int .u8 a2, .int .u8 a3] T)).alloc (.cells #[.int .u8 c0, .int .u8 c1, .int .u8 c2, .int .u8 c3] T)).grownBy w5 none) :
    Octs w5 (some ⟨w3.heap.size, 0, none⟩) 4 [a0, a1, a2, a3] ∧ Octs w5 (some ⟨w3.heap.size + 1, 0, none⟩) 4 [c0, c1, c2, c3] ∧ Octs w5 ao cap xs ∧ Hid (xs ≠ [] → ∀ a, ao = some a → a.block < w3.heap.size + 2) ∧ Below w.heap.size w w5 ∧ w3.heap.size + 2 ≤ w5.heap.size := by
  have s4 : (w3.alloc (.cells #[.int .u8 a0, .int .u8 a1, .int .u8 a2, .int .u8 a3] T)).heap.size = w3.heap.size + 1 := by simp
  have s5 : ((w3.alloc (.cells #[.int .u8 a0, .int .u8 a1, .int .u8 a2, .int .u8 a3] T)).alloc (.cells #[.int .u8 c0, .int .u8 c1, .int .u8 c2, .int .u8 c3] T)).heap.size = w3.heap.size + 2 := by simp
  have o1 := octs_alloc w3 [a0, a1, a2, a3] 4 T (0, 0) _ rfl (by simp) (by simp) ha
  have o2 := octs_alloc (w3.alloc (.cells #[.int .u8 a0, .int .u8 a1, .int .u8 a2, .int .u8 a3] T)) [c0, c1, c2, c3] 4 T (0, 0) _ rfl (by simp) (by simp) hc
  rw [s4] at o2
  have bA : Below w3.heap.size w3 (w3.alloc (.cells #[.int .u8 a0, .int .u8 a1, .int .u8 a2, .int .u8 a3] T)) := (Below.refl _ _).alloc (Nat.le_refl _) _
  have bB := (Below.refl (w3.alloc (.cells #[.int .u8 a0, .int .u8 a1, .int .u8 a2, .int .u8 a3] T)).heap.size _).alloc (Nat.le_refl _) (.cells #[.int .u8 c0, .int .u8 c1, .int .u8 c2, .int .u8 c3] T)
  have o1 := o1.later bB
  have b4 := bA.trans (bB.mono bA.size)
  have b5 := (Below.refl _ _).grown hg (Nat.le_refl _) (by intro k hk; cases hk)
  have hsz := b5.size
  rw [s5] at hsz
  have e3 := b3.size
  refine ⟨o1.later b5, o2.later b5, ((he.later b3).later b4).later b5, fun hx a h => ?_, (b3.trans (b4.mono b3.size)).trans (b5.mono (by rw [s5]; omega)), hsz⟩
  have := he.blocks hx a h
  omega

theorem Seal_new (ao : Option Addr) (cap : Nat) (xs : List Int) (w : World) (tab : Fours w) (he : Octs w ao cap xs) :
    Calls Tryd.prog 7 #[.slice ao xs.length cap] w fun e w' => ∃ ao' cap', e = .returned (.tuple #[.slice ao' (sealVal xs).length cap', .int .i64 (sealErr xs)]) ∧ Octs w' ao' cap' (sealVal xs) ∧ (∀ a, ao' = some a → w.heap.size ≤ a.block) ∧ Below w.heap.size w w' := by
  have hl := he.2.1
  by_cases h4 : 4000 < xs.length
  · have e1 : sealVal xs = [] := if_pos h4
    have e2 : sealErr xs = 1 := if_pos h4
    rw [e1, e2]
    clear e1 e2 he
    generalize xs.length = n at hl h4
    go_enter Tryd.func7, Tryd.ntmps7
    go_wp2
    go_ret2
    exact ⟨none, 0, rfl, Octs.nil _ _ _ (fun _ => rfl), (fun _ h => by cases h), Below.refl _ _⟩
  · have e1 : sealVal xs = frameOf xs := if_neg h4
    have e2 : sealErr xs = 0 := if_neg h4
    have hs := sumN_lt xs
    have HB := he.2.2.2.1
    have HFL : Hid ((frameOf xs).length = xs.length + 8 ∧ ∀ y ∈ frameOf xs, 0 ≤ y ∧ y ≤ 255) := ⟨frameOf_length xs, frameOf_byte HB⟩
    have HO : ∀ v1, Fours v1 → Octs v1 ao cap xs → Calls Tryd.prog 13 #[.slice ao xs.length cap] v1 fun e w' => e = .returned (.int .i64 (sumN xs : Int)) ∧ v1 = w' := fun v1 t h => (Of_any ao cap xs v1 t h).mono (fun e w' k => ⟨k.1, k.2.symm⟩)
    rw [e1, e2]
    obtain ⟨fs, hfs⟩ : ∃ fs, fs = frameOf xs := ⟨_, rfl⟩
    rw [← hfs] at HFL
    rw [← hfs]
    have HF : Hid (fs = le4 xs.length ++ (le4 (sumN xs) ++ xs)) := hfs
    have HE : Hid (Octs w ao cap xs) := he
    clear e1 e2 HB he hfs
    obtain ⟨s, hs1⟩ : ∃ s, s = sumN xs := ⟨_, rfl⟩
    rw [← hs1] at hs HO HF
    clear hs1
    obtain ⟨n, hn⟩ : ∃ n, n = xs.length := ⟨_, rfl⟩
    rw [← hn] at hl h4 HO HF HFL
    rw [← hn, HFL.out.1]
    have HN : Hid (n = xs.length) := hn
    clear hn
    have H1 := tell_any n (by omega)
    have H2 := tell_any s hs
    rw [le4_ints n (by omega), le4_ints s hs] at HF
    obtain ⟨i0, hi, hz0, hz1, hz2⟩ := info_parts Tryd.infoApp
    have HA : ∀ y ∈ [(n : Int) % 256, (n : Int) / 256 % 256, (n : Int) / 65536 % 256, (n : Int) / 16777216], 0 ≤ y ∧ y ≤ 255 := by rw [← le4_ints n (by omega)]; exact le4_byte n
    have HC : ∀ y ∈ [(s : Int) % 256, (s : Int) / 256 % 256, (s : Int) / 65536 % 256, (s : Int) / 16777216], 0 ≤ y ∧ y ≤ 255 := by rw [← le4_ints s hs]; exact le4_byte s
    go_enter Tryd.func7, Tryd.ntmps7
    go_wp2_with (first
      | (go_at_call 14; (with_reducible refine (H1 _).mono ?_); rintro e w1 ⟨rfl, b1⟩)
      | (go_at_call 13; (with_reducible refine (HO _ (tab.later b1) (HE.out.later b1)).mono ?_); rintro e w2 ⟨rfl, rfl⟩)
      | (go_at_call 14; (with_reducible refine (H2 _).mono ?_); rintro e w3 ⟨rfl, b3⟩; have b3 := b1.trans (b3.mono b1.size))
      | (at_make; refine wpList_make_own _ rfl _ _ 22 rfl (w3.heap.size + 2) 5 i0 (.int .u8 0) 1 Tryd.underlying22 hi hz0 hz1 .i64 .i64 _ (8 + n) rfl rfl (by omega) (by rw [hz2]; omega) (by unfold maxLen; omega) (by simp) ?_; intro w5 hown5 hg5; have hown5 : w5.ownsRow (w3.heap.size + 2) 5 1 (.slice (some ⟨w3.heap.size + 1 + 1, 0, none⟩) 0 (8 + n)) 0 [] := (by simpa using hown5); obtain ⟨o1, o2, o3, HX, bb, h5⟩ := seal_made HE.out b3 HA HC hg5; clear hg5)
      | (at_builtin; refine wpList_append_oct rfl (.tmp 20) (.tmp 21) rfl (w3.heap.size + 2) _ _ _ rfl hown5 (some ⟨w3.heap.size, 0, none⟩) 4 4 _ rfl rfl o1 (by omega) h5 ?_; intro v6 w6 hown6 hg6; have b6 : Below (w3.heap.size + 2) w5 w6 := (Below.refl _ _).grown hg6 h5 (fun k hk => (hown5.lt k hk).1); have o2 := o2.below b6 (by intro _ a ha; cases ha; simp); have o3 := o3.below b6 HX.out; have bb := bb.trans (b6.mono (by have := b3.size; omega)); have h6 := Nat.le_trans h5 b6.size)
      | (at_builtin; refine wpList_append_oct rfl (.tmp 23) (.tmp 24) rfl (w3.heap.size + 2) _ _ _ rfl hown6 (some ⟨w3.heap.size + 1, 0, none⟩) 4 4 _ rfl rfl o2 (by omega) h6 ?_; intro v7 w7 hown7 hg7; have b7 : Below (w3.heap.size + 2) w6 w7 := (Below.refl _ _).grown hg7 h6 (fun k hk => (hown6.lt k hk).1); have o3 := o3.below b7 HX.out; have bb := bb.trans (b7.mono (by have := b3.size; omega)); have h7 := Nat.le_trans h6 b7.size)
      | (at_builtin; refine wpList_append_oct rfl (.tmp 26) (.tmp 27) rfl (w3.heap.size + 2) _ _ _ rfl hown7 ao cap n xs rfl HN.out o3 (by omega) h7 ?_; intro v8 w8 hown8 hg8; have b8 : Below (w3.heap.size + 2) w7 w8 := (Below.refl _ _).grown hg8 h7 (fun k hk => (hown7.lt k hk).1); have bb := bb.trans (b8.mono (by have := b3.size; omega)); obtain ⟨b9, c9, e9, o9⟩ := own_octs (xs := fs) (by rw [HFL.out.1]; omega) (by rw [HF.out]; simp) (by rw [HFL.out.1]; omega) HFL.out.2 hown8; rw [HFL.out.1] at e9; subst e9))
    go_ret2
    exact ⟨b9, c9, rfl, o9, fun a ha => (by have q1 := own_new hown8 a ha; have q2 := b3.size; omega), bb⟩

theorem Seal_any (ao : Option Addr) (cap : Nat) (xs : List Int) (w : World) (tab : Fours w) (he : Octs w ao cap xs) :
    Calls Tryd.prog 7 #[.slice ao xs.length cap] w fun e w' => ∃ ao' cap', e = .returned (.tuple #[.slice ao' (sealVal xs).length cap', .int .i64 (sealErr xs)]) ∧ Octs w' ao' cap' (sealVal xs) ∧ Below w.heap.size w w' :=
  (Seal_new ao cap xs w tab he).mono fun _ _ ⟨a, c, h1, h2, _, h4⟩ => ⟨a, c, h1, h2, h4⟩

end Go.Proofs.YtjjencnnmpefbabDoor
