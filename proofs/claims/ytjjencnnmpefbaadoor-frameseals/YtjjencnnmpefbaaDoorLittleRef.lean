/- What the reference's four bytes of a number, and its frame, come to. -/
import Derived.Test.YtjjencnnmpefbaaDoorFrameSeal
import Derived.Test.YtjjencnnmpefbaaDoorOfRef
namespace Go.Proofs.YtjjencnnmpefbaaDoor
open Go.ChangeShapes Go.WideShapes Go.ChangeAt Go.RowKit

theorem own_lit (w : World) (xs : List Int) (C : Array Value) (hC : C = (xs.map (Value.int .u8)).toArray) (hl : xs.length ≤ 140737488351232) :
    (w.alloc (.cells C 5)).ownsRow w.heap.size 5 1 (.slice (some ⟨w.heap.size, 0, none⟩) xs.length xs.length) xs.length (xs.map (Value.int .u8)) := by
  subst hC
  refine ⟨by simp, .inr ⟨w.heap.size, xs.length, _, rfl, Nat.le_refl _, heap_alloc_new w _, Nat.le_refl _, by unfold maxLen; omega, by simp, List.take_of_length_le (by simp)⟩⟩

theorem little_any (n : Nat) (h : n < 4294967296) (w : World) :
    Calls Tryd.prog 24 #[.int .i64 n] w fun e w' => e = .returned (.slice (some ⟨w.heap.size, 0, none⟩) 4 4) ∧ w'.ownsRow w.heap.size 5 1 (.slice (some ⟨w.heap.size, 0, none⟩) 4 4) 4 ((le4 n).map (Value.int .u8)) ∧ Below w.heap.size w w' := by
  go_enter Tryd.func24, Tryd.ntmps24
  go_wp2
  go_ret
  exact ⟨rfl, own_lit w (le4 n) _ rfl (by simp [le4_length]), (Below.refl _ _).alloc (Nat.le_refl _) _⟩

/-- a row of the call's own stands behind whatever lays new blocks alone -/
theorem own_later {w w' : World} {base size n : Nat} {e : TypeId} {v : Value} {vs : List Value} (h : w.ownsRow base e size v n vs) (hb : Below w.heap.size w w') : w'.ownsRow base e size v n vs := by
  refine ⟨h.1, ?_⟩
  rcases h.2 with h' | ⟨g, cap, cur, h', h1, h2, h3⟩
  · exact .inl h'
  · have hlt : g < w.heap.size := (h.lt g (by rw [h']; rfl)).2
    exact .inr ⟨g, cap, cur, h', h1, (hb.block g hlt).trans h2, h3⟩

theorem Framed_any (ao : Option Addr) (cap : Nat) (xs : List Int) (w : World) (he : Octs w ao cap xs) :
    Calls Tryd.prog 11 #[.slice ao xs.length cap] w fun e w' => ∃ ao' cap', e = .returned (.tuple #[.slice ao' (sealVal xs).length cap', .int .i64 (sealErr xs)]) ∧ Octs w' ao' cap' (sealVal xs) ∧ Below w.heap.size w w' := by
  have hl := he.2.1
  by_cases h4 : 4000 < xs.length
  · have e1 : sealVal xs = [] := if_pos h4
    have e2 : sealErr xs = 1 := if_pos h4
    rw [e1, e2]
    clear e1 e2 he
    generalize xs.length = n at hl h4
    go_enter Tryd.func11, Tryd.ntmps11
    go_wp2
    go_ret2
    exact ⟨none, 0, rfl, Octs.nil _ _ _ (fun _ => rfl), Below.refl _ _⟩
  · have e1 : sealVal xs = frameOf xs := if_neg h4
    have e2 : sealErr xs = 0 := if_neg h4
    have hs := sumN_lt xs
    have HB := he.2.2.2.1
    have HFL : Hid ((frameOf xs).length = xs.length + 8 ∧ ∀ y ∈ frameOf xs, 0 ≤ y ∧ y ≤ 255) := ⟨frameOf_length xs, frameOf_byte HB⟩
    have HO : ∀ v1, Octs v1 ao cap xs → Calls Tryd.prog 25 #[.slice ao xs.length cap] v1 fun e w' => e = .returned (.int .i64 (sumN xs : Int)) ∧ Below v1.heap.size v1 w' := fun v1 h => SumOf_any ao cap xs (by omega) v1 h
    rw [e1, e2]
    obtain ⟨fs, hfs⟩ : ∃ fs, fs = frameOf xs := ⟨_, rfl⟩
    rw [← hfs] at HFL
    rw [← hfs]
    have HF : Hid (fs = le4 xs.length ++ (le4 (sumN xs) ++ xs)) := hfs
    have HE : Hid (Octs w ao cap xs) := he
    clear e1 e2 HB he hfs
    obtain ⟨s, hs1⟩ : ∃ s, s = sumN xs := ⟨_, rfl⟩
    rw [← hs1] at hs HO HF
    clear hs1
    obtain ⟨n, hn⟩ : ∃ n, n = xs.length := ⟨_, rfl⟩
    rw [← hn] at hl h4 HO HF HFL
    rw [← hn, HFL.out.1]
    have HN : Hid (n = xs.length) := hn
    clear hn
    have H1 := little_any n (by omega) w
    have H2 := little_any s hs
    go_enter Tryd.func11, Tryd.ntmps11
    go_wp2_with (first
      | (go_at_call 24; (with_reducible refine H1.mono ?_); rintro e w1 ⟨rfl, hown1, b1⟩)
      | (go_at_call 25; (with_reducible refine (HO _ (HE.out.later b1)).mono ?_); rintro e w2 ⟨rfl, b2⟩; have hown2 := own_later hown1 b2; have bb := b1.trans (b2.mono b1.size))
      | (go_at_call 24; (with_reducible refine (H2 _).mono ?_); rintro e w3 ⟨rfl, hown3, b3⟩; have hown2 := own_later hown2 b3; have bb := bb.trans (b3.mono bb.size); obtain ⟨a3, c3, e3, o3⟩ := own_octs (xs := le4 s) rfl rfl (by simp [le4_length]) (le4_byte s) hown3; cases e3)
      | (at_builtin; refine wpList_append_oct rfl (.tmp 10) (.tmp 13) rfl w.heap.size _ _ _ rfl hown2 _ 4 4 (le4 s) rfl rfl o3 (by omega) bb.size ?_; intro v6 w6 hown6 hg6; have bb := bb.grown hg6 bb.size (fun k hk => (hown2.lt k hk).1))
      | (at_builtin; refine wpList_append_oct rfl (.tmp 15) (.tmp 16) rfl w.heap.size _ _ _ rfl hown6 ao cap n xs rfl HN.out (HE.out.later bb) (by omega) bb.size ?_; intro v8 w8 hown8 hg8; have bb := bb.grown hg8 bb.size (fun k hk => (hown6.lt k hk).1); obtain ⟨b9, c9, e9, o9⟩ := own_octs (xs := fs) (by rw [HFL.out.1]; omega) (by rw [HF.out]; simp) (by rw [HFL.out.1]; omega) HFL.out.2 hown8; rw [HFL.out.1] at e9; subst e9))
    go_ret2
    exact ⟨b9, c9, rfl, o9, bb⟩

end Go.Proofs.YtjjencnnmpefbaaDoor
