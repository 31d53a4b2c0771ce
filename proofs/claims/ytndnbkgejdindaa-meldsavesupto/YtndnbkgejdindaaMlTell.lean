/- Numbers, texts and flags behind bytes: the small functions of meld's telling. -/
import Derived.Test.YtndnbkgejdindaaItTellP
import Derived.Test.YtndnbkgejdindaaMlMem
namespace Go.Proofs.Ytndnbkgejdindaa
open Go.ChangeShapes Go.WideShapes Go.ChangeAt Go.RowKit

set_option maxRecDepth 100000 in
set_option maxHeartbeats 4000000 in
theorem tellNumberM_any (B : Nat) (xs : List Int) (hx : xs.length ≤ 1000000000) (a : Option Addr) (m c n : Nat) (hn : n < 4294967296) (w : World) (hB : B ≤ w.heap.size) (hm : m = xs.length) (hown : w.ownsRow B 5 1 (.slice a m c) m (xs.map (Value.int .u8))) :
    Calls Try.prog 41 #[.slice a m c, .int .i64 n] w fun e w' => ∃ (a' : Option Addr) (m' c' : Nat), e = .returned (.slice a' m' c') ∧ Told B w w' (.slice a m c) (.slice a' m' c') m' (xs ++ le4 n) := by
  have HM := put_by hm
  have hm9 : m ≤ 1000000000 := by omega
  have hl := le4_ints n hn
  have HOW : Hid ((w.alloc (.cells #[.int .u8 ((n : Int) % 256), .int .u8 ((n : Int) / 256 % 256), .int .u8 ((n : Int) / 65536 % 256), .int .u8 ((n : Int) / 16777216)] 5)).ownsRow B 5 1 (.slice a m c) m (xs.map (Value.int .u8))) := own_stays hown ((Below.refl _ w).alloc (Nat.le_refl _) _)
  have HOC : Hid (Octs (w.alloc (.cells #[.int .u8 ((n : Int) % 256), .int .u8 ((n : Int) / 256 % 256), .int .u8 ((n : Int) / 65536 % 256), .int .u8 ((n : Int) / 16777216)] 5)) (some ⟨w.heap.size, 0, none⟩) 4 (le4 n)) := octs_alloc w (le4 n) 4 5 (0, 0) _ (by rw [hl]; rfl) (by simp [le4_length]) (by simp [le4_length]) (le4_byte n)
  clear hown hm hx hl
  go_enter Try.func41, Try.ntmps41
  go_wp2_with (at_builtin; refine wpList_append_oct_at rfl (.tmp 5) (.tmp 17) rfl B (.slice a m c) m (xs.map (Value.int .u8)) rfl HOW.out (some ⟨w.heap.size, 0, none⟩) 4 4 (le4 n) rfl rfl HOC.out (by omega) (by simp; omega) ?_; intro v' w' h1 h2 h3; obtain ⟨a', c', rfl⟩ := own_val h1; have HT := put_by (told_alloc h1 (List.map_append.symm) (by rw [List.length_append, ← HM.out, le4_length]) h2 h3); clear h1 h2 h3)
  go_ret
  exact ⟨a', _, c', rfl, HT.out⟩

set_option maxRecDepth 100000 in
set_option maxHeartbeats 4000000 in
theorem tellTextM_any (B : Nat) (xs : List Int) (hx : xs.length ≤ 999999990) (a : Option Addr) (m c : Nat) (ta : Option Addr) (tc : Nat) (ts : List Int) (ht : ts.length ≤ 1000000) (w : World) (hB : B ≤ w.heap.size) (hm : m = xs.length) (hown : w.ownsRow B 5 1 (.slice a m c) m (xs.map (Value.int .u8)))
    (hT : Octs w ta tc ts) (hTB : ts ≠ [] → ∀ ad, ta = some ad → ad.block < B) :
    Calls Try.prog 42 #[.slice a m c, .slice ta ts.length tc] w fun e w' => ∃ (a' : Option Addr) (m' c' : Nat), e = .returned (.slice a' m' c') ∧ Told B w w' (.slice a m c) (.slice a' m' c') m' (xs ++ txt4 ts) := by
  have hm9 : m ≤ 999999990 := by omega
  have HN : Hid (Calls Try.prog 41 #[.slice a m c, .int .i64 (ts.length : Int)] w fun e w' => ∃ (a' : Option Addr) (m' c' : Nat), e = .returned (.slice a' m' c') ∧ m' ≤ 1000000000 ∧ Hid (Told B w w' (.slice a m c) (.slice a' m' c') m' (xs ++ le4 ts.length) ∧ Octs w' ta tc ts ∧ B ≤ w'.heap.size)) := by
    refine (tellNumberM_any B xs (by omega) a m c ts.length (by omega) w hB hm hown).mono ?_
    rintro e w' ⟨a', m', c', rfl, h⟩
    have hb := h.below hB (own_blocks hown)
    refine ⟨a', m', c', rfl, ?_, h, hT.below hb hTB, Nat.le_trans hB hb.size⟩
    have := h.len
    rw [List.length_append, le4_length] at this
    omega
  have HTL : Hid (ts.length ≤ 1000000) := ht
  obtain ⟨p, hp⟩ : ∃ p, p = ts.length := ⟨_, rfl⟩
  rw [← hp] at HN HTL ht ⊢
  have HP := put_by hp
  have HX := put_by hx
  clear hown hm hT hTB hp hx
  go_enter Try.func42, Try.ntmps42
  go_wp2_with (first
    | (go_at_call 41; refine HN.out.mono ?_; clear HN; rintro e w1 ⟨a1, m1, c1, rfl, hm1, H1⟩)
    | (at_builtin; refine wpList_append_oct_at rfl (.tmp 8) (.tmp 9) rfl B (.slice a1 m1 c1) m1 _ rfl H1.out.1.own ta tc p ts rfl HP.out H1.out.2.1 (by omega) H1.out.2.2 ?_; intro v' w' h1 h2 h3; obtain ⟨a', c', rfl⟩ := own_val h1; have HT := put_by (H1.out.1.trans (told_of (xs := xs ++ txt4 ts) h1 (by rw [txt4, ← HP.out]; simp) (by have h9 := H1.out.1.len; rw [List.length_append, le4_length] at h9; rw [txt4, List.length_append, List.length_append, le4_length, ← HP.out]; omega) h2 h3)); clear h1 h2 h3))
  go_ret
  exact ⟨a', _, c', rfl, HT.out⟩

set_option maxRecDepth 100000 in
set_option maxHeartbeats 4000000 in
theorem tellWhether_any (B : Nat) (xs : List Int) (hx : xs.length ≤ 1000000000) (a : Option Addr) (m c : Nat) (g : Bool) (w : World) (hB : B ≤ w.heap.size) (hm : m = xs.length) (hown : w.ownsRow B 5 1 (.slice a m c) m (xs.map (Value.int .u8))) :
    Calls Try.prog 43 #[.slice a m c, .bool g] w fun e w' => ∃ (a' : Option Addr) (m' c' : Nat), e = .returned (.slice a' m' c') ∧ Told B w w' (.slice a m c) (.slice a' m' c') m' (xs ++ [flagB g]) := by
  have HM := put_by hm
  have hm9 : m ≤ 1000000000 := by omega
  cases g with
  | true =>
    rw [show flagB true = 1 from rfl]
    have HOW : Hid ((w.alloc (.cells #[.int .u8 1] 5)).ownsRow B 5 1 (.slice a m c) m (xs.map (Value.int .u8))) := own_stays hown ((Below.refl _ w).alloc (Nat.le_refl _) _)
    have HOC : Hid (Octs (w.alloc (.cells #[.int .u8 1] 5)) (some ⟨w.heap.size, 0, none⟩) 1 [1]) := octs_alloc w [1] 1 5 (0, 0) _ rfl (by simp) (by simp) (fun y hy => by rw [List.mem_singleton.1 hy]; omega)
    clear hown hm hx
    go_enter Try.func43, Try.ntmps43
    go_wp2_with (at_builtin; refine wpList_append_oct_at rfl (.tmp 6) (.tmp 7) rfl B (.slice a m c) m (xs.map (Value.int .u8)) rfl HOW.out (some ⟨w.heap.size, 0, none⟩) 1 1 [1] rfl rfl HOC.out (by omega) (by simp; omega) ?_; intro v' w' h1 h2 h3; obtain ⟨a', c', rfl⟩ := own_val h1; have HT := put_by (told_alloc h1 (List.map_append.symm) (by rw [List.length_append, ← HM.out]; rfl) h2 h3); clear h1 h2 h3)
    go_ret
    exact ⟨a', _, c', rfl, HT.out⟩
  | false =>
    rw [show flagB false = 0 from rfl]
    have HOW : Hid ((w.alloc (.cells #[.int .u8 0] 5)).ownsRow B 5 1 (.slice a m c) m (xs.map (Value.int .u8))) := own_stays hown ((Below.refl _ w).alloc (Nat.le_refl _) _)
    have HOC : Hid (Octs (w.alloc (.cells #[.int .u8 0] 5)) (some ⟨w.heap.size, 0, none⟩) 1 [0]) := octs_alloc w [0] 1 5 (0, 0) _ rfl (by simp) (by simp) (fun y hy => by rw [List.mem_singleton.1 hy]; omega)
    clear hown hm hx
    go_enter Try.func43, Try.ntmps43
    go_wp2_with (at_builtin; refine wpList_append_oct_at rfl (.tmp 9) (.tmp 10) rfl B (.slice a m c) m (xs.map (Value.int .u8)) rfl HOW.out (some ⟨w.heap.size, 0, none⟩) 1 1 [0] rfl rfl HOC.out (by omega) (by simp; omega) ?_; intro v' w' h1 h2 h3; obtain ⟨a', c', rfl⟩ := own_val h1; have HT := put_by (told_alloc h1 (List.map_append.symm) (by rw [List.length_append, ← HM.out]; rfl) h2 h3); clear h1 h2 h3)
    go_ret
    exact ⟨a', _, c', rfl, HT.out⟩

theorem flat_take {α : Type} (f : α → List Int) (l : List α) (k : Nat) : ((l.take k).flatMap f).length ≤ (l.flatMap f).length := by
  have e : l.flatMap f = (l.take k).flatMap f ++ (l.drop k).flatMap f := by rw [← List.flatMap_append, List.take_append_drop]
  rw [e, List.length_append]
  omega

theorem encC_length (c : Cel) : (encC c).length = 13 + c.key.length + c.val.length := by
  simp only [encC, List.length_append, List.length_cons, txt4_length, le4_length]
  omega

theorem encD_length (d : Dn) : (encD d).length = 13 := by
  simp [encD, le4_length]

theorem encS_byte {s : Sta} (h : ∀ c ∈ s.cells, (∀ y ∈ c.key, 0 ≤ y ∧ y ≤ 255) ∧ ∀ y ∈ c.val, 0 ≤ y ∧ y ≤ 255) : ∀ y ∈ encS s, 0 ≤ y ∧ y ≤ 255 := by
  intro y hy
  simp only [encS, encC, encD, txt4, List.mem_append, List.mem_flatMap, List.mem_cons, List.not_mem_nil, or_false] at hy
  rcases hy with h1 | h1 | ⟨c, hc, h1⟩ | h1 | ⟨d, -, h1⟩
  · exact le4_byte _ y h1
  · exact le4_byte _ y h1
  · rcases h1 with (h1 | h1) | h1 | (h1 | h1) | h1
    · exact le4_byte _ y h1
    · exact (h c hc).1 y h1
    · rw [h1]; exact flagB_byte _
    · exact le4_byte _ y h1
    · exact (h c hc).2 y h1
    · exact le4_byte _ y h1
  · exact le4_byte _ y h1
  · rcases h1 with h1 | h1 | h1 | h1
    · exact le4_byte _ y h1
    · exact le4_byte _ y h1
    · exact le4_byte _ y h1
    · rw [h1]; exact flagB_byte _

end Go.Proofs.Ytndnbkgejdindaa
