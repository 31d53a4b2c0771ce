/- Numbers, texts and flags behind bytes: the small functions of meld's telling. -/
import Derived.Test.YtndnbkgejdindaaItTellP
import Derived.Test.YtndnbkgejdindaaMlMem
namespace Go.Proofs.Ytndnbkgejdindaa
open Go.ChangeShapes Go.WideShapes Go.ChangeAt Go.RowKit

set_option maxRecDepth 100000 in
set_option maxHeartbeats 4000000 in
theorem tellNumberM_any (B : Nat) (xs : List Int) (hx : xs.length ≤ 1000000000) (a : Option Addr) (m c n : Nat) (hn : n < 4294967296) (w : World) (hB : B ≤ w.heap.size) (hm : m = xs.length) (hown : w.ownsRow B 5 1 (.slice a m c) m (xs.map (Value.int .u8))) :
    Calls Try.prog 41 #[.slice a m c, .int .i64 n] w fun e w' => ∃ (a' : Option Addr) (m' c' : Nat), e = .returned (.slice a' m' c') ∧ Told B w w' (.slice a m c) (.slice a' m' c') m' (xs ++ le4 n) := by
  have HM := put_by hm
  have hm9 : m ≤ 1000000000 := by omega
  have hl := le4_ints n hn
  have HOW : Hid ((w.alloc (.cells #[.int .u8 ((n : Int) % 256), .int .u8 ((n : Int) / 256 % 256), .int .u8 ((n : Int) / 65536 % 256), .int .u8 ((n : Int) / 16777216)] 5)).ownsRow B 5 1 (.slice a m c) m (xs.map (Value.int .u8))) := own_stays hown ((Below.refl _ w).alloc (Nat.le_refl _) _)
  have HOC : Hid (Octs (w.alloc (.cells #[.int .u8 ((n : Int) % 256), .int .u8 ((n : Int) / 256 % 256), .int .u8 ((n : Int) / 65536 % 256), .int .u8 ((n : Int) / 16777216)] 5)) (some ⟨w.heap.size, 0, none⟩) 4 (le4 n)) := octs_alloc w (le4 n) 4 5 (0, 0) _ (by rw [hl]; rfl) (by simp [le4_length]) (by simp [le4_length]) (le4_byte n)
  clear hown hm hx hl
  go_enter Try.func41, Try.ntmps41
  go_wp2_with (at_builtin; refine wpList_append_oct_at rfl (.tmp 5) (.tmp 17) rfl B (.slice a m c) m (xs.map (Value.int .u8)) rfl HOW.out (some ⟨w.heap.size, 0, none⟩) 4 4 (le4 n) rfl rfl HOC.out (by omega) (by simp; omega) ?_; intro v' w' h1 h2 h3; obtain ⟨a', c', rfl⟩ := own_val h1; have HT := put_by (told_alloc h1 (List.map_append.symm) (by rw [List.length_append, ← HM.out, le4_length]) h2 h3); clear h1 h2 h3)
  go_ret
  exact ⟨a', _, c', rfl, HT.out⟩

set_option maxRecDepth 100000 in
set_option maxHeartbeats 4000000 in
theorem tellTextM_any (B : Nat) (xs : List Int) (hx : xs.length ≤ 999999990) (a : Option Addr) (m c : Nat) (ta : Option Addr) (tc : Nat) (ts : List Int) (ht : ts.length ≤ 1000000) (w : World) (hB : B ≤ w.heap.size) (hm : m = xs.length) (hown : w.ownsRow B 5 1 (.slice a m c) m (xs.map (Value.int .u8)))
    (hT : Octs w ta tc ts) (hTB : ts ≠ [] → ∀ ad, ta = some ad → ad.block < B) :
    Calls Try.prog 42 #[.slice a m c, .slice ta ts.length tc] w fun e w' => ∃ (a' : Option Addr) (m' c' : Nat), e = .returned (.slice a' m' c') ∧ Told B w w' (.slice a m c) (.slice a' m' c') m' (xs ++ txt4 ts) := by
  have hm9 : m ≤ 999999990 := by omega
  have HN : Hid (Calls Try.prog 41 #[.slice a m c, .int .i64 (ts.length : Int)] w fun e w' => ∃ (a' : Option Addr) (m' c' : Nat), e = .returned (.slice a' m' c') ∧ m' ≤ 1000000000 ∧ Hid (Told B w w' (.slice a m c) (.slice a' m' c') m' (xs ++ le4 ts.length) ∧ Octs w' ta tc ts ∧ B ≤ w'.heap.size)) := by
    refine (tellNumberM_any B xs (by omega) a m c ts.length (by omega) w hB hm hown).mono ?_
    rintro e w' ⟨a', m', c', rfl, h⟩
    have hb := h.below hB (own_blocks hown)
    refine ⟨a', m', c', rfl, ?_, h, hT.below hb hTB, Nat.le_trans hB hb.size⟩
    have := h.len
    rw [List.length_append, le4_length] at this
    omega
  have HTL : Hid (ts.length ≤ 1000000) := ht
  obtain ⟨p, hp⟩ : ∃ p, p = ts.length := ⟨_, rfl⟩
  rw [← hp] at HN HTL ht ⊢
  have HP := put_by hp
  have HX := put_by hx
  clear hown hm hT hTB hp hx
  go_enter Try.func42, Try.ntmps42
  go_wp2_with (first
    | (go_at_call 41; refine HN.out.mono ?_; clear HN; rintro e w1 ⟨a1, m1, c1, rfl, hm1, H1⟩)
    | (at_builtin; refine wpList_append_oct_at rfl (.tmp 8) (.tmp 9) rfl B (.slice a1 m1 c1) m1 _ rfl H1.out.1.own ta tc p ts rfl HP.out H1.out.2.1 (by omega) H1.out.2.2 ?_; intro v' w' h1 h2 h3; obtain ⟨a', c', rfl⟩ := own_val h1; have HT := put_by (H1.out.1.trans (told_of (xs := xs ++ txt4 ts) h1 (by rw [txt4, ← HP.out]; simp) (by have h9 := H1.out.1.len; rw [List.length_append, le4_length] at h9; rw [txt4, List.length_append, List.length_append, le4_length, ← HP.out]; omega) h2 h3)); clear h1 h2 h3))
  go_ret
  exact ⟨a', _, c', rfl, HT.out⟩

set_option maxRecDepth 100000 in
set_option maxHeartbeats 4000000 in
theorem tellWhether_any (B : Nat) (xs : List Int) (hx : xs.length ≤ 1000000000) (a : Option Addr) (m c : Nat) (g : Bool) (w : World) (hB : B ≤ w.heap.size) (hm : m = xs.length) (hown : w.ownsRow B 5 1 (.slice a m c) m (xs.map (Value.int .u8))) :
    Calls Try.prog 43 #[.slice a m c, .bool g] w fun e w' => ∃ (a' : Option Addr) (m' c' : Nat), e = .returned (.slice a' m' c') ∧ Told B w w' (.slice a m c) (.slice a' m' c') m' (xs ++ [flagB g]) := by
  have HM := put_by hm
  have hm9 : m ≤ 1000000000 := by omega
  cases g with
  | true =>
    rw [show flagB true = 1 from rfl]
    have HOW : Hid ((w.alloc (.cells #[.int .u8 1] 5)).ownsRow B 5 1 (.slice a m c) m (xs.map (Value.int .u8))) := own_stays hown ((Below.refl _ w).alloc (Nat.le_refl _) _)
    have HOC : Hid (Octs (w.alloc (.cells #[.int .u8 1] 5)) (some ⟨w.heap.size, 0, none⟩) 1 [1]) := octs_alloc w [1] 1 5 (0, 0) _ rfl (by simp) (by simp) (fun y hy => by rw [List.mem_singleton.1 hy]; omega)
    clear hown hm hx
    go_enter Try.func43, Try.ntmps43
    go_wp2_with (at_builtin; refine wpList_append_oct_at rfl (.tmp 6) (.tmp 7) rfl B (.slice a m c) m (xs.map (Value.int .u8)) rfl HOW.out (some ⟨w.heap.size, 0, none⟩) 1 1 [1] rfl rfl HOC.out (by omega) (by simp; omega) ?_; intro v' w' h1 h2 h3; obtain ⟨a', c', rfl⟩ := own_val h1; have HT := put_by (told_alloc h1 (List.map_append.symm) (by rw [List.length_append, ← HM.out]; rfl) h2 h3); clear h1 h2 h3)
    go_ret
    exact ⟨a', _, c', rfl, HT.out⟩
  | false =>
    rw [show flagB false = 0 from rfl]
    have HOW : Hid ((w.alloc (.cells #[.int .u8 0] 5)).ownsRow B 5 1 (.slice a m c) m (xs.map (Value.int .u8))) := own_stays hown ((Below.refl _ w).alloc (Nat.le_refl _) _)
    have HOC : Hid (Octs (w.alloc (.cells #[.int .u8 0] 5)) (some ⟨w.heap.size, 0, none⟩) 1 [0]) := octs_alloc w [0] 1 5 (0, 0) _ rfl (by simp) (by simp) (fun y hy => by rw [List.mem_singleton.1 hy]; omega)
    clear hown hm hx
    go_enter Try.func43, Try.ntmps43
    go_wp2_with (at_builtin; refine wpList_append_oct_at rfl (.tmp 9) (.tmp 10) rfl B (.slice a m c) m (xs.map (Value.int .u8)) rfl HOW.out (some ⟨w.heap.size, 0, none⟩) 1 1 [0] rfl rfl HOC.out (by omega) (by simp; omega) ?_; intro v' w' h1 h2 h3; obtain ⟨a', c', rfl⟩ := own_val h1; have HT := put_by (told_alloc h1 (List.map_append.symm) (by rw [List.length_append, ← HM.out]; rfl) h2 h3); clear h1 h2 h3)
    go_ret
    exact ⟨a', _, c', rfl, HT.out⟩

theorem flat_take {α : Type} (f : α → List Int) (l : List α) (k : Nat) : ((l.take k).flatMap f).length ≤ (l.flatMap f).length := by
  have e : l.flatMap f = (l.take k).flatMap f ++ (l.drop k).flatMap f := by rw [← List.flatMap_append, List.take_append_drop]
  rw [e, List.length_append]
  omega

theorem encC_length (c : Cel) : (encC c).length = 13 + c.key.length + c.val.length := by
  simp only [encC, List.length_append, List.length_cons, txt4_length, le4_length]
  omega

theorem encD_length (d : Dn) : (encD d).length = 13 := by
  simp [encD, le4_length]

theorem encS_byte {s : Sta} (h : ∀ c ∈ s.cells, (∀ y ∈ c.key, 0 ≤ y ∧ y ≤ 255) ∧ ∀ y ∈ c.val, 0 ≤ y ∧ y ≤ 255) : ∀ y ∈ encS s, 0 ≤ y ∧ y ≤ 255 := by
  intro y hy
  simp only [encS, encC, encD, txt4, List.mem_append, List.mem_flatMap, List.mem_cons, List.not_mem_nil, or_false] at hy
  rcases hy with h1 | h1 | ⟨c, hc, h1⟩ | h1 | ⟨d, -, h1⟩
  · exact le4_byte _ y h1
  · exact le4_byte _ y h1
  · rcases h1 with (h1 | h1) | h1 | (h1 | h1) | h1
    · exact le4_byte _ y h1
    · exact (h c hc).1 y h1
    · rw [h1]; exact flagB_byte _
    · exact le4_byte _ y h1
    · exact (h c hc).2 y h1
    · exact le4_byte _ y h1
  · exact le4_byte _ y h1
  · rcases h1 with h1 | h1 | h1 | h1
    · exact le4_byte _ y h1
    · exact le4_byte _ y h1
    · exact le4_byte _ y h1
    · rw [h1]; exact flagB_byte _

end Go.Proofs.Ytndnbkgejdindaa

/- The bytes of a state: what tellState comes to. -/
namespace Go.Proofs.Ytndnbkgejdindaa
open Go.ChangeShapes Go.WideShapes Go.ChangeAt Go.RowKit

/-- the bytes of a state, in new memory -/
def SavPost (s : Sta) (w : World) (e : Ending) (w' : World) : Prop := ∃ (a : Option Addr) (m k : Nat), e = .returned (.slice a m k) ∧ m = (encS s).length ∧ Octs w' a k (encS s) ∧ (∀ ad, a = some ad → w.heap.size ≤ ad.block) ∧ Below w.heap.size w w'

theorem StIs.bytes {ok : Nat → Prop} {w : World} {cs : List Cel} {ds : List Dn} {ca : Option Addr} {cc : Nat} {da : Option Addr} {dc : Nat} (h : StIs ok w cs ds ca cc da dc) : ∀ c ∈ cs, (∀ y ∈ c.key, 0 ≤ y ∧ y ≤ 255) ∧ ∀ y ∈ c.val, 0 ≤ y ∧ y ≤ 255 := fun c hc => by
  obtain ⟨k, hk, rfl⟩ := List.getElem_of_mem hc
  obtain ⟨_, _, a1, c1, a2, c2, _, h1, h2, _⟩ := cel_at h.cells hk
  obtain ⟨_, _, _, o1, -⟩ := h1
  obtain ⟨_, _, _, o2, -⟩ := h2
  exact ⟨o1.2.2.2.1, o2.2.2.2.1⟩

set_option maxRecDepth 100000 in
set_option maxHeartbeats 4000000 in
theorem tellState_any (ok : Nat → Prop) (p : Nat) (cs : List Cel) (ds : List Dn) (ca : Option Addr) (cc : Nat) (da : Option Addr) (dc : Nat) (w : World) (hI : StIs ok w cs ds ca cc da dc) (hM : MayS ⟨p, cs, ds⟩) (hT : (encS ⟨p, cs, ds⟩).length ≤ 900000000) :
    Calls Try.prog 21 #[.agg #[.int .i64 (p : Int), .slice ca cs.length cc, .slice da ds.length dc]] w fun e w' => SavPost ⟨p, cs, ds⟩ w e w' := by
  generalize hpost : (fun e w' => SavPost ⟨p, cs, ds⟩ w e w') = R
  have HP : Hid (∀ e w', SavPost ⟨p, cs, ds⟩ w e w' → R e w') := fun e w' h => by rw [← hpost]; exact h
  clear hpost
  have hp : p ≤ 1048576 := by have := hM.pos.2; simp only at this; omega
  have HM := put_by hM
  have HI := put_by hI
  have HBY := put_by (encS_byte (s := ⟨p, cs, ds⟩) hI.bytes)
  obtain ⟨n1, hn1⟩ : ∃ n, n = cs.length := ⟨_, rfl⟩
  obtain ⟨n2, hn2⟩ : ∃ n, n = ds.length := ⟨_, rfl⟩
  have HT : Hid ((encS ⟨p, cs, ds⟩).length = 12 + (cs.flatMap encC).length + (ds.flatMap encD).length ∧ (encS ⟨p, cs, ds⟩).length ≤ 900000000) := ⟨by simp only [encS, List.length_append, le4_length]; omega, hT⟩
  have h13 : ∀ l : List Cel, l.length * 13 ≤ (l.flatMap encC).length := fun l => by
    induction l with
    | nil => simp
    | cons x l ih => rw [List.flatMap_cons, List.length_append, List.length_cons, encC_length, Nat.succ_mul]; omega
  have h14 : ∀ l : List Dn, l.length * 13 = (l.flatMap encD).length := fun l => by
    induction l with
    | nil => simp
    | cons x l ih => rw [List.flatMap_cons, List.length_append, List.length_cons, encD_length, Nat.succ_mul, ih]; omega
  have hf1 : n1 ≤ 900000000 := by have := h13 cs; have := HT.out; omega
  have hf2 : n2 ≤ 900000000 := by have := h14 ds; have := HT.out; omega
  clear h13 h14
  rw [← hn1, ← hn2]
  have HN := put_by (And.intro hn1 hn2)
  have HA := put_by ((Below.refl w.heap.size w).alloc (Nat.le_refl _) (.cells #[.int .i64 (p : Int), .slice ca n1 cc, .slice da n2 dc] 25))
  have HK : Hid (∀ V, Below (w.alloc (.cells #[.int .i64 (p : Int), .slice ca n1 cc, .slice da n2 dc] 25)).heap.size (w.alloc (.cells #[.int .i64 (p : Int), .slice ca n1 cc, .slice da n2 dc] 25)) V → V.cell? ⟨w.heap.size, 1, none⟩ = some (.slice ca n1 cc) ∧ V.cell? ⟨w.heap.size, 2, none⟩ = some (.slice da n2 dc)) := fun V hV => ⟨(hV.cell (p := ⟨w.heap.size, 1, none⟩) (by simp)).trans (by simp), (hV.cell (p := ⟨w.heap.size, 2, none⟩) (by simp)).trans (by simp)⟩
  have x0 : (w.alloc (.cells #[.int .i64 (p : Int), .slice ca n1 cc, .slice da n2 dc] 25)).cell? ⟨w.heap.size, 0, none⟩ = some (.int .i64 (p : Int)) := by simp
  clear hI hM hn1 hn2 hT
  go_enter Try.func21, Try.ntmps21
  go_upto_region 2 with (fail)
  generalize w.alloc (.cells #[.int .i64 (p : Int), .slice ca n1 cc, .slice da n2 dc] 25) = W1 at HA HK x0 ⊢
  have cN : Hid (∀ (V : World) (a : Option Addr) (m k : Nat) (xs : List Int) (q : Nat), q < 4294967296 → xs.length ≤ 900000000 → Told w.heap.size W1 V (.slice none 0 0) (.slice a m k) m xs → Calls Try.prog 41 #[.slice a m k, .int .i64 (q : Int)] V fun e w' => ∃ (a' : Option Addr) (m' k' : Nat), e = .returned (.slice a' m' k') ∧ (w'.cell? ⟨w.heap.size, 1, none⟩ = some (.slice ca n1 cc) ∧ w'.cell? ⟨w.heap.size, 2, none⟩ = some (.slice da n2 dc)) ∧ Hid (Told w.heap.size W1 w' (.slice none 0 0) (.slice a' m' k') m' (xs ++ le4 q))) := fun V a m k xs q hq hx h1 => by
    refine (tellNumberM_any w.heap.size xs (by omega) a m k q hq V (Nat.le_trans HA.out.size h1.grown.size) h1.len h1.own).mono ?_
    rintro e w' ⟨a', m', k', rfl, h⟩
    have h3 := h1.trans h
    exact ⟨a', m', k', rfl, HK.out _ h3.from, h3⟩
  obtain ⟨x1, x2⟩ := HK.out W1 (Below.refl _ _)
  have H0 : Hid (Told w.heap.size W1 W1 (.slice none 0 0) (.slice none 0 0) 0 []) := Told.nil _ _
  go_upto_region 5 with (first
    | (go_at_call 41; (with_reducible refine (cN.out _ _ _ _ _ p (by omega) (by simp) H0.out).mono ?_); rintro e w1 ⟨a1, m1, p1, rfl, ⟨k1, k2⟩, H1⟩)
    | (go_at_call 41; (with_reducible refine (cN.out _ _ _ _ _ n1 (by omega) (by simp [le4_length]) H1.out).mono ?_); rintro e w2 ⟨a2, m2, p2, rfl, ⟨k3, k4⟩, H2⟩))
  obtain ⟨hd, hhd⟩ : ∃ hd, hd = [] ++ le4 p ++ le4 n1 := ⟨_, rfl⟩
  rw [← hhd] at H2
  have HHD : Hid (hd = le4 p ++ le4 n1 ∧ hd.length = 8) := ⟨by rw [hhd, List.nil_append], by rw [hhd]; simp [le4_length]⟩
  clear hhd H0 H1 x0 x1 x2 k1 k2
  go_loopw [3, 20] (fun b i wr => ∃ (k : Nat) (a : Option Addr) (m q : Nat), k ≤ n1 ∧ i = .int .i64 k ∧ b = .slice a m q ∧ Hid (Told w.heap.size W1 wr (.slice none 0 0) (.slice a m q) m (hd ++ (cs.take k).flatMap encC))) (fun _ i _ => n1 - (intOf i).toNat)
  case atStart => exact ⟨0, a2, m2, p2, Nat.zero_le _, rfl, rfl, put_by (by simpa using H2.out)⟩
  case round =>
    clear H2 k3 k4
    obtain ⟨k, a, m, q, hk, rfl, rfl, HB⟩ := hrel
    rename World => wr
    by_cases hlt : k < n1
    · have hx : k < cs.length := by rw [← HN.out.1]; exact hlt
      have HBW := put_by (HA.out.trans (HB.out.from.mono HA.out.size))
      have hok := HM.out.cells _ (List.getElem_mem hx)
      obtain ⟨bb, off, a1, c1, a2, c2, rfl, hk1, hk2, hb, hc⟩ := cel_at HI.out.cells hx
      obtain ⟨d0, d1, d2, d3⟩ := hc wr HBW.out
      obtain ⟨xa, xc, e1, hxo, -⟩ := hk1
      cases e1
      obtain ⟨ya, yc, e2, hyo, -⟩ := hk2
      cases e2
      obtain ⟨sn, hsn⟩ : ∃ sn : Nat, (sn : Int) = (cs[k]).since := ⟨(cs[k]).since.toNat, by have := hok.2.2.2.2.1; omega⟩
      have hsn2 : sn < 4294967296 := by have := hok.2.2.2.2.2; simp only at this; omega
      obtain ⟨ky, hky⟩ : ∃ ky, ky = (cs[k]).key := ⟨_, rfl⟩
      obtain ⟨vl, hvl⟩ : ∃ vl, vl = (cs[k]).val := ⟨_, rfl⟩
      obtain ⟨g, hg⟩ : ∃ g, g = (cs[k]).gone := ⟨_, rfl⟩
      have HS : Hid (hd ++ (cs.take (k + 1)).flatMap encC = hd ++ (cs.take k).flatMap encC ++ txt4 ky ++ [flagB g] ++ txt4 vl ++ le4 sn) := by
        rw [take_succ' hx, List.flatMap_append, hky, hvl, hg]
        have : sn = (cs[k]).since.toNat := by omega
        simp [encC, Hid, this]
      have HLn : Hid ((hd ++ (cs.take k).flatMap encC).length + (13 + ky.length + vl.length) ≤ 900000000 ∧ ky.length ≤ 1200 ∧ vl.length ≤ 4000) := by
        have h1 := flat_take encC cs (k + 1)
        have h2 := congrArg List.length HS.out
        simp only [List.length_append, txt4_length, le4_length, List.length_singleton] at h2 ⊢
        have h3 := HT.out
        have h4 := HHD.out.2
        refine ⟨by omega, by rw [hky]; exact hok.2.1, by rw [hvl]; exact hok.2.2.1⟩
      rw [← hky] at d0 hxo
      rw [← hvl] at d1 hyo
      rw [← hg] at d2
      rw [← hsn] at d3
      have HKO := put_by (And.intro hxo hyo)
      clear hc hxo hyo hok hky hvl hg hsn
      have HIN : Hid (InL w.heap.size W1 wr.heap.size [.slice a1 ky.length c1, .slice a2 vl.length c2, .bool g, .int .i64 (sn : Int)] (.slice a m q) m (hd ++ (cs.take k).flatMap encC) 900000000 (wr.alloc (.cells #[.slice a1 ky.length c1, .slice a2 vl.length c2, .bool g, .int .i64 (sn : Int)] 51))) := InL.start HB.out (by have := HLn.out; omega) #[.slice a1 ky.length c1, .slice a2 vl.length c2, .bool g, .int .i64 (sn : Int)] _
      have cT : Hid (∀ (ta : Option Addr) (tc : Nat) (ts : List Int), ts.length ≤ 4000 → Octs w ta tc ts → ∀ (V : World) (a : Option Addr) (m k' : Nat) (xs : List Int), xs.length + (4 + ts.length) ≤ 900000000 → InL w.heap.size W1 wr.heap.size [.slice a1 ky.length c1, .slice a2 vl.length c2, .bool g, .int .i64 (sn : Int)] (.slice a m k') m xs 900000000 V → Calls Try.prog 42 #[.slice a m k', .slice ta ts.length tc] V fun e w' => ∃ (a' : Option Addr) (m' p' : Nat), e = .returned (.slice a' m' p') ∧ (w'.cell? ⟨wr.heap.size, 0, none⟩ = some (.slice a1 ky.length c1) ∧ w'.cell? ⟨wr.heap.size, 1, none⟩ = some (.slice a2 vl.length c2) ∧ w'.cell? ⟨wr.heap.size, 2, none⟩ = some (.bool g) ∧ w'.cell? ⟨wr.heap.size, 3, none⟩ = some (.int .i64 (sn : Int))) ∧ Hid (InL w.heap.size W1 wr.heap.size [.slice a1 ky.length c1, .slice a2 vl.length c2, .bool g, .int .i64 (sn : Int)] (.slice a' m' p') m' (xs ++ txt4 ts) 900000000 w')) := fun ta tc ts ht ho V a m k' xs hx h => by
        have hV := HA.out.trans (h.told.from.mono HA.out.size)
        refine (tellTextM_any w.heap.size xs (by omega) a m k' ta tc ts (by omega) V hV.size h.told.len h.told.own (ho.later hV) ho.blocks).mono ?_
        rintro e w' ⟨a', m', p', rfl, h9⟩
        have h8 := h.next h9 (K' := 900000000) (by rw [List.length_append, txt4_length]; omega)
        exact ⟨a', m', p', rfl, ⟨h8.cell 0 _ rfl, h8.cell 1 _ rfl, h8.cell 2 _ rfl, h8.cell 3 _ rfl⟩, h8⟩
      have cB : Hid (∀ (bb : Bool) (V : World) (a : Option Addr) (m k' : Nat) (xs : List Int), xs.length + 1 ≤ 900000000 → InL w.heap.size W1 wr.heap.size [.slice a1 ky.length c1, .slice a2 vl.length c2, .bool g, .int .i64 (sn : Int)] (.slice a m k') m xs 900000000 V → Calls Try.prog 43 #[.slice a m k', .bool bb] V fun e w' => ∃ (a' : Option Addr) (m' p' : Nat), e = .returned (.slice a' m' p') ∧ (w'.cell? ⟨wr.heap.size, 0, none⟩ = some (.slice a1 ky.length c1) ∧ w'.cell? ⟨wr.heap.size, 1, none⟩ = some (.slice a2 vl.length c2) ∧ w'.cell? ⟨wr.heap.size, 2, none⟩ = some (.bool g) ∧ w'.cell? ⟨wr.heap.size, 3, none⟩ = some (.int .i64 (sn : Int))) ∧ Hid (InL w.heap.size W1 wr.heap.size [.slice a1 ky.length c1, .slice a2 vl.length c2, .bool g, .int .i64 (sn : Int)] (.slice a' m' p') m' (xs ++ [flagB bb]) 900000000 w')) := fun bb V a m k' xs hx h => by
        have hV := HA.out.trans (h.told.from.mono HA.out.size)
        refine (tellWhether_any w.heap.size xs (by omega) a m k' bb V hV.size h.told.len h.told.own).mono ?_
        rintro e w' ⟨a', m', p', rfl, h9⟩
        have h8 := h.next h9 (K' := 900000000) (by rw [List.length_append, List.length_singleton]; omega)
        exact ⟨a', m', p', rfl, ⟨h8.cell 0 _ rfl, h8.cell 1 _ rfl, h8.cell 2 _ rfl, h8.cell 3 _ rfl⟩, h8⟩
      have cQ : Hid (∀ (q : Nat), q < 4294967296 → ∀ (V : World) (a : Option Addr) (m k' : Nat) (xs : List Int), xs.length + 4 ≤ 900000000 → InL w.heap.size W1 wr.heap.size [.slice a1 ky.length c1, .slice a2 vl.length c2, .bool g, .int .i64 (sn : Int)] (.slice a m k') m xs 900000000 V → Calls Try.prog 41 #[.slice a m k', .int .i64 (q : Int)] V fun e w' => ∃ (a' : Option Addr) (m' p' : Nat), e = .returned (.slice a' m' p') ∧ (w'.cell? ⟨wr.heap.size, 0, none⟩ = some (.slice a1 ky.length c1) ∧ w'.cell? ⟨wr.heap.size, 1, none⟩ = some (.slice a2 vl.length c2) ∧ w'.cell? ⟨wr.heap.size, 2, none⟩ = some (.bool g) ∧ w'.cell? ⟨wr.heap.size, 3, none⟩ = some (.int .i64 (sn : Int))) ∧ Hid (InL w.heap.size W1 wr.heap.size [.slice a1 ky.length c1, .slice a2 vl.length c2, .bool g, .int .i64 (sn : Int)] (.slice a' m' p') m' (xs ++ le4 q) 900000000 w')) := fun q hq V a m k' xs hx h => by
        have hV := HA.out.trans (h.told.from.mono HA.out.size)
        refine (tellNumberM_any w.heap.size xs (by omega) a m k' q hq V hV.size h.told.len h.told.own).mono ?_
        rintro e w' ⟨a', m', p', rfl, h9⟩
        have h8 := h.next h9 (K' := 900000000) (by rw [List.length_append, le4_length]; omega)
        exact ⟨a', m', p', rfl, ⟨h8.cell 0 _ rfl, h8.cell 1 _ rfl, h8.cell 2 _ rfl, h8.cell 3 _ rfl⟩, h8⟩
      have e1 := put_by (cT.out a1 c1 ky (by have := HLn.out; omega) HKO.out.1)
      have e2 := put_by (cB.out g)
      have e3 := put_by (cT.out a2 c2 vl HLn.out.2.2 HKO.out.2)
      have e4 := put_by (cQ.out sn hsn2)
      have ik : (k : Int) < (n1 : Int) := by omega
      clear cT cB cQ HKO HB
      have HL1 : Hid ((hd ++ (cs.take k).flatMap encC).length + (4 + ky.length) ≤ 900000000 ∧ (hd ++ (cs.take k).flatMap encC ++ txt4 ky).length + 1 ≤ 900000000 ∧ (hd ++ (cs.take k).flatMap encC ++ txt4 ky ++ [flagB g]).length + (4 + vl.length) ≤ 900000000 ∧ (hd ++ (cs.take k).flatMap encC ++ txt4 ky ++ [flagB g] ++ txt4 vl).length + 4 ≤ 900000000) := by
        have h := HLn.out.1
        simp only [List.length_append, txt4_length, List.length_singleton] at h ⊢
        exact ⟨by omega, by omega, by omega, by omega⟩
      generalize ky.length = i1 at d0 HIN e1 e2 e3 e4 HL1 HLn
      generalize vl.length = i2 at d1 HIN e1 e2 e3 e4 HL1 HLn
      go_wp2_with (first
        | (go_at_call 42; (with_reducible refine (e1.out _ _ _ _ _ HL1.out.1 HIN.out).mono ?_); clear e1; rintro e w5 ⟨a5, m5, p5, rfl, ⟨r0, r1, r2, r3⟩, H5⟩)
        | (go_at_call 43; (with_reducible refine (e2.out _ _ _ _ _ HL1.out.2.1 H5.out).mono ?_); clear e2; rintro e w6 ⟨a6, m6, p6, rfl, ⟨s0, s1, s2, s3⟩, H6⟩)
        | (go_at_call 42; (with_reducible refine (e3.out _ _ _ _ _ HL1.out.2.2.1 H6.out).mono ?_); clear e3; rintro e w7 ⟨a7, m7, p7, rfl, ⟨t0, t1, t2, t3⟩, H7⟩)
        | (go_at_call 41; (with_reducible refine (e4.out _ _ _ _ _ HL1.out.2.2.2 H7.out).mono ?_); clear e4; rintro e w8 ⟨a8, m8, p8, rfl, ⟨u0, u1, u2, u3⟩, H8⟩))
      go_roundw
      case rel => exact ⟨k + 1, a8, m8, p8, by omega, by go_num, rfl, by rw [HS.out]; exact H8.out.told⟩
      case measure => simp [intOf]; omega
    · obtain rfl : k = n1 := by omega
      have HT1 : Hid (Told w.heap.size W1 wr (.slice none 0 0) (.slice a m q) m (hd ++ cs.flatMap encC) ∧ (hd ++ cs.flatMap encC).length ≤ 900000000) := by
        have h := HB.out
        rw [List.take_of_length_le (by rw [← HN.out.1]; exact Nat.le_refl _)] at h
        exact ⟨h, by rw [List.length_append]; have := HT.out; have := HHD.out.2; omega⟩
      obtain ⟨k1, k2⟩ := HK.out wr HB.out.from
      clear HB
      go_upto_region 14 with (first
        | (go_at_call 41; (with_reducible refine (cN.out _ _ _ _ _ n2 (by omega) HT1.out.2 HT1.out.1).mono ?_); rintro e w5 ⟨a5, m5, p5, rfl, ⟨k3, k4⟩, H5⟩))
      obtain ⟨he, hhe⟩ : ∃ he, he = hd ++ cs.flatMap encC ++ le4 n2 := ⟨_, rfl⟩
      rw [← hhe] at H5
      have HHE : Hid (he = hd ++ cs.flatMap encC ++ le4 n2 ∧ he.length = 12 + (cs.flatMap encC).length) := ⟨hhe, by rw [hhe, List.length_append, List.length_append, le4_length, HHD.out.2]; omega⟩
      clear hhe HT1 k1 k2
      go_loopw [3, 49] (fun b i wr => ∃ (k : Nat) (a : Option Addr) (m q : Nat), k ≤ n2 ∧ i = .int .i64 k ∧ b = .slice a m q ∧ Hid (Told w.heap.size W1 wr (.slice none 0 0) (.slice a m q) m (he ++ (ds.take k).flatMap encD))) (fun _ i _ => n2 - (intOf i).toNat)
      case atStart => exact ⟨0, a5, m5, p5, Nat.zero_le _, rfl, rfl, put_by (by simpa using H5.out)⟩
      case round =>
        clear H5 k3 k4 hk hlt
        obtain ⟨j, a, m, q, hk, rfl, rfl, HB⟩ := hrel
        rename World => wr
        by_cases hlt : j < n2
        · have hx : j < ds.length := by rw [← HN.out.2]; exact hlt
          have HBW := put_by (HA.out.trans (HB.out.from.mono HA.out.size))
          have hok := HM.out.dones _ (List.getElem_mem hx)
          obtain ⟨bb, off, rfl, hb, hc⟩ := dn_at HI.out.dones hx
          obtain ⟨d0, d1, d2, d3⟩ := hc wr HBW.out
          have ho1 := hok.1
          have ho2 := hok.2.1
          have ho3 := hok.2.2
          simp only at ho3
          obtain ⟨cn, hcn⟩ : ∃ cn : Nat, (cn : Int) = (ds[j]).client := ⟨(ds[j]).client.toNat, by omega⟩
          obtain ⟨mn, hmn⟩ : ∃ mn : Nat, (mn : Int) = (ds[j]).number := ⟨(ds[j]).number.toNat, by omega⟩
          obtain ⟨qn, hqn⟩ : ∃ qn : Nat, (qn : Int) = (ds[j]).pos := ⟨(ds[j]).pos.toNat, by omega⟩
          obtain ⟨g, hg⟩ : ∃ g, g = (ds[j]).kept := ⟨_, rfl⟩
          have hcn2 : cn < 4294967296 := by omega
          have hmn2 : mn < 4294967296 := by omega
          have hqn2 : qn < 4294967296 := by omega
          have HS : Hid (he ++ (ds.take (j + 1)).flatMap encD = he ++ (ds.take j).flatMap encD ++ le4 cn ++ le4 mn ++ le4 qn ++ [flagB g]) := by
            rw [take_succ' hx, List.flatMap_append, hg]
            have t1 : cn = (ds[j]).client.toNat := by omega
            have t2 : mn = (ds[j]).number.toNat := by omega
            have t3 : qn = (ds[j]).pos.toNat := by omega
            simp [encD, Hid, t1, t2, t3]
          have HLn : Hid ((he ++ (ds.take j).flatMap encD).length + 13 ≤ 900000000) := by
            have h1 := flat_take encD ds (j + 1)
            have h2 := congrArg List.length HS.out
            simp only [List.length_append, le4_length, List.length_singleton] at h2
            have h3 := HT.out
            have h4 := HHE.out.2
            show _ ≤ _
            rw [List.length_append]
            omega
          rw [← hcn] at d0
          rw [← hmn] at d1
          rw [← hqn] at d2
          rw [← hg] at d3
          clear hc hok ho1 ho2 ho3 hcn hmn hqn hg
          have HIN : Hid (InL w.heap.size W1 wr.heap.size [.int .i64 (cn : Int), .int .i64 (mn : Int), .int .i64 (qn : Int), .bool g] (.slice a m q) m (he ++ (ds.take j).flatMap encD) 900000000 (wr.alloc (.cells #[.int .i64 (cn : Int), .int .i64 (mn : Int), .int .i64 (qn : Int), .bool g] 53))) := InL.start HB.out (by have := HLn.out; omega) #[.int .i64 (cn : Int), .int .i64 (mn : Int), .int .i64 (qn : Int), .bool g] _
          have cB : Hid (∀ (bb : Bool) (V : World) (a : Option Addr) (m k' : Nat) (xs : List Int), xs.length + 1 ≤ 900000000 → InL w.heap.size W1 wr.heap.size [.int .i64 (cn : Int), .int .i64 (mn : Int), .int .i64 (qn : Int), .bool g] (.slice a m k') m xs 900000000 V → Calls Try.prog 43 #[.slice a m k', .bool bb] V fun e w' => ∃ (a' : Option Addr) (m' p' : Nat), e = .returned (.slice a' m' p') ∧ (w'.cell? ⟨wr.heap.size, 0, none⟩ = some (.int .i64 (cn : Int)) ∧ w'.cell? ⟨wr.heap.size, 1, none⟩ = some (.int .i64 (mn : Int)) ∧ w'.cell? ⟨wr.heap.size, 2, none⟩ = some (.int .i64 (qn : Int)) ∧ w'.cell? ⟨wr.heap.size, 3, none⟩ = some (.bool g)) ∧ Hid (InL w.heap.size W1 wr.heap.size [.int .i64 (cn : Int), .int .i64 (mn : Int), .int .i64 (qn : Int), .bool g] (.slice a' m' p') m' (xs ++ [flagB bb]) 900000000 w')) := fun bb V a m k' xs hx h => by
            have hV := HA.out.trans (h.told.from.mono HA.out.size)
            refine (tellWhether_any w.heap.size xs (by omega) a m k' bb V hV.size h.told.len h.told.own).mono ?_
            rintro e w' ⟨a', m', p', rfl, h9⟩
            have h8 := h.next h9 (K' := 900000000) (by rw [List.length_append, List.length_singleton]; omega)
            exact ⟨a', m', p', rfl, ⟨h8.cell 0 _ rfl, h8.cell 1 _ rfl, h8.cell 2 _ rfl, h8.cell 3 _ rfl⟩, h8⟩
          have cQ : Hid (∀ (q : Nat), q < 4294967296 → ∀ (V : World) (a : Option Addr) (m k' : Nat) (xs : List Int), xs.length + 4 ≤ 900000000 → InL w.heap.size W1 wr.heap.size [.int .i64 (cn : Int), .int .i64 (mn : Int), .int .i64 (qn : Int), .bool g] (.slice a m k') m xs 900000000 V → Calls Try.prog 41 #[.slice a m k', .int .i64 (q : Int)] V fun e w' => ∃ (a' : Option Addr) (m' p' : Nat), e = .returned (.slice a' m' p') ∧ (w'.cell? ⟨wr.heap.size, 0, none⟩ = some (.int .i64 (cn : Int)) ∧ w'.cell? ⟨wr.heap.size, 1, none⟩ = some (.int .i64 (mn : Int)) ∧ w'.cell? ⟨wr.heap.size, 2, none⟩ = some (.int .i64 (qn : Int)) ∧ w'.cell? ⟨wr.heap.size, 3, none⟩ = some (.bool g)) ∧ Hid (InL w.heap.size W1 wr.heap.size [.int .i64 (cn : Int), .int .i64 (mn : Int), .int .i64 (qn : Int), .bool g] (.slice a' m' p') m' (xs ++ le4 q) 900000000 w')) := fun q hq V a m k' xs hx h => by
            have hV := HA.out.trans (h.told.from.mono HA.out.size)
            refine (tellNumberM_any w.heap.size xs (by omega) a m k' q hq V hV.size h.told.len h.told.own).mono ?_
            rintro e w' ⟨a', m', p', rfl, h9⟩
            have h8 := h.next h9 (K' := 900000000) (by rw [List.length_append, le4_length]; omega)
            exact ⟨a', m', p', rfl, ⟨h8.cell 0 _ rfl, h8.cell 1 _ rfl, h8.cell 2 _ rfl, h8.cell 3 _ rfl⟩, h8⟩
          have e1 := put_by (cQ.out cn hcn2)
          have e2 := put_by (cQ.out mn hmn2)
          have e3 := put_by (cQ.out qn hqn2)
          have e4 := put_by (cB.out g)
          have ik : (j : Int) < (n2 : Int) := by omega
          clear cB cQ HB
          have HL1 : Hid ((he ++ (ds.take j).flatMap encD).length + 4 ≤ 900000000 ∧ (he ++ (ds.take j).flatMap encD ++ le4 cn).length + 4 ≤ 900000000 ∧ (he ++ (ds.take j).flatMap encD ++ le4 cn ++ le4 mn).length + 4 ≤ 900000000 ∧ (he ++ (ds.take j).flatMap encD ++ le4 cn ++ le4 mn ++ le4 qn).length + 1 ≤ 900000000) := by
            have h := HLn.out
            simp only [List.length_append, le4_length] at h ⊢
            exact ⟨by omega, by omega, by omega, by omega⟩
          go_wp2_with (first
            | (go_at_call 41; (with_reducible refine (e1.out _ _ _ _ _ HL1.out.1 HIN.out).mono ?_); clear e1; rintro e w5 ⟨a5, m5, p5, rfl, ⟨r0, r1, r2, r3⟩, H5⟩)
            | (go_at_call 41; (with_reducible refine (e2.out _ _ _ _ _ HL1.out.2.1 H5.out).mono ?_); clear e2; rintro e w6 ⟨a6, m6, p6, rfl, ⟨s0, s1, s2, s3⟩, H6⟩)
            | (go_at_call 41; (with_reducible refine (e3.out _ _ _ _ _ HL1.out.2.2.1 H6.out).mono ?_); clear e3; rintro e w7 ⟨a7, m7, p7, rfl, ⟨t0, t1, t2, t3⟩, H7⟩)
            | (go_at_call 43; (with_reducible refine (e4.out _ _ _ _ _ HL1.out.2.2.2 H7.out).mono ?_); clear e4; rintro e w8 ⟨a8, m8, p8, rfl, ⟨u0, u1, u2, u3⟩, H8⟩))
          go_roundw
          case rel => exact ⟨j + 1, a8, m8, p8, by omega, by go_num, rfl, by rw [HS.out]; exact H8.out.told⟩
          case measure => simp [intOf]; omega
        · have HT9 : Hid (SavPost ⟨p, cs, ds⟩ w (.returned (.slice a m q)) wr) := by
            have h := HB.out
            rw [List.take_of_length_le (by rw [← HN.out.2]; omega)] at h
            have e : he ++ ds.flatMap encD = encS ⟨p, cs, ds⟩ := by
              rw [HHE.out.1, HHD.out.1, encS, HN.out.1, HN.out.2]
              simp
            rw [e] at h
            have hW := HA.out.trans (h.from.mono HA.out.size)
            obtain ⟨a9, p9, e9, o9⟩ := own_octs (xs := encS ⟨p, cs, ds⟩) h.len rfl (by have := HT.out.2; omega) HBY.out h.own
            simp only [Value.slice.injEq] at e9
            obtain ⟨rfl, -, rfl⟩ := e9
            exact ⟨a, m, q, rfl, h.len, o9, own_new h.own, hW⟩
          have ik : ¬ (j : Int) < (n2 : Int) := by omega
          clear HB
          go_wp2
          exact HP.out _ _ HT9.out

end Go.Proofs.Ytndnbkgejdindaa
