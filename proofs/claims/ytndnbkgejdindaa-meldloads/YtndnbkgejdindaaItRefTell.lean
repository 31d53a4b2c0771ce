/- Numbers and texts that the reference tells. -/
import Derived.Test.YtndnbkgejdindaaItTellP
namespace Go.Proofs.Ytndnbkgejdindaa
open Go.ChangeShapes Go.WideShapes Go.ChangeAt Go.RowKit

theorem told_later {B m' : Nat} {w w1 w' : World} {v v' : Value} {xs : List Int} {vs : List Value} (hb : Below w.heap.size w w1) (h1 : w'.ownsRow B 5 1 v' m' vs) (hv : vs = xs.map (Value.int .u8)) (hl : m' = xs.length) (h2 : w1.grownBy w' v.ownBlock) (h3 : v'.ownBlock = v.ownBlock ∨ v'.ownBlock = some w1.heap.size) : Told B w w' v v' m' xs :=
  ⟨hv ▸ h1, hl, ⟨h2.os.trans hb.os, h2.tape.trans hb.tape, h2.output.trans hb.output, Nat.le_trans hb.size h2.size, fun b hlt hne => (h2.block b (Nat.lt_of_lt_of_le hlt hb.size) hne).trans (hb.block b hlt)⟩, h3.imp id (fun e => ⟨_, e, hb.size⟩)⟩

theorem InL.later {B L : Nat} {W1 V V' : World} {cells : List Value} {v : Value} {m K : Nat} {xs : List Int} (h : InL B W1 L cells v m xs K V) (hb : Below V.heap.size V V') : InL B W1 L cells v m xs K V' :=
  ⟨h.told.later hb, h.few, h.ne, Nat.lt_of_lt_of_le h.lt hb.size, fun j u hu => (hb.cell (p := ⟨L, j, none⟩) h.lt).trans (h.cell j u hu)⟩

theorem little_new (n : Nat) (h : n < 4294967296) (w : World) :
    Calls Try.prog 44 #[.int .i64 n] w fun e w' => e = .returned (.slice (some ⟨w.heap.size, 0, none⟩) 4 4) ∧ Octs w' (some ⟨w.heap.size, 0, none⟩) 4 (le4 n) ∧ Below w.heap.size w w' := by
  go_enter Try.func44, Try.ntmps44
  go_wp2
  go_ret
  exact ⟨rfl, octs_alloc w (le4 n) 4 5 (0, 0) _ rfl (by simp [le4_length]) (by simp [le4_length]) (le4_byte n), (Below.refl _ _).alloc (Nat.le_refl _) _⟩

theorem flag_any (g : Bool) (w : World) :
    Calls Try.prog 46 #[.bool g] w fun e w' => e = .returned (.int .i64 (flagB g)) ∧ w = w' := by
  cases g with
  | true =>
    go_enter Try.func46, Try.ntmps46
    go_wp2
    go_ret
    exact ⟨rfl, rfl⟩
  | false =>
    go_enter Try.func46, Try.ntmps46
    go_wp2
    go_ret
    exact ⟨rfl, rfl⟩

set_option maxHeartbeats 4000000 in
theorem withText_any (B : Nat) (xs ts : List Int) (hx : xs.length + ts.length ≤ 140737488351228) (a : Option Addr) (m c : Nat) (ta : Option Addr) (tc : Nat) (ht : ts.length ≤ 1000000) (w : World) (hB : B ≤ w.heap.size) (hm : m = xs.length) (hown : w.ownsRow B 5 1 (.slice a m c) m (xs.map (Value.int .u8)))
    (hT : Octs w ta tc ts) (hTB : ts ≠ [] → ∀ ad, ta = some ad → ad.block < B) :
    Calls Try.prog 45 #[.slice a m c, .slice ta ts.length tc] w fun e w' => ∃ (a' : Option Addr) (m' c' : Nat), e = .returned (.slice a' m' c') ∧ Told B w w' (.slice a m c) (.slice a' m' c') m' (xs ++ txt4 ts) := by
  have hm9 : m + ts.length ≤ 140737488351228 := by omega
  have HN : Hid (Calls Try.prog 44 #[.int .i64 (ts.length : Int)] w fun e w' => e = .returned (.slice (some ⟨w.heap.size, 0, none⟩) 4 4) ∧ Hid (Octs w' (some ⟨w.heap.size, 0, none⟩) 4 (le4 ts.length) ∧ Below w.heap.size w w')) := (little_new ts.length (by omega) w).mono (fun e w' h => ⟨h.1, h.2⟩)
  obtain ⟨p, hp⟩ : ∃ p, p = ts.length := ⟨_, rfl⟩
  rw [← hp] at HN ht hm9 ⊢
  have HP := put_by hp
  have HX := put_by (And.intro hm hown)
  have HT := put_by hT
  have HTB := put_by hTB
  clear hown hm hT hTB hp hx
  go_enter Try.func45, Try.ntmps45
  go_wp2_with (first
    | (go_at_call 44; refine HN.out.mono ?_; clear HN; rintro e w1 ⟨rfl, H1⟩)
    | (at_builtin; refine wpList_append_oct_at rfl (.tmp 5) (.tmp 8) rfl B (.slice a m c) m _ rfl (own_stays HX.out.2 H1.out.2) (some ⟨w.heap.size, 0, none⟩) 4 4 (le4 p) rfl rfl H1.out.1 (by omega) (Nat.le_trans hB H1.out.2.size) ?_; intro v2 w2 h1 h2 h3; obtain ⟨a2, c2, rfl⟩ := own_val h1; have H2 := put_by (told_later (xs := xs ++ le4 p) H1.out.2 h1 (by simp) (by rw [List.length_append, ← HX.out.1, le4_length]) h2 h3); clear h1 h2 h3; have H3 := put_by (HT.out.below (H2.out.below hB (own_blocks HX.out.2)) HTB.out); have hB2 := Nat.le_trans hB H2.out.grown.size)
    | (at_builtin; refine wpList_append_oct_at rfl (.tmp 9) (.tmp 10) rfl B (.slice a2 (m + 4) c2) (m + 4) _ rfl H2.out.own ta tc p ts rfl HP.out H3.out (by omega) hB2 ?_; intro v' w' h1 h2 h3; obtain ⟨a', c', rfl⟩ := own_val h1; have HZ := put_by (H2.out.trans (told_of (xs := xs ++ txt4 ts) h1 (by rw [txt4, ← HP.out]; simp) (by rw [List.length_append, txt4_length, ← HX.out.1, ← HP.out]; omega) h2 h3)); clear h1 h2 h3))
  go_ret
  exact ⟨a', _, c', rfl, HZ.out⟩

end Go.Proofs.Ytndnbkgejdindaa
