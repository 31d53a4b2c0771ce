/- What a deed comes to, in memory; looking a key up. -/
import Derived.Test.YtcegkgobkpakiaaTrScan
namespace Go.Proofs.Ytcegkgobkpakiaa
open Go.ChangeShapes Go.WideShapes Go.ChangeAt Go.RowKit

/-- what a deed came to -/
def kFd : Kd Fd 4 where
  rel ok w f cs := ∃ v a c, cs = [.int .i64 f.code, .int .i64 f.ver, v, .slice a f.ents.length c] ∧ IsBody w ok v f.val ∧ Lies kEnt ok w a c f.ents ∧ Ples a c
  move hk hok _ _ := by
    rintro ⟨v, a, c, rfl, h1, h2, h3⟩
    exact ⟨v, a, c, rfl, h1.move hk hok, h2.move hk hok, h3⟩
  len := by
    rintro _ _ _ _ ⟨v, a, c, rfl, _, _, _⟩
    rfl
  one := by
    rintro _ _ _ _ ⟨v, a, c, rfl, ⟨a', c', rfl, _⟩, _, _⟩ u hu
    simp only [List.mem_cons, List.not_mem_nil, or_false] at hu
    rcases hu with rfl | rfl | rfl | rfl <;> rfl

/-- what a function returns that tells what a deed came to: all of it in new blocks -/
def FdPost (w : World) (f : Fd) (e : Ending) (w' : World) : Prop :=
  ∃ (a : Option Addr) (n c : Nat) (b : Option Addr) (m d : Nat), e = .returned (.agg #[.int .i64 f.code, .int .i64 f.ver, .slice a n c, .slice b m d]) ∧ kFd.rel (fun b => w.heap.size ≤ b) w' f [.int .i64 f.code, .int .i64 f.ver, .slice a n c, .slice b m d]

theorem IsBody.none {w : World} {ok : Nat → Prop} : IsBody w ok (.slice none 0 0) [] := ⟨Option.none, 0, rfl, ⟨Nat.le_refl _, Nat.zero_le _, fun _ => rfl, by simp, .inl rfl⟩, fun h => absurd rfl h⟩

theorem fd_bare {w : World} {ok : Nat → Prop} (e v : Int) : kFd.rel ok w ⟨e, v, [], []⟩ [.int .i64 e, .int .i64 v, .slice none 0 0, .slice none 0 0] :=
  ⟨_, none, 0, rfl, IsBody.none, Lies.nil _ _ _ (fun _ => rfl), Ples.none⟩

theorem fd_val {w : World} {ok : Nat → Prop} {a : Option Addr} {c : Nat} {v : List Int} (h : IsBody w ok (.slice a v.length c) v) : kFd.rel ok w ⟨0, 0, v, []⟩ [.int .i64 0, .int .i64 0, .slice a v.length c, .slice none 0 0] :=
  ⟨_, none, 0, rfl, h, Lies.nil _ _ _ (fun _ => rfl), Ples.none⟩

theorem refused_fd (c : Int) (w : World) : Calls Try.prog 18 #[.int .i64 c] w fun e w' => FdPost w ⟨c, 0, [], []⟩ e w' ∧ Below w.heap.size w w' := by
  refine (refused_any c w).mono ?_
  rintro e w' ⟨rfl, hb⟩
  exact ⟨⟨none, 0, 0, none, 0, 0, rfl, fd_bare _ _⟩, hb⟩

/-- what looking a key up comes to -/
def lookF (l : List Ent) (key : List Int) : Fd := match lookK l key with | none => ⟨6, 0, [], []⟩ | some v => ⟨0, 0, v, []⟩

/-- a variable for what a deed comes to, and nothing of what was there turned -/
structure Told (w : World) (B : Nat) (W : World) : Prop where
  below : Below w.heap.size w W
  quad : Quad W B (.int .i64 0) (.int .i64 0) (.slice none 0 0) (.slice none 0 0)

theorem Told.later {w W W' : World} {B : Nat} (h : Told w B W) (hb : Below W.heap.size W W') : Told w B W' :=
  ⟨h.below.trans (hb.mono h.below.size), h.quad.move (hb.block _ (World.block_lt_of_cell? _ _ h.quad.c0))⟩

theorem told_two (w : World) (u v : Value) (ty tz : TypeId) : Told w (w.heap.size + 1) ((w.alloc (.cells #[u, v] ty)).alloc (.cells #[.int .i64 0, .int .i64 0, .slice none 0 0, .slice none 0 0] tz)) := by
  have hb : Below w.heap.size w (w.alloc (.cells #[u, v] ty)) := (Below.refl _ w).alloc (Nat.le_refl _) _
  refine ⟨hb.alloc (by simp) _, ?_⟩
  have := Quad.new (w.alloc (.cells #[u, v] ty)) (.int .i64 0) (.int .i64 0) (.slice none 0 0) (.slice none 0 0) tz
  rwa [alloc_size] at this

/-- what is put into that variable -/
theorem told_put {w W : World} {B : Nat} (h : Told w B W) (hB : w.heap.size ≤ B) (f : Fd) (p q r s : Value) (hf : kFd.rel (fun b => w.heap.size ≤ b ∧ b ≠ B) W f [p, q, r, s]) :
    Quad ((((W.setCell ⟨B, 0, none⟩ p).setCell ⟨B, 1, none⟩ q).setCell ⟨B, 2, none⟩ r).setCell ⟨B, 3, none⟩ s) B p q r s ∧ kFd.rel (fun b => w.heap.size ≤ b) ((((W.setCell ⟨B, 0, none⟩ p).setCell ⟨B, 1, none⟩ q).setCell ⟨B, 2, none⟩ r).setCell ⟨B, 3, none⟩ s) f [p, q, r, s] ∧ Below w.heap.size w ((((W.setCell ⟨B, 0, none⟩ p).setCell ⟨B, 1, none⟩ q).setCell ⟨B, 2, none⟩ r).setCell ⟨B, 3, none⟩ s) :=
  ⟨h.quad.set _ _ _ _, kFd.move ⟨by simp, fun b _ ho => heap_quad _ _ _ _ _ _ ho.2⟩ (fun _ _ ho => ho.1) hf,
    (((h.below.setCell (p := ⟨B, 0, none⟩) hB _).setCell (p := ⟨B, 1, none⟩) hB _).setCell (p := ⟨B, 2, none⟩) hB _).setCell (p := ⟨B, 3, none⟩) hB _⟩

set_option maxHeartbeats 8000000 in
theorem look_any (ok : Nat → Prop) (h : Nat) (t : Tr h) (hq : Wq h t) (a b : Option Addr) (n c m d : Nat) (ko : Option Addr) (kc : Nat) (key : List Int) (w : World) (hr : (kNd h).rel ok w t [.slice a n c, .slice b m d]) (hf : Octs w ko kc key) :
    Calls Try.prog 21 #[.agg #[.slice a n c, .slice b m d], .slice ko key.length kc] w fun e w' => FdPost w (lookF (flat h t) key) e w' ∧ Below w.heap.size w w' := by
  have cE : Hid (∀ W : World, Told w (w.heap.size + 1) W → Calls Try.prog 29 #[.agg #[.slice a n c, .slice b m d], .slice ko key.length kc] W fun e w' => EntPost ok (lookK (flat h t) key) W e w') := fun W hW =>
    entry_any ok h t hq _ _ ko kc key W ((kNd h).move (Kept.of_below hW.below) (fun _ _ q => q) hr) (hf.later hW.below)
  have H0 := put_by (told_two w (.slice a n c) (.slice b m d) 53 50)
  have HF := put_by (show lookF (flat h t) key = match lookK (flat h t) key with | none => ⟨6, 0, [], []⟩ | some v => ⟨0, 0, v, []⟩ from rfl)
  clear hf hr hq
  generalize lookF (flat h t) key = f at HF ⊢
  generalize key.length = km at cE ⊢
  cases hl : lookK (flat h t) key with
  | none =>
    rw [hl] at cE HF
    have cE2 : Hid (∀ W : World, Told w (w.heap.size + 1) W → Calls Try.prog 29 #[.agg #[.slice a n c, .slice b m d], .slice ko km kc] W fun e w' => e = .returned (.tuple #[.agg #[.slice none 0 0, .slice none 0 0], .bool false]) ∧ Hid (Told w (w.heap.size + 1) w')) := fun W hW =>
      (cE.out W hW).mono fun e w' hh => ⟨hh.1, hW.later hh.2⟩
    have cR : Hid (∀ W : World, Told w (w.heap.size + 1) W → Calls Try.prog 18 #[.int .i64 6] W fun e w' => e = .returned (.agg #[.int .i64 6, .int .i64 0, .slice none 0 0, .slice none 0 0]) ∧ Hid (Told w (w.heap.size + 1) w')) := fun W hW =>
      (refused_any 6 W).mono fun e w' hh => ⟨hh.1, hW.later hh.2⟩
    clear cE hl
    go_enter Try.func21, Try.ntmps21
    go_wp2_with (first
      | (go_at_call 29; refine (cE2.out _ H0.out).mono ?_; clear cE2; rintro e w3 ⟨rfl, H3⟩; have H4 := put_by (H3.out.later ((Below.refl _ w3).alloc (Nat.le_refl _) (.cells #[.slice none 0 0, .slice none 0 0] 62))))
      | (go_at_call 18; refine (cR.out _ H4.out).mono ?_; clear cR; rintro e w5 ⟨rfl, H5⟩; obtain ⟨c0, c1, c2, c3, f0, f1, f2, f3⟩ := id H5.out.quad))
    obtain ⟨hQ, hK, hB⟩ := told_put H5.out (Nat.le_succ _) ⟨6, 0, [], []⟩ _ _ _ _ (fd_bare 6 0)
    rw [HF.out]
    generalize (((w5.setCell _ _).setCell _ _).setCell _ _).setCell _ _ = W9 at hQ hK hB ⊢
    exact bodyPost_ret (v := .agg #[.int .i64 6, .int .i64 0, .slice none 0 0, .slice none 0 0]) (by simp [results, Try.results21, go_sem, asAddr, hQ.c0, hQ.c1, hQ.c2, hQ.c3]) rfl ⟨⟨none, 0, 0, none, 0, 0, rfl, hK⟩, hB⟩
  | some v =>
    rw [hl] at cE HF
    have cE2 : Hid (∀ W : World, Told w (w.heap.size + 1) W → Calls Try.prog 29 #[.agg #[.slice a n c, .slice b m d], .slice ko km kc] W fun e w' => ∃ (a1 : Option Addr) (n1 c1 : Nat) (a2 : Option Addr) (c2 : Nat), e = .returned (.tuple #[.agg #[.slice a1 n1 c1, .slice a2 v.length c2], .bool true]) ∧ Hid (Told w (w.heap.size + 1) w' ∧ Octs w' a2 c2 v)) := fun W hW => by
      refine (cE.out W hW).mono ?_
      rintro e w' ⟨a1, n1, c1, a2, c2, rfl, ⟨a3, c3, e3, o3, -⟩, h2⟩
      simp only [Value.slice.injEq, true_and] at e3
      obtain ⟨rfl, rfl⟩ := e3
      exact ⟨a1, n1, c1, a2, c2, rfl, hW.later h2, o3⟩
    have cC : Hid (∀ (W : World) (a2 : Option Addr) (c2 : Nat), Told w (w.heap.size + 1) W ∧ Octs W a2 c2 v → Calls Try.prog 24 #[.slice a2 v.length c2] W fun e w' => ∃ (a3 : Option Addr) (c3 : Nat), e = .returned (.slice a3 v.length c3) ∧ Hid (Told w (w.heap.size + 1) w' ∧ IsBody w' (fun b => w.heap.size ≤ b ∧ b ≠ w.heap.size + 1) (.slice a3 v.length c3) v)) := fun W a2 c2 ⟨hW, ho⟩ => by
      have hsz := World.block_lt_of_cell? _ _ hW.quad.c0
      simp only at hsz
      refine (copied_any a2 c2 v W ho).mono ?_
      rintro e w' ⟨a3, c3, rfl, h1, h2, h3⟩
      exact ⟨a3, c3, rfl, hW.later h3, a3, c3, rfl, h1, fun _ ad hd => ⟨by have := h2 ad hd; have := hW.below.size; omega, by have := h2 ad hd; omega⟩⟩
    clear cE hl
    obtain ⟨vn, hvn⟩ : ∃ vn, vn = v.length := ⟨_, rfl⟩
    have HVN := put_by hvn
    rw [← hvn] at cE2 cC
    clear hvn
    go_enter Try.func21, Try.ntmps21
    go_wp2_with (first
      | (go_at_call 29; refine (cE2.out _ H0.out).mono ?_; clear cE2; rintro e w3 ⟨a1, n1, c1, a2, c2, rfl, H3⟩; have hb3 : Below w3.heap.size w3 (w3.alloc (.cells #[.slice a1 n1 c1, .slice a2 vn c2] 62)) := ((Below.refl _ w3).alloc (Nat.le_refl _) _); have H4 := put_by (And.intro (H3.out.1.later hb3) (H3.out.2.later hb3)))
      | (go_at_call 24; refine (cC.out _ _ _ H4.out).mono ?_; clear cC; rintro e w5 ⟨a3, c3', rfl, H5⟩; obtain ⟨c0, c1, c2, c3, f0, f1, f2, f3⟩ := id H5.out.1.quad))
    obtain ⟨hQ, hK, hB⟩ := told_put H5.out.1 (Nat.le_succ _) ⟨0, 0, v, []⟩ (.int .i64 0) (.int .i64 0) (.slice a3 vn c3') (.slice none 0 0) (by rw [HVN.out]; exact fd_val (by rw [← HVN.out]; exact H5.out.2))
    rw [HF.out]
    generalize (((w5.setCell _ _).setCell _ _).setCell _ _).setCell _ _ = W9 at hQ hK hB ⊢
    exact bodyPost_ret (v := .agg #[.int .i64 0, .int .i64 0, .slice a3 vn c3', .slice none 0 0]) (by simp [results, Try.results21, go_sem, asAddr, hQ.c0, hQ.c1, hQ.c2, hQ.c3]) rfl ⟨⟨a3, vn, c3', none, 0, 0, rfl, hK⟩, hB⟩

/-- a scan, as what a deed comes to -/
theorem scan_fd (ok : Nat → Prop) (h : Nat) (t : Tr h) (hq : Wq h t) (hfew : (flat h t).length ≤ 90000) (a b : Option Addr) (n c m d : Nat) (lo hi : List Int) (loo hio : Option Addr) (lc hc : Nat) (lim : Int) (h0 : 0 ≤ lim) (w : World)
    (hr : (kNd h).rel ok w t [.slice a n c, .slice b m d]) (hlo : Octs w loo lc lo) (hhi : Octs w hio hc hi) :
    Calls Try.prog 22 #[.agg #[.slice a n c, .slice b m d], .agg #[.slice loo lo.length lc, .slice hio hi.length hc], .int .i64 lim] w fun e w' => FdPost w ⟨0, 0, [], scanK (flat h t) lo hi lim.toNat⟩ e w' ∧ Below w.heap.size w w' := by
  have := scan_any ok h t hq hfew a b n c m d lo hi loo hio lc hc lim.toNat w hr hlo hhi
  rw [Int.toNat_of_nonneg h0] at this
  refine this.mono ?_
  rintro e w' ⟨a', c', rfl, h1, h2, h3⟩
  exact ⟨⟨none, 0, 0, a', _, c', rfl, ⟨_, a', c', rfl, IsBody.none, h1, h2⟩⟩, h3⟩

end Go.Proofs.Ytcegkgobkpakiaa
