/- Any job of a unit. -/
import Derived.Test.YtfaejcdbjcklpaaUnPlayAt
namespace Go.Proofs.Ytfaejcdbjcklpaa
open Go.ChangeShapes Go.WideShapes Go.ChangeAt Go.RowKit

theorem playAt_any (B : Nat) (ok : Nat → Prop) (u : Un) (w : World) (hu : UnI B ok u w) (hok : Fresh ok w) (j : Jb) (da : Option Addr) (n dc : Nat) (hd : n = j.data.length ∧ Octs w da dc j.data) (hk : j.kind = 1 ∨ j.kind = 2 ∨ j.kind = 3 ∨ j.kind = 4) :
    Calls Try.prog 12 #[.pointer (some ⟨B, 0, none⟩), .agg #[.int .i64 j.kind, .int .i64 j.epoch, .int .i64 j.addr, .slice da n dc]] w fun x w' => StPost B ok w (atU u j) x w' := by
  by_cases he : j.epoch = u.ep
  · by_cases ha : j.addr < 0 ∨ 64 ≤ j.addr
    · rw [show atU u j = (rp 2, u) by simp [atU, he, ha]]
      exact playAt_range B ok u w hu j da n dc he ha
    · have h0 : 0 ≤ j.addr := by omega
      have h1 : j.addr < 64 := by omega
      rcases hk with hk | hk | hk | hk
      · rw [show atU u j = storeU u j.addr.toNat j.data by simp [atU, he, ha, hk]]
        exact playAt_store B ok u w hu hok j da n dc hd he h0 h1 hk
      · rw [show atU u j = (readSl (u.sl j.addr.toNat), u) by simp [atU, he, ha, hk]]
        exact playAt_fetch B ok u w hu j da n dc he h0 h1 hk
      · rw [show atU u j = putU u j.addr.toNat ⟨2, []⟩ by simp [atU, he, ha, hk]]
        exact playAt_fill B ok u w hu j da n dc he h0 h1 hk
      · rw [show atU u j = (rp 0, u.put j.addr.toNat ⟨3, []⟩) by simp [atU, he, ha, hk]]
        exact playAt_trim B ok u w hu j da n dc he h0 h1 hk
  · rw [show atU u j = (rp 18, u) by simp [atU, he]]
    exact playAt_sealed B ok u w hu j da n dc he

/-- a call's answer put into the result's variable -/
theorem handed_on {B R : Nat} {ok : Nat → Prop} {w W w2 : World} (hq : Quad W R (.int .i64 0) (.bool false) (.slice none 0 0) (.int .i64 0)) (hR : w.heap.size ≤ R) (hBR : B ≠ R) (hg0 : w.grownBy W (some B)) (hn : ¬ ok B) {x : Rp × Un} {y : Ending} (hp : StPost B (fun b => ok b ∧ b ≠ R) W x y w2) :
    ∃ p m q, y = .returned (.agg #[.int .i64 x.1.code, .bool x.1.junk, .slice p m q, .int .i64 x.1.tail]) ∧ Quad w2 R (.int .i64 0) (.bool false) (.slice none 0 0) (.int .i64 0) ∧
    Hid (Quad (set4 w2 R (.int .i64 x.1.code) (.bool x.1.junk) (.slice p m q) (.int .i64 x.1.tail)) R (.int .i64 x.1.code) (.bool x.1.junk) (.slice p m q) (.int .i64 x.1.tail) ∧
    StPost B ok w x (.returned (.agg #[.int .i64 x.1.code, .bool x.1.junk, .slice p m q, .int .i64 x.1.tail])) (set4 w2 R (.int .i64 x.1.code) (.bool x.1.junk) (.slice p m q) (.int .i64 x.1.tail))) := by
  obtain ⟨hr, hu, hg⟩ := hp
  obtain ⟨p, m, q, rfl, rfl, ho, hnew⟩ := hr.parts
  have hRW := hq.lt
  have hq2 : Quad w2 R (.int .i64 0) (.bool false) (.slice none 0 0) (.int .i64 0) := hq.move (hg.block R hRW (by intro e; have := Option.some.inj e; omega))
  refine ⟨p, _, q, rfl, hq2, put_by ⟨hq2.set _ _ _ _, ?_, hu.off hBR hn _ _ _ _, grown_out (grown_trans hg0 hg) hR _ _ _ _⟩⟩
  exact isRp_at hR ho (fun hx ad e => by have := hnew hx ad e; omega) _ _ _ _

/-- a job in a variable of the call's own, the unit calm -/
structure PlJ (B : Nat) (ok : Nat → Prop) (u : Un) (w : World) (k e a : Int) (da : Option Addr) (n dc : Nat) (W : World) : Prop where
  job : Quad W w.heap.size (.int .i64 k) (.int .i64 e) (.int .i64 a) (.slice da n dc)
  res : Quad W (w.heap.size + 1) (.int .i64 0) (.bool false) (.slice none 0 0) (.int .i64 0)
  un : UnI B (fun b => ok b ∧ b ≠ w.heap.size + 1) u W
  grown : w.grownBy W (some B)
  lt : B < w.heap.size

theorem AtI.calm {B : Nat} {ok : Nat → Prop} {u : Un} {w W : World} {k e a : Int} {da : Option Addr} {n dc : Nat} (h : AtI B w.heap.size (w.heap.size + 1) ok u w k e a da n dc W) : PlJ B ok u.calm w k e a da n dc (W.setCell ⟨B, 65, none⟩ (.int .i64 (-1))) := by
  obtain ⟨e1, e2, e3⟩ := h.ord
  exact ⟨h.job.move (heap_setCell_other _ _ _ _ (show w.heap.size ≠ B by omega)), h.res.move (heap_setCell_other _ _ _ _ (show w.heap.size + 1 ≠ B by omega)), h.un.setFr (-1) (.inl rfl), grown_trans (grown_below h.below) (grown_set2 _), e3⟩

theorem PlJ.fresh {B : Nat} {ok : Nat → Prop} {u : Un} {w W : World} {k e a : Int} {da : Option Addr} {n dc : Nat} (h : PlJ B ok u w k e a da n dc W) (hok : Fresh ok w) : Fresh (fun b => ok b ∧ b ≠ w.heap.size + 1) W := fun b hb => by
  have := h.grown.size
  have := h.res.lt
  exact ⟨hok b (by omega), by omega⟩

set_option maxHeartbeats 2000000 in
theorem play_slots (B : Nat) (ok : Nat → Prop) (u : Un) (w : World) (hu : UnI B ok u w) (hok : Fresh ok w) (j : Jb) (da : Option Addr) (n dc : Nat) (hd : n = j.data.length ∧ Octs w da dc j.data ∧ (j.data ≠ [] → ∀ ad, da = some ad → ad.block ≠ B)) (hk : j.kind = 1 ∨ j.kind = 2 ∨ j.kind = 3 ∨ j.kind = 4) :
    Calls Try.prog 10 #[.pointer (some ⟨B, 0, none⟩), .agg #[.int .i64 j.kind, .int .i64 j.epoch, .int .i64 j.addr, .slice da n dc]] w fun x w' => StPost B ok w (atU u.calm j) x w' := by
  have HI := put_by (AtI.start hu j.kind j.epoch j.addr da n dc)
  have HN := put_by hu.not
  have HF := put_by hok
  have HD := put_by hd
  have HK := put_by hk
  clear hu hok hd
  have cP : Hid (∀ W, PlJ B ok u.calm w j.kind j.epoch j.addr da n dc W → Octs W da dc j.data → Calls Try.prog 12 #[.pointer (some ⟨B, 0, none⟩), .agg #[.int .i64 j.kind, .int .i64 j.epoch, .int .i64 j.addr, .slice da n dc]] W fun y w' =>
      ∃ p m q, y = .returned (.agg #[.int .i64 (atU u.calm j).1.code, .bool (atU u.calm j).1.junk, .slice p m q, .int .i64 (atU u.calm j).1.tail]) ∧ Quad w' (w.heap.size + 1) (.int .i64 0) (.bool false) (.slice none 0 0) (.int .i64 0) ∧
      Hid (Quad (set4 w' (w.heap.size + 1) (.int .i64 (atU u.calm j).1.code) (.bool (atU u.calm j).1.junk) (.slice p m q) (.int .i64 (atU u.calm j).1.tail)) (w.heap.size + 1) (.int .i64 (atU u.calm j).1.code) (.bool (atU u.calm j).1.junk) (.slice p m q) (.int .i64 (atU u.calm j).1.tail) ∧
      StPost B ok w (atU u.calm j) (.returned (.agg #[.int .i64 (atU u.calm j).1.code, .bool (atU u.calm j).1.junk, .slice p m q, .int .i64 (atU u.calm j).1.tail])) (set4 w' (w.heap.size + 1) (.int .i64 (atU u.calm j).1.code) (.bool (atU u.calm j).1.junk) (.slice p m q) (.int .i64 (atU u.calm j).1.tail)))) := put_by fun W hP ho =>
    (playAt_any B _ u.calm W hP.un (hP.fresh HF.out) j da n dc ⟨HD.out.1, ho⟩ HK.out).mono fun y w' hp => handed_on hP.res (Nat.le_succ _) (by have := hP.lt; omega) hP.grown HN.out hp
  have HO := put_by (show ∀ V, Below w.heap.size w V → Octs (V.setCell ⟨B, 65, none⟩ (.int .i64 (-1))) da dc j.data from fun V hV => (HD.out.2.1.later hV).move (ok := fun b => b ≠ B) HD.out.2.2 (kept_set (fun h => h rfl) _))
  obtain ⟨rs, hrs⟩ : ∃ rs, rs = atU u.calm j := ⟨_, rfl⟩
  rw [← hrs] at cP
  have HE := put_by hrs
  clear hrs HD
  generalize j.kind = k at *
  generalize j.epoch = e at *
  generalize j.addr = a at *
  clear HK
  rcases hk with rfl | rfl | rfl | rfl
  all_goals
    go_enter Try.func10, Try.ntmps10
    go_upto_region 1 with (fail)
    generalize (w.alloc (.cells #[.int .i64 _, .int .i64 e, .int .i64 a, .slice da n dc] 29)).alloc (.cells #[.int .i64 0, .bool false, .slice none 0 0, .int .i64 0] 40) = V at *
    have c65 := HI.out.un.fr
    have f65 := HI.out.un.free 65 (by omega)
    go_upto_region 3 with (fail)
    have HP := put_by HI.out.calm
    have HO2 := put_by (HO.out V HI.out.below)
    clear HI HO c65 f65
    generalize V.setCell ⟨B, 65, none⟩ (.int .i64 (-1)) = V2 at *
    obtain ⟨d0, d1, d2, d3, g0, g1, g2, g3⟩ := HP.out.job
    go_wp2_with (go_at_call 12; (with_reducible refine (cP.out _ HP.out HO2.out).mono ?_); (rintro y w' ⟨p, m, q, rfl, ⟨c0, c1, c2, c3, f0, f1, f2, f3⟩, HZ⟩))
    show bodyPost _ _ _ _ _ (set4 w' (w.heap.size + 1) (.int .i64 rs.1.code) (.bool rs.1.junk) (.slice p m q) (.int .i64 rs.1.tail))
    exact bodyPost_ret (v := .agg #[.int .i64 rs.1.code, .bool rs.1.junk, .slice p m q, .int .i64 rs.1.tail]) (by simp [results, Try.results10, go_sem, HZ.out.1.c0, HZ.out.1.c1, HZ.out.1.c2, HZ.out.1.c3]) rfl (by rw [← HE.out]; exact HZ.out.2)

set_option maxHeartbeats 2000000 in
theorem play_seal (B : Nat) (ok : Nat → Prop) (u : Un) (w : World) (hu : UnI B ok u w) (j : Jb) (da : Option Addr) (n dc : Nat) (hk : j.kind = 5) :
    Calls Try.prog 10 #[.pointer (some ⟨B, 0, none⟩), .agg #[.int .i64 j.kind, .int .i64 j.epoch, .int .i64 j.addr, .slice da n dc]] w fun x w' => StPost B ok w (sealU u.calm j.epoch) x w' := by
  have HI := put_by (AtI.start hu j.kind j.epoch j.addr da n dc)
  have HN := put_by hu.not
  clear hu
  rw [hk] at HI ⊢
  generalize j.epoch = e at *
  generalize j.addr = a at *
  have cP : Hid (∀ W, PlJ B ok u.calm w 5 e a da n dc W → Calls Try.prog 13 #[.pointer (some ⟨B, 0, none⟩), .int .i64 e] W fun y w' =>
      ∃ p m q, y = .returned (.agg #[.int .i64 (sealU u.calm e).1.code, .bool (sealU u.calm e).1.junk, .slice p m q, .int .i64 (sealU u.calm e).1.tail]) ∧ Quad w' (w.heap.size + 1) (.int .i64 0) (.bool false) (.slice none 0 0) (.int .i64 0) ∧
      Hid (Quad (set4 w' (w.heap.size + 1) (.int .i64 (sealU u.calm e).1.code) (.bool (sealU u.calm e).1.junk) (.slice p m q) (.int .i64 (sealU u.calm e).1.tail)) (w.heap.size + 1) (.int .i64 (sealU u.calm e).1.code) (.bool (sealU u.calm e).1.junk) (.slice p m q) (.int .i64 (sealU u.calm e).1.tail) ∧
      StPost B ok w (sealU u.calm e) (.returned (.agg #[.int .i64 (sealU u.calm e).1.code, .bool (sealU u.calm e).1.junk, .slice p m q, .int .i64 (sealU u.calm e).1.tail])) (set4 w' (w.heap.size + 1) (.int .i64 (sealU u.calm e).1.code) (.bool (sealU u.calm e).1.junk) (.slice p m q) (.int .i64 (sealU u.calm e).1.tail)))) := put_by fun W hP =>
    (seal_any B _ u.calm W hP.un e).mono fun y w' hp => handed_on hP.res (Nat.le_succ _) (by have := hP.lt; omega) hP.grown HN.out hp
  obtain ⟨rs, hrs⟩ : ∃ rs, rs = sealU u.calm e := ⟨_, rfl⟩
  rw [← hrs] at cP
  have HE := put_by hrs
  clear hrs hk
  go_enter Try.func10, Try.ntmps10
  go_upto_region 1 with (fail)
  generalize (w.alloc (.cells #[.int .i64 _, .int .i64 e, .int .i64 a, .slice da n dc] 29)).alloc (.cells #[.int .i64 0, .bool false, .slice none 0 0, .int .i64 0] 40) = V at *
  have c65 := HI.out.un.fr
  have f65 := HI.out.un.free 65 (by omega)
  go_upto_region 3 with (fail)
  have HP := put_by HI.out.calm
  clear HI c65 f65
  generalize V.setCell ⟨B, 65, none⟩ (.int .i64 (-1)) = V2 at *
  obtain ⟨d0, d1, d2, d3, g0, g1, g2, g3⟩ := HP.out.job
  go_wp2_with (go_at_call 13; (with_reducible refine (cP.out _ HP.out).mono ?_); (rintro y w' ⟨p, m, q, rfl, ⟨c0, c1, c2, c3, f0, f1, f2, f3⟩, HZ⟩))
  show bodyPost _ _ _ _ _ (set4 w' (w.heap.size + 1) (.int .i64 rs.1.code) (.bool rs.1.junk) (.slice p m q) (.int .i64 rs.1.tail))
  exact bodyPost_ret (v := .agg #[.int .i64 rs.1.code, .bool rs.1.junk, .slice p m q, .int .i64 rs.1.tail]) (by simp [results, Try.results10, go_sem, HZ.out.1.c0, HZ.out.1.c1, HZ.out.1.c2, HZ.out.1.c3]) rfl (by rw [← HE.out]; exact HZ.out.2)

set_option maxHeartbeats 2000000 in
theorem play_crash (B : Nat) (ok : Nat → Prop) (u : Un) (w : World) (hu : UnI B ok u w) (j : Jb) (da : Option Addr) (n dc : Nat) (hk : j.kind = 6) :
    Calls Try.prog 10 #[.pointer (some ⟨B, 0, none⟩), .agg #[.int .i64 j.kind, .int .i64 j.epoch, .int .i64 j.addr, .slice da n dc]] w fun x w' => StPost B ok w (rp 0, crashU u.calm u.fr j.addr) x w' := by
  have HI := put_by (AtI.start hu j.kind j.epoch j.addr da n dc)
  have HN := put_by hu.not
  have hf := hu.frok
  clear hu
  rw [hk] at HI ⊢
  generalize j.epoch = e at *
  generalize j.addr = a at *
  have cP : Hid (∀ W, PlJ B ok u.calm w 6 e a da n dc W → Calls Try.prog 14 #[.pointer (some ⟨B, 0, none⟩), .int .i64 u.fr, .int .i64 a] W fun y w' => y = .returned (.tuple #[]) ∧ Quad w' (w.heap.size + 1) (.int .i64 0) (.bool false) (.slice none 0 0) (.int .i64 0) ∧
      Hid (Quad (set4 w' (w.heap.size + 1) (.int .i64 0) (.bool false) (.slice none 0 0) (.int .i64 0)) (w.heap.size + 1) (.int .i64 0) (.bool false) (.slice none 0 0) (.int .i64 0) ∧
        StPost B ok w (rp 0, crashU u.calm u.fr a) (.returned (.agg #[.int .i64 0, .bool false, .slice none 0 0, .int .i64 0])) (set4 w' (w.heap.size + 1) (.int .i64 0) (.bool false) (.slice none 0 0) (.int .i64 0)))) := put_by fun W hP =>
    (crash_any B _ u.calm W hP.un u.fr a hf).mono fun y w' ⟨h1, h2, h3⟩ => by
      have hB := hP.lt
      have hq : Quad w' (w.heap.size + 1) (.int .i64 0) (.bool false) (.slice none 0 0) (.int .i64 0) := hP.res.move (h3.block _ hP.res.lt (by intro e; have := Option.some.inj e; omega))
      exact ⟨h1, hq, put_by ⟨hq.set _ _ _ _, isRp_bare _ _ _, h2.off (by omega) HN.out _ _ _ _, grown_out (grown_trans hP.grown h3) (Nat.le_succ _) _ _ _ _⟩⟩
  clear hk hf
  go_enter Try.func10, Try.ntmps10
  go_upto_region 1 with (fail)
  generalize (w.alloc (.cells #[.int .i64 _, .int .i64 e, .int .i64 a, .slice da n dc] 29)).alloc (.cells #[.int .i64 0, .bool false, .slice none 0 0, .int .i64 0] 40) = V at *
  have c65 := HI.out.un.fr
  have f65 := HI.out.un.free 65 (by omega)
  go_upto_region 3 with (fail)
  have HP := put_by HI.out.calm
  clear HI c65 f65
  generalize V.setCell ⟨B, 65, none⟩ (.int .i64 (-1)) = V2 at *
  obtain ⟨d0, d1, d2, d3, g0, g1, g2, g3⟩ := HP.out.job
  go_wp2_with (go_at_call 14; (with_reducible refine (cP.out _ HP.out).mono ?_); (rintro y w' ⟨rfl, ⟨c0, c1, c2, c3, f0, f1, f2, f3⟩, HZ⟩))
  show bodyPost _ _ _ _ _ (set4 w' (w.heap.size + 1) (.int .i64 0) (.bool false) (.slice none 0 0) (.int .i64 0))
  exact bodyPost_ret (v := .agg #[.int .i64 0, .bool false, .slice none 0 0, .int .i64 0]) (by simp [results, Try.results10, go_sem, HZ.out.1.c0, HZ.out.1.c1, HZ.out.1.c2, HZ.out.1.c3]) rfl HZ.out.2

set_option maxHeartbeats 2000000 in
theorem play_none (B : Nat) (ok : Nat → Prop) (u : Un) (w : World) (hu : UnI B ok u w) (j : Jb) (da : Option Addr) (n dc : Nat) (hk : j.kind ≠ 1 ∧ j.kind ≠ 2 ∧ j.kind ≠ 3 ∧ j.kind ≠ 4 ∧ j.kind ≠ 5 ∧ j.kind ≠ 6) :
    Calls Try.prog 10 #[.pointer (some ⟨B, 0, none⟩), .agg #[.int .i64 j.kind, .int .i64 j.epoch, .int .i64 j.addr, .slice da n dc]] w fun x w' => StPost B ok w (rp 3, u.calm) x w' := by
  have HI := put_by (AtI.start hu j.kind j.epoch j.addr da n dc)
  have HN := put_by hu.not
  clear hu
  generalize j.kind = k at *
  generalize j.epoch = e at *
  generalize j.addr = a at *
  obtain ⟨k1, k2, k3, k4, k5, k6⟩ := hk
  have l1 : (k == 1) = false := by simp [k1]
  have l2 : (k == 2) = false := by simp [k2]
  have l3 : (k == 3) = false := by simp [k3]
  have l4 : (k == 4) = false := by simp [k4]
  have l5 : (k == 5) = false := by simp [k5]
  have l6 : (k == 6) = false := by simp [k6]
  clear k1 k2 k3 k4 k5 k6
  go_enter Try.func10, Try.ntmps10
  go_upto_region 1 with (fail)
  generalize (w.alloc (.cells #[.int .i64 _, .int .i64 e, .int .i64 a, .slice da n dc] 29)).alloc (.cells #[.int .i64 0, .bool false, .slice none 0 0, .int .i64 0] 40) = V at *
  have c65 := HI.out.un.fr
  have f65 := HI.out.un.free 65 (by omega)
  go_upto_region 3 with (fail)
  have HP := put_by HI.out.calm
  clear HI c65 f65
  generalize V.setCell ⟨B, 65, none⟩ (.int .i64 (-1)) = V2 at *
  obtain ⟨d0, d1, d2, d3, g0, g1, g2, g3⟩ := HP.out.job
  obtain ⟨c0, c1, c2, c3, f0, f1, f2, f3⟩ := HP.out.res
  go_wp2
  have hz := HP.out.res.set (.int .i64 3) (.bool false) (.slice none 0 0) (.int .i64 0)
  show bodyPost _ _ _ _ _ (set4 V2 (w.heap.size + 1) (.int .i64 3) (.bool false) (.slice none 0 0) (.int .i64 0))
  exact bodyPost_ret (v := .agg #[.int .i64 3, .bool false, .slice none 0 0, .int .i64 0]) (by simp [results, Try.results10, go_sem, hz.c0, hz.c1, hz.c2, hz.c3]) rfl ⟨isRp_bare _ _ _, HP.out.un.off (by have := HP.out.lt; omega) HN.out _ _ _ _, grown_out HP.out.grown (Nat.le_succ _) _ _ _ _⟩

theorem play_any (B : Nat) (ok : Nat → Prop) (u : Un) (w : World) (hu : UnI B ok u w) (hok : Fresh ok w) (j : Jb) (da : Option Addr) (n dc : Nat) (hd : n = j.data.length ∧ Octs w da dc j.data ∧ (j.data ≠ [] → ∀ ad, da = some ad → ad.block ≠ B)) :
    Calls Try.prog 10 #[.pointer (some ⟨B, 0, none⟩), .agg #[.int .i64 j.kind, .int .i64 j.epoch, .int .i64 j.addr, .slice da n dc]] w fun x w' => StPost B ok w (stepU u j) x w' := by
  unfold stepU
  by_cases h1 : j.kind = 1 ∨ j.kind = 2 ∨ j.kind = 3 ∨ j.kind = 4
  · rw [if_pos h1]
    exact play_slots B ok u w hu hok j da n dc hd h1
  · rw [if_neg h1]
    by_cases h2 : j.kind = 5
    · rw [if_pos h2]
      exact play_seal B ok u w hu j da n dc h2
    · rw [if_neg h2]
      by_cases h3 : j.kind = 6
      · rw [if_pos h3]
        exact play_crash B ok u w hu j da n dc h3
      · rw [if_neg h3]
        exact play_none B ok u w hu j da n dc (by omega)

end Go.Proofs.Ytfaejcdbjcklpaa
