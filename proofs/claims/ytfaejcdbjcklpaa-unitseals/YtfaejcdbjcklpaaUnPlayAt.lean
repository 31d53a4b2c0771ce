/- A job at a slot of a unit. -/
import Derived.Test.YtfaejcdbjcklpaaUnCode2
namespace Go.Proofs.Ytfaejcdbjcklpaa
open Go.ChangeShapes Go.WideShapes Go.ChangeAt Go.RowKit

theorem belowN {B : Nat} {a w : World} (h : Below B a w) (n : Nat) : Below B a (w.drewN n) := h.trans ⟨rfl, rfl, rfl, Nat.le_refl _, fun _ _ => rfl⟩

/-- the job in a variable of the call's own, the unit as it was -/
structure AtI (B J R : Nat) (ok : Nat → Prop) (u : Un) (w : World) (k e a : Int) (da : Option Addr) (n dc : Nat) (W : World) : Prop where
  job : Quad W J (.int .i64 k) (.int .i64 e) (.int .i64 a) (.slice da n dc)
  res : Quad W R (.int .i64 0) (.bool false) (.slice none 0 0) (.int .i64 0)
  un : UnI B (fun b => ok b ∧ b ≠ R) u W
  below : Below w.heap.size w W
  ord : J = w.heap.size ∧ R = w.heap.size + 1 ∧ B < w.heap.size

theorem AtI.start {B : Nat} {ok : Nat → Prop} {u : Un} {w : World} (hu : UnI B ok u w) (k e a : Int) (da : Option Addr) (n dc : Nat) : AtI B w.heap.size (w.heap.size + 1) ok u w k e a da n dc ((w.alloc (.cells #[.int .i64 k, .int .i64 e, .int .i64 a, .slice da n dc] 29)).alloc (.cells #[.int .i64 0, .bool false, .slice none 0 0, .int .i64 0] 40)) := by
  have b1 := (Below.refl w.heap.size w).alloc (Nat.le_refl _) (.cells #[.int .i64 k, .int .i64 e, .int .i64 a, .slice da n dc] 29)
  have q1 := Quad.new w (.int .i64 k) (.int .i64 e) (.int .i64 a) (.slice da n dc) 29
  have s1 : (w.alloc (.cells #[.int .i64 k, .int .i64 e, .int .i64 a, .slice da n dc] 29)).heap.size = w.heap.size + 1 := by simp
  generalize w.alloc (.cells #[.int .i64 k, .int .i64 e, .int .i64 a, .slice da n dc] 29) = W1 at *
  have b2 := (Below.refl W1.heap.size W1).alloc (Nat.le_refl _) (.cells #[.int .i64 0, .bool false, .slice none 0 0, .int .i64 0] 40)
  have q2 := Quad.new W1 (.int .i64 0) (.bool false) (.slice none 0 0) (.int .i64 0) 40
  rw [s1] at q2
  exact ⟨q1.later b2, q2, ((hu.avoid (Nat.le_succ _)).later b1).later b2, b1.trans (b2.mono (by omega)), rfl, rfl, hu.lt⟩

theorem AtI.later {B J R : Nat} {ok : Nat → Prop} {u : Un} {w W W' : World} {k e a : Int} {da : Option Addr} {n dc : Nat} (h : AtI B J R ok u w k e a da n dc W) (hb : Below W.heap.size W W') : AtI B J R ok u w k e a da n dc W' :=
  ⟨h.job.later hb, h.res.later hb, h.un.later hb, h.below.trans (hb.mono h.below.size), h.ord⟩

/-- what was refused, at once -/
theorem AtI.bare {B J R : Nat} {ok : Nat → Prop} {u : Un} {w W : World} {k e a : Int} {da : Option Addr} {n dc : Nat} (h : AtI B J R ok u w k e a da n dc W) (hn : ¬ ok B) (c : Int) :
    Quad (set4 W R (.int .i64 c) (.bool false) (.slice none 0 0) (.int .i64 0)) R (.int .i64 c) (.bool false) (.slice none 0 0) (.int .i64 0) ∧
    StPost B ok w (rp c, u) (.returned (.agg #[.int .i64 c, .bool false, .slice none 0 0, .int .i64 0])) (set4 W R (.int .i64 c) (.bool false) (.slice none 0 0) (.int .i64 0)) := by
  obtain ⟨e1, e2, e3⟩ := h.ord
  exact ⟨h.res.set _ _ _ _, isRp_bare _ _ _, h.un.off (by omega) hn _ _ _ _, grown_out (grown_below h.below) (by omega) _ _ _ _⟩

/-- what a call came to is handed on -/
theorem AtI.call {B J R : Nat} {ok : Nat → Prop} {u : Un} {w W w2 : World} {k e a : Int} {da : Option Addr} {n dc : Nat} (h : AtI B J R ok u w k e a da n dc W) (hn : ¬ ok B) {x : Rp × Un} {y : Ending} (hp : StPost B (fun b => ok b ∧ b ≠ R) W x y w2) :
    ∃ p m q, y = .returned (.agg #[.int .i64 x.1.code, .bool x.1.junk, .slice p m q, .int .i64 x.1.tail]) ∧ Quad w2 R (.int .i64 0) (.bool false) (.slice none 0 0) (.int .i64 0) ∧
    Hid (Quad (set4 w2 R (.int .i64 x.1.code) (.bool x.1.junk) (.slice p m q) (.int .i64 x.1.tail)) R (.int .i64 x.1.code) (.bool x.1.junk) (.slice p m q) (.int .i64 x.1.tail) ∧
    StPost B ok w x (.returned (.agg #[.int .i64 x.1.code, .bool x.1.junk, .slice p m q, .int .i64 x.1.tail])) (set4 w2 R (.int .i64 x.1.code) (.bool x.1.junk) (.slice p m q) (.int .i64 x.1.tail))) := by
  obtain ⟨e1, e2, e3⟩ := h.ord
  obtain ⟨hr, hu, hg⟩ := hp
  obtain ⟨p, m, q, rfl, rfl, ho, hnew⟩ := hr.parts
  have hRW := h.res.lt
  have hq : Quad w2 R (.int .i64 0) (.bool false) (.slice none 0 0) (.int .i64 0) := h.res.move (hg.block R hRW (by intro e; have := Option.some.inj e; omega))
  refine ⟨p, _, q, rfl, hq, put_by ⟨hq.set _ _ _ _, ?_, hu.off (by omega) hn _ _ _ _, grown_out (grown_trans (grown_below h.below) hg) (by omega) _ _ _ _⟩⟩
  exact isRp_at (by omega) ho (fun hx ad e => by have := hnew hx ad e; omega) _ _ _ _

set_option maxHeartbeats 1000000 in
theorem playAt_sealed (B : Nat) (ok : Nat → Prop) (u : Un) (w : World) (hu : UnI B ok u w) (j : Jb) (da : Option Addr) (n dc : Nat) (he : j.epoch ≠ u.ep) :
    Calls Try.prog 12 #[.pointer (some ⟨B, 0, none⟩), .agg #[.int .i64 j.kind, .int .i64 j.epoch, .int .i64 j.addr, .slice da n dc]] w fun x w' => StPost B ok w (rp 18, u) x w' := by
  have HI := put_by (AtI.start hu j.kind j.epoch j.addr da n dc)
  have HN := put_by hu.not
  have hne : (j.epoch != u.ep) = true := by simp [he]
  clear hu
  generalize j.kind = k at *
  generalize j.epoch = e at *
  generalize j.addr = a at *
  go_enter Try.func12, Try.ntmps12
  go_upto_region 1 with (fail)
  generalize (w.alloc (.cells #[.int .i64 k, .int .i64 e, .int .i64 a, .slice da n dc] 29)).alloc (.cells #[.int .i64 0, .bool false, .slice none 0 0, .int .i64 0] 40) = V at *
  have c64 := HI.out.un.ep
  obtain ⟨d0, d1, d2, d3, g0, g1, g2, g3⟩ := HI.out.job
  go_quiet (fail)
  have HV := put_by (HI.out.later (belowN (Below.refl _ _) nq))
  clear HI d0 d1 d2 d3 g0 g1 g2 g3 c64
  generalize V.drewN nq = V2 at *
  obtain ⟨c0, c1, c2, c3, f0, f1, f2, f3⟩ := HV.out.res
  go_wp2
  have hz := HV.out.bare HN.out 18
  show bodyPost _ _ _ _ _ (set4 V2 (w.heap.size + 1) (.int .i64 18) (.bool false) (.slice none 0 0) (.int .i64 0))
  exact bodyPost_ret (v := .agg #[.int .i64 18, .bool false, .slice none 0 0, .int .i64 0]) (by simp [results, Try.results12, go_sem, hz.1.c0, hz.1.c1, hz.1.c2, hz.1.c3]) rfl hz.2

set_option maxHeartbeats 1000000 in
theorem playAt_range (B : Nat) (ok : Nat → Prop) (u : Un) (w : World) (hu : UnI B ok u w) (j : Jb) (da : Option Addr) (n dc : Nat) (he : j.epoch = u.ep) (ha : j.addr < 0 ∨ 64 ≤ j.addr) :
    Calls Try.prog 12 #[.pointer (some ⟨B, 0, none⟩), .agg #[.int .i64 j.kind, .int .i64 j.epoch, .int .i64 j.addr, .slice da n dc]] w fun x w' => StPost B ok w (rp 2, u) x w' := by
  have HI := put_by (AtI.start hu j.kind j.epoch j.addr da n dc)
  have HN := put_by hu.not
  rw [he] at HI ⊢
  have hne : (u.ep != u.ep) = false := by simp
  clear hu he
  generalize j.kind = k at *
  generalize j.addr = a at *
  by_cases h0 : a < 0
  · clear ha
    go_enter Try.func12, Try.ntmps12
    go_upto_region 1 with (fail)
    generalize (w.alloc (.cells #[.int .i64 k, .int .i64 u.ep, .int .i64 a, .slice da n dc] 29)).alloc (.cells #[.int .i64 0, .bool false, .slice none 0 0, .int .i64 0] 40) = V at *
    have c64 := HI.out.un.ep
    obtain ⟨d0, d1, d2, d3, g0, g1, g2, g3⟩ := HI.out.job
    go_quiet (fail)
    have HV := put_by (HI.out.later (belowN (Below.refl _ _) nq))
    clear HI d0 d1 d2 d3 g0 g1 g2 g3 c64
    generalize V.drewN nq = V2 at *
    obtain ⟨d0, d1, d2, d3, g0, g1, g2, g3⟩ := HV.out.job
    obtain ⟨c0, c1, c2, c3, f0, f1, f2, f3⟩ := HV.out.res
    go_wp2
    have hz := HV.out.bare HN.out 2
    show bodyPost _ _ _ _ _ (set4 V2 (w.heap.size + 1) (.int .i64 2) (.bool false) (.slice none 0 0) (.int .i64 0))
    exact bodyPost_ret (v := .agg #[.int .i64 2, .bool false, .slice none 0 0, .int .i64 0]) (by simp [results, Try.results12, go_sem, hz.1.c0, hz.1.c1, hz.1.c2, hz.1.c3]) rfl hz.2
  · have h1 : 64 ≤ a := by omega
    have h0' : decide (a < 0) = false := decide_eq_false h0
    clear ha
    go_enter Try.func12, Try.ntmps12
    go_upto_region 1 with (fail)
    generalize (w.alloc (.cells #[.int .i64 k, .int .i64 u.ep, .int .i64 a, .slice da n dc] 29)).alloc (.cells #[.int .i64 0, .bool false, .slice none 0 0, .int .i64 0] 40) = V at *
    have c64 := HI.out.un.ep
    obtain ⟨d0, d1, d2, d3, g0, g1, g2, g3⟩ := HI.out.job
    go_quiet (fail)
    have HV := put_by (HI.out.later (belowN (Below.refl _ _) nq))
    clear HI d0 d1 d2 d3 g0 g1 g2 g3 c64
    generalize V.drewN nq = V2 at *
    obtain ⟨d0, d1, d2, d3, g0, g1, g2, g3⟩ := HV.out.job
    obtain ⟨c0, c1, c2, c3, f0, f1, f2, f3⟩ := HV.out.res
    go_wp2
    have hz := HV.out.bare HN.out 2
    show bodyPost _ _ _ _ _ (set4 V2 (w.heap.size + 1) (.int .i64 2) (.bool false) (.slice none 0 0) (.int .i64 0))
    exact bodyPost_ret (v := .agg #[.int .i64 2, .bool false, .slice none 0 0, .int .i64 0]) (by simp [results, Try.results12, go_sem, hz.1.c0, hz.1.c1, hz.1.c2, hz.1.c3]) rfl hz.2

theorem put_any (B : Nat) (ok : Nat → Prop) (u : Un) (w : World) (hu : UnI B ok u w) (a : Nat) (ha : a < 64) (t : TypeId) (x : Value) (s : Sl) (hv : IsSl ok w (.iface t x) s) :
    Calls Try.prog 18 #[.pointer (some ⟨B, 0, none⟩), .int .i64 a, .iface t x] w fun e w' => StPost B ok w (putU u a s) e w' := by
  by_cases hz : (u.sl a).kind = 0
  · rw [show putU u a s = (rp 0, u.put a s) by simp [putU, hz]]
    exact put_free B ok u w hu a ha t x s hv hz
  · rw [show putU u a s = (hasSl (u.sl a), u) by simp [putU, hz]]
    exact put_full B ok u w hu a ha _ hz

set_option maxHeartbeats 1000000 in
theorem playAt_fetch (B : Nat) (ok : Nat → Prop) (u : Un) (w : World) (hu : UnI B ok u w) (j : Jb) (da : Option Addr) (n dc : Nat) (he : j.epoch = u.ep) (h0 : 0 ≤ j.addr) (h1 : j.addr < 64) (hk : j.kind = 2) :
    Calls Try.prog 12 #[.pointer (some ⟨B, 0, none⟩), .agg #[.int .i64 j.kind, .int .i64 j.epoch, .int .i64 j.addr, .slice da n dc]] w fun x w' => StPost B ok w (readSl (u.sl j.addr.toNat), u) x w' := by
  obtain ⟨m, hm⟩ : ∃ m : Nat, j.addr = m := ⟨j.addr.toNat, by omega⟩
  have hm64 : m < 64 := by omega
  have HI := put_by (AtI.start hu j.kind j.epoch j.addr da n dc)
  have HN := put_by hu.not
  rw [he, hk, hm] at HI ⊢
  rw [Int.toNat_natCast]
  have hne : (u.ep != u.ep) = false := by simp
  have hl1 : (m : Int) < 64 := by omega
  have hl2 : ¬ (64 : Int) ≤ (m : Int) := by omega
  clear hu he hk h0 h1 hm
  go_enter Try.func12, Try.ntmps12
  go_upto_region 1 with (fail)
  generalize (w.alloc (.cells #[.int .i64 2, .int .i64 u.ep, .int .i64 m, .slice da n dc] 29)).alloc (.cells #[.int .i64 0, .bool false, .slice none 0 0, .int .i64 0] 40) = V at *
  have c64 := HI.out.un.ep
  obtain ⟨d0, d1, d2, d3, g0, g1, g2, g3⟩ := HI.out.job
  go_quiet (fail)
  have HV := put_by (HI.out.later (belowN (Below.refl _ _) nq))
  clear HI d0 d1 d2 d3 g0 g1 g2 g3 c64
  generalize V.drewN nq = V2 at *
  obtain ⟨d0, d1, d2, d3, g0, g1, g2, g3⟩ := HV.out.job
  obtain ⟨v0, c9, hs9⟩ := HV.out.un.slot m hm64
  have f9 := HV.out.un.free m (by omega)
  have hBR : B ≠ w.heap.size + 1 := by have := HV.out.ord; omega
  have hBR' : w.heap.size + 1 ≠ B := by have := HV.out.ord; omega
  have hR : ∀ W, Below V2.heap.size V2 W → Calls Try.prog 17 #[v0] W fun e w' => (w'.cell? ⟨w.heap.size, 2, none⟩ = some (.int .i64 m) ∧ w'.cell? ⟨B, m, none⟩ = some v0) ∧ ∃ p q t, e = .returned (.agg #[.int .i64 (readSl (u.sl m)).code, .bool (readSl (u.sl m)).junk, .slice p q t, .int .i64 (readSl (u.sl m)).tail]) ∧ Quad w' (w.heap.size + 1) (.int .i64 0) (.bool false) (.slice none 0 0) (.int .i64 0) ∧
      Hid (Quad (set4 w' (w.heap.size + 1) (.int .i64 (readSl (u.sl m)).code) (.bool (readSl (u.sl m)).junk) (.slice p q t) (.int .i64 (readSl (u.sl m)).tail)) (w.heap.size + 1) (.int .i64 (readSl (u.sl m)).code) (.bool (readSl (u.sl m)).junk) (.slice p q t) (.int .i64 (readSl (u.sl m)).tail) ∧
        StPost B ok w (readSl (u.sl m), u) (.returned (.agg #[.int .i64 (readSl (u.sl m)).code, .bool (readSl (u.sl m)).junk, .slice p q t, .int .i64 (readSl (u.sl m)).tail])) (set4 w' (w.heap.size + 1) (.int .i64 (readSl (u.sl m)).code) (.bool (readSl (u.sl m)).junk) (.slice p q t) (.int .i64 (readSl (u.sl m)).tail))) := fun W hW => by
    have hA := HV.out.later hW
    refine (read_any _ v0 (u.sl m) W (hs9.move (Kept.of_below hW) (fun _ _ q => q))).mono fun e w' ⟨h1, h2⟩ => ?_
    exact ⟨⟨(hA.later h2).job.c2, (h2.cell (p := ⟨B, m, none⟩) hA.un.lt).trans ((hW.cell (p := ⟨B, m, none⟩) HV.out.un.lt).trans c9)⟩, hA.call HN.out (x := (readSl (u.sl m), u)) ⟨h1, hA.un.later h2, grown_below h2⟩⟩
  have HR := put_by hR
  clear hR hs9
  obtain ⟨rs, hrs⟩ : ∃ rs, rs = readSl (u.sl m) := ⟨_, rfl⟩
  rw [← hrs] at HR
  have HE := put_by hrs
  clear hrs
  go_upto_region 9 with (fail)
  go_region_held3 (fun W => W.cell? ⟨w.heap.size, 2, none⟩ = some (.int .i64 m) ∧ W.cell? ⟨B, m, none⟩ = some v0) (go_keep) (first
    | (go_at_call 17; (with_reducible refine (HR.out _ ?_).mono ?_); (first | exact Below.refl _ _ | exact (Below.refl _ _).drew | exact belowN (Below.refl _ _) _); (rintro e w' ⟨⟨k1, k2⟩, p, q, t, rfl, ⟨c0, c1, c2, c3, f0, f1, f2, f3⟩, HZ⟩)))
  all_goals
    go_wp2
    show bodyPost _ _ _ _ _ (set4 w' (w.heap.size + 1) (.int .i64 rs.code) (.bool rs.junk) (.slice p q t) (.int .i64 rs.tail))
    exact bodyPost_ret (v := .agg #[.int .i64 rs.code, .bool rs.junk, .slice p q t, .int .i64 rs.tail]) (by simp [results, Try.results12, go_sem, HZ.out.1.c0, HZ.out.1.c1, HZ.out.1.c2, HZ.out.1.c3]) rfl (by rw [← HE.out]; exact HZ.out.2)

set_option maxHeartbeats 1000000 in
theorem playAt_store (B : Nat) (ok : Nat → Prop) (u : Un) (w : World) (hu : UnI B ok u w) (hok : Fresh ok w) (j : Jb) (da : Option Addr) (n dc : Nat) (hd : n = j.data.length ∧ Octs w da dc j.data) (he : j.epoch = u.ep) (h0 : 0 ≤ j.addr) (h1 : j.addr < 64) (hk : j.kind = 1) :
    Calls Try.prog 12 #[.pointer (some ⟨B, 0, none⟩), .agg #[.int .i64 j.kind, .int .i64 j.epoch, .int .i64 j.addr, .slice da n dc]] w fun x w' => StPost B ok w (storeU u j.addr.toNat j.data) x w' := by
  obtain ⟨m, hm⟩ : ∃ m : Nat, j.addr = m := ⟨j.addr.toNat, by omega⟩
  have hm64 : m < 64 := by omega
  have HI := put_by (AtI.start hu j.kind j.epoch j.addr da n dc)
  have HN := put_by hu.not
  have HF := put_by hok
  have HD := put_by hd
  rw [he, hk, hm] at HI ⊢
  rw [Int.toNat_natCast]
  have hne : (u.ep != u.ep) = false := by simp
  have hl1 : (m : Int) < 64 := by omega
  have hl2 : ¬ (64 : Int) ≤ (m : Int) := by omega
  clear hu hok hd he hk h0 h1 hm
  go_enter Try.func12, Try.ntmps12
  go_upto_region 1 with (fail)
  generalize (w.alloc (.cells #[.int .i64 1, .int .i64 u.ep, .int .i64 m, .slice da n dc] 29)).alloc (.cells #[.int .i64 0, .bool false, .slice none 0 0, .int .i64 0] 40) = V at *
  have c64 := HI.out.un.ep
  obtain ⟨d0, d1, d2, d3, g0, g1, g2, g3⟩ := HI.out.job
  go_quiet (fail)
  have HV := put_by (HI.out.later (belowN (Below.refl _ _) nq))
  clear HI d0 d1 d2 d3 g0 g1 g2 g3 c64
  generalize V.drewN nq = V2 at *
  obtain ⟨d0, d1, d2, d3, g0, g1, g2, g3⟩ := HV.out.job
  obtain ⟨v0, c9, hs9⟩ := HV.out.un.slot m hm64
  have f9 := HV.out.un.free m (by omega)
  have hBR : B ≠ w.heap.size + 1 := by have := HV.out.ord; omega
  have hBR' : w.heap.size + 1 ≠ B := by have := HV.out.ord; omega
  have hR : Calls Try.prog 16 #[.pointer (some ⟨B, 0, none⟩), .int .i64 m, .slice da n dc] V2 fun e w' => ∃ p q t, e = .returned (.agg #[.int .i64 (storeU u m j.data).1.code, .bool (storeU u m j.data).1.junk, .slice p q t, .int .i64 (storeU u m j.data).1.tail]) ∧ Quad w' (w.heap.size + 1) (.int .i64 0) (.bool false) (.slice none 0 0) (.int .i64 0) ∧
      Hid (Quad (set4 w' (w.heap.size + 1) (.int .i64 (storeU u m j.data).1.code) (.bool (storeU u m j.data).1.junk) (.slice p q t) (.int .i64 (storeU u m j.data).1.tail)) (w.heap.size + 1) (.int .i64 (storeU u m j.data).1.code) (.bool (storeU u m j.data).1.junk) (.slice p q t) (.int .i64 (storeU u m j.data).1.tail) ∧
        StPost B ok w (storeU u m j.data) (.returned (.agg #[.int .i64 (storeU u m j.data).1.code, .bool (storeU u m j.data).1.junk, .slice p q t, .int .i64 (storeU u m j.data).1.tail])) (set4 w' (w.heap.size + 1) (.int .i64 (storeU u m j.data).1.code) (.bool (storeU u m j.data).1.junk) (.slice p q t) (.int .i64 (storeU u m j.data).1.tail))) := by
    have hfr : Fresh (fun b => ok b ∧ b ≠ w.heap.size + 1) V2 := fun b hb => by
      have := HV.out.below.size
      have := HV.out.res.lt
      exact ⟨HF.out b (by omega), by omega⟩
    have hd := HD.out.2.later HV.out.below
    have en := HD.out.1
    subst en
    refine (store_any B _ u V2 HV.out.un hfr m hm64 da dc j.data hd).mono fun e w' hp => ?_
    exact HV.out.call HN.out hp
  have HR := put_by hR
  clear hR hs9
  obtain ⟨rs, hrs⟩ : ∃ rs, rs = storeU u m j.data := ⟨_, rfl⟩
  rw [← hrs] at HR
  have HE := put_by hrs
  clear hrs
  go_wp2_with (go_at_call 16; (with_reducible refine HR.out.mono ?_); (rintro e w' ⟨p, q, t, rfl, ⟨c0, c1, c2, c3, f0, f1, f2, f3⟩, HZ⟩))
  show bodyPost _ _ _ _ _ (set4 w' (w.heap.size + 1) (.int .i64 rs.1.code) (.bool rs.1.junk) (.slice p q t) (.int .i64 rs.1.tail))
  exact bodyPost_ret (v := .agg #[.int .i64 rs.1.code, .bool rs.1.junk, .slice p q t, .int .i64 rs.1.tail]) (by simp [results, Try.results12, go_sem, HZ.out.1.c0, HZ.out.1.c1, HZ.out.1.c2, HZ.out.1.c3]) rfl (by rw [← HE.out]; exact HZ.out.2)

set_option maxHeartbeats 1000000 in
theorem playAt_fill (B : Nat) (ok : Nat → Prop) (u : Un) (w : World) (hu : UnI B ok u w) (j : Jb) (da : Option Addr) (n dc : Nat) (he : j.epoch = u.ep) (h0 : 0 ≤ j.addr) (h1 : j.addr < 64) (hk : j.kind = 3) :
    Calls Try.prog 12 #[.pointer (some ⟨B, 0, none⟩), .agg #[.int .i64 j.kind, .int .i64 j.epoch, .int .i64 j.addr, .slice da n dc]] w fun x w' => StPost B ok w (putU u j.addr.toNat ⟨2, []⟩) x w' := by
  obtain ⟨m, hm⟩ : ∃ m : Nat, j.addr = m := ⟨j.addr.toNat, by omega⟩
  have hm64 : m < 64 := by omega
  have HI := put_by (AtI.start hu j.kind j.epoch j.addr da n dc)
  have HN := put_by hu.not
  rw [he, hk, hm] at HI ⊢
  rw [Int.toNat_natCast]
  have hne : (u.ep != u.ep) = false := by simp
  have hl1 : (m : Int) < 64 := by omega
  have hl2 : ¬ (64 : Int) ≤ (m : Int) := by omega
  clear hu he hk h0 h1 hm
  go_enter Try.func12, Try.ntmps12
  go_upto_region 1 with (fail)
  generalize (w.alloc (.cells #[.int .i64 3, .int .i64 u.ep, .int .i64 m, .slice da n dc] 29)).alloc (.cells #[.int .i64 0, .bool false, .slice none 0 0, .int .i64 0] 40) = V at *
  have c64 := HI.out.un.ep
  obtain ⟨d0, d1, d2, d3, g0, g1, g2, g3⟩ := HI.out.job
  go_quiet (fail)
  have HV := put_by (HI.out.later (belowN (Below.refl _ _) nq))
  clear HI d0 d1 d2 d3 g0 g1 g2 g3 c64
  generalize V.drewN nq = V2 at *
  obtain ⟨d0, d1, d2, d3, g0, g1, g2, g3⟩ := HV.out.job
  obtain ⟨v0, c9, hs9⟩ := HV.out.un.slot m hm64
  have f9 := HV.out.un.free m (by omega)
  have hBR : B ≠ w.heap.size + 1 := by have := HV.out.ord; omega
  have hBR' : w.heap.size + 1 ≠ B := by have := HV.out.ord; omega
  have hR : Calls Try.prog 18 #[.pointer (some ⟨B, 0, none⟩), .int .i64 m, .iface 57 (.agg #[])] V2 fun e w' => ∃ p q t, e = .returned (.agg #[.int .i64 (putU u m ⟨2, []⟩).1.code, .bool (putU u m ⟨2, []⟩).1.junk, .slice p q t, .int .i64 (putU u m ⟨2, []⟩).1.tail]) ∧ Quad w' (w.heap.size + 1) (.int .i64 0) (.bool false) (.slice none 0 0) (.int .i64 0) ∧
      Hid (Quad (set4 w' (w.heap.size + 1) (.int .i64 (putU u m ⟨2, []⟩).1.code) (.bool (putU u m ⟨2, []⟩).1.junk) (.slice p q t) (.int .i64 (putU u m ⟨2, []⟩).1.tail)) (w.heap.size + 1) (.int .i64 (putU u m ⟨2, []⟩).1.code) (.bool (putU u m ⟨2, []⟩).1.junk) (.slice p q t) (.int .i64 (putU u m ⟨2, []⟩).1.tail) ∧
        StPost B ok w (putU u m ⟨2, []⟩) (.returned (.agg #[.int .i64 (putU u m ⟨2, []⟩).1.code, .bool (putU u m ⟨2, []⟩).1.junk, .slice p q t, .int .i64 (putU u m ⟨2, []⟩).1.tail])) (set4 w' (w.heap.size + 1) (.int .i64 (putU u m ⟨2, []⟩).1.code) (.bool (putU u m ⟨2, []⟩).1.junk) (.slice p q t) (.int .i64 (putU u m ⟨2, []⟩).1.tail))) := by
    refine (put_any B _ u V2 HV.out.un m hm64 _ _ ⟨2, []⟩ (.inr (.inr (.inl ⟨rfl, rfl⟩)))).mono fun e w' hp => ?_
    exact HV.out.call HN.out hp
  have HR := put_by hR
  clear hR hs9
  obtain ⟨rs, hrs⟩ : ∃ rs, rs = putU u m ⟨2, []⟩ := ⟨_, rfl⟩
  rw [← hrs] at HR
  have HE := put_by hrs
  clear hrs
  go_wp2_with (go_at_call 18; (with_reducible refine HR.out.mono ?_); (rintro e w' ⟨p, q, t, rfl, ⟨c0, c1, c2, c3, f0, f1, f2, f3⟩, HZ⟩))
  show bodyPost _ _ _ _ _ (set4 w' (w.heap.size + 1) (.int .i64 rs.1.code) (.bool rs.1.junk) (.slice p q t) (.int .i64 rs.1.tail))
  exact bodyPost_ret (v := .agg #[.int .i64 rs.1.code, .bool rs.1.junk, .slice p q t, .int .i64 rs.1.tail]) (by simp [results, Try.results12, go_sem, HZ.out.1.c0, HZ.out.1.c1, HZ.out.1.c2, HZ.out.1.c3]) rfl (by rw [← HE.out]; exact HZ.out.2)

set_option maxHeartbeats 1000000 in
theorem playAt_trim (B : Nat) (ok : Nat → Prop) (u : Un) (w : World) (hu : UnI B ok u w) (j : Jb) (da : Option Addr) (n dc : Nat) (he : j.epoch = u.ep) (h0 : 0 ≤ j.addr) (h1 : j.addr < 64) (hk : j.kind = 4) :
    Calls Try.prog 12 #[.pointer (some ⟨B, 0, none⟩), .agg #[.int .i64 j.kind, .int .i64 j.epoch, .int .i64 j.addr, .slice da n dc]] w fun x w' => StPost B ok w (rp 0, u.put j.addr.toNat ⟨3, []⟩) x w' := by
  obtain ⟨m, hm⟩ : ∃ m : Nat, j.addr = m := ⟨j.addr.toNat, by omega⟩
  have hm64 : m < 64 := by omega
  have HI := put_by (AtI.start hu j.kind j.epoch j.addr da n dc)
  have HN := put_by hu.not
  rw [he, hk, hm] at HI ⊢
  rw [Int.toNat_natCast]
  have hne : (u.ep != u.ep) = false := by simp
  have hl1 : (m : Int) < 64 := by omega
  have hl2 : ¬ (64 : Int) ≤ (m : Int) := by omega
  clear hu he hk h0 h1 hm
  go_enter Try.func12, Try.ntmps12
  go_upto_region 1 with (fail)
  generalize (w.alloc (.cells #[.int .i64 4, .int .i64 u.ep, .int .i64 m, .slice da n dc] 29)).alloc (.cells #[.int .i64 0, .bool false, .slice none 0 0, .int .i64 0] 40) = V at *
  have c64 := HI.out.un.ep
  obtain ⟨d0, d1, d2, d3, g0, g1, g2, g3⟩ := HI.out.job
  go_quiet (fail)
  have HV := put_by (HI.out.later (belowN (Below.refl _ _) nq))
  clear HI d0 d1 d2 d3 g0 g1 g2 g3 c64
  generalize V.drewN nq = V2 at *
  obtain ⟨d0, d1, d2, d3, g0, g1, g2, g3⟩ := HV.out.job
  obtain ⟨v0, c9, hs9⟩ := HV.out.un.slot m hm64
  have f9 := HV.out.un.free m (by omega)
  have hBR : B ≠ w.heap.size + 1 := by have := HV.out.ord; omega
  have hBR' : w.heap.size + 1 ≠ B := by have := HV.out.ord; omega
  go_upto_region 12 with (fail)
  go_region
  all_goals
    have HW := put_by ((HV.out.un.put m hm64 ⟨3, []⟩ (.iface 58 (.agg #[])) (.inr (.inr (.inr ⟨rfl, rfl⟩)))).later (Below.refl _ _).drew)
    have HG := put_by (grown_trans (grown_trans (grown_below (B := B) HV.out.below) (grown_set2 (i := m) (.iface 58 (.agg #[])))) (grown_below (Below.refl _ _).drew))
    have HQ := put_by (HV.out.res.move (W' := (V2.setCell ⟨B, m, none⟩ (.iface 58 (.agg #[]))).drew) (heap_setCell_other _ _ _ _ hBR'))
    generalize (V2.setCell ⟨B, m, none⟩ (.iface 58 (.agg #[]))).drew = W3 at *
    obtain ⟨c0, c1, c2, c3, f0, f1, f2, f3⟩ := HQ.out
    go_wp2
    have hz := HQ.out.set (.int .i64 0) (.bool false) (.slice none 0 0) (.int .i64 0)
    show bodyPost _ _ _ _ _ (set4 W3 (w.heap.size + 1) (.int .i64 0) (.bool false) (.slice none 0 0) (.int .i64 0))
    exact bodyPost_ret (v := .agg #[.int .i64 0, .bool false, .slice none 0 0, .int .i64 0]) (by simp [results, Try.results12, go_sem, hz.c0, hz.c1, hz.c2, hz.c3]) rfl ⟨isRp_bare _ _ _, HW.out.off hBR HN.out _ _ _ _, grown_out HG.out (Nat.le_succ _) _ _ _ _⟩

end Go.Proofs.Ytfaejcdbjcklpaa
