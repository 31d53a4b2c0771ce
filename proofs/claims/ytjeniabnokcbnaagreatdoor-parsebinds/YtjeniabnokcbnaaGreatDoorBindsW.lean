/- The sources that ParseBinds makes: their tokens, their bytes, and what they are read as. -/
import Derived.Test.YtjeniabnokcbnaaGreatDoorParensW
import Derived.Deep.Cut
import Derived.Deep.RegionHeld
namespace Go.Proofs.YtjeniabnokcbnaaGreatDoor

def bOs : List (List UInt8) := [[111, 114], [97, 110, 100], [61], [60, 62], [60], [60, 61], [62], [62, 61], [43], [45], [42], [47], [37]]
def bVs : List Int := [20, 19, 13, 14, 15, 16, 17, 18, 8, 9, 10, 11, 12]
def bLs : List Int := [1, 2, 4, 4, 4, 4, 4, 4, 5, 5, 6, 6, 6]
def bO (a : Nat) : List UInt8 := bOs.getD a []
def bV (a : Nat) : Int := bVs.getD a 0
def bL (a : Nat) : Int := bLs.getD a 0
def bT (a : Nat) : Tok := ⟨if a < 2 then 1 else 4, 0, bO a⟩
def nT (k : Int) : Tok := ⟨2, k, []⟩
def cE (k : Int) : Ex := .leaf 1 ⟨2, k, []⟩ [] []
def bindT (a b : Nat) : List Tok := [nT 1, bT a, nT 2, bT b, nT 3]
def twoT (j : Int) (a : Nat) (k : Int) : List Tok := [nT j, bT a, nT k]

def srcOk (ts : List Tok) : Bool := AllMay' ts && decide (ts.length ≤ 300) && decide ((joined ts).length ≤ 2000) && decide (1 ≤ ts.length)
theorem srcOk.src {ts : List Tok} (h : srcOk ts = true) : Src ts := by
  simp only [srcOk, Bool.and_eq_true, decide_eq_true_eq] at h
  exact ⟨h.1.1.1, h.1.1.2, h.1.2, h.2⟩

def bindOk (a b : Nat) : Bool :=
  srcOk (sel (bindT a b)) && decide (joined (sel (bindT a b)) = [115, 101, 108, 101, 99, 116, 32, 49, 32] ++ bO a ++ [32, 50, 32] ++ bO b ++ [32, 51, 32, 102, 114, 111, 109, 32, 116]) &&
    (if bL a = 4 ∧ bL b = 4 then decide ((readP (sel (bindT a b))).2 = (4, 4))
     else decide ((readP (sel (bindT a b))).2 = (0, 0)) && decide ((readP (sel (bindT a b))).1.values = [if bL b ≤ bL a then .bi (bV b) (.bi (bV a) (cE 1) (cE 2)) (cE 3) else .bi (bV a) (cE 1) (.bi (bV b) (cE 2) (cE 3))]))
def twoOk (j : Int) (a : Nat) (k : Int) : Bool :=
  srcOk (sel (twoT j a k)) && decide ((readP (sel (twoT j a k))).2 = (0, 0)) && decide ((readP (sel (twoT j a k))).1.values = [.bi (bV a) (cE j) (cE k)])

set_option maxRecDepth 100000 in
theorem binds_ok : ∀ a, a < 13 → ∀ b, b < 13 → bindOk a b = true := by decide +kernel
set_option maxRecDepth 100000 in
theorem twos_ok : ∀ a, a < 13 → (twoOk 1 a 2 && twoOk 2 a 3 && decide (joined (sel (twoT 1 a 2)) = [115, 101, 108, 101, 99, 116, 32] ++ ([49, 32] ++ bO a ++ [32, 50]) ++ [32, 102, 114, 111, 109, 32, 116]) && decide (joined (sel (twoT 2 a 3)) = [115, 101, 108, 101, 99, 116, 32] ++ ([50, 32] ++ bO a ++ [32, 51]) ++ [32, 102, 114, 111, 109, 32, 116])) = true := by decide +kernel

end Go.Proofs.YtjeniabnokcbnaaGreatDoor

/- A constant as an expression: constOf of the statements' package, at a whole number. -/
namespace Go.Proofs.YtjeniabnokcbnaaGreatDoor
open Go.ChangeShapes Go.WideShapes Go.ChangeAt Go.RowKit

def constED (k : Int) : ED := ⟨1, 2, k, ⟨#[]⟩, ⟨#[]⟩, ⟨#[]⟩, none, 0, 0⟩
theorem constED_is (ok : Nat → Prop) (W : World) (k : Int) : IsEx ok W (cE k) (constED k) := ⟨rfl, rfl, rfl, rfl, rfl, rfl, rfl⟩

set_option maxRecDepth 100000 in
theorem constOf_any (k : Int) (W : World) :
    Calls Tryz.prog 8 #[.agg #[.int .i64 2, .int .i64 k, .string ⟨#[]⟩]] W fun r W' => r = .returned (exval (constED k)) ∧ Below W.heap.size W W' := by
  go_enter Tryz.func8, Tryz.ntmps8
  go_wp2
  exact bodyPost_ret (v := exval (constED k)) (by simp [results, Tryz.results8, go_sem, asAddr, constED]) rfl ⟨rfl, ((Below.refl _ W).alloc (Nat.le_refl _) _).alloc (by simp) _⟩

end Go.Proofs.YtjeniabnokcbnaaGreatDoor

/- ParseBinds' walk: what binds tighter goes together first. -/
namespace Go.Proofs.YtjeniabnokcbnaaGreatDoor
open Go.ChangeShapes Go.WideShapes Go.ChangeAt Go.RowKit

abbrev opsObj : Obj := .cells #[.string ⟨#[111, 114]⟩, .string ⟨#[97, 110, 100]⟩, .string ⟨#[61]⟩, .string ⟨#[60, 62]⟩, .string ⟨#[60]⟩, .string ⟨#[60, 61]⟩, .string ⟨#[62]⟩, .string ⟨#[62, 61]⟩, .string ⟨#[43]⟩, .string ⟨#[45]⟩, .string ⟨#[42]⟩, .string ⟨#[47]⟩, .string ⟨#[37]⟩] 9
abbrev levObj : Obj := .cells #[.int .i64 1, .int .i64 2, .int .i64 4, .int .i64 4, .int .i64 4, .int .i64 4, .int .i64 4, .int .i64 4, .int .i64 5, .int .i64 5, .int .i64 6, .int .i64 6, .int .i64 6] 3

theorem opsCell (a : Nat) (ha : a < 13) (w : World) : (w.alloc opsObj).cell? ⟨w.heap.size, a, none⟩ = some (.string (str (bO a))) := by
  simp only [World.cell?_alloc_new]
  rcases (show a = 0 ∨ a = 1 ∨ a = 2 ∨ a = 3 ∨ a = 4 ∨ a = 5 ∨ a = 6 ∨ a = 7 ∨ a = 8 ∨ a = 9 ∨ a = 10 ∨ a = 11 ∨ a = 12 by omega) with rfl | rfl | rfl | rfl | rfl | rfl | rfl | rfl | rfl | rfl | rfl | rfl | rfl <;> rfl
theorem levCell (a : Nat) (ha : a < 13) (w : World) : (w.alloc levObj).cell? ⟨w.heap.size, a, none⟩ = some (.int .i64 (bL a)) := by
  simp only [World.cell?_alloc_new]
  rcases (show a = 0 ∨ a = 1 ∨ a = 2 ∨ a = 3 ∨ a = 4 ∨ a = 5 ∨ a = 6 ∨ a = 7 ∨ a = 8 ∨ a = 9 ∨ a = 10 ∨ a = 11 ∨ a = 12 by omega) with rfl | rfl | rfl | rfl | rfl | rfl | rfl | rfl | rfl | rfl | rfl | rfl | rfl <;> rfl

theorem binds_laid (w : World) : ∃ W, (w.alloc opsObj).alloc levObj = W ∧ Hid (Below w.heap.size w W ∧ w.heap.size < W.heap.size) ∧ w.heap.size + 1 < W.heap.size ∧ Hid (∀ a, a < 13 → W.cell? ⟨w.heap.size, a, none⟩ = some (.string (str (bO a))) ∧ W.cell? ⟨w.heap.size + 1, a, none⟩ = some (.int .i64 (bL a))) := by
  have b1 : Below w.heap.size w (w.alloc opsObj) := (Below.refl _ w).alloc (Nat.le_refl _) _
  have b2 : Below (w.alloc opsObj).heap.size (w.alloc opsObj) ((w.alloc opsObj).alloc levObj) := (Below.refl _ _).alloc (Nat.le_refl _) _
  refine ⟨_, rfl, ⟨b1.trans (b2.mono b1.size), by simp; omega⟩, by simp, fun a ha => ⟨(b2.cell (p := ⟨w.heap.size, a, none⟩) (by simp)).trans (opsCell a ha w), ?_⟩⟩
  have := levCell a ha (w.alloc opsObj)
  have e : (w.alloc opsObj).heap.size = w.heap.size + 1 := by simp
  rw [e] at this
  exact this

theorem left_any (a : Nat) (ha : a < 13) {w W : World} (tab : ParseTabs w) (h : Hid (Below w.heap.size w W)) :
    Calls Tryz.prog 6 #[.string (⟨#[49, 32]⟩ ++ str (bO a) ++ ⟨#[32, 50]⟩)] W fun r W' => ∃ d : ED, r = .returned (.tuple #[exval d, .bool true]) ∧ Hid (Below W.heap.size W W' ∧ IsEx (fun b => W.heap.size ≤ b) W' (.bi (bV a) (cE 1) (cE 2)) d) := by
  have h0 := twos_ok a ha
  simp only [Bool.and_eq_true, decide_eq_true_eq, twoOk] at h0
  obtain ⟨⟨⟨⟨⟨h1, h2⟩, h3⟩, _⟩, h4⟩, _⟩ := h0
  have hr : readP (sel (twoT 1 a 2)) = ((readP (sel (twoT 1 a 2))).1, 0, 0) := by rw [← h2]
  refine one_any (srcOk.src h1) hr h3 _ ?_ tab h
  rw [h4, show (⟨#[115, 101, 108, 101, 99, 116, 32]⟩ : ByteArray) = str [115, 101, 108, 101, 99, 116, 32] from rfl, show (⟨#[49, 32]⟩ : ByteArray) = str [49, 32] from rfl, show (⟨#[32, 50]⟩ : ByteArray) = str [32, 50] from rfl, show (⟨#[32, 102, 114, 111, 109, 32, 116]⟩ : ByteArray) = str [32, 102, 114, 111, 109, 32, 116] from rfl]
  simp only [str_two]
theorem right_any (a : Nat) (ha : a < 13) {w W : World} (tab : ParseTabs w) (h : Hid (Below w.heap.size w W)) :
    Calls Tryz.prog 6 #[.string (⟨#[50, 32]⟩ ++ str (bO a) ++ ⟨#[32, 51]⟩)] W fun r W' => ∃ d : ED, r = .returned (.tuple #[exval d, .bool true]) ∧ Hid (Below W.heap.size W W' ∧ IsEx (fun b => W.heap.size ≤ b) W' (.bi (bV a) (cE 2) (cE 3)) d) := by
  have h0 := twos_ok a ha
  simp only [Bool.and_eq_true, decide_eq_true_eq, twoOk] at h0
  obtain ⟨⟨⟨_, ⟨h1, h2⟩, h3⟩, _⟩, h4⟩ := h0
  have hr : readP (sel (twoT 2 a 3)) = ((readP (sel (twoT 2 a 3))).1, 0, 0) := by rw [← h2]
  refine one_any (srcOk.src h1) hr h3 _ ?_ tab h
  rw [h4, show (⟨#[115, 101, 108, 101, 99, 116, 32]⟩ : ByteArray) = str [115, 101, 108, 101, 99, 116, 32] from rfl, show (⟨#[50, 32]⟩ : ByteArray) = str [50, 32] from rfl, show (⟨#[32, 51]⟩ : ByteArray) = str [32, 51] from rfl, show (⟨#[32, 102, 114, 111, 109, 32, 116]⟩ : ByteArray) = str [32, 102, 114, 111, 109, 32, 116] from rfl]
  simp only [str_two]

/-- two tests, or a tree of two parts, and which ones -/
theorem bind_split {a b p : Nat} {er : Int} {t : Stm} (h : (if bL a = 4 ∧ bL b = 4 then decide ((p, er) = (4, 4)) else decide ((p, er) = (0, 0)) && decide (t.values = [if bL b ≤ bL a then .bi (bV b) (.bi (bV a) (cE 1) (cE 2)) (cE 3) else .bi (bV a) (cE 1) (.bi (bV b) (cE 2) (cE 3))])) = true) :
    (bL a = 4 ∧ bL b = 4 ∧ p = 4 ∧ er = 4) ∨ (¬ (bL a = 4 ∧ bL b = 4) ∧ p = 0 ∧ er = 0 ∧ ∃ o e1 e2, t.values = [.bi o e1 e2] ∧ ((bL b ≤ bL a ∧ o = bV b ∧ e1 = .bi (bV a) (cE 1) (cE 2) ∧ e2 = cE 3) ∨ (¬ bL b ≤ bL a ∧ o = bV a ∧ e1 = cE 1 ∧ e2 = .bi (bV b) (cE 2) (cE 3)))) := by
  by_cases h4 : bL a = 4 ∧ bL b = 4
  · rw [if_pos h4, decide_eq_true_eq, Prod.mk.injEq] at h
    exact .inl ⟨h4.1, h4.2, h.1, h.2⟩
  · rw [if_neg h4, Bool.and_eq_true, decide_eq_true_eq, decide_eq_true_eq, Prod.mk.injEq] at h
    refine .inr ⟨h4, h.1.1, h.1.2, ?_⟩
    by_cases hl : bL b ≤ bL a
    · exact ⟨_, _, _, by rw [h.2, if_pos hl], .inl ⟨hl, rfl, rfl, rfl⟩⟩
    · exact ⟨_, _, _, by rw [h.2, if_neg hl], .inr ⟨hl, rfl, rfl, rfl⟩⟩

theorem VarB.below {W W' : World} {b : Nat} {vs : List Value} (h : VarB W b vs) (k : Below W.heap.size W W') : VarB W' b vs :=
  ⟨Nat.lt_of_lt_of_le h.1 k.size, fun j u hu => (k.cell (p := ⟨b, j, none⟩) h.1).trans (h.2.1 j u hu), fun i => (k.frozen (p := ⟨b, i, none⟩) h.1).trans (h.2.2 i)⟩
theorem cell8_eight {W : World} {b : Nat} {d : ED} (h : Cell8 W b 8 d) : W.cell? ⟨b, 8, none⟩ = some (.int .i64 d.op) ∧ W.cell? ⟨b, 9, none⟩ = some (.int .i64 d.vk) ∧ W.cell? ⟨b, 10, none⟩ = some (.int .i64 d.vi) ∧ W.cell? ⟨b, 11, none⟩ = some (.string d.vt) ∧
    W.cell? ⟨b, 12, none⟩ = some (.string d.tb) ∧ W.cell? ⟨b, 13, none⟩ = some (.string d.nm) ∧ W.cell? ⟨b, 14, none⟩ = some (.int .i64 0) ∧ W.cell? ⟨b, 15, none⟩ = some (.slice d.ao d.n d.cap) :=
  ⟨h 0 _ rfl, h 1 _ rfl, h 2 _ rfl, h 3 _ rfl, h 4 _ rfl, h 5 _ rfl, h 6 _ rfl, h 7 _ rfl⟩

/-- a tree's own cells, in a later world -/
theorem cells_later {W W' : World} {b : Nat} {v0 v1 v2 v3 v4 v5 v6 v7 : Value} (h : Below W.heap.size W W') (hb : b < W.heap.size) (c : W.cell? ⟨b, 0, none⟩ = some v0 ∧ W.cell? ⟨b, 1, none⟩ = some v1 ∧ W.cell? ⟨b, 2, none⟩ = some v2 ∧ W.cell? ⟨b, 3, none⟩ = some v3 ∧ W.cell? ⟨b, 4, none⟩ = some v4 ∧ W.cell? ⟨b, 5, none⟩ = some v5 ∧ W.cell? ⟨b, 6, none⟩ = some v6 ∧ W.cell? ⟨b, 7, none⟩ = some v7) :
    W'.cell? ⟨b, 0, none⟩ = some v0 ∧ W'.cell? ⟨b, 1, none⟩ = some v1 ∧ W'.cell? ⟨b, 2, none⟩ = some v2 ∧ W'.cell? ⟨b, 3, none⟩ = some v3 ∧ W'.cell? ⟨b, 4, none⟩ = some v4 ∧ W'.cell? ⟨b, 5, none⟩ = some v5 ∧ W'.cell? ⟨b, 6, none⟩ = some v6 ∧ W'.cell? ⟨b, 7, none⟩ = some v7 := by
  obtain ⟨c0, c1, c2, c3, c4, c5, c6, c7⟩ := c
  exact ⟨(h.cell hb).trans c0, (h.cell hb).trans c1, (h.cell hb).trans c2, (h.cell hb).trans c3, (h.cell hb).trans c4, (h.cell hb).trans c5, (h.cell hb).trans c6, (h.cell hb).trans c7⟩

set_option maxRecDepth 100000 in
set_option maxHeartbeats 16000000 in
theorem binds_walk (a0 a1 : Int) (w : World) (tab : ParseTabs w) :
    Calls Tryz.prog 3 #[.int .i64 a0, .int .i64 a1] w fun e w' => e = .returned (.bool true) ∧ Below w.heap.size w w' := by
  obtain ⟨a, ha0⟩ : ∃ c : Nat, a0 % 13 = (c : Int) := ⟨(a0 % 13).toNat, by omega⟩
  have ha : a < 13 := by omega
  have hai : (a : Int) < 13 := by omega
  have cA := Picked_any a0 13 (by decide) (by decide)
  rw [ha0] at cA
  clear ha0
  obtain ⟨b, hb0⟩ : ∃ c : Nat, a1 % 13 = (c : Int) := ⟨(a1 % 13).toNat, by omega⟩
  have hb : b < 13 := by omega
  have hbi : (b : Int) < 13 := by omega
  have cB := Picked_any a1 13 (by decide) (by decide)
  rw [hb0] at cB
  clear hb0
  have hok := binds_ok a ha b hb
  unfold bindOk at hok
  rw [Bool.and_eq_true, Bool.and_eq_true, decide_eq_true_eq] at hok
  obtain ⟨⟨hsrc, hjo⟩, hread⟩ := hok
  have cP := hide (fun (W : World) (h : Hid (Below w.heap.size w W)) => parsed_any (srcOk.src hsrc) (⟨#[115, 101, 108, 101, 99, 116, 32, 49, 32]⟩ ++ str (bO a) ++ ⟨#[32, 50, 32]⟩ ++ str (bO b) ++ ⟨#[32, 51, 32, 102, 114, 111, 109, 32, 116]⟩) (by
    rw [hjo, show (⟨#[115, 101, 108, 101, 99, 116, 32, 49, 32]⟩ : ByteArray) = str [115, 101, 108, 101, 99, 116, 32, 49, 32] from rfl, show (⟨#[32, 50, 32]⟩ : ByteArray) = str [32, 50, 32] from rfl, show (⟨#[32, 51, 32, 102, 114, 111, 109, 32, 116]⟩ : ByteArray) = str [32, 51, 32, 102, 114, 111, 109, 32, 116] from rfl]
    simp only [str_two]) tab h)
  obtain ⟨w1, e1, HW, hlev, HC⟩ := binds_laid w
  have HE1 := hide e1
  clear e1
  have hza : (str (bO a)).size ≤ 3 := by
    rw [str_size]
    exact (by decide +kernel : ∀ a, a < 13 → (bO a).length ≤ 3) a ha
  have hzb : (str (bO b)).size ≤ 3 := by
    rw [str_size]
    exact (by decide +kernel : ∀ a, a < 13 → (bO a).length ≤ 3) b hb
  have oa : w1.cell? ⟨w.heap.size, a, none⟩ = some (.string (str (bO a))) := (HC.out a ha).1
  have ob : w1.cell? ⟨w.heap.size, b, none⟩ = some (.string (str (bO b))) := (HC.out b hb).1
  generalize readP (sel (bindT a b)) = r at cP hread
  obtain ⟨t, p, er⟩ := r
  simp only at cP hread
  generalize hsa : str (bO a) = sa at *
  generalize hsb : str (bO b) = sb at *
  have hlt : w.heap.size < w1.heap.size := HW.out.2
  obtain ⟨wd, hwd⟩ : ∃ wd, wd = w1.drew := ⟨_, rfl⟩
  have HBD : Hid (Below w1.heap.size w1 wd) := by rw [hwd]; exact (Below.refl _ w1).drew
  have hltd : w.heap.size < wd.heap.size := Nat.lt_of_lt_of_le hlt HBD.out.size
  have HBB0 : Hid (Below wd.heap.size wd (wd.alloc zeroStm)) := (Below.refl _ wd).alloc (Nat.le_refl _) _
  have hltB : w.heap.size < (wd.alloc zeroStm).heap.size := Nat.lt_of_lt_of_le hltd HBB0.out.size
  have HBA : Hid (Below w.heap.size w wd) := HW.out.1.trans (HBD.out.mono HW.out.1.size)
  have HBB : Hid (Below w.heap.size w (wd.alloc zeroStm)) := HBA.out.trans (HBB0.out.mono HBA.out.size)
  have oaA : wd.cell? ⟨w.heap.size, a, none⟩ = some (.string sa) := (HBD.out.cell hlt).trans oa
  have obA : wd.cell? ⟨w.heap.size, b, none⟩ = some (.string sb) := (HBD.out.cell hlt).trans ob
  have oaB : (wd.alloc zeroStm).cell? ⟨w.heap.size, a, none⟩ = some (.string sa) := (HBB0.out.cell hltd).trans oaA
  have obB : (wd.alloc zeroStm).cell? ⟨w.heap.size, b, none⟩ = some (.string sb) := (HBB0.out.cell hltd).trans obA
  have HT := hide tab
  clear tab
  go_enter Tryz.func3, Tryz.ntmps3
  go_upto_region 5 with (first
    | (go_at_call 4; (with_reducible refine (cA _).mono ?_); rintro e w' ⟨rfl, rfl⟩; rw [HE1.out])
    | (go_at_call 4; (with_reducible refine (cB _).mono ?_); rintro e w' ⟨rfl, rfl⟩))
  go_cut [9, 10, 11] from 17 (fun s9 s10 s11 W => ∃ (T : Nat) (x : SD), s9 = .pointer (some ⟨T, 0, none⟩) ∧ s10 = .int .i64 (p : Int) ∧ s11 = .int .i64 er ∧ Below w1.heap.size w1 W ∧ W.rangeAt T 0 (stmCells x) ∧ IsStm w1.heap.size W t x)
  case first =>
    refine wp_region_held (S := fun W => W.cell? ⟨w.heap.size, a, none⟩ = some (.string sa) ∧ W.cell? ⟨w.heap.size, b, none⟩ = some (.string sb)) (by kernel_rfl) ?_
    change wpAnyH _ _ _ _ _ _ _ _ w1.drew
    rw [← hwd]
    clear hwd
    refine wpAnyH_take (i := 0) (v := .slice (some ⟨w.heap.size, 0, none⟩) 13 13) rfl (by kernel_rfl) (by kernel_rfl) (by kernel_rfl) (fun _ _ _ h => h) (Or.inl ⟨by rfl, ?_⟩) ⟨oaA, obA⟩ ?_
    · intro wq hq
      go_simp
    simp only [Act.put]
    refine wpAnyH_take (i := 1) (v := .int .i64 (a : Int)) rfl (by kernel_rfl) (by kernel_rfl) (by kernel_rfl) (fun _ _ _ h => h) (Or.inl ⟨by rfl, ?_⟩) ⟨oaA, obA⟩ ?_
    · intro wq hq
      go_simp
    simp only [Act.put]
    refine wpAnyH_take (i := 2) (v := .pointer (some ⟨w.heap.size, a, none⟩)) rfl (by kernel_rfl) (by kernel_rfl) (by kernel_rfl) (fun _ _ _ h => h) (Or.inl ⟨by rfl, ?_⟩) ⟨oaA, obA⟩ ?_
    · intro wq hq
      go_simp
    simp only [Act.put]
    refine wpAnyH_take (i := 3) (v := .string sa) rfl (by kernel_rfl) (by kernel_rfl) (by kernel_rfl) (fun _ _ _ h => h) (Or.inl ⟨by rfl, ?_⟩) ⟨oaA, obA⟩ ?_
    · intro wq hq
      have q := hq.1
      go_simp
    simp only [Act.put]
    refine wpAnyH_take (i := 4) (v := .string (⟨#[115, 101, 108, 101, 99, 116, 32, 49, 32]⟩ ++ sa)) rfl (by kernel_rfl) (by kernel_rfl) (by kernel_rfl) (fun _ _ _ h => h) (Or.inl ⟨by rfl, ?_⟩) ⟨oaA, obA⟩ ?_
    · intro wq hq
      go_simp
      omega
    simp only [Act.put]
    refine wpAnyH_take (i := 5) (v := .string (⟨#[115, 101, 108, 101, 99, 116, 32, 49, 32]⟩ ++ sa ++ ⟨#[32, 50, 32]⟩)) rfl (by kernel_rfl) (by kernel_rfl) (by kernel_rfl) (fun _ _ _ h => h) (Or.inl ⟨by rfl, ?_⟩) ⟨oaA, obA⟩ ?_
    · intro wq hq
      go_simp
      omega
    simp only [Act.put]
    refine wpAnyH_take (i := 6) (v := .slice (some ⟨w.heap.size, 0, none⟩) 13 13) rfl (by kernel_rfl) (by kernel_rfl) (by kernel_rfl) (fun _ _ _ h => h) (Or.inl ⟨by rfl, ?_⟩) ⟨oaA, obA⟩ ?_
    · intro wq hq
      go_simp
    simp only [Act.put]
    refine wpAnyH_take (i := 7) (v := .int .i64 (b : Int)) rfl (by kernel_rfl) (by kernel_rfl) (by kernel_rfl) (fun _ _ _ h => h) (Or.inl ⟨by rfl, ?_⟩) ⟨oaA, obA⟩ ?_
    · intro wq hq
      go_simp
    simp only [Act.put]
    refine wpAnyH_take (i := 8) (v := .pointer (some ⟨w.heap.size, b, none⟩)) rfl (by kernel_rfl) (by kernel_rfl) (by kernel_rfl) (fun _ _ _ h => h) (Or.inl ⟨by rfl, ?_⟩) ⟨oaA, obA⟩ ?_
    · intro wq hq
      go_simp
    simp only [Act.put]
    refine wpAnyH_take (i := 9) (v := .string sb) rfl (by kernel_rfl) (by kernel_rfl) (by kernel_rfl) (fun _ _ _ h => h) (Or.inl ⟨by rfl, ?_⟩) ⟨oaA, obA⟩ ?_
    · intro wq hq
      have q := hq.2
      go_simp
    simp only [Act.put]
    refine wpAnyH_take (i := 10) (v := .string (⟨#[115, 101, 108, 101, 99, 116, 32, 49, 32]⟩ ++ sa ++ ⟨#[32, 50, 32]⟩ ++ sb)) rfl (by kernel_rfl) (by kernel_rfl) (by kernel_rfl) (fun _ _ _ h => h) (Or.inl ⟨by rfl, ?_⟩) ⟨oaA, obA⟩ ?_
    · intro wq hq
      go_simp
      omega
    simp only [Act.put]
    refine wpAnyH_take (i := 11) (v := .string (⟨#[115, 101, 108, 101, 99, 116, 32, 49, 32]⟩ ++ sa ++ ⟨#[32, 50, 32]⟩ ++ sb ++ ⟨#[32, 51, 32, 102, 114, 111, 109, 32, 116]⟩)) rfl (by kernel_rfl) (by kernel_rfl) (by kernel_rfl) (fun _ _ _ h => h) (Or.inl ⟨by rfl, ?_⟩) ⟨oaA, obA⟩ ?_
    · intro wq hq
      go_simp
      omega
    simp only [Act.put]
    refine wpAnyH_ready (rs := [12, 17]) (by kernel_rfl) (by simp) ?_
    refine AllReadyH.cons rfl (fun K1 hK1 => ?_) (AllReadyH.cons rfl (fun K1 hK1 => ?_) AllReadyH.nil)
    · go_simp
      go_wp2_with (go_at_call 5; refine (cP.out _ HBA).mono ?_; rintro e w2 ⟨x, rfl, HB2⟩)
      have z1 := (HB2.out.1.cell (p := ⟨w.heap.size, a, none⟩) hltd).trans oaA
      have z2 := (HB2.out.1.cell (p := ⟨w.heap.size, b, none⟩) hltd).trans obA
      refine hK1.out _ _ ⟨z1, z2⟩ (fun _ => ?_)
      refine wpAnyH_take (i := 13) (v := .tuple #[stmval x, .int .i64 (p : Int), .int .i64 er]) rfl (by kernel_rfl) (by kernel_rfl) (by kernel_rfl) (fun _ _ _ h => h) (Or.inl ⟨by rfl, ?_⟩) ⟨z1, z2⟩ ?_
      · intro wq hq
        go_simp
      simp only [Act.put, List.setIfInBounds_toArray]
      refine wpAnyH_take (i := 14) (v := stmval x) rfl (by kernel_rfl) (by kernel_rfl) (by kernel_rfl) (fun _ _ _ h => h) (Or.inl ⟨by rfl, ?_⟩) ⟨z1, z2⟩ ?_
      · intro wq hq
        go_simp
      simp only [Act.put]
      refine wpAnyH_take (i := 15) (v := .int .i64 (p : Int)) rfl (by kernel_rfl) (by kernel_rfl) (by kernel_rfl) (fun _ _ _ h => h) (Or.inl ⟨by rfl, ?_⟩) ⟨z1, z2⟩ ?_
      · intro wq hq
        go_simp
      simp only [Act.put]
      refine wpAnyH_take (i := 16) (v := .int .i64 er) rfl (by kernel_rfl) (by kernel_rfl) (by kernel_rfl) (fun _ _ _ h => h) (Or.inl ⟨by rfl, ?_⟩) ⟨z1, z2⟩ ?_
      · intro wq hq
        go_simp
      simp only [Act.put]
      refine wpAnyH_ready (rs := [17]) (by kernel_rfl) (by simp) ?_
      refine AllReadyH.cons rfl (fun K2 hK2 => ?_) AllReadyH.nil
      rw [if_pos (by rfl)]
      unfold Oper.wp
      go_simp
      obtain ⟨wf, ef, HV⟩ := law_var (w := wd) HB2.out.1 x
      have hlt2 : w.heap.size < w2.heap.size := Nat.lt_of_lt_of_le hltd HB2.out.1.size
      refine hK2.out _ _ ⟨(((Below.refl _ w2).alloc (Nat.le_refl _) _).cell (p := ⟨w.heap.size, a, none⟩) hlt2).trans z1, (((Below.refl _ w2).alloc (Nat.le_refl _) _).cell (p := ⟨w.heap.size, b, none⟩) hlt2).trans z2⟩ (fun _ => ?_)
      refine wpAnyH_ready (rs := [18]) (by kernel_rfl) (by simp) ?_
      refine AllReadyH.cons rfl (fun K3 hK3 => ?_) AllReadyH.nil
      rw [if_pos (by rfl)]
      have y1 := (HV.out.2.1.cell (p := ⟨w.heap.size, a, none⟩) hlt2).trans z1
      have y2 := (HV.out.2.1.cell (p := ⟨w.heap.size, b, none⟩) hlt2).trans z2
      refine wp_store_mid 34 (.tmp 9) (.tmp 37) rfl w2.heap.size 0 (stmCells x).toArray (by simp [Act.eval]) (by simp [Act.eval]) (init_there _ _) (stm_size _) (stm_one _) ?_
      rw [ef]
      refine hK3.out _ _ ⟨y1, y2⟩ (fun _ => ?_)
      refine wpAnyH_take (i := 19) (v := .int .i64 (p : Int)) rfl (by kernel_rfl) (by kernel_rfl) (by kernel_rfl) (fun _ _ _ h => h) (Or.inl ⟨by rfl, ?_⟩) ⟨y1, y2⟩ ?_
      · intro wq hq
        go_simp
      simp only [Act.put, List.setIfInBounds_toArray]
      refine wpAnyH_take (i := 20) (v := .int .i64 er) rfl (by kernel_rfl) (by kernel_rfl) (by kernel_rfl) (fun _ _ _ h => h) (Or.inl ⟨by rfl, ?_⟩) ⟨y1, y2⟩ ?_
      · intro wq hq
        go_simp
      simp only [Act.put]
      refine wpAnyH_done (by kernel_rfl) ?_ _
      go_wp2
      go_meet
      exact ⟨w2.heap.size, x, rfl, rfl, rfl, HBD.out.trans (HV.out.1.mono HBD.out.size), HV.out.2.2.range, (HB2.out.2.weak HBD.out.size).keep (R := w.heap.size) (.of_below HV.out.2.1) (by have := hlt; omega)⟩
    · rw [if_pos (by rfl)]
      unfold Oper.wp
      go_simp
      refine hK1.out _ _ ⟨oaB, obB⟩ (fun _ => ?_)
      refine wpAnyH_ready (rs := [12]) (by kernel_rfl) (by simp) ?_
      refine AllReadyH.cons rfl (fun K2 hK2 => ?_) AllReadyH.nil
      go_simp
      go_wp2_with (go_at_call 5; refine (cP.out _ HBB).mono ?_; rintro e w2 ⟨x, rfl, HB2⟩)
      have z1 := (HB2.out.1.cell (p := ⟨w.heap.size, a, none⟩) hltB).trans oaB
      have z2 := (HB2.out.1.cell (p := ⟨w.heap.size, b, none⟩) hltB).trans obB
      refine hK2.out _ _ ⟨z1, z2⟩ (fun _ => ?_)
      refine wpAnyH_take (i := 13) (v := .tuple #[stmval x, .int .i64 (p : Int), .int .i64 er]) rfl (by kernel_rfl) (by kernel_rfl) (by kernel_rfl) (fun _ _ _ h => h) (Or.inl ⟨by rfl, ?_⟩) ⟨z1, z2⟩ ?_
      · intro wq hq
        go_simp
      simp only [Act.put, List.setIfInBounds_toArray]
      refine wpAnyH_take (i := 14) (v := stmval x) rfl (by kernel_rfl) (by kernel_rfl) (by kernel_rfl) (fun _ _ _ h => h) (Or.inl ⟨by rfl, ?_⟩) ⟨z1, z2⟩ ?_
      · intro wq hq
        go_simp
      simp only [Act.put]
      refine wpAnyH_take (i := 15) (v := .int .i64 (p : Int)) rfl (by kernel_rfl) (by kernel_rfl) (by kernel_rfl) (fun _ _ _ h => h) (Or.inl ⟨by rfl, ?_⟩) ⟨z1, z2⟩ ?_
      · intro wq hq
        go_simp
      simp only [Act.put]
      refine wpAnyH_take (i := 16) (v := .int .i64 er) rfl (by kernel_rfl) (by kernel_rfl) (by kernel_rfl) (fun _ _ _ h => h) (Or.inl ⟨by rfl, ?_⟩) ⟨z1, z2⟩ ?_
      · intro wq hq
        go_simp
      simp only [Act.put]
      refine wpAnyH_ready (rs := [18]) (by kernel_rfl) (by simp) ?_
      refine AllReadyH.cons rfl (fun K3 hK3 => ?_) AllReadyH.nil
      rw [if_pos (by rfl)]
      obtain ⟨wf, ef, HR, HF⟩ := parse_fin (x := x) (t := t) HB2.out.1 (HB2.out.2.weak (by simp))
      have y1 := (HF.out.1.cell (p := ⟨w.heap.size, a, none⟩) hltd).trans oaA
      have y2 := (HF.out.1.cell (p := ⟨w.heap.size, b, none⟩) hltd).trans obA
      refine wp_store_mid 34 (.tmp 9) (.tmp 37) rfl wd.heap.size 0 (stmCells x).toArray (by simp [Act.eval]) (by simp [Act.eval]) (parse_there HB2.out.1 _) (stm_size _) (stm_one _) ?_
      rw [ef]
      refine hK3.out _ _ ⟨y1, y2⟩ (fun _ => ?_)
      refine wpAnyH_take (i := 19) (v := .int .i64 (p : Int)) rfl (by kernel_rfl) (by kernel_rfl) (by kernel_rfl) (fun _ _ _ h => h) (Or.inl ⟨by rfl, ?_⟩) ⟨y1, y2⟩ ?_
      · intro wq hq
        go_simp
      simp only [Act.put]
      refine wpAnyH_take (i := 20) (v := .int .i64 er) rfl (by kernel_rfl) (by kernel_rfl) (by kernel_rfl) (fun _ _ _ h => h) (Or.inl ⟨by rfl, ?_⟩) ⟨y1, y2⟩ ?_
      · intro wq hq
        go_simp
      simp only [Act.put]
      refine wpAnyH_done (by kernel_rfl) ?_ _
      go_wp2
      go_meet
      exact ⟨wd.heap.size, x, rfl, rfl, rfl, HBD.out.trans (HF.out.1.mono HBD.out.size), HR.out, HF.out.2.weak HBD.out.size⟩
  case rest =>
    obtain ⟨T, x, rfl, rfl, rfl, hB1, hT, hI⟩ := hcut
    have HBW : Hid (Below w.heap.size w wc) := HW.out.1.trans (hB1.mono HW.out.1.size)
    have va : wc.cell? ⟨w.heap.size + 1, a, none⟩ = some (.int .i64 (bL a)) := (hB1.cell (p := ⟨w.heap.size + 1, a, none⟩) hlev).trans (HC.out a ha).2
    have vb : wc.cell? ⟨w.heap.size + 1, b, none⟩ = some (.int .i64 (bL b)) := (hB1.cell (p := ⟨w.heap.size + 1, b, none⟩) hlev).trans (HC.out b hb).2
    have pa : wc.cell? ⟨w.heap.size, a, none⟩ = some (.string sa) := (hB1.cell (p := ⟨w.heap.size, a, none⟩) hlt).trans oa
    have pb : wc.cell? ⟨w.heap.size, b, none⟩ = some (.string sb) := (hB1.cell (p := ⟨w.heap.size, b, none⟩) hlt).trans ob
    have hszc : w.heap.size + 1 < wc.heap.size := Nat.lt_of_lt_of_le hlev hB1.size
    have hszd : w.heap.size < wc.heap.size := by omega
    have cL := hide (fun (W : World) (h : Hid (Below w.heap.size w W)) => left_any a ha HT.out h)
    have cR := hide (fun (W : World) (h : Hid (Below w.heap.size w W)) => right_any b hb HT.out h)
    rw [hsa] at cL
    rw [hsb] at cR
    have hsp := bind_split (a := a) (b := b) hread
    have HI := hide hI
    have HTc := hide hT
    have HW1 := hide hB1
    clear cP oaA obA oaB obB HBA HBB HBD HBB0 hltd hltB hwd oa ob hread hsa hsb HT hI hT hB1 HE1 hjo hsrc cA cB HC
    generalize bL a = la at va hsp
    generalize bL b = lb at vb hsp
    rcases hsp with ⟨rfl, rfl, rfl, rfl⟩ | ⟨hn4, rfl, rfl, o, e1, e2, hv, hw⟩
    · clear HI HTc cL cR pa pb
      go_wp2
      go_ret
      exact ⟨rfl, HBW.out⟩
    · obtain ⟨bv, d, hva1, hva2, hbv1, hbv2, hcd, hid⟩ := one_val HI.out hv
      obtain ⟨hbare, g, d1, d2, hao, _, hg, hc1, hc2, hi1, hi2⟩ := hid
      have t6 : wc.cell? ⟨T, 6, none⟩ = some (.slice (some ⟨bv, 0, none⟩) 1 x.va.cap) := by
        have h := HTc.out 6 _ rfl
        rw [Nat.zero_add, hva1, hva2] at h
        exact h
      have hTlt : T < wc.heap.size := World.block_lt_of_cell? (a := ⟨T, 6, none⟩) _ t6
      have hop : d.op = o := hbare.1
      have hn2 : d.n = 2 := hbare.2.2.2.2.2.2
      have HD := hide (And.intro hcd (And.intro hc1 (And.intro hc2 (And.intro hi1 hi2))))
      obtain ⟨c0, c1, c2, c3, c4, c5, c6, c7⟩ := cell8_zero hcd
      have HCd := hide hcd
      rw [hop] at c0
      rw [hao, hn2] at c7
      clear hcd hc1 hc2 hi1 hi2 hbare HI HTc hva1 hva2 hv
      obtain ⟨cg, hcg⟩ : ∃ cg, d.cap = cg := ⟨_, rfl⟩
      obtain ⟨cx, hcx⟩ : ∃ cx, x.va.cap = cx := ⟨_, rfl⟩
      rw [hcg] at c7
      rw [hcx] at t6
      have HV := hide (And.intro hop (And.intro hao (And.intro hn2 hcg)))
      have HWy := hide hw
      have HN4 := hide hn4
      clear hop hao hn2 hcg hcx hw hn4
      go_upto_region 6 with (fail)
      go_cut [51] from 17 (fun s51 W => s51 = .bool false ∧ wc = W)
      case first =>
        by_cases h4 : la = 4
        · have h5 : (lb == 4) = false := beq_eq_false_iff_ne.2 (fun h => HN4.out ⟨h4, h⟩)
          subst h4
          go_wp2
          go_meet
          exact ⟨rfl, by first | rfl | trivial⟩
        · have h5 : (la == 4) = false := beq_eq_false_iff_ne.2 h4
          go_wp2
          go_meet
          exact ⟨rfl, by first | rfl | trivial⟩
      case rest =>
        obtain ⟨rfl, rfl⟩ := hcut
        have HCC := hide (And.intro va (And.intro vb (And.intro pa (And.intro pb (And.intro t6 (And.intro c0 (And.intro c1 (And.intro c2 (And.intro c3 (And.intro c4 (And.intro c5 (And.intro c6 c7))))))))))))
        go_upto_region 15 with (first
          | (go_at_call 6; (with_reducible refine (cL.out _ HBW).mono ?_); rintro e w4 ⟨dl, rfl, HB4⟩)
          | (refine wpList_store_mid rfl 31 (.tmp 12) (.tmp 83) rfl w4.heap.size 0 (exCells dl).toArray rfl rfl (ex_there _ _) (ex_size _) (ex_one _) ?_; obtain ⟨w5, e5, HB5⟩ := ex_var (HBW.out.trans (HB4.out.1.mono HBW.out.size)) dl; rw [e5]; clear e5; have HBW5 := hide HB5.out.1; have HB45 : Hid (Below wc.heap.size wc w5) := HB4.out.1.trans (HB5.out.2.1.mono HB4.out.1.size); have pb5 : w5.cell? ⟨w.heap.size, b, none⟩ = some (.string sb) := (HB45.out.cell (p := ⟨w.heap.size, b, none⟩) hszd).trans pb)
          | (go_at_call 6; (with_reducible refine (cR.out _ HBW5).mono ?_); rintro e w6 ⟨dr, rfl, HB6⟩)
          | (refine wpList_store_mid rfl 31 (.tmp 14) (.tmp 93) rfl w6.heap.size 0 (exCells dr).toArray rfl rfl (ex_there _ _) (ex_size _) (ex_one _) ?_; obtain ⟨w7, e7, HB7⟩ := ex_var (HBW5.out.trans (HB6.out.1.mono HBW5.out.size)) dr; rw [e7]; clear e7; have HB57 : Hid (Below w5.heap.size w5 w7) := HB6.out.1.trans (HB7.out.2.1.mono HB6.out.1.size); have HB47 : Hid (Below wc.heap.size wc w7) := HB45.out.trans (HB57.out.mono HB45.out.size); have t67 : w7.cell? ⟨T, 6, none⟩ = some (.slice (some ⟨bv, 0, none⟩) 1 cx) := (HB47.out.cell (p := ⟨T, 6, none⟩) hTlt).trans t6; obtain ⟨r0, r1, r2, r3, r4, r5, r6, r7⟩ := cells_later HB47.out hbv2 HCC.out.2.2.2.2.2))
        obtain ⟨w8, e8, HB78, HVX⟩ : ∃ w8, w7.alloc (.cells #[.int .i64 o, .int .i64 d.vk, .int .i64 d.vi, .string d.vt, .string d.tb, .string d.nm, .int .i64 0, .slice (some ⟨g, 0, none⟩) 2 cg] 31) = w8 ∧ Hid (Below w7.heap.size w7 w8) ∧ Hid (VarB w8 w7.heap.size [.int .i64 o, .int .i64 d.vk, .int .i64 d.vi, .string d.vt, .string d.tb, .string d.nm, .int .i64 0, .slice (some ⟨g, 0, none⟩) 2 cg]) := ⟨_, rfl, (Below.refl _ w7).alloc (Nat.le_refl _) _, VarB.new w7 _ _⟩
        rw [e8]
        have HB48 : Hid (Below wc.heap.size wc w8) := HB47.out.trans (HB78.out.mono HB47.out.size)
        have HBW8 : Hid (Below w.heap.size w w8) := HBW.out.trans (HB48.out.mono HBW.out.size)
        have va8 : w8.cell? ⟨w.heap.size + 1, a, none⟩ = some (.int .i64 la) := (HB48.out.cell (p := ⟨w.heap.size + 1, a, none⟩) hszc).trans va
        have vb8 : w8.cell? ⟨w.heap.size + 1, b, none⟩ = some (.int .i64 lb) := (HB48.out.cell (p := ⟨w.heap.size + 1, b, none⟩) hszc).trans vb
        clear e8 t67 r0 r1 r2 r3 r4 r5 r6 r7 t6 c0 c1 c2 c3 c4 c5 c6 c7 pa pb pb5 va vb cL cR
        rcases HWy.out with ⟨hle, ho, he1, he2⟩ | ⟨hle, ho, he1, he2⟩
        · have HE := hide (And.intro ho (And.intro he1 he2))
          clear ho he1 he2
          go_quiet (fail)
          go_upto_region 16 with (fail)
          have B89 : Below w8.heap.size w8 (w8.drewN nq) := below_dN (Below.refl _ w8) nq
          have HB9 : Hid (Below w.heap.size w (w8.drewN nq)) := HBW8.out.trans (B89.mono HBW8.out.size)
          generalize w8.drewN nq = w9 at B89 HB9 ⊢
          have h8 : ∀ wq, Below w9.heap.size w9 wq → Below w8.heap.size w8 wq := fun wq hq => B89.trans (hq.mono B89.size)
          have h7 : ∀ wq, Below w9.heap.size w9 wq → Below w7.heap.size w7 wq := fun wq hq => HB78.out.trans ((h8 wq hq).mono HB78.out.size)
          have h5 : ∀ wq, Below w9.heap.size w9 wq → Below w5.heap.size w5 wq := fun wq hq => HB57.out.trans ((h7 wq hq).mono HB57.out.size)
          have hc : ∀ wq, Below w9.heap.size w9 wq → Below wc.heap.size wc wq := fun wq hq => HB47.out.trans ((h7 wq hq).mono HB47.out.size)
          have HX : Hid (∀ wq, Below w9.heap.size w9 wq → wq.cell? ⟨w7.heap.size, 0, none⟩ = some (.int .i64 o) ∧ wq.cell? ⟨w7.heap.size, 7, none⟩ = some (.slice (some ⟨g, 0, none⟩) 2 cg) ∧ True) := fun wq hq => ⟨(VarB.below HVX.out (h8 wq hq)).2.1 0 _ rfl, (VarB.below HVX.out (h8 wq hq)).2.1 7 _ rfl, trivial⟩
          have HLv := hide (fun wq hq => (VarB.below HB5.out.2.2 (h5 wq hq)).ex)
          have HRv := hide (fun wq hq => (VarB.below HB7.out.2.2 (h7 wq hq)).ex)
          have HG0 := hide (fun wq hq => cell8_zero (d := d1) (W := wq) (b := g) (fun j u hu => ((hc wq hq).cell (p := ⟨g, 0 + j, none⟩) hg).trans (HD.out.2.1 j u hu)))
          have HG8 := hide (fun wq hq => cell8_eight (d := d2) (W := wq) (b := g) (fun j u hu => ((hc wq hq).cell (p := ⟨g, 8 + j, none⟩) hg).trans (HD.out.2.2.1 j u hu)))
          have HO : Hid (∀ wq, Below w9.heap.size w9 wq → wq.cell? ⟨w6.heap.size, 0, none⟩ = some (.int .i64 o)) := fun wq hq => by
            have h := (HRv.out wq hq).1
            rw [IsEx.exOp HB6.out.2] at h
            rw [HE.out.1]
            exact h
          have cS1 : Hid (∀ W, Below w9.heap.size w9 W → Calls Tryz.prog 7 #[exval d1, exval dl] W fun e w' => e = .returned (.bool true) ∧ Below w9.heap.size w9 w') := fun W hW =>
            (sameExpr_same e1 _ _ d1 dl W (IsEx.later (hc W hW) HD.out.2.2.2.1) (by rw [HE.out.2.1]; exact IsEx.later (h5 W hW) (IsEx.later HB5.out.2.1 HB4.out.2))).mono fun _ _ h => ⟨h.1, hW.trans (h.2.mono hW.size)⟩
          have cS2 : Hid (∀ W, Below w9.heap.size w9 W → Calls Tryz.prog 7 #[exval d2, exval (constED 3)] W fun e w' => e = .returned (.bool true) ∧ Below w9.heap.size w9 w') := fun W hW =>
            (sameExpr_same e2 _ (fun _ => True) d2 (constED 3) W (IsEx.later (hc W hW) HD.out.2.2.2.2) (by rw [HE.out.2.2]; exact constED_is _ _ _)).mono fun _ _ h => ⟨h.1, hW.trans (h.2.mono hW.size)⟩
          clear h8 h7 h5 hc va8 vb8
          rename_i hB K0 hS9
          clear hB
          refine wp_region_held (S := fun W => Below w9.heap.size w9 W) (by kernel_rfl) ?_
          change wpAnyH _ _ _ _ _ _ _ _ w9.drew
          have hS0 : Below w9.heap.size w9 w9.drew := (Below.refl _ w9).drew
          refine wpAnyH_take (i := 0) (v := .pointer (some ⟨w7.heap.size, 7, none⟩)) rfl (by kernel_rfl) (by kernel_rfl) (by kernel_rfl) (fun _ _ _ h => h) (Or.inl ⟨by kernel_rfl, ?_⟩) hS0 ?_
          · intro wq hq
            go_simp
          simp only [Act.put, List.setIfInBounds_toArray]
          refine wpAnyH_take (i := 1) (v := .slice (some ⟨g, 0, none⟩) 2 cg) rfl (by kernel_rfl) (by kernel_rfl) (by kernel_rfl) (fun _ _ _ h => h) (Or.inl ⟨by kernel_rfl, ?_⟩) hS0 ?_
          · intro wq hq
            have q := (HX.out wq hq).2.1
            go_simp
          simp only [Act.put]
          refine wpAnyH_take (i := 2) (v := .pointer (some ⟨g, 0, none⟩)) rfl (by kernel_rfl) (by kernel_rfl) (by kernel_rfl) (fun _ _ _ h => h) (Or.inl ⟨by kernel_rfl, ?_⟩) hS0 ?_
          · intro wq hq
            go_simp
          simp only [Act.put]
          refine wpAnyH_take (i := 3) (v := exval d1) rfl (by kernel_rfl) (by kernel_rfl) (by kernel_rfl) (fun _ _ _ h => h) (Or.inl ⟨by kernel_rfl, ?_⟩) hS0 ?_
          · intro wq hq
            obtain ⟨q0, q1, q2, q3, q4, q5, q6, q7⟩ := HG0.out wq hq
            go_simp
          simp only [Act.put]
          refine wpAnyH_take (i := 4) (v := exval dl) rfl (by kernel_rfl) (by kernel_rfl) (by kernel_rfl) (fun _ _ _ h => h) (Or.inl ⟨by kernel_rfl, ?_⟩) hS0 ?_
          · intro wq hq
            obtain ⟨q0, q1, q2, q3, q4, q5, q6, q7⟩ := HLv.out wq hq
            go_simp
          simp only [Act.put]
          refine wpAnyH_ready (rs := [5]) (by kernel_rfl) (by simp) ?_
          refine AllReadyH.cons rfl (fun K1 hK1 => ?_) AllReadyH.nil
          go_simp
          go_wp2_with (go_at_call 7; refine (cS1.out _ hS0).mono ?_; rintro e w10 ⟨rfl, hb10⟩)
          refine hK1.out _ _ hb10 (fun _ => ?_)
          try simp only [Act.put]
          refine wpAnyH_take (i := 6) (v := .bool true) rfl (by kernel_rfl) (by kernel_rfl) (by kernel_rfl) (fun _ _ _ h => h) (Or.inl ⟨by kernel_rfl, ?_⟩) hb10 ?_
          · intro wq hq
            go_simp
          simp only [Act.put, List.setIfInBounds_toArray]
          refine wpAnyH_take (i := 7) (v := .pointer (some ⟨w7.heap.size, 0, none⟩)) rfl (by kernel_rfl) (by kernel_rfl) (by kernel_rfl) (fun _ _ _ h => h) (Or.inl ⟨by kernel_rfl, ?_⟩) hb10 ?_
          · intro wq hq
            go_simp
          simp only [Act.put]
          refine wpAnyH_take (i := 8) (v := .int .i64 o) rfl (by kernel_rfl) (by kernel_rfl) (by kernel_rfl) (fun _ _ _ h => h) (Or.inl ⟨by kernel_rfl, ?_⟩) hb10 ?_
          · intro wq hq
            have q := (HX.out wq hq).1
            go_simp
          simp only [Act.put]
          refine wpAnyH_take (i := 9) (v := .pointer (some ⟨w6.heap.size, 0, none⟩)) rfl (by kernel_rfl) (by kernel_rfl) (by kernel_rfl) (fun _ _ _ h => h) (Or.inl ⟨by kernel_rfl, ?_⟩) hb10 ?_
          · intro wq hq
            go_simp
          simp only [Act.put]
          refine wpAnyH_take (i := 10) (v := .int .i64 o) rfl (by kernel_rfl) (by kernel_rfl) (by kernel_rfl) (fun _ _ _ h => h) (Or.inl ⟨by kernel_rfl, ?_⟩) hb10 ?_
          · intro wq hq
            have q := HO.out wq hq
            go_simp
          simp only [Act.put]
          refine wpAnyH_take (i := 11) (v := .bool true) rfl (by kernel_rfl) (by kernel_rfl) (by kernel_rfl) (fun _ _ _ h => h) (Or.inl ⟨by kernel_rfl, ?_⟩) hb10 ?_
          · intro wq hq
            go_simp
          simp only [Act.put]
          refine wpAnyH_take (i := 12) (v := .bool true) rfl (by kernel_rfl) (by kernel_rfl) (by kernel_rfl) (fun _ _ _ h => h) (Or.inl ⟨by kernel_rfl, ?_⟩) hb10 ?_
          · intro wq hq
            go_simp
          simp only [Act.put]
          refine wpAnyH_take (i := 13) (v := .bool true) rfl (by kernel_rfl) (by kernel_rfl) (by kernel_rfl) (fun _ _ _ h => h) (Or.inl ⟨by kernel_rfl, ?_⟩) hb10 ?_
          · intro wq hq
            go_simp
          simp only [Act.put]
          refine wpAnyH_take (i := 14) (v := .pointer (some ⟨w7.heap.size, 7, none⟩)) rfl (by kernel_rfl) (by kernel_rfl) (by kernel_rfl) (fun _ _ _ h => h) (Or.inl ⟨by kernel_rfl, ?_⟩) hb10 ?_
          · intro wq hq
            go_simp
          simp only [Act.put]
          refine wpAnyH_take (i := 15) (v := .slice (some ⟨g, 0, none⟩) 2 cg) rfl (by kernel_rfl) (by kernel_rfl) (by kernel_rfl) (fun _ _ _ h => h) (Or.inl ⟨by kernel_rfl, ?_⟩) hb10 ?_
          · intro wq hq
            have q := (HX.out wq hq).2.1
            go_simp
          simp only [Act.put]
          refine wpAnyH_take (i := 16) (v := .pointer (some ⟨g, 8, none⟩)) rfl (by kernel_rfl) (by kernel_rfl) (by kernel_rfl) (fun _ _ _ h => h) (Or.inl ⟨by kernel_rfl, ?_⟩) hb10 ?_
          · intro wq hq
            go_simp
          simp only [Act.put]
          refine wpAnyH_take (i := 17) (v := exval d2) rfl (by kernel_rfl) (by kernel_rfl) (by kernel_rfl) (fun _ _ _ h => h) (Or.inl ⟨by kernel_rfl, ?_⟩) hb10 ?_
          · intro wq hq
            obtain ⟨q0, q1, q2, q3, q4, q5, q6, q7⟩ := HG8.out wq hq
            go_simp
          simp only [Act.put]
          refine wpAnyH_take (i := 18) (v := .agg #[.int .i64 2, .int .i64 3, .string ⟨#[]⟩]) rfl (by kernel_rfl) (by kernel_rfl) (by kernel_rfl) (fun _ _ _ h => h) (Or.inl ⟨by kernel_rfl, ?_⟩) hb10 ?_
          · intro wq hq
            go_simp
          simp only [Act.put]
          refine wpAnyH_ready (rs := [19]) (by kernel_rfl) (by simp) ?_
          refine AllReadyH.cons rfl (fun K2 hK2 => ?_) AllReadyH.nil
          rw [if_pos (by kernel_rfl)]
          unfold Oper.wp
          go_simp
          go_wp2_with (go_at_call 8; refine (constOf_any 3 _).mono ?_; rintro e w11 ⟨rfl, hb11a⟩; have hb11 : Below w9.heap.size w9 w11 := hb10.trans (hb11a.mono hb10.size))
          refine hK2.out _ _ hb11 (fun _ => ?_)
          try simp only [Act.put]
          refine wpAnyH_ready (rs := [20]) (by kernel_rfl) (by simp) ?_
          refine AllReadyH.cons rfl (fun K3 hK3 => ?_) AllReadyH.nil
          rw [if_pos (by kernel_rfl)]
          unfold Oper.wp
          go_simp
          go_wp2_with (go_at_call 7; refine (cS2.out _ hb11).mono ?_; rintro e w12 ⟨rfl, hb12⟩)
          refine hK3.out _ _ hb12 (fun _ => ?_)
          try simp only [Act.put]
          refine wpAnyH_take (i := 21) (v := .bool true) rfl (by kernel_rfl) (by kernel_rfl) (by kernel_rfl) (fun _ _ _ h => h) (Or.inl ⟨by kernel_rfl, ?_⟩) hb12 ?_
          · intro wq hq
            go_simp
          change wpAnyH _ _ _ _ _ _ _ (Act.put _ (some 135) _) _
          simp only [Act.put, List.setIfInBounds_toArray]
          refine wpAnyH_take (i := 22) (v := .bool true) rfl (by kernel_rfl) (by kernel_rfl) (by kernel_rfl) (fun _ _ _ h => h) (Or.inl ⟨by kernel_rfl, ?_⟩) hb12 ?_
          · intro wq hq
            go_simp
          change wpAnyH _ _ _ _ _ _ _ (Act.put _ (some 4) _) _
          simp only [Act.put]
          refine wpAnyH_done (by kernel_rfl) ?_ _
          go_wp2
          go_ret
          exact ⟨rfl, HB9.out.trans (hb12.mono HB9.out.size)⟩
        · have HE := hide (And.intro ho (And.intro he1 he2))
          clear ho he1 he2
          go_quiet (fail)
          go_upto_region 17 with (fail)
          have B89 : Below w8.heap.size w8 (w8.drewN nq) := below_dN (Below.refl _ w8) nq
          have HB9 : Hid (Below w.heap.size w (w8.drewN nq)) := HBW8.out.trans (B89.mono HBW8.out.size)
          generalize w8.drewN nq = w9 at B89 HB9 ⊢
          have h8 : ∀ wq, Below w9.heap.size w9 wq → Below w8.heap.size w8 wq := fun wq hq => B89.trans (hq.mono B89.size)
          have h7 : ∀ wq, Below w9.heap.size w9 wq → Below w7.heap.size w7 wq := fun wq hq => HB78.out.trans ((h8 wq hq).mono HB78.out.size)
          have h5 : ∀ wq, Below w9.heap.size w9 wq → Below w5.heap.size w5 wq := fun wq hq => HB57.out.trans ((h7 wq hq).mono HB57.out.size)
          have hc : ∀ wq, Below w9.heap.size w9 wq → Below wc.heap.size wc wq := fun wq hq => HB47.out.trans ((h7 wq hq).mono HB47.out.size)
          have HX : Hid (∀ wq, Below w9.heap.size w9 wq → wq.cell? ⟨w7.heap.size, 0, none⟩ = some (.int .i64 o) ∧ wq.cell? ⟨w7.heap.size, 7, none⟩ = some (.slice (some ⟨g, 0, none⟩) 2 cg) ∧ True) := fun wq hq => ⟨(VarB.below HVX.out (h8 wq hq)).2.1 0 _ rfl, (VarB.below HVX.out (h8 wq hq)).2.1 7 _ rfl, trivial⟩
          have HLv := hide (fun wq hq => (VarB.below HB5.out.2.2 (h5 wq hq)).ex)
          have HRv := hide (fun wq hq => (VarB.below HB7.out.2.2 (h7 wq hq)).ex)
          have HG0 := hide (fun wq hq => cell8_zero (d := d1) (W := wq) (b := g) (fun j u hu => ((hc wq hq).cell (p := ⟨g, 0 + j, none⟩) hg).trans (HD.out.2.1 j u hu)))
          have HG8 := hide (fun wq hq => cell8_eight (d := d2) (W := wq) (b := g) (fun j u hu => ((hc wq hq).cell (p := ⟨g, 8 + j, none⟩) hg).trans (HD.out.2.2.1 j u hu)))
          have HO : Hid (∀ wq, Below w9.heap.size w9 wq → wq.cell? ⟨w4.heap.size, 0, none⟩ = some (.int .i64 o)) := fun wq hq => by
            have h := (HLv.out wq hq).1
            rw [IsEx.exOp HB4.out.2] at h
            rw [HE.out.1]
            exact h
          have cS1 : Hid (∀ W, Below w9.heap.size w9 W → Calls Tryz.prog 7 #[exval d2, exval dr] W fun e w' => e = .returned (.bool true) ∧ Below w9.heap.size w9 w') := fun W hW =>
            (sameExpr_same e2 _ _ d2 dr W (IsEx.later (hc W hW) HD.out.2.2.2.2) (by rw [HE.out.2.2]; exact IsEx.later (h7 W hW) (IsEx.later HB7.out.2.1 HB6.out.2))).mono fun _ _ h => ⟨h.1, hW.trans (h.2.mono hW.size)⟩
          have cS2 : Hid (∀ W, Below w9.heap.size w9 W → Calls Tryz.prog 7 #[exval d1, exval (constED 1)] W fun e w' => e = .returned (.bool true) ∧ Below w9.heap.size w9 w') := fun W hW =>
            (sameExpr_same e1 _ (fun _ => True) d1 (constED 1) W (IsEx.later (hc W hW) HD.out.2.2.2.1) (by rw [HE.out.2.1]; exact constED_is _ _ _)).mono fun _ _ h => ⟨h.1, hW.trans (h.2.mono hW.size)⟩
          clear h8 h7 h5 hc va8 vb8
          rename_i hB K0 hS9
          clear hB
          refine wp_region_held (S := fun W => Below w9.heap.size w9 W) (by kernel_rfl) ?_
          change wpAnyH _ _ _ _ _ _ _ _ w9.drew
          have hS0 : Below w9.heap.size w9 w9.drew := (Below.refl _ w9).drew
          refine wpAnyH_take (i := 0) (v := .pointer (some ⟨w7.heap.size, 7, none⟩)) rfl (by kernel_rfl) (by kernel_rfl) (by kernel_rfl) (fun _ _ _ h => h) (Or.inl ⟨by kernel_rfl, ?_⟩) hS0 ?_
          · intro wq hq
            go_simp
          simp only [Act.put, List.setIfInBounds_toArray]
          refine wpAnyH_take (i := 1) (v := .slice (some ⟨g, 0, none⟩) 2 cg) rfl (by kernel_rfl) (by kernel_rfl) (by kernel_rfl) (fun _ _ _ h => h) (Or.inl ⟨by kernel_rfl, ?_⟩) hS0 ?_
          · intro wq hq
            have q := (HX.out wq hq).2.1
            go_simp
          simp only [Act.put]
          refine wpAnyH_take (i := 2) (v := .pointer (some ⟨g, 8, none⟩)) rfl (by kernel_rfl) (by kernel_rfl) (by kernel_rfl) (fun _ _ _ h => h) (Or.inl ⟨by kernel_rfl, ?_⟩) hS0 ?_
          · intro wq hq
            go_simp
          simp only [Act.put]
          refine wpAnyH_take (i := 3) (v := exval d2) rfl (by kernel_rfl) (by kernel_rfl) (by kernel_rfl) (fun _ _ _ h => h) (Or.inl ⟨by kernel_rfl, ?_⟩) hS0 ?_
          · intro wq hq
            obtain ⟨q0, q1, q2, q3, q4, q5, q6, q7⟩ := HG8.out wq hq
            go_simp
          simp only [Act.put]
          refine wpAnyH_take (i := 4) (v := exval dr) rfl (by kernel_rfl) (by kernel_rfl) (by kernel_rfl) (fun _ _ _ h => h) (Or.inl ⟨by kernel_rfl, ?_⟩) hS0 ?_
          · intro wq hq
            obtain ⟨q0, q1, q2, q3, q4, q5, q6, q7⟩ := HRv.out wq hq
            go_simp
          simp only [Act.put]
          refine wpAnyH_ready (rs := [5]) (by kernel_rfl) (by simp) ?_
          refine AllReadyH.cons rfl (fun K1 hK1 => ?_) AllReadyH.nil
          go_simp
          go_wp2_with (go_at_call 7; refine (cS1.out _ hS0).mono ?_; rintro e w10 ⟨rfl, hb10⟩)
          refine hK1.out _ _ hb10 (fun _ => ?_)
          try simp only [Act.put]
          refine wpAnyH_take (i := 6) (v := .bool true) rfl (by kernel_rfl) (by kernel_rfl) (by kernel_rfl) (fun _ _ _ h => h) (Or.inl ⟨by kernel_rfl, ?_⟩) hb10 ?_
          · intro wq hq
            go_simp
          simp only [Act.put, List.setIfInBounds_toArray]
          refine wpAnyH_take (i := 7) (v := .pointer (some ⟨w7.heap.size, 0, none⟩)) rfl (by kernel_rfl) (by kernel_rfl) (by kernel_rfl) (fun _ _ _ h => h) (Or.inl ⟨by kernel_rfl, ?_⟩) hb10 ?_
          · intro wq hq
            go_simp
          simp only [Act.put]
          refine wpAnyH_take (i := 8) (v := .int .i64 o) rfl (by kernel_rfl) (by kernel_rfl) (by kernel_rfl) (fun _ _ _ h => h) (Or.inl ⟨by kernel_rfl, ?_⟩) hb10 ?_
          · intro wq hq
            have q := (HX.out wq hq).1
            go_simp
          simp only [Act.put]
          refine wpAnyH_take (i := 9) (v := .pointer (some ⟨w4.heap.size, 0, none⟩)) rfl (by kernel_rfl) (by kernel_rfl) (by kernel_rfl) (fun _ _ _ h => h) (Or.inl ⟨by kernel_rfl, ?_⟩) hb10 ?_
          · intro wq hq
            go_simp
          simp only [Act.put]
          refine wpAnyH_take (i := 10) (v := .int .i64 o) rfl (by kernel_rfl) (by kernel_rfl) (by kernel_rfl) (fun _ _ _ h => h) (Or.inl ⟨by kernel_rfl, ?_⟩) hb10 ?_
          · intro wq hq
            have q := HO.out wq hq
            go_simp
          simp only [Act.put]
          refine wpAnyH_take (i := 11) (v := .bool true) rfl (by kernel_rfl) (by kernel_rfl) (by kernel_rfl) (fun _ _ _ h => h) (Or.inl ⟨by kernel_rfl, ?_⟩) hb10 ?_
          · intro wq hq
            go_simp
          simp only [Act.put]
          refine wpAnyH_take (i := 12) (v := .bool true) rfl (by kernel_rfl) (by kernel_rfl) (by kernel_rfl) (fun _ _ _ h => h) (Or.inl ⟨by kernel_rfl, ?_⟩) hb10 ?_
          · intro wq hq
            go_simp
          simp only [Act.put]
          refine wpAnyH_take (i := 13) (v := .bool true) rfl (by kernel_rfl) (by kernel_rfl) (by kernel_rfl) (fun _ _ _ h => h) (Or.inl ⟨by kernel_rfl, ?_⟩) hb10 ?_
          · intro wq hq
            go_simp
          simp only [Act.put]
          refine wpAnyH_take (i := 14) (v := .pointer (some ⟨w7.heap.size, 7, none⟩)) rfl (by kernel_rfl) (by kernel_rfl) (by kernel_rfl) (fun _ _ _ h => h) (Or.inl ⟨by kernel_rfl, ?_⟩) hb10 ?_
          · intro wq hq
            go_simp
          simp only [Act.put]
          refine wpAnyH_take (i := 15) (v := .slice (some ⟨g, 0, none⟩) 2 cg) rfl (by kernel_rfl) (by kernel_rfl) (by kernel_rfl) (fun _ _ _ h => h) (Or.inl ⟨by kernel_rfl, ?_⟩) hb10 ?_
          · intro wq hq
            have q := (HX.out wq hq).2.1
            go_simp
          simp only [Act.put]
          refine wpAnyH_take (i := 16) (v := .pointer (some ⟨g, 0, none⟩)) rfl (by kernel_rfl) (by kernel_rfl) (by kernel_rfl) (fun _ _ _ h => h) (Or.inl ⟨by kernel_rfl, ?_⟩) hb10 ?_
          · intro wq hq
            go_simp
          simp only [Act.put]
          refine wpAnyH_take (i := 17) (v := exval d1) rfl (by kernel_rfl) (by kernel_rfl) (by kernel_rfl) (fun _ _ _ h => h) (Or.inl ⟨by kernel_rfl, ?_⟩) hb10 ?_
          · intro wq hq
            obtain ⟨q0, q1, q2, q3, q4, q5, q6, q7⟩ := HG0.out wq hq
            go_simp
          simp only [Act.put]
          refine wpAnyH_take (i := 18) (v := .agg #[.int .i64 2, .int .i64 1, .string ⟨#[]⟩]) rfl (by kernel_rfl) (by kernel_rfl) (by kernel_rfl) (fun _ _ _ h => h) (Or.inl ⟨by kernel_rfl, ?_⟩) hb10 ?_
          · intro wq hq
            go_simp
          simp only [Act.put]
          refine wpAnyH_ready (rs := [19]) (by kernel_rfl) (by simp) ?_
          refine AllReadyH.cons rfl (fun K2 hK2 => ?_) AllReadyH.nil
          rw [if_pos (by kernel_rfl)]
          unfold Oper.wp
          go_simp
          go_wp2_with (go_at_call 8; refine (constOf_any 1 _).mono ?_; rintro e w11 ⟨rfl, hb11a⟩; have hb11 : Below w9.heap.size w9 w11 := hb10.trans (hb11a.mono hb10.size))
          refine hK2.out _ _ hb11 (fun _ => ?_)
          try simp only [Act.put]
          refine wpAnyH_ready (rs := [20]) (by kernel_rfl) (by simp) ?_
          refine AllReadyH.cons rfl (fun K3 hK3 => ?_) AllReadyH.nil
          rw [if_pos (by kernel_rfl)]
          unfold Oper.wp
          go_simp
          go_wp2_with (go_at_call 7; refine (cS2.out _ hb11).mono ?_; rintro e w12 ⟨rfl, hb12⟩)
          refine hK3.out _ _ hb12 (fun _ => ?_)
          try simp only [Act.put]
          refine wpAnyH_take (i := 21) (v := .bool true) rfl (by kernel_rfl) (by kernel_rfl) (by kernel_rfl) (fun _ _ _ h => h) (Or.inl ⟨by kernel_rfl, ?_⟩) hb12 ?_
          · intro wq hq
            go_simp
          change wpAnyH _ _ _ _ _ _ _ (Act.put _ (some 157) _) _
          simp only [Act.put, List.setIfInBounds_toArray]
          refine wpAnyH_take (i := 22) (v := .bool true) rfl (by kernel_rfl) (by kernel_rfl) (by kernel_rfl) (fun _ _ _ h => h) (Or.inl ⟨by kernel_rfl, ?_⟩) hb12 ?_
          · intro wq hq
            go_simp
          change wpAnyH _ _ _ _ _ _ _ (Act.put _ (some 4) _) _
          simp only [Act.put]
          refine wpAnyH_done (by kernel_rfl) ?_ _
          go_wp2
          go_ret
          exact ⟨rfl, HB9.out.trans (hb12.mono HB9.out.size)⟩

end Go.Proofs.YtjeniabnokcbnaaGreatDoor
