/- Package parse: the contracts of words, names, operators once more, with whatever else is known carried along. -/
import Derived.Test.YtedinkoapieakaaDoorParseMade
namespace Go.Proofs.YtedinkoapieakaaDoor
open Go.ChangeShapes Go.WideShapes Go.ChangeAt Go.RowKit

/-- what stays while the reader goes on -/
def KeptBy (c : RC) (K : World → Prop) : Prop := ∀ W W', Keeps c.R W W' → K W → K W'

theorem KeptBy.triv (c : RC) : KeptBy c (fun _ => True) := fun _ _ _ h => h
theorem KeptBy.and {c : RC} {K L : World → Prop} (h : KeptBy c K) (g : KeptBy c L) : KeptBy c (fun W => K W ∧ L W) := fun W W' k ⟨a, b⟩ => ⟨h W W' k a, g W W' k b⟩
theorem KeptBy.ex {c : RC} {ok : Nat → Prop} {e : Ex} {d : ED} (hR : ¬ ok c.R) : KeptBy c (fun W => IsEx ok W e d) := fun _ _ k h => h.keep k hR

/-- a variable of an expression, with its value -/
def VarEx (W : World) (B : Nat) (d : ED) : Prop := B < W.heap.size ∧ Cell8 W B 0 d ∧ ∀ i, W.frozen? ⟨B, i, none⟩ = false

theorem VarEx.new (w : World) (d : ED) (ty : TypeId) : VarEx (w.alloc (.cells #[.int .i64 d.op, .int .i64 d.vk, .int .i64 d.vi, .string d.vt, .string d.tb, .string d.nm, .int .i64 0, .slice d.ao d.n d.cap] ty)) w.heap.size d :=
  ⟨by simp, cell8_new w d ty, fun i => by simp⟩
theorem VarEx.move {R : Nat} {W W' : World} {B : Nat} {d : ED} (k : Keeps R W W') (hB : B ≠ R) (h : VarEx W B d) : VarEx W' B d :=
  ⟨Nat.lt_of_lt_of_le h.1 k.size, fun j u hu => (k.cell (p := ⟨B, 0 + j, none⟩) h.1 hB).trans (h.2.1 j u hu), fun i => (k.frozen (p := ⟨B, i, none⟩) h.1 hB).trans (h.2.2 i)⟩
theorem KeptBy.var {c : RC} {B : Nat} {d : ED} (hB : B ≠ c.R) : KeptBy c (fun W => VarEx W B d) := fun _ _ k h => h.move k hB
theorem VarEx.cells {W : World} {B : Nat} {d : ED} (h : VarEx W B d) : W.cell? ⟨B, 0, none⟩ = some (.int .i64 d.op) ∧ W.cell? ⟨B, 1, none⟩ = some (.int .i64 d.vk) ∧ W.cell? ⟨B, 2, none⟩ = some (.int .i64 d.vi) ∧ W.cell? ⟨B, 3, none⟩ = some (.string d.vt) ∧
    W.cell? ⟨B, 4, none⟩ = some (.string d.tb) ∧ W.cell? ⟨B, 5, none⟩ = some (.string d.nm) ∧ W.cell? ⟨B, 6, none⟩ = some (.int .i64 0) ∧ W.cell? ⟨B, 7, none⟩ = some (.slice d.ao d.n d.cap) := by
  have := fun j u hu => (h.2.1 j u hu)
  simp only [Nat.zero_add] at this
  exact ⟨this 0 _ rfl, this 1 _ rfl, this 2 _ rfl, this 3 _ rfl, this 4 _ rfl, this 5 _ rfl, this 6 _ rfl, this 7 _ rfl⟩

/-- words that the call has laid -/
theorem Wds.lits (w : World) (ws : List (List UInt8)) (hl : ws.length ≤ 1000) (zs : Array Value) (hz : zs = (ws.map fun v => Value.string (str v)).toArray) (ty : TypeId) : Wds (w.alloc (.cells zs ty)) (some ⟨w.heap.size, 0, none⟩) ws := by
  refine ⟨hl, .inr ⟨_, 0, rfl, by simp, fun i hi => ?_⟩⟩
  subst hz
  rw [Nat.zero_add]
  have e : (w.alloc (.cells (ws.map fun v => Value.string (str v)).toArray ty)).cell? ⟨w.heap.size, i, none⟩ = (ws.map fun v => Value.string (str v)).toArray[i]? := by simp
  rw [e]
  simp [hi]

theorem On.grow {c : RC} {w0 W : World} {s : St} {K : World → Prop} (hK : KeptBy c K) (h : Hid (On c w0 W s ∧ K W)) (o : Obj) : On c w0 (W.alloc o) s ∧ K (W.alloc o) :=
  ⟨h.out.1.alloc o, hK _ _ ((Keeps.refl _ W).alloc o) h.out.2⟩

theorem anyOfk {c : RC} (ws : List (List UInt8)) (zs : Array Value) (hz : zs = (ws.map fun v => Value.string (str v)).toArray) (n : Nat) (hn : n = ws.length) (hl : ws.length ≤ 1000) {A : Nat} {K : World → Prop} (hK : KeptBy c K) {w0 W : World} {s : St} (hA : A = W.heap.size) (h : Hid (On c w0 W s ∧ K W)) :
    Calls Tryd.prog 66 #[.pointer (some ⟨c.R, 0, none⟩), .slice (some ⟨A, 0, none⟩) n n] (W.alloc (.cells zs 9)) fun e w' => e = .returned (.string (str (anyOf ws s).1)) ∧ c.R < w'.heap.size ∧ Hid (On c w0 w' (anyOf ws s).2 ∧ K w') := by
  subst hn hA
  have g := On.grow hK h (.cells zs 9)
  exact (anyOf_on (wc := ws.length) g.1.here (Wds.lits W ws hl zs hz 9)).mono fun e w' ⟨h1, h2⟩ => ⟨h1, h2.out.lt, g.1.back h2.out, hK _ _ h2.out.keeps g.2⟩

/-- .. of words that came in -/
theorem anyOfr {c : RC} {wo : Option Addr} {wc n : Nat} {ws : List (List UInt8)} (hn : n = ws.length) {K : World → Prop} (hK : KeptBy c K) {w0 W : World} {s : St} (h : Hid (On c w0 W s ∧ K W)) (hw : Wds W wo ws) :
    Calls Tryd.prog 66 #[.pointer (some ⟨c.R, 0, none⟩), .slice wo n wc] W fun e w' => e = .returned (.string (str (anyOf ws s).1)) ∧ c.R < w'.heap.size ∧ Hid (On c w0 w' (anyOf ws s).2 ∧ K w') := by
  subst hn
  exact (anyOf_on h.out.1.here hw).mono fun e w' ⟨h1, h2⟩ => ⟨h1, h2.out.lt, h.out.1.back h2.out, hK _ _ h2.out.keeps h.out.2⟩

theorem oneOfk {c : RC} (ws : List (List UInt8)) (zs : Array Value) (hz : zs = (ws.map fun v => Value.string (str v)).toArray) (n : Nat) (hn : n = ws.length) (hl : ws.length ≤ 1000) {A : Nat} {K : World → Prop} (hK : KeptBy c K) {w0 W : World} {s : St} (hA : A = W.heap.size) (h : Hid (On c w0 W s ∧ K W)) :
    Calls Tryd.prog 43 #[.pointer (some ⟨c.R, 0, none⟩), .slice (some ⟨A, 0, none⟩) n n] (W.alloc (.cells zs 9)) fun e w' => e = .returned (.string (str (oneOf ws s).1)) ∧ c.R < w'.heap.size ∧ Hid (On c w0 w' (oneOf ws s).2 ∧ K w') := by
  subst hn hA
  have g := On.grow hK h (.cells zs 9)
  exact (oneOf_on (wc := ws.length) g.1.here (Wds.lits W ws hl zs hz 9)).mono fun e w' ⟨h1, h2⟩ => ⟨h1, h2.out.lt, g.1.back h2.out, hK _ _ h2.out.keeps g.2⟩

theorem need1k {c : RC} (v : List UInt8) (z : ByteArray) (hz : z = str v) {A : Nat} {K : World → Prop} (hK : KeptBy c K) {w0 W : World} {s : St} (hA : A = W.heap.size) (h : Hid (On c w0 W s ∧ K W)) :
    Calls Tryd.prog 69 #[.pointer (some ⟨c.R, 0, none⟩), .slice (some ⟨A, 0, none⟩) 1 1] (W.alloc (.cells #[.string z] 9)) fun e w' => e = .returned (.tuple #[]) ∧ c.R < w'.heap.size ∧ Hid (On c w0 w' (needs [v] s) ∧ K w') := by
  subst hA
  exact (need1 c v z hz (hide h.out.1.here)).mono fun e w' ⟨h1, h2, h3⟩ => ⟨h1, h2, h.out.1.back h3.out, hK _ _ h3.out.keeps h.out.2⟩

theorem need2k {c : RC} (v u : List UInt8) (z y : ByteArray) (hz : z = str v) (hy : y = str u) {A : Nat} {K : World → Prop} (hK : KeptBy c K) {w0 W : World} {s : St} (hA : A = W.heap.size) (h : Hid (On c w0 W s ∧ K W)) :
    Calls Tryd.prog 69 #[.pointer (some ⟨c.R, 0, none⟩), .slice (some ⟨A, 0, none⟩) 2 2] (W.alloc (.cells #[.string z, .string y] 9)) fun e w' => e = .returned (.tuple #[]) ∧ c.R < w'.heap.size ∧ Hid (On c w0 w' (needs [v, u] s) ∧ K w') := by
  subst hA
  exact (need2 c v u z y hz hy (hide h.out.1.here)).mono fun e w' ⟨h1, h2, h3⟩ => ⟨h1, h2, h.out.1.back h3.out, hK _ _ h3.out.keeps h.out.2⟩

theorem may0k {c : RC} (v : List UInt8) (z : ByteArray) (hz : z = str v) {K : World → Prop} (hK : KeptBy c K) {w0 W : World} {s : St} (h : Hid (On c w0 W s ∧ K W)) :
    Calls Tryd.prog 76 #[.pointer (some ⟨c.R, 0, none⟩), .string z, .slice none 0 0] W fun e w' => e = .returned (.bool (mayBe v [] s).1) ∧ c.R < w'.heap.size ∧ Hid (On c w0 w' (mayBe v [] s).2 ∧ K w') :=
  (may0 c v z hz (hide h.out.1.here)).mono fun _ _ ⟨h1, h2, h3⟩ => ⟨h1, h2, h.out.1.back h3.out, hK _ _ h3.out.keeps h.out.2⟩

theorem may1k {c : RC} (v u : List UInt8) (z y : ByteArray) (hz : z = str v) (hy : y = str u) {A : Nat} {K : World → Prop} (hK : KeptBy c K) {w0 W : World} {s : St} (hA : A = W.heap.size) (h : Hid (On c w0 W s ∧ K W)) :
    Calls Tryd.prog 76 #[.pointer (some ⟨c.R, 0, none⟩), .string z, .slice (some ⟨A, 0, none⟩) 1 1] (W.alloc (.cells #[.string y] 9)) fun e w' => e = .returned (.bool (mayBe v [u] s).1) ∧ c.R < w'.heap.size ∧ Hid (On c w0 w' (mayBe v [u] s).2 ∧ K w') := by
  subst hA
  exact (may1 c v u z y hz hy (hide h.out.1.here)).mono fun e w' ⟨h1, h2, h3⟩ => ⟨h1, h2, h.out.1.back h3.out, hK _ _ h3.out.keeps h.out.2⟩

theorem namek {c : RC} {K : World → Prop} (hK : KeptBy c K) {w0 W : World} {s : St} (h : Hid (On c w0 W s ∧ K W)) :
    Calls Tryd.prog 70 #[.pointer (some ⟨c.R, 0, none⟩)] W fun e w' => e = .returned (.string (str (nameP s).1)) ∧ c.R < w'.heap.size ∧ Hid (On c w0 w' (nameP s).2 ∧ K w') :=
  (name_on c (hide h.out.1.here)).mono fun _ _ ⟨h1, h2, h3⟩ => ⟨h1, h2, h.out.1.back h3.out, hK _ _ h3.out.keeps h.out.2⟩

theorem numberk {c : RC} {K : World → Prop} (hK : KeptBy c K) {w0 W : World} {s : St} (h : Hid (On c w0 W s ∧ K W)) :
    Calls Tryd.prog 82 #[.pointer (some ⟨c.R, 0, none⟩)] W fun e w' => e = .returned (.int .i64 (numberP s).1) ∧ c.R < w'.heap.size ∧ Hid (On c w0 w' (numberP s).2 ∧ K w') :=
  (number_on c (hide h.out.1.here)).mono fun _ _ ⟨h1, h2, h3⟩ => ⟨h1, h2, h.out.1.back h3.out, hK _ _ h3.out.keeps h.out.2⟩

theorem commak {c : RC} {K : World → Prop} (hK : KeptBy c K) {w0 W : World} {s : St} (h : Hid (On c w0 W s ∧ K W)) :
    Calls Tryd.prog 74 #[.pointer (some ⟨c.R, 0, none⟩)] W fun e w' => e = .returned (.bool (comma s).1) ∧ c.R < w'.heap.size ∧ Hid (On c w0 w' (comma s).2 ∧ K w') :=
  (comma_on c (hide h.out.1.here)).mono fun _ _ ⟨h1, h3⟩ => ⟨h1, h3.out.lt, h.out.1.back h3.out, hK _ _ h3.out.keeps h.out.2⟩

theorem opOfk {c : RC} {K : World → Prop} (hK : KeptBy c K) (u : List UInt8) {w0 W : World} {s : St} (h : Hid (On c w0 W s ∧ K W)) :
    Calls Tryd.prog 112 #[.string (str u)] W fun e w' => e = .returned (.int .i64 (opOf u)) ∧ c.R < w'.heap.size ∧ Hid (On c w0 w' s ∧ K w') :=
  (opOf_any u W h.out.1.ops).mono fun _ _ ⟨h1, h2⟩ => ⟨h1, (h.out.1.later h2).lt, h.out.1.later h2, hK _ _ (.of_below h2) h.out.2⟩

theorem Part.callk {f : Nat} {c : RC} {P : St → Ex × St} {k : Nat} (h : Part f c P k) {K : World → Prop} (hK : KeptBy c K) {w0 W : World} {s : St} (hs : s.len < k) {lo : Nat} (hlo : lo ≤ w0.heap.size) (hO : Hid (On c w0 W s ∧ K W)) :
    Calls Tryd.prog f #[.pointer (some ⟨c.R, 0, none⟩)] W fun e w' => ∃ d : ED, e = .returned (exval d) ∧ c.R < w'.heap.size ∧ Hid (On c w0 w' (P s).2 ∧ IsEx (fun b => lo ≤ b) w' (P s).1 d ∧ K w') :=
  (h W s hs hO.out.1.here).mono fun e w' ⟨d, h1, h2, h3⟩ => ⟨d, h1, h2.lt, hO.out.1.back h2, h3.weak (fun b hb _ => by have := hO.out.1.size; omega), hK _ _ h2.keeps hO.out.2⟩

/-- an expression of one part, as the call comes -/
theorem made1k (op : Int) {c : RC} {A lo : Nat} {w0 W : World} {s : St} {a : Ex} {d : ED} (hA : A = W.heap.size) (hlo : lo ≤ w0.heap.size) (h : Hid (On c w0 W s ∧ IsEx (fun b => lo ≤ b) W a d)) :
    Calls Tryd.prog 113 #[.int .i64 op, .slice (some ⟨A, 0, none⟩) 1 1] (W.alloc (.cells #[.int .i64 d.op, .int .i64 d.vk, .int .i64 d.vi, .string d.vt, .string d.tb, .string d.nm, .int .i64 0, .slice d.ao d.n d.cap] 35)) fun e w' => ∃ d : ED, e = .returned (exval d) ∧ c.R < w'.heap.size ∧ Hid (On c w0 w' s ∧ IsEx (fun b => lo ≤ b) w' (.un op a) d) := by
  subst hA
  exact (made1 op (by have := h.out.1.size; show lo ≤ W.heap.size; omega) h).mono fun e w' ⟨d, h1, h2⟩ => ⟨d, h1, h2.out.1.lt, h2⟩

set_option maxRecDepth 100000 in
set_option maxHeartbeats 4000000 in
theorem closed_part {c : RC} {k : Nat} {ex : St → Ex × St} (hex : Part 77 c ex k) : Part 145 c (closedP ex) k := by
  intro w s hs h
  have hR := h.lt
  have HH := hide h
  have cX := hex.callk (KeptBy.triv c) (w0 := w.alloc zeroEx) (W := w.alloc zeroEx) hs (lo := w.heap.size + 1) (by simp) (hide ⟨(h.alloc zeroEx).here, trivial⟩)
  unfold closedP
  clear h
  generalize ex s = p at cX ⊢
  obtain ⟨a, s1⟩ := p
  simp only at cX ⊢
  have cN : Hid (∀ w1 d, Hid (On c (w.alloc zeroEx) w1 s1 ∧ IsEx (fun b => w.heap.size + 1 ≤ b) w1 a d ∧ True) → Calls Tryd.prog 69 #[.pointer (some ⟨c.R, 0, none⟩), .slice (some ⟨w1.heap.size + 1, 0, none⟩) 1 1] ((w1.alloc (.cells #[.int .i64 d.op, .int .i64 d.vk, .int .i64 d.vi, .string d.vt, .string d.tb, .string d.nm, .int .i64 0, .slice d.ao d.n d.cap] 35)).alloc (.cells #[.string ⟨#[41]⟩] 9)) fun e w' => e = .returned (.tuple #[]) ∧ c.R < w'.heap.size ∧ Hid (On c (w.alloc zeroEx) w' (needs [[41]] s1) ∧ IsEx (fun b => w.heap.size + 1 ≤ b) w' a d ∧ VarEx w' w1.heap.size d)) := by
    intro w1 d hw1
    have hK : KeptBy c (fun W => IsEx (fun b => w.heap.size + 1 ≤ b) W a d ∧ VarEx W w1.heap.size d) := (KeptBy.ex (by show ¬ (w.heap.size + 1 ≤ c.R); omega)).and (KeptBy.var (by have := hw1.out.1.lt; omega))
    exact need1k [41] ⟨#[41]⟩ rfl hK (by simp) (hide ⟨hw1.out.1.alloc _, hw1.out.2.1.alloc _, VarEx.new w1 d _⟩)
  generalize needs [[41]] s1 = s2 at cN ⊢
  go_enter Tryd.func145, Tryd.ntmps145
  go_wp2_with (first
    | (go_at_call 77; refine cX.mono ?_; rintro e w1 ⟨d, rfl, hR1, HB⟩)
    | (go_at_call 69; refine (cN.out _ _ HB).mono ?_; rintro e w2 ⟨rfl, hR2, HB2⟩; obtain ⟨⟨k0, k1, k2, k3, k4, k5, k6, k7⟩, f⟩ := res_cells HB2.out.1 hR; obtain ⟨v0, v1, v2, v3, v4, v5, v6, v7⟩ := HB2.out.2.2.cells))
  obtain ⟨W3, e3, ⟨c0, c1, c2, c3, c4, c5, c6, c7⟩, hO3, hI3⟩ := res8 HB2.out.1 hR HH.out d HB2.out.2.1
  rw [e3]
  exact bodyPost_ret (v := exval d) (by simp [results, Tryd.results145, go_sem, asAddr, c0, c1, c2, c3, c4, c5, c6, c7]) rfl ⟨d, rfl, hO3, hI3⟩

end Go.Proofs.YtedinkoapieakaaDoor
