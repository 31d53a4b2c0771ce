/- Variables of structs that a call has laid: their cells, stores into them, what stays meanwhile. -/
import Derived.Test.YtedinkoapieakaaDoorParseList
namespace Go.Proofs.YtedinkoapieakaaDoor
open Go.ChangeShapes Go.WideShapes Go.ChangeAt Go.RowKit

/-- a variable's cells -/
def VarB (W : World) (B : Nat) (vs : List Value) : Prop := B < W.heap.size ∧ (∀ j u, vs[j]? = some u → W.cell? ⟨B, j, none⟩ = some u) ∧ ∀ i, W.frozen? ⟨B, i, none⟩ = false

theorem VarB.new (w : World) (zs : Array Value) (ty : TypeId) : VarB (w.alloc (.cells zs ty)) w.heap.size zs.toList := by
  refine ⟨by simp, fun j u hu => ?_, fun i => by simp⟩
  have e : (w.alloc (.cells zs ty)).cell? ⟨w.heap.size, j, none⟩ = zs[j]? := by simp
  rw [e, ← hu]
  simp
theorem VarB.move {R : Nat} {W W' : World} {B : Nat} {vs : List Value} (h : VarB W B vs) (k : Keeps R W W') (hB : B ≠ R) : VarB W' B vs :=
  ⟨Nat.lt_of_lt_of_le h.1 k.size, fun j u hu => (k.cell (p := ⟨B, j, none⟩) h.1 hB).trans (h.2.1 j u hu), fun i => (k.frozen (p := ⟨B, i, none⟩) h.1 hB).trans (h.2.2 i)⟩
theorem VarB.set {W : World} {B : Nat} {vs : List Value} (h : VarB W B vs) {j : Nat} (hj : j < vs.length) (u : Value) : VarB (W.setCell ⟨B, j, none⟩ u) B (vs.set j u) := by
  refine ⟨by rw [setCell_size]; exact h.1, fun i v hv => ?_, fun i => by rw [World.frozen?_setCell]; exact h.2.2 i⟩
  by_cases hij : j = i
  · subst hij
    rw [List.getElem?_set_self hj] at hv
    cases hv
    exact World.cell?_setCell_same _ _ _ (h.2.1 j _ (List.getElem?_eq_getElem hj))
  · rw [List.getElem?_set_ne hij] at hv
    rw [World.cell?_setCell_other (h := by intro e; cases e; exact hij rfl)]
    exact h.2.1 i v hv

/-- cells stored one behind the other -/
abbrev setFrom (W : World) (B i : Nat) (vs : List Value) : World := W.setCells B i vs

theorem setFrom_keeps (B : Nat) (vs : List Value) : ∀ (W : World) (i : Nat), Keeps B W (setFrom W B i vs) := by
  induction vs with
  | nil => exact fun W i => .refl _ _
  | cons v vs ih => exact fun W i => ((Keeps.refl B W).setCell (.inl rfl) v).trans (ih _ _)

theorem setFrom_on {c : RC} {w0 : World} {s : St} {B : Nat} (hB : w0.heap.size ≤ B) (vs : List Value) : ∀ (W : World) (i : Nat), On c w0 W s → On c w0 (setFrom W B i vs) s := by
  induction vs with
  | nil => exact fun W i h => h
  | cons v vs ih => exact fun W i h => ih _ _ (h.setCell hB v)

theorem setFrom_var {B : Nat} (vs : List Value) : ∀ (W : World) (i : Nat) (us : List Value), VarB W B us → i + vs.length ≤ us.length → VarB (setFrom W B i vs) B (us.take i ++ vs ++ us.drop (i + vs.length)) := by
  induction vs with
  | nil =>
    intro W i us h hl
    simpa [World.setCells] using h
  | cons v vs ih =>
    intro W i us h hl
    simp only [List.length_cons] at hl
    have h1 := ih (W.setCell ⟨B, i, none⟩ v) (i + 1) (us.set i v) (h.set (by omega) v) (by simp; omega)
    have e : (us.set i v).take (i + 1) ++ vs ++ (us.set i v).drop (i + 1 + vs.length) = us.take i ++ (v :: vs) ++ us.drop (i + (v :: vs).length) := by
      have e1 : (us.set i v).take (i + 1) = us.take i ++ [v] := by
        rw [List.take_add_one, List.take_set_of_le (Nat.le_refl i), List.getElem?_set_self (by omega)]
        rfl
      rw [e1, List.drop_set_of_lt (by omega)]
      simp [Nat.add_assoc, Nat.add_comm 1]
    rw [e] at h1
    exact h1

/-- all cells of a variable, stored -/
theorem VarB.all {W : World} {B : Nat} {us : List Value} (h : VarB W B us) (vs : List Value) (hl : vs.length = us.length) : VarB (setFrom W B 0 vs) B vs := by
  have := setFrom_var vs W 0 us h (by omega)
  rw [List.take_zero, List.drop_of_length_le (by omega), List.append_nil, List.nil_append] at this
  exact this

/-- the call's own result -/
theorem VarB.res {c : RC} {w W : World} {s : St} {zs : Array Value} {ty : TypeId} (h : On c (w.alloc (.cells zs ty)) W s) (hR : c.R < w.heap.size) : VarB W w.heap.size zs.toList := (VarB.new w zs ty).move h.keeps (by omega)

/-- what hangs on blocks from lo on alone -/
def Firm (lo : Nat) (K : World → Prop) : Prop := ∀ R W W', R < lo → Keeps R W W' → K W → K W'

theorem Firm.triv (lo : Nat) : Firm lo (fun _ => True) := fun _ _ _ _ _ h => h
theorem Firm.and {lo : Nat} {K L : World → Prop} (h : Firm lo K) (g : Firm lo L) : Firm lo (fun W => K W ∧ L W) := fun R W W' r k ⟨a, b⟩ => ⟨h R W W' r k a, g R W W' r k b⟩
theorem Firm.ex {lo : Nat} {e : Ex} {d : ED} : Firm lo (fun W => IsEx (fun b => lo ≤ b) W e d) := fun R _ _ r k h => h.keep k (by show ¬ lo ≤ R; omega)
theorem Firm.rw {α D : Type} {K : Kind α D} {lo : Nat} {e : TypeId} {size : Nat} {v : Value} {l : List α} {ds : List D} : Firm lo (fun W => Rw K lo e size W v l ds) := fun _ _ _ r k h => h.keep k r

/-- a body with a result block, a struct variable T, and what has been read so far -/
structure SV (c : RC) (w0 : World) (T : Nat) (W : World) (s : St) (vs : List Value) (K : World → Prop) : Prop where
  on : On c w0 W s
  var : VarB W T vs
  k : K W
  firm : Firm (T + 1) K
  lo : w0.heap.size ≤ T

theorem SV.size {c : RC} {w0 : World} {T : Nat} {W : World} {s : St} {vs : List Value} {K : World → Prop} (h : SV c w0 T W s vs K) : T + 1 ≤ W.heap.size := h.var.1
theorem SV.go {c : RC} {w0 : World} {T : Nat} {W W' : World} {s s' : St} {vs : List Value} {K : World → Prop} (h : SV c w0 T W s vs K) (k : On c W W' s') : SV c w0 T W' s' vs K :=
  ⟨h.on.back k, h.var.move k.keeps (by have := h.on.oldR; have := h.lo; omega), h.firm _ _ _ (by have := h.on.oldR; have := h.lo; omega) k.keeps h.k, h.firm, h.lo⟩
theorem SV.put {c : RC} {w0 : World} {T : Nat} {W : World} {s : St} {vs : List Value} {K : World → Prop} (h : SV c w0 T W s vs K) {j : Nat} (hj : j < vs.length) (u : Value) : SV c w0 T (W.setCell ⟨T, j, none⟩ u) s (vs.set j u) K :=
  ⟨h.on.setCell h.lo u, h.var.set hj u, h.firm T _ _ (Nat.lt_succ_self _) ((Keeps.refl T W).setCell (.inl rfl) u) h.k, h.firm, h.lo⟩
theorem SV.more {c : RC} {w0 : World} {T : Nat} {W : World} {s : St} {vs : List Value} {K L : World → Prop} (h : SV c w0 T W s vs K) (l : L W) (f : Firm (T + 1) L) : SV c w0 T W s vs (fun W => K W ∧ L W) := ⟨h.on, h.var, ⟨h.k, l⟩, h.firm.and f, h.lo⟩

theorem SV.start {c : RC} {w0 W : World} {s : St} (h : On c w0 W s) (zs : Array Value) (ty : TypeId) : SV c w0 W.heap.size (W.alloc (.cells zs ty)) s zs.toList (fun _ => True) :=
  ⟨h.alloc _, VarB.new W zs ty, trivial, Firm.triv _, h.size⟩

theorem need1s {c : RC} (v : List UInt8) (z : ByteArray) (hz : z = str v) {A : Nat} {w0 : World} {T : Nat} {W : World} {s : St} {vs : List Value} {K : World → Prop} (hA : A = W.heap.size) (h : Hid (SV c w0 T W s vs K)) :
    Calls Tryd.prog 69 #[.pointer (some ⟨c.R, 0, none⟩), .slice (some ⟨A, 0, none⟩) 1 1] (W.alloc (.cells #[.string z] 9)) fun e w' => e = .returned (.tuple #[]) ∧ c.R < w'.heap.size ∧ Hid (SV c w0 T w' (needs [v] s) vs K) := by
  subst hA
  exact (need1 c v z hz (hide h.out.on.here)).mono fun e w' ⟨h1, h2, h3⟩ => ⟨h1, h2, h.out.go h3.out⟩
theorem need2s {c : RC} (v u : List UInt8) (z y : ByteArray) (hz : z = str v) (hy : y = str u) {A : Nat} {w0 : World} {T : Nat} {W : World} {s : St} {vs : List Value} {K : World → Prop} (hA : A = W.heap.size) (h : Hid (SV c w0 T W s vs K)) :
    Calls Tryd.prog 69 #[.pointer (some ⟨c.R, 0, none⟩), .slice (some ⟨A, 0, none⟩) 2 2] (W.alloc (.cells #[.string z, .string y] 9)) fun e w' => e = .returned (.tuple #[]) ∧ c.R < w'.heap.size ∧ Hid (SV c w0 T w' (needs [v, u] s) vs K) := by
  subst hA
  exact (need2 c v u z y hz hy (hide h.out.on.here)).mono fun e w' ⟨h1, h2, h3⟩ => ⟨h1, h2, h.out.go h3.out⟩
theorem may0s {c : RC} (v : List UInt8) (z : ByteArray) (hz : z = str v) {w0 : World} {T : Nat} {W : World} {s : St} {vs : List Value} {K : World → Prop} (h : Hid (SV c w0 T W s vs K)) :
    Calls Tryd.prog 76 #[.pointer (some ⟨c.R, 0, none⟩), .string z, .slice none 0 0] W fun e w' => e = .returned (.bool (mayBe v [] s).1) ∧ c.R < w'.heap.size ∧ Hid (SV c w0 T w' (mayBe v [] s).2 vs K) :=
  (may0 c v z hz (hide h.out.on.here)).mono fun _ _ ⟨h1, h2, h3⟩ => ⟨h1, h2, h.out.go h3.out⟩
theorem may1s {c : RC} (v u : List UInt8) (z y : ByteArray) (hz : z = str v) (hy : y = str u) {A : Nat} {w0 : World} {T : Nat} {W : World} {s : St} {vs : List Value} {K : World → Prop} (hA : A = W.heap.size) (h : Hid (SV c w0 T W s vs K)) :
    Calls Tryd.prog 76 #[.pointer (some ⟨c.R, 0, none⟩), .string z, .slice (some ⟨A, 0, none⟩) 1 1] (W.alloc (.cells #[.string y] 9)) fun e w' => e = .returned (.bool (mayBe v [u] s).1) ∧ c.R < w'.heap.size ∧ Hid (SV c w0 T w' (mayBe v [u] s).2 vs K) := by
  subst hA
  exact (may1 c v u z y hz hy (hide h.out.on.here)).mono fun e w' ⟨h1, h2, h3⟩ => ⟨h1, h2, h.out.go h3.out⟩
theorem names {c : RC} {w0 : World} {T : Nat} {W : World} {s : St} {vs : List Value} {K : World → Prop} (h : Hid (SV c w0 T W s vs K)) :
    Calls Tryd.prog 70 #[.pointer (some ⟨c.R, 0, none⟩)] W fun e w' => e = .returned (.string (str (nameP s).1)) ∧ c.R < w'.heap.size ∧ Hid (SV c w0 T w' (nameP s).2 vs K) :=
  (name_on c (hide h.out.on.here)).mono fun _ _ ⟨h1, h2, h3⟩ => ⟨h1, h2, h.out.go h3.out⟩
theorem numbers {c : RC} {w0 : World} {T : Nat} {W : World} {s : St} {vs : List Value} {K : World → Prop} (h : Hid (SV c w0 T W s vs K)) :
    Calls Tryd.prog 82 #[.pointer (some ⟨c.R, 0, none⟩)] W fun e w' => e = .returned (.int .i64 (numberP s).1) ∧ c.R < w'.heap.size ∧ Hid (SV c w0 T w' (numberP s).2 vs K) :=
  (number_on c (hide h.out.on.here)).mono fun _ _ ⟨h1, h2, h3⟩ => ⟨h1, h2, h.out.go h3.out⟩
theorem exprss {f : Nat} {c : RC} {P : St → Ex × St} (hp : ∀ k, Part f c P k) {w0 : World} {T : Nat} {W : World} {s : St} {vs : List Value} {K : World → Prop} (h : Hid (SV c w0 T W s vs K)) :
    Calls Tryd.prog f #[.pointer (some ⟨c.R, 0, none⟩)] W fun e w' => ∃ d : ED, e = .returned (exval d) ∧ c.R < w'.heap.size ∧ Hid (SV c w0 T w' (P s).2 vs (fun W => K W ∧ IsEx (fun b => T + 1 ≤ b) W (P s).1 d)) :=
  (hp (s.len + 1) W s (Nat.lt_succ_self _) h.out.on.here).mono fun e w' ⟨d, h1, h2, h3⟩ => ⟨d, h1, h2.lt, (h.out.go h2).more (h3.weak fun b hb _ => by have := h.out.size; omega) Firm.ex⟩

end Go.Proofs.YtedinkoapieakaaDoor
