/- States in memory: their cells and what is done, and what may be, place by place. -/
import Derived.Test.YtndnbkgejdindaaItMem
import Derived.Test.YtndnbkgejdindaaMeldBytes
namespace Go.Proofs.Ytndnbkgejdindaa
open Go.ChangeShapes Go.WideShapes Go.ChangeAt Go.RowKit

/-- a cell in memory: its key, its value, whether it is gone, since when -/
def kCel : Kd Cel 4 where
  rel ok w x cs := ∃ u v, cs = [u, v, .bool x.gone, .int .i64 x.since] ∧ IsBody w ok u x.key ∧ IsBody w ok v x.val
  move hk hok _ _ := by
    rintro ⟨u, v, rfl, h1, h2⟩
    exact ⟨u, v, rfl, h1.move hk hok, h2.move hk hok⟩
  len := by
    rintro _ _ _ _ ⟨u, v, rfl, _, _⟩
    rfl
  one := by
    rintro _ _ _ _ ⟨u, v, rfl, h1, h2⟩ x hx
    simp only [List.mem_cons, List.not_mem_nil, or_false] at hx
    rcases hx with rfl | rfl | rfl | rfl
    · exact h1.one
    · exact h2.one
    · rfl
    · rfl

/-- what is done, in memory -/
def kDn : Kd Dn 4 where
  rel _ _ x cs := cs = [.int .i64 x.client, .int .i64 x.number, .int .i64 x.pos, .bool x.kept]
  move _ _ _ _ := fun h => h
  len := by
    rintro _ _ _ _ rfl
    rfl
  one := by
    rintro _ _ _ _ rfl x hx
    simp only [List.mem_cons, List.not_mem_nil, or_false] at hx
    rcases hx with rfl | rfl | rfl | rfl <;> rfl

theorem eltC : Elt 22 51 4 64 := ⟨Try.underlying22, by
  obtain ⟨i0, hi, hz0, hz1, hz2⟩ := info_parts (show (Try.prog.info? 51).map (fun i => (i.zero, i.size, i.bytes)) = some (some (.agg #[.slice none 0 0, .slice none 0 0, .bool false, .int .i64 0]), 4, 64) by kernel_rfl)
  exact ⟨i0, _, hi, hz0, hz1, hz2, rfl⟩, by decide⟩

theorem eltD : Elt 23 53 4 32 := ⟨Try.underlying23, by
  obtain ⟨i0, hi, hz0, hz1, hz2⟩ := info_parts (show (Try.prog.info? 53).map (fun i => (i.zero, i.size, i.bytes)) = some (some (.agg #[.int .i64 0, .int .i64 0, .int .i64 0, .bool false]), 4, 32) by kernel_rfl)
  exact ⟨i0, _, hi, hz0, hz1, hz2, rfl⟩, by decide⟩

/-- a state's cells and dones lie in memory -/
structure StIs (ok : Nat → Prop) (w : World) (cs : List Cel) (ds : List Dn) (ca : Option Addr) (cc : Nat) (da : Option Addr) (dc : Nat) : Prop where
  cells : Lies kCel ok w ca cc cs
  dones : Lies kDn ok w da dc ds
  few : cs.length * 64 ≤ 140737488351232 ∧ ds.length * 32 ≤ 140737488351232

theorem StIs.later {ok : Nat → Prop} {w w' : World} {cs : List Cel} {ds : List Dn} {ca : Option Addr} {cc : Nat} {da : Option Addr} {dc : Nat} (h : StIs ok w cs ds ca cc da dc) (hb : Below w.heap.size w w') : StIs ok w' cs ds ca cc da dc :=
  ⟨h.cells.later hb, h.dones.later hb, h.few⟩

/-- cells that may be at a position -/
def CelsP (p : Int) (l : List Cel) : Prop := (∀ c ∈ l, OkC p c) ∧ AscC l

/-- dones that may be at a position -/
def DnsP (p : Int) (l : List Dn) : Prop := (∀ d ∈ l, OkD p d) ∧ l.Pairwise (fun a b => dnAhead a b = true)

/-- the first k are right, and go up -/
def GoodL {α : Type} (P : α → Prop) (R : α → α → Prop) (l : List α) (k : Nat) : Prop := (∀ y ∈ l.take k, P y) ∧ (l.take k).Pairwise R

theorem GoodL.zero {α : Type} (P : α → Prop) (R : α → α → Prop) (l : List α) : GoodL P R l 0 := by simp [GoodL]

theorem GoodL.step {α : Type} {P : α → Prop} {R : α → α → Prop} (ht : ∀ {a b c : α}, R a b → R b c → R a c) {l : List α} {k : Nat} (hk : k < l.length) (h : GoodL P R l k) (ho : P l[k]) (ha : ∀ p, p + 1 = k → ∀ hp : p < l.length, R l[p] l[k]) : GoodL P R l (k + 1) := by
  unfold GoodL
  rw [take_succ' hk]
  refine ⟨fun y hy => ?_, ?_⟩
  · rcases List.mem_append.1 hy with h1 | h1
    · exact h.1 y h1
    · rw [List.mem_singleton.1 h1]; exact ho
  · refine List.pairwise_append.2 ⟨h.2, List.pairwise_singleton _ _, fun a ha' b hb => ?_⟩
    rw [List.mem_singleton.1 hb]
    cases k with
    | zero => simp at ha'
    | succ p =>
      have hp : p < l.length := by omega
      have h1 := ha p rfl hp
      rw [take_succ' hp] at ha'
      rcases List.mem_append.1 ha' with h2 | h2
      · have h3 := h.2
        rw [take_succ' hp] at h3
        have h4 := (List.pairwise_append.1 h3).2.2 a h2 l[p] (by simp)
        exact ht h4 h1
      · rw [List.mem_singleton.1 h2]; exact h1

theorem GoodL.all {α : Type} {P : α → Prop} {R : α → α → Prop} {l : List α} {k : Nat} (h : GoodL P R l k) (hk : l.length ≤ k) : (∀ y ∈ l, P y) ∧ l.Pairwise R := by
  unfold GoodL at h
  rwa [List.take_of_length_le hk] at h

theorem pair_next {α : Type} {R : α → α → Prop} {l : List α} {p : Nat} (h : l.Pairwise R) (hp : p + 1 < l.length) : R (l[p]'(by omega)) l[p + 1] :=
  List.pairwise_iff_getElem.1 h p (p + 1) (by omega) hp (by omega)

/-- a cell of a row, its cells in memory -/
theorem cel_at {ok : Nat → Prop} {w : World} {ao : Option Addr} {cap : Nat} {l : List Cel} (hL : Lies kCel ok w ao cap l) {k : Nat} (hk : k < l.length) :
    ∃ bb off a1 c1 a2 c2, ao = some ⟨bb, off, none⟩ ∧ IsBody w ok (.slice a1 (l[k]).key.length c1) (l[k]).key ∧ IsBody w ok (.slice a2 (l[k]).val.length c2) (l[k]).val ∧ bb < w.heap.size ∧ ∀ W : World, Below w.heap.size w W → W.cell? ⟨bb, off + k * 4, none⟩ = some (.slice a1 (l[k]).key.length c1) ∧ W.cell? ⟨bb, off + k * 4 + 1, none⟩ = some (.slice a2 (l[k]).val.length c2) ∧ W.cell? ⟨bb, off + k * 4 + 2, none⟩ = some (.bool (l[k]).gone) ∧ W.cell? ⟨bb, off + k * 4 + 3, none⟩ = some (.int .i64 (l[k]).since) := by
  obtain ⟨bb, off, e, hb, _, cs, ⟨u, v, rfl, h1, h2⟩, hc⟩ := hL.at hk
  obtain ⟨a1, c1, rfl, _⟩ := id h1
  obtain ⟨a2, c2, rfl, _⟩ := id h2
  exact ⟨bb, off, a1, c1, a2, c2, e, h1, h2, hb, fun W hW => ⟨(hW.cell (p := ⟨bb, off + k * 4, none⟩) hb).trans (by simpa using hc 0 _ rfl), (hW.cell (p := ⟨bb, off + k * 4 + 1, none⟩) hb).trans (hc 1 _ rfl), (hW.cell (p := ⟨bb, off + k * 4 + 2, none⟩) hb).trans (hc 2 _ rfl), (hW.cell (p := ⟨bb, off + k * 4 + 3, none⟩) hb).trans (hc 3 _ rfl)⟩⟩

/-- a done of a row -/
theorem dn_at {ok : Nat → Prop} {w : World} {ao : Option Addr} {cap : Nat} {l : List Dn} (hL : Lies kDn ok w ao cap l) {k : Nat} (hk : k < l.length) :
    ∃ bb off, ao = some ⟨bb, off, none⟩ ∧ bb < w.heap.size ∧ ∀ W : World, Below w.heap.size w W → W.cell? ⟨bb, off + k * 4, none⟩ = some (.int .i64 (l[k]).client) ∧ W.cell? ⟨bb, off + k * 4 + 1, none⟩ = some (.int .i64 (l[k]).number) ∧ W.cell? ⟨bb, off + k * 4 + 2, none⟩ = some (.int .i64 (l[k]).pos) ∧ W.cell? ⟨bb, off + k * 4 + 3, none⟩ = some (.bool (l[k]).kept) := by
  obtain ⟨bb, off, e, hb, _, cs, rfl, hc⟩ := hL.at hk
  exact ⟨bb, off, e, hb, fun W hW => ⟨(hW.cell (p := ⟨bb, off + k * 4, none⟩) hb).trans (by simpa using hc 0 _ rfl), (hW.cell (p := ⟨bb, off + k * 4 + 1, none⟩) hb).trans (hc 1 _ rfl), (hW.cell (p := ⟨bb, off + k * 4 + 2, none⟩) hb).trans (hc 2 _ rfl), (hW.cell (p := ⟨bb, off + k * 4 + 3, none⟩) hb).trans (hc 3 _ rfl)⟩⟩

end Go.Proofs.Ytndnbkgejdindaa
