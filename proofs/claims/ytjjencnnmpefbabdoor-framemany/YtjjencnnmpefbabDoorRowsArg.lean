/- A slice of slices of bytes that came in, as rows. -/
import Derived.Test.YtjjencnnmpefbabDoorRowsPlain
import Derived.Deep.Matrix
import Derived.SizedLaws
namespace Go.Proofs.YtjjencnnmpefbabDoor
open Go.ChangeShapes Go.WideShapes Go.ChangeAt Go.RowKit Go.Deep

theorem weights_in_all {H : Type} {P : Program} {e : TypeId} {d : DataW H} {n : Nat} (hn : n ∈ d.weights P e) : ∀ {l : List (DataW H)}, d ∈ l → n ∈ DataW.weightsAll P e l
  | x :: r, hd => by
    rw [DataW.weightsAll, List.mem_append]
    rcases List.mem_cons.1 hd with h | h
    · subst h; exact .inl hn
    · exact .inr (weights_in_all hn h)

theorem rows_arg {H : Type} {enc : TypeId × Value → H} {W : World} {base fuel j len cap : Nat} {held : Bool} {ts : List TypeId} {ds : List (DataW H)} {x : DataW H × List MemPlace} {a : Option Addr} {cs : List Value}
    (hsz : (DataW.weightsEach Tryd.prog ts ds).all (· ≤ reachBytes) = true) (ht : ts[j]? = some 31) (hd : ds[j]? = some x.1) (hc : cs = [.slice a len cap])
    (hf : DataW.trod enc Tryd.prog W base (fun _ => true) held fuel 31 cs = some x) : ∃ xss : List (List Int), len = xss.length ∧ Rws W a cap xss := by
  rcases open_int_rows Tryd.underlying31 Tryd.underlying22 Tryd.underlying5 (by kernel_rfl) (by kernel_rfl) hf with ⟨hcs, _⟩ | ⟨ad, l, c, A, L, C, Z, hcs, _, hl, hm, hx, hrows⟩
  · rw [hc] at hcs
    simp only [List.cons.injEq, Value.slice.injEq, and_true] at hcs
    obtain ⟨rfl, rfl, rfl⟩ := hcs
    exact ⟨[], rfl, Rws.nil _ _ _ (fun _ => rfl)⟩
  · rw [hc] at hcs
    simp only [List.cons.injEq, Value.slice.injEq, and_true] at hcs
    obtain ⟨rfl, rfl, rfl⟩ := hcs
    subst hx
    have hs := sized_slice hsz ht hd Tryd.underlying31
    rw [show Tryd.prog.bytesOf 22 = 24 by kernel_rfl] at hs
    simp only [List.length_map, List.length_range, reachBytes] at hs
    have hin : ∀ r, r < len → C r ≤ 140737488351232 := by
      intro r hr
      obtain ⟨_, h1, _, h3, _, h5, _⟩ := hrows r (by omega)
      cases hA : A r with
      | none => rw [h5 hA]; omega
      | some a' =>
        have hmem : (((Z r).take (L r)).length + ((Z r).drop (L r)).length) * Tryd.prog.bytesOf 5 ∈ (intRow (H := H) .u8 (A r) (L r) (Z r)).weights Tryd.prog 22 := by
          rw [hA]
          simp [intRow, DataW.weights, Tryd.underlying22, lits]
        have hin2 := List.all_eq_true.1 hsz _ (DataW.weights_mem_each ht hd _ (show _ ∈ DataW.weights Tryd.prog 31 _ by
          simp only [DataW.weights, Tryd.underlying31, List.mem_cons, List.mem_append]
          exact .inr (.inl (weights_in_all hmem (List.mem_map.2 ⟨r, List.mem_range.2 hr, rfl⟩)))))
        rw [show Tryd.prog.bytesOf 5 = 1 by kernel_rfl] at hin2
        simp only [List.length_take, List.length_drop, reachBytes, decide_eq_true_eq] at hin2
        omega
    refine ⟨(List.range len).map (fun r => (Z r).take (L r)), by simp, by simpa using hl, by simp; omega, (fun h => by cases h), ?_⟩
    by_cases h0 : len = 0
    · left; subst h0; simp
    · right
      obtain ⟨b, off, spot⟩ := ad
      have hspot : spot = none := by simpa [Addr.add] using World.cell?_spot (hrows 0 (by omega)).1
      subst hspot
      refine ⟨b, off, rfl, fun i hi => ?_⟩
      have hi : i < len := by simpa using hi
      obtain ⟨h1, h2, h3, h4, h5, h6, h7⟩ := hrows i (by omega)
      rw [addr_add] at h1
      have hg : ((List.range len).map (fun r => (Z r).take (L r))).getD i [] = (Z i).take (L i) := by simp [List.getD, hi]
      rw [hg]
      have hlen : ((Z i).take (L i)).length = L i := by rw [List.length_take]; omega
      refine ⟨A i, C i, by rw [hlen]; exact h1, by rw [hlen]; exact h2, by rw [hlen]; have := hin i hi; omega, h6, ?_, ?_⟩
      · intro y hy
        have := h5 y (List.mem_of_mem_take hy)
        simp [Lit.wf, IntKind.min, IntKind.max, IntKind.bits, IntKind.signed] at this
        omega
      · by_cases hz : L i = 0
        · left; rw [hz]; simp
        · right
          cases hA : A i with
          | none => have := h6 hA; omega
          | some a' =>
            obtain ⟨_, hcell⟩ := h7 a' hA
            obtain ⟨b', off', spot'⟩ := a'
            have hspot : spot' = none := by simpa [Addr.add] using World.cell?_spot (hcell 0 (by omega))
            subst hspot
            refine ⟨b', off', rfl, fun q hq => ?_⟩
            rw [hlen] at hq
            have := hcell q (by omega)
            rw [addr_add] at this
            rw [this]
            simp [List.getD, hq]

end Go.Proofs.YtjjencnnmpefbabDoor
