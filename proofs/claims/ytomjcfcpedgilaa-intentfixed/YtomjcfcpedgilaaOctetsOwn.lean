/- Octets of all bytes: a row of its own, in memory that is there. -/
import Derived.Test.YtomjcfcpedgilaaOctetsKeep
import Derived.Test.YtomjcfcpedgilaaTrMem
namespace Go.Proofs.Ytomjcfcpedgilaa
open Go.ChangeShapes Go.WideShapes Go.ChangeAt Go.RowKit

theorem own_ples {w : World} {base n size : Nat} {e : TypeId} {a : Option Addr} {m c : Nat} {vs : List Value} (h : w.ownsRow base e size (.slice a m c) n vs) : Ples a c ∧ ∀ ad, a = some ad → ad.block < w.heap.size := by
  rcases h.2 with ⟨h1, h2⟩ | ⟨g, cap, cur, h1, -⟩
  · simp only [Value.slice.injEq] at h1
    obtain ⟨rfl, -, rfl⟩ := h1
    exact ⟨Ples.none, fun ad e => by cases e⟩
  · simp only [Value.slice.injEq] at h1
    obtain ⟨rfl, rfl, rfl⟩ := h1
    exact ⟨Ples.some _ _ _, fun ad e => by cases e; exact (h.lt g rfl).2⟩

theorem Octets_all (ao : Option Addr) (cap : Nat) (xs : List Int) (w : World) (he : Octs w ao cap xs) :
    Calls Try.prog 21 #[.slice ao xs.length cap, .int .i64 xs.length] w fun e w' => ∃ ao' cap', e = .returned (.slice ao' xs.length cap') ∧ Octs w' ao' cap' xs ∧ Ples ao' cap' ∧ (∀ a, ao' = some a → a.block < w'.heap.size) ∧ Below w.heap.size w w' := by
  have hcap := he.1
  have hl := he.2.1
  have HE : Hid (Octs w ao cap xs) := he
  clear he
  obtain ⟨n, hn⟩ : ∃ n, n = xs.length := ⟨_, rfl⟩
  rw [← hn] at hcap hl
  rw [← hn]
  have HN : Hid (n = xs.length) := hn
  clear hn
  go_enter Try.func21, Try.ntmps21
  go_wp2_with (at_builtin; refine wpList_append_oct rfl _ _ rfl w.heap.size _ _ _ rfl (World.ownsRow_nil _ _ _ _) ao cap n xs rfl HN.out HE.out (by omega) (Nat.le_refl _) ?_; intro v' w1 hown hgrow; have hb1 : Below w.heap.size w w1 := (Below.refl _ w).grown hgrow (Nat.le_refl _) (by intro k hk; cases hk); obtain ⟨ao', cap', rfl, he1⟩ := own_octs (xs := xs) (by rw [Nat.zero_add]; exact HN.out) (by simp) HE.out.2.1 HE.out.2.2.2.1 hown)
  go_ret
  obtain ⟨g1, g2⟩ := own_ples hown
  refine ⟨ao', cap', ?_, he1, g1, g2, hb1⟩
  have h9 := HN.out
  subst h9
  rfl

end Go.Proofs.Ytomjcfcpedgilaa
