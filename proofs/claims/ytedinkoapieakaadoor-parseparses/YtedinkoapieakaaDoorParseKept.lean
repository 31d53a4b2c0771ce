/- Package parse: words that must stand, and may; kept words; names, numbers; operators: contracts, at every state. -/
import Derived.Test.YtedinkoapieakaaDoorParseOn
import Derived.Deep.MidRow
namespace Go.Proofs.YtedinkoapieakaaDoor
open Go.ChangeShapes Go.WideShapes Go.ChangeAt Go.RowKit

theorem list_lit {a b : List UInt8} (h : a ≠ b) : ((str a).toList == b) = false := by
  rw [bytes_to_list, bts_str]
  exact beq_eq_false_iff_ne.2 h

theorem not_kept {u : List UInt8} (h : kept u = false) {v : List UInt8} (hv : keptList.contains v = true) : u ≠ v := by
  intro e
  subst e
  unfold kept at h
  rw [h] at hv
  cases hv

set_option maxRecDepth 100000 in
set_option maxHeartbeats 8000000 in
theorem Kept_any (u : List UInt8) (w : World) :
    Calls Tryd.prog 111 #[.string (str u)] w fun e w' => e = .returned (.bool (kept u)) ∧ w = w' := by
  cases hk : kept u with
  | true =>
    have h : u ∈ keptList := List.contains_iff_mem.1 hk
    clear hk
    simp only [keptList, List.mem_cons, List.not_mem_nil, or_false] at h
    rcases h with rfl | rfl | rfl | rfl | rfl | rfl | rfl | rfl | rfl | rfl | rfl | rfl | rfl | rfl | rfl | rfl | rfl | rfl | rfl | rfl | rfl | rfl | rfl | rfl | rfl | rfl | rfl | rfl | rfl | rfl | rfl | rfl | rfl | rfl | rfl
    · show Calls Tryd.prog 111 #[.string ⟨#[97, 110, 100]⟩] w _
      go_enter Tryd.func111, Tryd.ntmps111
      go_wp2
      go_ret
      exact ⟨rfl, rfl⟩
    · show Calls Tryd.prog 111 #[.string ⟨#[98, 121]⟩] w _
      go_enter Tryd.func111, Tryd.ntmps111
      go_wp2
      go_ret
      exact ⟨rfl, rfl⟩
    · show Calls Tryd.prog 111 #[.string ⟨#[99, 111, 117, 110, 116]⟩] w _
      go_enter Tryd.func111, Tryd.ntmps111
      go_wp2
      go_ret
      exact ⟨rfl, rfl⟩
    · show Calls Tryd.prog 111 #[.string ⟨#[99, 114, 101, 97, 116, 101]⟩] w _
      go_enter Tryd.func111, Tryd.ntmps111
      go_wp2
      go_ret
      exact ⟨rfl, rfl⟩
    · show Calls Tryd.prog 111 #[.string ⟨#[100, 101, 108, 101, 116, 101]⟩] w _
      go_enter Tryd.func111, Tryd.ntmps111
      go_wp2
      go_ret
      exact ⟨rfl, rfl⟩
    · show Calls Tryd.prog 111 #[.string ⟨#[100, 101, 115, 99]⟩] w _
      go_enter Tryd.func111, Tryd.ntmps111
      go_wp2
      go_ret
      exact ⟨rfl, rfl⟩
    · show Calls Tryd.prog 111 #[.string ⟨#[102, 97, 108, 115, 101]⟩] w _
      go_enter Tryd.func111, Tryd.ntmps111
      go_wp2
      go_ret
      exact ⟨rfl, rfl⟩
    · show Calls Tryd.prog 111 #[.string ⟨#[102, 114, 111, 109]⟩] w _
      go_enter Tryd.func111, Tryd.ntmps111
      go_wp2
      go_ret
      exact ⟨rfl, rfl⟩
    · show Calls Tryd.prog 111 #[.string ⟨#[103, 114, 111, 117, 112]⟩] w _
      go_enter Tryd.func111, Tryd.ntmps111
      go_wp2
      go_ret
      exact ⟨rfl, rfl⟩
    · show Calls Tryd.prog 111 #[.string ⟨#[105, 110, 100, 101, 120]⟩] w _
      go_enter Tryd.func111, Tryd.ntmps111
      go_wp2
      go_ret
      exact ⟨rfl, rfl⟩
    · show Calls Tryd.prog 111 #[.string ⟨#[105, 110, 115, 101, 114, 116]⟩] w _
      go_enter Tryd.func111, Tryd.ntmps111
      go_wp2
      go_ret
      exact ⟨rfl, rfl⟩
    · show Calls Tryd.prog 111 #[.string ⟨#[105, 110, 116]⟩] w _
      go_enter Tryd.func111, Tryd.ntmps111
      go_wp2
      go_ret
      exact ⟨rfl, rfl⟩
    · show Calls Tryd.prog 111 #[.string ⟨#[105, 110, 116, 111]⟩] w _
      go_enter Tryd.func111, Tryd.ntmps111
      go_wp2
      go_ret
      exact ⟨rfl, rfl⟩
    · show Calls Tryd.prog 111 #[.string ⟨#[105, 115]⟩] w _
      go_enter Tryd.func111, Tryd.ntmps111
      go_wp2
      go_ret
      exact ⟨rfl, rfl⟩
    · show Calls Tryd.prog 111 #[.string ⟨#[106, 111, 105, 110]⟩] w _
      go_enter Tryd.func111, Tryd.ntmps111
      go_wp2
      go_ret
      exact ⟨rfl, rfl⟩
    · show Calls Tryd.prog 111 #[.string ⟨#[107, 101, 121]⟩] w _
      go_enter Tryd.func111, Tryd.ntmps111
      go_wp2
      go_ret
      exact ⟨rfl, rfl⟩
    · show Calls Tryd.prog 111 #[.string ⟨#[108, 105, 109, 105, 116]⟩] w _
      go_enter Tryd.func111, Tryd.ntmps111
      go_wp2
      go_ret
      exact ⟨rfl, rfl⟩
    · show Calls Tryd.prog 111 #[.string ⟨#[109, 97, 120]⟩] w _
      go_enter Tryd.func111, Tryd.ntmps111
      go_wp2
      go_ret
      exact ⟨rfl, rfl⟩
    · show Calls Tryd.prog 111 #[.string ⟨#[109, 105, 110]⟩] w _
      go_enter Tryd.func111, Tryd.ntmps111
      go_wp2
      go_ret
      exact ⟨rfl, rfl⟩
    · show Calls Tryd.prog 111 #[.string ⟨#[110, 111, 116]⟩] w _
      go_enter Tryd.func111, Tryd.ntmps111
      go_wp2
      go_ret
      exact ⟨rfl, rfl⟩
    · show Calls Tryd.prog 111 #[.string ⟨#[110, 117, 108, 108]⟩] w _
      go_enter Tryd.func111, Tryd.ntmps111
      go_wp2
      go_ret
      exact ⟨rfl, rfl⟩
    · show Calls Tryd.prog 111 #[.string ⟨#[111, 110]⟩] w _
      go_enter Tryd.func111, Tryd.ntmps111
      go_wp2
      go_ret
      exact ⟨rfl, rfl⟩
    · show Calls Tryd.prog 111 #[.string ⟨#[111, 114]⟩] w _
      go_enter Tryd.func111, Tryd.ntmps111
      go_wp2
      go_ret
      exact ⟨rfl, rfl⟩
    · show Calls Tryd.prog 111 #[.string ⟨#[111, 114, 100, 101, 114]⟩] w _
      go_enter Tryd.func111, Tryd.ntmps111
      go_wp2
      go_ret
      exact ⟨rfl, rfl⟩
    · show Calls Tryd.prog 111 #[.string ⟨#[112, 114, 105, 109, 97, 114, 121]⟩] w _
      go_enter Tryd.func111, Tryd.ntmps111
      go_wp2
      go_ret
      exact ⟨rfl, rfl⟩
    · show Calls Tryd.prog 111 #[.string ⟨#[115, 101, 108, 101, 99, 116]⟩] w _
      go_enter Tryd.func111, Tryd.ntmps111
      go_wp2
      go_ret
      exact ⟨rfl, rfl⟩
    · show Calls Tryd.prog 111 #[.string ⟨#[115, 101, 116]⟩] w _
      go_enter Tryd.func111, Tryd.ntmps111
      go_wp2
      go_ret
      exact ⟨rfl, rfl⟩
    · show Calls Tryd.prog 111 #[.string ⟨#[115, 117, 109]⟩] w _
      go_enter Tryd.func111, Tryd.ntmps111
      go_wp2
      go_ret
      exact ⟨rfl, rfl⟩
    · show Calls Tryd.prog 111 #[.string ⟨#[116, 97, 98, 108, 101]⟩] w _
      go_enter Tryd.func111, Tryd.ntmps111
      go_wp2
      go_ret
      exact ⟨rfl, rfl⟩
    · show Calls Tryd.prog 111 #[.string ⟨#[116, 101, 120, 116]⟩] w _
      go_enter Tryd.func111, Tryd.ntmps111
      go_wp2
      go_ret
      exact ⟨rfl, rfl⟩
    · show Calls Tryd.prog 111 #[.string ⟨#[116, 114, 117, 101]⟩] w _
      go_enter Tryd.func111, Tryd.ntmps111
      go_wp2
      go_ret
      exact ⟨rfl, rfl⟩
    · show Calls Tryd.prog 111 #[.string ⟨#[116, 114, 117, 116, 104]⟩] w _
      go_enter Tryd.func111, Tryd.ntmps111
      go_wp2
      go_ret
      exact ⟨rfl, rfl⟩
    · show Calls Tryd.prog 111 #[.string ⟨#[117, 112, 100, 97, 116, 101]⟩] w _
      go_enter Tryd.func111, Tryd.ntmps111
      go_wp2
      go_ret
      exact ⟨rfl, rfl⟩
    · show Calls Tryd.prog 111 #[.string ⟨#[118, 97, 108, 117, 101, 115]⟩] w _
      go_enter Tryd.func111, Tryd.ntmps111
      go_wp2
      go_ret
      exact ⟨rfl, rfl⟩
    · show Calls Tryd.prog 111 #[.string ⟨#[119, 104, 101, 114, 101]⟩] w _
      go_enter Tryd.func111, Tryd.ntmps111
      go_wp2
      go_ret
      exact ⟨rfl, rfl⟩
  | false =>
    have n0 := list_lit (not_kept hk (v := [97, 110, 100]) (by decide))
    have n1 := list_lit (not_kept hk (v := [98, 121]) (by decide))
    have n2 := list_lit (not_kept hk (v := [99, 111, 117, 110, 116]) (by decide))
    have n3 := list_lit (not_kept hk (v := [99, 114, 101, 97, 116, 101]) (by decide))
    have n4 := list_lit (not_kept hk (v := [100, 101, 108, 101, 116, 101]) (by decide))
    have n5 := list_lit (not_kept hk (v := [100, 101, 115, 99]) (by decide))
    have n6 := list_lit (not_kept hk (v := [102, 97, 108, 115, 101]) (by decide))
    have n7 := list_lit (not_kept hk (v := [102, 114, 111, 109]) (by decide))
    have n8 := list_lit (not_kept hk (v := [103, 114, 111, 117, 112]) (by decide))
    have n9 := list_lit (not_kept hk (v := [105, 110, 100, 101, 120]) (by decide))
    have n10 := list_lit (not_kept hk (v := [105, 110, 115, 101, 114, 116]) (by decide))
    have n11 := list_lit (not_kept hk (v := [105, 110, 116]) (by decide))
    have n12 := list_lit (not_kept hk (v := [105, 110, 116, 111]) (by decide))
    have n13 := list_lit (not_kept hk (v := [105, 115]) (by decide))
    have n14 := list_lit (not_kept hk (v := [106, 111, 105, 110]) (by decide))
    have n15 := list_lit (not_kept hk (v := [107, 101, 121]) (by decide))
    have n16 := list_lit (not_kept hk (v := [108, 105, 109, 105, 116]) (by decide))
    have n17 := list_lit (not_kept hk (v := [109, 97, 120]) (by decide))
    have n18 := list_lit (not_kept hk (v := [109, 105, 110]) (by decide))
    have n19 := list_lit (not_kept hk (v := [110, 111, 116]) (by decide))
    have n20 := list_lit (not_kept hk (v := [110, 117, 108, 108]) (by decide))
    have n21 := list_lit (not_kept hk (v := [111, 110]) (by decide))
    have n22 := list_lit (not_kept hk (v := [111, 114]) (by decide))
    have n23 := list_lit (not_kept hk (v := [111, 114, 100, 101, 114]) (by decide))
    have n24 := list_lit (not_kept hk (v := [112, 114, 105, 109, 97, 114, 121]) (by decide))
    have n25 := list_lit (not_kept hk (v := [115, 101, 108, 101, 99, 116]) (by decide))
    have n26 := list_lit (not_kept hk (v := [115, 101, 116]) (by decide))
    have n27 := list_lit (not_kept hk (v := [115, 117, 109]) (by decide))
    have n28 := list_lit (not_kept hk (v := [116, 97, 98, 108, 101]) (by decide))
    have n29 := list_lit (not_kept hk (v := [116, 101, 120, 116]) (by decide))
    have n30 := list_lit (not_kept hk (v := [116, 114, 117, 101]) (by decide))
    have n31 := list_lit (not_kept hk (v := [116, 114, 117, 116, 104]) (by decide))
    have n32 := list_lit (not_kept hk (v := [117, 112, 100, 97, 116, 101]) (by decide))
    have n33 := list_lit (not_kept hk (v := [118, 97, 108, 117, 101, 115]) (by decide))
    have n34 := list_lit (not_kept hk (v := [119, 104, 101, 114, 101]) (by decide))
    clear hk
    go_enter Tryd.func111, Tryd.ntmps111
    go_wp2
    go_ret
    exact ⟨rfl, rfl⟩

end Go.Proofs.YtedinkoapieakaaDoor
