/- What the reference's SumMore comes to at every sum and every slice of bytes. -/
import Derived.Test.YtjjencnnmpefbaaDoorRemRef
import Derived.Test.YtjjencnnmpefbaaDoorAppendZeros
import Derived.Test.YtjjencnnmpefbaaDoorSumOwn
namespace Go.Proofs.YtjjencnnmpefbaaDoor
open Go.ChangeShapes Go.WideShapes Go.ChangeAt Go.RowKit

theorem and_one8 (y : Int) (h0 : 0 ≤ y) (h1 : y ≤ 255) : bits .and .u8 y 1 = y % 2 := by
  rw [u8_and _ _ h0 (by omega) (by omega) (by omega)]
  show ((y.toNat &&& (2 ^ 1 - 1) : Nat) : Int) = _
  rw [Nat.and_two_pow_sub_one_eq_mod]
  omega

theorem and_one64 (y : Int) (h0 : 0 ≤ y) (h1 : y ≤ 4294967295) : bits .and .i64 y 1 = y % 2 := by
  have := bits_mask .i64 63 (by decide) (fun n h h' => by rw [IntKind.wrap_i64]; omega) 1 (by decide) y h0 (by omega)
  simpa using this

theorem div_pow_le (y : Int) (k : Nat) (h0 : 0 ≤ y) : 0 ≤ y / 2 ^ k ∧ y / 2 ^ k ≤ y :=
  ⟨Int.ediv_nonneg h0 (Int.le_of_lt (Int.pow_pos (by decide))), Int.ediv_le_self _ h0⟩

theorem bit_b2i (y : Nat) (k : Nat) : ((y : Int) / 2 ^ k) % 2 = b2i (y.testBit k) := by
  rw [Nat.testBit_eq_decide_div_mod_eq]
  have e : ((y : Int) / 2 ^ k) % 2 = ((y / 2 ^ k % 2 : Nat) : Int) := by simp
  rw [e]
  have := Nat.mod_lt (y / 2 ^ k) (show 0 < 2 by omega)
  unfold b2i
  by_cases h : y / 2 ^ k % 2 = 1
  · simp [h]
  · rw [show y / 2 ^ k % 2 = 0 by omega]
    simp

theorem byte_bit (x : Int) (k : Nat) (h0 : 0 ≤ x) (h1 : x ≤ 255) : bits .and .u8 (x / 2 ^ k) 1 = b2i (x.toNat.testBit k) := by
  have := div_pow_le x k h0
  rw [and_one8 _ this.1 (by omega), ← bit_b2i, Int.toNat_of_nonneg h0]

theorem word_bit (s : BitVec 32) (k : Nat) : bits .and .i64 (wd s / 2 ^ k) 1 = b2i (s.getLsbD k) := by
  have h := div_pow_le (wd s) k (wd_lo s)
  have := wd_hi s
  rw [and_one64 _ h.1 (by omega)]
  unfold wd
  rw [bit_b2i]
  rfl

theorem rowOf_zeros (a : Nat) (F : Nat → Int) (h : ∀ j, a ≤ j → F j = 0) : ∀ k, rowOf (a + k) F = rowOf a F ++ List.replicate k 0 := by
  intro k
  induction k with
  | zero => simp
  | succ k ih => rw [← Nat.add_assoc, rowOf_succ, ih, h _ (by omega), List.replicate_succ', List.append_assoc]

theorem bitsOf_behind (xs : List Int) (j : Nat) (h : 8 * xs.length ≤ j) : bitsOf xs j = false := by
  unfold bitsOf
  have : xs.getD (j / 8) 0 = 0 := by
    simp only [List.getD]
    rw [List.getElem?_eq_none (by omega)]
    rfl
  rw [this]
  simp

/-- the first 32 bits turned over as far as it has come -/
def turnedTo (s : BitVec 32) (xs : List Int) (k j : Nat) : Bool := if j < k then ((~~~s).getLsbD j ^^ bitsOf xs j) else bitsOf xs j

theorem turnedTo_succ (s : BitVec 32) (xs : List Int) (k j : Nat) : turnedTo s xs (k + 1) j = if j = k then ((~~~s).getLsbD k ^^ turnedTo s xs k k) else turnedTo s xs k j := by
  unfold turnedTo
  by_cases h : j = k
  · subst h
    rw [if_pos (by omega), if_pos rfl, if_neg (by omega)]
  · rw [if_neg h]
    by_cases h2 : j < k
    · rw [if_pos h2, if_pos (by omega)]
    · rw [if_neg h2, if_neg (by omega)]

theorem turnedTo_all (s : BitVec 32) (xs : List Int) (j : Nat) : turnedTo s xs 32 j = ((~~~s).getLsbD j ^^ bitsOf xs j) := by
  unfold turnedTo
  split
  · rfl
  · rw [BitVec.getLsbD_of_ge _ _ (by omega)]
    simp

theorem SumMore_out (s : Int) (h : s < 0 ∨ 4294967295 < s) (ao : Option Addr) (n cap : Nat) (w : World) :
    Calls Tryd.prog 29 #[.int .i64 s, .slice ao n cap] w fun e w' => e = .returned (.tuple #[.int .i64 0, .int .i64 2]) ∧ w' = w := by
  by_cases h1 : s < 0
  · go_enter Tryd.func29, Tryd.ntmps29
    go_wp2
    go_ret2
    exact ⟨rfl, rfl⟩
  · have h2 : 4294967295 < s := by omega
    clear h
    go_enter Tryd.func29, Tryd.ntmps29
    go_wp2
    go_ret2
    exact ⟨rfl, rfl⟩

set_option maxHeartbeats 2000000 in
theorem SumMore_any (s : BitVec 32) (ao : Option Addr) (cap : Nat) (xs : List Int) (h4 : xs.length ≤ 4096) (w : World) (he : Octs w ao cap xs) :
    Calls Tryd.prog 29 #[.int .i64 (wd s), .slice ao xs.length cap] w fun e w' => e = .returned (.tuple #[.int .i64 (wd (sumOf s xs)), .int .i64 0]) ∧ Below w.heap.size w w' := by
  have HE : Hid (Octs w ao cap xs) := he
  clear he
  obtain ⟨n, hn⟩ : ∃ n, n = xs.length := ⟨_, rfl⟩
  rw [← hn] at h4
  rw [← hn]
  have HN : Hid (n = xs.length) := hn
  clear hn
  have hs0 : ¬ wd s < 0 := by have := wd_lo s; omega
  have hs1 : ¬ 4294967295 < wd s := by have := wd_hi s; omega
  go_enter Tryd.func29, Tryd.ntmps29
  go_wp2
  go_loopw [6, 22] (fun v i wr => ∃ m : Nat, m ≤ n ∧ i = .int .i64 m ∧ Hid (wr.ownsRow w.heap.size 5 1 v (8 * m) ((rowOf (8 * m) (fun j => b2i (bitsOf xs j))).map (Value.int .u8)) ∧ Below w.heap.size w wr)) (fun _ i _ => n - (intOf i).toNat)
  case atStart => exact ⟨0, Nat.zero_le _, rfl, World.ownsRow_nil _ _ _ _, Below.refl _ _⟩
  case round =>
    obtain ⟨m, hm, rfl, HR⟩ := hrel
    by_cases hlt : m < n
    · obtain ⟨b, off, rfl, hc, hb0, hb1⟩ := HE.out.at (k := m) (by rw [← HN.out]; exact hlt)
      have hc := (HR.out.2.cell (p := ⟨b, off + m, none⟩) (World.block_lt_of_cell? _ _ hc)).trans hc
      obtain ⟨x, hx⟩ : ∃ x, x = xs.getD m 0 := ⟨_, rfl⟩
      rw [← hx] at hc hb0 hb1
      have HX : Hid (∀ k, k < 8 → bitsOf xs (8 * m + k) = x.toNat.testBit k) := by
        intro k hk
        unfold bitsOf
        rw [show (8 * m + k) / 8 = m by omega, show (8 * m + k) % 8 = k by omega, ← hx]
      clear hx
      go_wp2
      go_loopw [6, 9] (fun v i wr => ∃ k : Nat, k ≤ 8 ∧ i = .int .i64 k ∧ Hid (wr.ownsRow w.heap.size 5 1 v (8 * m + k) ((rowOf (8 * m + k) (fun j => b2i (bitsOf xs j))).map (Value.int .u8)) ∧ Below w.heap.size w wr)) (fun _ i _ => 8 - (intOf i).toNat)
      case atStart => exact ⟨0, Nat.zero_le _, rfl, HR.out⟩
      case round =>
        obtain ⟨k, hk, rfl, HI⟩ := hrel
        by_cases hk8 : k < 8
        · have hbit := byte_bit x k hb0 hb1
          rw [← HX.out k hk8] at hbit
          generalize hq : bitsOf xs (8 * m + k) = q at hbit
          have HQ : Hid (bitsOf xs (8 * m + k) = q) := hq
          clear hq
          go_wp2_with (at_builtin; (refine wpList_append_oct rfl _ _ rfl w.heap.size _ _ _ rfl (HI.out.1.alloc _) _ 1 1 [b2i q] rfl rfl (octs_alloc _ _ _ _ _ _ rfl (by simp) (by simp) (by intro y hy; rw [List.mem_singleton.1 hy]; exact b2i_byte q)) (by omega) ((HI.out.2.alloc HI.out.2.size _).size) ?_); intro v3 w3 hown3 hg3; have hown3 : Hid (w3.ownsRow w.heap.size 5 1 v3 (8 * m + k + 1) _) := hown3; have b3 : Below w.heap.size w w3 := (HI.out.2.alloc HI.out.2.size _).grown hg3 (HI.out.2.alloc HI.out.2.size _).size (fun g hg => (HI.out.1.lt g hg).1))
          go_roundw
          case rel =>
            refine ⟨k + 1, by omega, by go_num, ?_, b3⟩
            have h := hown3.out
            rw [← Nat.add_assoc, rowOf_succ, List.map_append, HQ.out]
            exact h
          case measure => simp [intOf]; omega
        · have hk8 : k = 8 := by omega
          subst hk8
          go_wp2
          go_roundw
          case rel =>
            refine ⟨m + 1, by omega, by go_num, ?_, HI.out.2⟩
            rw [show 8 * (m + 1) = 8 * m + 8 by omega]
            exact HI.out.1
          case measure => simp [intOf]; omega
    · have hmn : m = n := by omega
      subst hmn
      go_wp2_with (at_builtin; go_loud (obtain ⟨v3, w3, hr3, hown3, hg3⟩ := run_append_zeros _ w.heap.size _ _ _ _ HR.out.1 32 (by omega) (by omega) HR.out.2.size; refine Lib.wpList_append_run _ rfl _ _ _ _ rfl _ _ rfl rfl _ _ hr3 ?_); have b3 : Below w.heap.size w w3 := HR.out.2.grown hg3 HR.out.2.size (fun g hg => (HR.out.1.lt g hg).1); obtain ⟨g, gcap, rfl⟩ := own_form hown3 (by omega))
      have hO : OwnOcts w3 w.heap.size g (8 * m + 32) gcap (fun j => b2i (turnedTo s xs 0 j)) := by
        unfold OwnOcts
        have e : (fun j => b2i (turnedTo s xs 0 j)) = fun j => b2i (bitsOf xs j) := by
          funext j
          unfold turnedTo
          rw [if_neg (by omega)]
        rw [e, rowOf_zeros _ _ (fun j hj => by rw [bitsOf_behind xs j (by rw [← HN.out]; exact hj)]; rfl), List.map_append, List.map_replicate]
        exact hown3
      have hgb := hO.lt.1
      have hgc := hO.cap
      have HO : Hid (OwnOcts w3 w.heap.size g (8 * m + 32) gcap (fun j => b2i (turnedTo s xs 0 j))) := hO
      clear hO hown3 hg3 hr3
      go_loopw [10] (fun i wr => ∃ k : Nat, k ≤ 32 ∧ i = .int .i64 k ∧ Hid (OwnOcts wr w.heap.size g (8 * m + 32) gcap (fun j => b2i (turnedTo s xs k j)) ∧ Below w.heap.size w wr)) (fun i _ => 32 - (intOf i).toNat)
      case atStart => exact ⟨0, Nat.zero_le _, rfl, HO.out, b3⟩
      case round =>
        obtain ⟨k, hk, rfl, HI⟩ := hrel
        by_cases h32 : k < 32
        · have hc1 := HI.out.1.cell (show k < 8 * m + 32 by omega)
          have hf1 := HI.out.1.frozen k
          have hbit := word_bit s k
          generalize hq : turnedTo s xs k k = q at hc1
          have HQ : Hid (turnedTo s xs k k = q) := hq
          have HNS : Hid ((~~~s).getLsbD k = !s.getLsbD k) := by
            unfold Hid
            simp [h32]
          clear hq
          generalize s.getLsbD k = c at hbit HNS
          have hc0 : 0 ≤ b2i c := (b2i_byte c).1
          have hc2 : b2i c ≤ 1 := by cases c <;> decide
          have HX : Hid (bits .xor .u8 (b2i q) (1 - b2i c) = b2i ((!c) ^^ q)) := by
            unfold Hid
            cases c <;> cases q <;> decide
          go_wp2_with (go_region)
          all_goals
            go_roundw
            case rel =>
              refine ⟨k + 1, by omega, by go_num, (HI.out.1.stored k _).drew.congr ?_, (HI.out.2.setCell hgb _).drew⟩
              intro j _
              rw [turnedTo_succ]
              by_cases hj : j = k
              · rw [if_pos hj, if_pos hj, HX.out, HNS.out, HQ.out]
              · rw [if_neg hj, if_neg hj]
            case measure => simp [intOf]; omega
        · have hk32 : k = 32 := by omega
          subst hk32
          have hw1 := HI.out.1.congr (f' := fun j => b2i ((~~~s).getLsbD j ^^ bitsOf xs j)) (fun j _ => by rw [turnedTo_all])
          have hrem := remainder_any wr w.heap.size g (8 * m + 32) gcap (fun j => (~~~s).getLsbD j ^^ bitsOf xs j) hw1 (by omega) (by omega)
          rw [Nat.add_sub_cancel] at hrem
          have bb := HI.out.2
          have HL : Hid (∀ j, j < 32 → divn (fun j => (~~~s).getLsbD j ^^ bitsOf xs j) (8 * m) (8 * m + j) = (run (~~~s) xs).getLsbD j) := by
            intro j hj
            have := left_run xs HE.out.2.2.2.1 (fun j => (~~~s).getLsbD j ^^ bitsOf xs j) (~~~s) (fun _ => rfl) j hj
            rw [← HN.out] at this
            exact this
          generalize divn (fun j => (~~~s).getLsbD j ^^ bitsOf xs j) (8 * m) = lf at hrem HL
          obtain ⟨su, hsu⟩ : ∃ su, su = sumOf s xs := ⟨_, rfl⟩
          have HSU : Hid (su = sumOf s xs ∧ su = ~~~(run (~~~s) xs)) := ⟨hsu, hsu⟩
          clear hsu
          generalize run (~~~s) xs = ru at HL HSU
          clear hw1 HI HO HR HE
          go_wp2_with (go_at_call 31; refine hrem.mono ?_; rintro e w5 ⟨rfl, hl5, b5⟩; have bb := bb.trans b5)
          go_loopw [11, 59] (fun o i wr => ∃ k : Nat, ∃ q : Int, k ≤ 32 ∧ i = .int .i64 k ∧ o = .int .i64 q ∧ 0 ≤ q ∧ q ≤ 4294967295 ∧ Hid (q = ((su.toNat % 2 ^ k : Nat) : Int)) ∧ wr = w5) (fun _ i _ => 32 - (intOf i).toNat)
          case atStart => exact ⟨0, 0, Nat.zero_le _, rfl, rfl, by omega, by omega, by simp [Hid, Nat.mod_one], rfl⟩
          case round =>
            obtain ⟨k, q, hk, rfl, rfl, hq0, hq1, HQ, rfl⟩ := hrel
            by_cases h32 : k < 32
            · have hc := hl5.cell (show 8 * m + k < 8 * m + 32 by omega)
              rw [HL.out k h32] at hc
              have HB : Hid (su.getLsbD k = !ru.getLsbD k) := by
                unfold Hid
                rw [HSU.out.2]
                simp [h32]
              have HLE : Hid (su.toNat % 2 ^ (k + 1) ≤ 4294967295) := by
                have h1 := Nat.mod_le su.toNat (2 ^ (k + 1))
                have h2 := su.isLt
                unfold Hid
                omega
              have HST := bits_sum su k
              rw [HB.out] at HST
              have HW : Hid (wrap64 (q + wrap64 ((1 - b2i (ru.getLsbD k)) % 256 * 2 ^ k)) = ((su.toNat % 2 ^ (k + 1) : Nat) : Int)) := by
                have hle := HLE.out
                have hq := HQ.out
                have hp : (2 : Int) ^ k = ((2 ^ k : Nat) : Int) := by simp
                have hp2 : 2 ^ k ≤ 2 ^ 31 := Nat.pow_le_pow_right (by omega) (by omega)
                unfold Hid
                rw [hp]
                generalize 2 ^ k = pw at HST hp2 hq
                generalize 2 ^ (k + 1) = pw2 at HST hle
                cases hru : ru.getLsbD k
                · rw [hru] at HST
                  simp only [Bool.not_false, if_true] at HST
                  rw [show (1 - b2i false) % 256 * ((pw : Nat) : Int) = ((pw : Nat) : Int) by simp [b2i]]
                  unfold wrap64
                  omega
                · rw [hru] at HST
                  simp only [Bool.not_true, Bool.false_eq_true, if_false] at HST
                  rw [show (1 - b2i true) % 256 * ((pw : Nat) : Int) = 0 by simp [b2i]]
                  unfold wrap64
                  omega
              clear HB HST
              have hb0 : 0 ≤ b2i (ru.getLsbD k) := (b2i_byte _).1
              generalize ru.getLsbD k = c at hc HW hb0
              go_wp2
              go_roundw
              case rel =>
                refine ⟨k + 1, _, by omega, by go_num, rfl, ?_, ?_, HW.out, trivial⟩
                · rw [HW.out]; omega
                · have := HLE.out
                  rw [HW.out]; omega
              case measure => simp [intOf]; omega
            · have hk32 : k = 32 := by omega
              subst hk32
              have HF : Hid (q = wd (sumOf s xs)) := by
                rw [HQ.out, HSU.out.1, Nat.mod_eq_of_lt (sumOf s xs).isLt]
                rfl
              go_wp2
              go_ret2
              rw [HF.out]
              exact ⟨rfl, bb⟩

end Go.Proofs.YtjjencnnmpefbaaDoor
