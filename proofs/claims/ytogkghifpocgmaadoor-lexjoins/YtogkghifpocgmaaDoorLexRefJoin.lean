/- The document's own source of tokens (Joined): the contract, at every list of tokens. -/
import Derived.Test.YtogkghifpocgmaaDoorLexRefDec
import Derived.Test.YtogkghifpocgmaaDoorLexRefTok
namespace Go.Proofs.YtogkghifpocgmaaDoor
open Go.ChangeShapes Go.WideShapes Go.ChangeAt Go.RowKit

theorem twice_push (l : List UInt8) (c : UInt8) : twice (l ++ [c]) = twice l ++ (if c.toNat = 39 then [c, c] else [c]) := by
  unfold twice
  rw [List.flatMap_append]
  simp

set_option maxRecDepth 100000 in
set_option maxHeartbeats 8000000 in
theorem Joined_any (ao : Option Addr) (cap : Nat) (ts : List Tok) (w : World) (ht : Toks w ao cap ts) :
    Calls Tryd.prog 15 #[.slice ao ts.length cap] w fun e w' => e = .returned (.tuple #[.string (str (joinAns ts).1), .int .i64 (joinAns ts).2]) ∧ Below w.heap.size w w' := by
  by_cases h0 : 300 < ts.length
  · have R : Hid (joinAns ts = ([], 8)) := by unfold joinAns; rw [if_pos h0]; rfl
    have h01 : (300 : Int) < (ts.length : Int) := by omega
    go_enter Tryd.func15, Tryd.ntmps15
    go_wp2
    go_ret2
    rw [R.out]
    exact ⟨rfl, Below.refl _ _⟩
  have h01 : ¬ (300 : Int) < (ts.length : Int) := by omega
  have HT := hidden ht
  have HI := hidden ht.2.1
  obtain ⟨n, hn⟩ : ∃ n, ts.length = n := ⟨_, rfl⟩
  have HN := hidden hn
  rw [hn] at h0 h01 ⊢
  clear ht hn
  go_enter Tryd.func15, Tryd.ntmps15
  go_wp2
  go_loopw [15] (fun x wr => ∃ k : Nat, k ≤ n ∧ x = .int .i64 (k : Int) ∧ Hid (Below w.heap.size w wr) ∧ Hid (∀ t ∈ ts.take k, may t = true)) (fun x _ => n - (intOf x).toNat)
  case atStart => exact ⟨0, Nat.zero_le _, rfl, Below.refl _ _, fun t h => by simp at h⟩
  case round =>
    obtain ⟨k, hk, rfl, HB, HR⟩ := hrel
    by_cases hlt : k < n
    · have hlt1 : (k : Int) < (n : Int) := by omega
      have hlt2 : k < ts.length := by rw [HN.out]; exact hlt
      obtain ⟨b, off, rfl, hbw, hcell⟩ : ∃ b off, ao = some ⟨b, off, none⟩ ∧ b < w.heap.size ∧ ∀ i (hi : i < ts.length), w.cell? ⟨b, off + i * 3, none⟩ = some (.int .i64 ts[i].kind) ∧ w.cell? ⟨b, off + i * 3 + 1, none⟩ = some (.int .i64 ts[i].int) ∧ w.cell? ⟨b, off + i * 3 + 2, none⟩ = some (.string (str ts[i].text)) := by
        rcases HT.out.2.2 with h | h
        · rw [h] at hlt2
          cases hlt2
        · exact h
      obtain ⟨e0, e1, e2⟩ := hcell k hlt2
      have c0 := (HB.out.cell (p := ⟨b, off + k * 3, none⟩) hbw).trans e0
      have c1 := (HB.out.cell (p := ⟨b, off + k * 3 + 1, none⟩) hbw).trans e1
      have c2 := (HB.out.cell (p := ⟨b, off + k * 3 + 2, none⟩) hbw).trans e2
      obtain ⟨t, hkt⟩ : ∃ t, ts[k] = t := ⟨_, rfl⟩
      rw [hkt] at c0 c1 c2
      have htake : ts.take (k + 1) = ts.take k ++ [t] := by rw [← hkt]; exact List.take_succ_eq_append_getElem hlt2
      clear hcell e0 e1 e2
      have HM : Hid (∀ W : World, Hid (Below w.heap.size w W) → Calls Tryd.prog 10 #[.agg #[.int .i64 t.kind, .int .i64 t.int, .string (str t.text)]] W fun e W' => e = .returned (.bool (may t)) ∧ Hid (Below w.heap.size w W')) := by
        intro W hW
        have := TokenMay_any t.kind t.int (str t.text) W
        rw [bts_str] at this
        exact this.mono fun e W' h => ⟨h.1, hW.out.trans (h.2.mono hW.out.size)⟩
      have b0 : Hid (Below w.heap.size w (wr.alloc (.cells #[.int .i64 t.kind, .int .i64 t.int, .string (str t.text)] 23))) := HB.out.alloc HB.out.size _
      cases hm : may t with
      | false =>
        have R : Hid (joinAns ts = ([], 4)) := by
          show _ = _
          unfold joinAns
          rw [if_neg (by rw [HN.out]; exact h0), if_neg]
          intro h
          have := List.all_eq_true.1 h t (by rw [← hkt]; exact List.getElem_mem _)
          rw [hm] at this
          cases this
        rw [hm] at HM
        clear htake hkt hm
        go_wp2_with (go_at_call 10; refine (HM.out _ b0).mono ?_; rintro e w1 ⟨rfl, b1⟩)
        go_ret2
        rw [R.out]
        exact ⟨rfl, b1.out⟩
      | true =>
        have hall : Hid (∀ u ∈ ts.take (k + 1), may u = true) := by
          intro u hu
          rw [htake] at hu
          rcases List.mem_append.1 hu with h | h
          · exact HR.out u h
          · rw [List.mem_singleton.1 h]
            exact hm
        rw [hm] at HM
        clear htake hkt hm HR
        go_wp2_with (go_at_call 10; refine (HM.out _ b0).mono ?_; rintro e w1 ⟨rfl, b1⟩)
        go_roundw
        case rel => exact ⟨k + 1, by omega, by go_num, b1, hall⟩
        case measure => simp [intOf]; omega
    · have hlt1 : ¬ (k : Int) < (n : Int) := by omega
      obtain ⟨hal2, hte⟩ := all_take HN.out hlt HR.out
      have HA := hidden hal2
      clear hte hal2 HR hk hlt
      have hn300 : n ≤ 300 := by omega
      go_wp2
      go_loopw [6, 25] (fun v x wr2 => ∃ (k : Nat) (z : ByteArray), k ≤ n ∧ v = .string z ∧ x = .int .i64 (k : Int) ∧ z.size ≤ 83 * k ∧ Hid (Below w.heap.size w wr2) ∧ Hid (bts z = joined (ts.take k))) (fun _ x _ => n - (intOf x).toNat)
      case atStart => exact ⟨0, ⟨#[]⟩, Nat.zero_le _, rfl, rfl, Nat.zero_le _, HB, by simp [joined]; rfl⟩
      case round =>
        obtain ⟨k, z, hk, rfl, rfl, hzs, HB2, HZ⟩ := hrel
        clear HB
        by_cases hlt : k < n
        · have hlt1 : (k : Int) < (n : Int) := by omega
          have hlt2 : k < ts.length := by rw [HN.out]; exact hlt
          obtain ⟨b, off, rfl, hbw, hcell⟩ : ∃ b off, ao = some ⟨b, off, none⟩ ∧ b < w.heap.size ∧ ∀ i (hi : i < ts.length), w.cell? ⟨b, off + i * 3, none⟩ = some (.int .i64 ts[i].kind) ∧ w.cell? ⟨b, off + i * 3 + 1, none⟩ = some (.int .i64 ts[i].int) ∧ w.cell? ⟨b, off + i * 3 + 2, none⟩ = some (.string (str ts[i].text)) := by
            rcases HT.out.2.2 with h | h
            · rw [h] at hlt2
              cases hlt2
            · exact h
          obtain ⟨e0, e1, e2⟩ := hcell k hlt2
          have c0 := (HB2.out.cell (p := ⟨b, off + k * 3, none⟩) hbw).trans e0
          have c1 := (HB2.out.cell (p := ⟨b, off + k * 3 + 1, none⟩) hbw).trans e1
          have c2 := (HB2.out.cell (p := ⟨b, off + k * 3 + 2, none⟩) hbw).trans e2
          obtain ⟨t, hkt⟩ : ∃ t, ts[k] = t := ⟨_, rfl⟩
          rw [hkt] at c0 c1 c2
          have hmem : t ∈ ts := by rw [← hkt]; exact List.getElem_mem _
          have hti : t.int ≤ 9223372036854775807 := HI.out t hmem
          have hm : may t = true := List.all_eq_true.1 HA.out t hmem
          have htake : ts.take (k + 1) = ts.take k ++ [t] := by rw [← hkt]; exact List.take_succ_eq_append_getElem hlt2
          have hwl := wr_len hm hti
          clear hcell e0 e1 e2 HT HI HA HN hmem hkt
          obtain ⟨w3, hw3⟩ : ∃ w3, w3 = wr := ⟨_, rfl⟩
          subst hw3
          obtain ⟨x, hx⟩ : ∃ x, str t.text = x := ⟨_, rfl⟩
          have HX : Hid (bts x = t.text) := by rw [← hx, bts_str]; rfl
          rw [hx] at c2
          clear hx
          have b0 : Hid (Below w.heap.size w (w3.alloc (.cells #[.int .i64 t.kind, .int .i64 t.int, .string x] 23))) := HB2.out.alloc HB2.out.size _
          have hz3 : z.size ≤ 24900 := by omega
          rcases Nat.eq_zero_or_pos k with hk0 | hk0
          · subst hk0
            simp only [Nat.zero_mul, Nat.add_zero] at c0 c1 c2
            have HP : Hid (bts z ++ Go.Proofs.YtogkghifpocgmaaDoor.wr t = joined (ts.take (0 + 1))) := by
              show _ = _
              rw [htake, HZ.out]
              simp [joined]
            clear htake HZ hlt2
            by_cases hk2 : t.kind = 2
            · have h00 : 0 ≤ t.int := by
                unfold may at hm
                rw [if_neg (by omega), if_pos hk2] at hm
                simp only [Bool.and_eq_true, decide_eq_true_eq] at hm
                exact hm.1
              have HD : Hid (∀ W : World, Hid (Below w.heap.size w W) → Calls Tryd.prog 30 #[.int .i64 t.int] W fun e W' => ∃ y : ByteArray, e = .returned (.string y) ∧ y.size ≤ 19 ∧ Hid (bts y = Go.Proofs.YtogkghifpocgmaaDoor.wr t) ∧ Hid (Below w.heap.size w W')) := by
                intro W hW
                have := decimal_any t.int.toNat (by omega) W
                rw [show ((t.int.toNat : Nat) : Int) = t.int by omega] at this
                exact this.mono fun e W' ⟨y, h1, h2, h3, h4⟩ => ⟨y, h1, h2, by unfold Go.Proofs.YtogkghifpocgmaaDoor.wr; rw [if_pos hk2]; exact h3, hW.out.trans (h4.mono hW.out.size)⟩
              clear hm HX hwl
              rw [hk2] at b0 c0
              go_wp2_with (go_at_call 30; refine (HD.out _ b0).mono ?_; rintro e w4 ⟨y, rfl, hy, HY, b4⟩)
              go_roundw
              case rel =>
                have e : bts (z ++ y) = joined (ts.take (0 + 1)) := by
                  rw [← HP.out, ← HY.out, bts_append]
                exact ⟨0 + 1, z ++ y, by omega, rfl, by go_num, by rw [ByteArray.size_append]; omega, b4, e⟩
              case measure => simp [intOf]; omega
            by_cases hk3 : t.kind = 3
            · have hxl : x.size ≤ 40 := by
                unfold may at hm
                rw [if_neg (by omega), if_neg hk2, if_pos hk3] at hm
                simp only [Bool.and_eq_true, decide_eq_true_eq] at hm
                rw [size_bytes, HX.out]
                exact hm.1.2
              have HW : Hid (Go.Proofs.YtogkghifpocgmaaDoor.wr t = 39 :: (twice (bts x) ++ [39])) := by
                show _ = _
                unfold Go.Proofs.YtogkghifpocgmaaDoor.wr
                rw [if_neg hk2, if_pos hk3, HX.out]
              clear hm HX hwl hti
              rw [hk3] at b0 c0
              go_wp2
              go_loopw [6, 9] (fun v i wr => ∃ (j : Nat) (q : ByteArray), j ≤ x.size ∧ v = .string q ∧ i = .int .i64 (j : Int) ∧ q.size ≤ z.size + 2 + 2 * j ∧ Hid (Below w.heap.size w wr) ∧ wr.cell? ⟨w3.heap.size, 2, none⟩ = some (.string x) ∧ Hid (bts q = bts z ++ 39 :: twice ((bts x).take j))) (fun _ i _ => x.size - (intOf i).toNat)
              case atStart => exact ⟨0, z ++ ⟨#[39]⟩, Nat.zero_le _, rfl, rfl, by rw [ByteArray.size_append]; show z.size + 1 ≤ _; omega, b0, by simp, by rw [bts_append]; rfl⟩
              case round =>
                obtain ⟨j, q, hj, rfl, rfl, hqs, b5, c5, HQ⟩ := hrel
                by_cases hjx : j < x.size
                · have hjx1 : (j : Int) < (x.size : Int) := by omega
                  have hj2 : (j : Int) + 1 ≤ (x.size : Int) := by omega
                  have hjl : j < (bts x).length := by rw [← size_bytes]; exact hjx
                  obtain ⟨v, hv⟩ : ∃ v, (x[j]'hjx).toNat = v := ⟨_, rfl⟩
                  have hv3 : v < 256 := by rw [← hv]; exact (x[j]'hjx).toNat_lt
                  obtain ⟨y, hy⟩ : ∃ y, x.extract j (j + 1) = y := ⟨_, rfl⟩
                  have hyb : bts y = [x[j]'hjx] := by
                    rw [← hy, bytes_extract, drop_cons hjl, show j + 1 - j = 1 by omega]
                    rfl
                  have hys : y.size = 1 := by rw [size_bytes, hyb]; rfl
                  have htk : (bts x).take (j + 1) = (bts x).take j ++ [x[j]'hjx] := List.take_succ_eq_append_getElem hjl
                  by_cases h39 : v = 39
                  · have h391 : (v : Int) = 39 := by omega
                    have e : Hid (bts (q ++ ⟨#[39]⟩ ++ y) = bts z ++ 39 :: twice ((bts x).take (j + 1))) := by
                      have ec : x[j]'hjx = 39 := UInt8.toNat_inj.1 (by rw [hv, h39]; rfl)
                      show _ = _
                      rw [htk, twice_push, bts_append, bts_append, HQ.out, hyb, ec]
                      show _ ++ [39] ++ [39] = _ ++ 39 :: (_ ++ [39, 39])
                      simp
                    clear htk hyb HQ
                    go_wp2
                    go_roundw
                    case rel => exact ⟨j + 1, q ++ ⟨#[39]⟩ ++ y, by omega, rfl, by go_num, by rw [ByteArray.size_append, ByteArray.size_append, hys]; show q.size + 1 + 1 ≤ _; omega, b5, c5, e⟩
                    case measure => simp [intOf]; omega
                  · have h391 : ¬ (v : Int) = 39 := by omega
                    have e : Hid (bts (q ++ y) = bts z ++ 39 :: twice ((bts x).take (j + 1))) := by
                      have en : ¬ (x[j]'hjx).toNat = 39 := by rw [hv]; exact h39
                      show _ = _
                      rw [htk, twice_push, if_neg en, bts_append, HQ.out, hyb]
                      simp
                    clear htk hyb HQ
                    go_wp2
                    go_roundw
                    case rel => exact ⟨j + 1, q ++ y, by omega, rfl, by go_num, by rw [ByteArray.size_append, hys]; omega, b5, c5, e⟩
                    case measure => simp [intOf]; omega
                · have hjx1 : ¬ (j : Int) < (x.size : Int) := by omega
                  have hjl : (bts x).take j = bts x := List.take_of_length_le (by rw [← size_bytes]; omega)
                  have e : Hid (bts (q ++ ⟨#[39]⟩) = joined (ts.take (0 + 1))) := by
                    show _ = _
                    rw [← HP.out, HW.out, bts_append, HQ.out, hjl]
                    show _ ++ 39 :: _ ++ [39] = _
                    simp
                  clear hjl HQ
                  go_wp2
                  go_roundw
                  case rel => exact ⟨0 + 1, q ++ ⟨#[39]⟩, by omega, rfl, by go_num, by rw [ByteArray.size_append]; show q.size + 1 ≤ _; omega, b5, e⟩
                  case measure => simp [intOf]; omega
            · have HW : Hid (Go.Proofs.YtogkghifpocgmaaDoor.wr t = bts x) := by
                show _ = _
                unfold Go.Proofs.YtogkghifpocgmaaDoor.wr
                rw [if_neg hk2, if_neg hk3, HX.out]
              have hxl : x.size ≤ 82 := by rw [size_bytes, ← HW.out]; exact hwl
              clear hm HX hwl hti
              go_wp2
              go_roundw
              case rel =>
                have e : bts (z ++ x) = joined (ts.take (0 + 1)) := by
                  rw [← HP.out, HW.out, bts_append]
                exact ⟨0 + 1, z ++ x, by omega, rfl, by go_num, by rw [ByteArray.size_append]; omega, b0, e⟩
              case measure => simp [intOf]; omega
          · have hk1 : (0 : Int) < (k : Int) := by omega
            have HP : Hid (bts z ++ [32] ++ Go.Proofs.YtogkghifpocgmaaDoor.wr t = joined (ts.take (k + 1))) := by
              show _ = _
              have hne : ¬ ts.take k = [] := by
                intro h
                have := congrArg List.length h
                rw [List.length_take] at this
                simp only [List.length_nil] at this
                omega
              rw [htake, joined_push, if_neg hne, HZ.out]
              simp
            clear htake HZ hlt2
            by_cases hk2 : t.kind = 2
            · have h00 : 0 ≤ t.int := by
                unfold may at hm
                rw [if_neg (by omega), if_pos hk2] at hm
                simp only [Bool.and_eq_true, decide_eq_true_eq] at hm
                exact hm.1
              have HD : Hid (∀ W : World, Hid (Below w.heap.size w W) → Calls Tryd.prog 30 #[.int .i64 t.int] W fun e W' => ∃ y : ByteArray, e = .returned (.string y) ∧ y.size ≤ 19 ∧ Hid (bts y = Go.Proofs.YtogkghifpocgmaaDoor.wr t) ∧ Hid (Below w.heap.size w W')) := by
                intro W hW
                have := decimal_any t.int.toNat (by omega) W
                rw [show ((t.int.toNat : Nat) : Int) = t.int by omega] at this
                exact this.mono fun e W' ⟨y, h1, h2, h3, h4⟩ => ⟨y, h1, h2, by unfold Go.Proofs.YtogkghifpocgmaaDoor.wr; rw [if_pos hk2]; exact h3, hW.out.trans (h4.mono hW.out.size)⟩
              clear hm HX hwl
              rw [hk2] at b0 c0
              go_wp2_with (go_at_call 30; refine (HD.out _ b0).mono ?_; rintro e w4 ⟨y, rfl, hy, HY, b4⟩)
              go_roundw
              case rel =>
                have e : bts (z ++ (⟨#[32]⟩ : ByteArray) ++ y) = joined (ts.take (k + 1)) := by
                  rw [← HP.out, ← HY.out, bts_append, bts_append]
                  rfl
                exact ⟨k + 1, z ++ (⟨#[32]⟩ : ByteArray) ++ y, by omega, rfl, by go_num, by rw [ByteArray.size_append, ByteArray.size_append]; show z.size + 1 + y.size ≤ _; omega, b4, e⟩
              case measure => simp [intOf]; omega
            by_cases hk3 : t.kind = 3
            · have hxl : x.size ≤ 40 := by
                unfold may at hm
                rw [if_neg (by omega), if_neg hk2, if_pos hk3] at hm
                simp only [Bool.and_eq_true, decide_eq_true_eq] at hm
                rw [size_bytes, HX.out]
                exact hm.1.2
              have HW : Hid (Go.Proofs.YtogkghifpocgmaaDoor.wr t = 39 :: (twice (bts x) ++ [39])) := by
                show _ = _
                unfold Go.Proofs.YtogkghifpocgmaaDoor.wr
                rw [if_neg hk2, if_pos hk3, HX.out]
              clear hm HX hwl hti
              rw [hk3] at b0 c0
              go_wp2
              go_loopw [6, 9] (fun v i wr => ∃ (j : Nat) (q : ByteArray), j ≤ x.size ∧ v = .string q ∧ i = .int .i64 (j : Int) ∧ q.size ≤ z.size + 2 + 2 * j ∧ Hid (Below w.heap.size w wr) ∧ wr.cell? ⟨w3.heap.size, 2, none⟩ = some (.string x) ∧ Hid (bts q = bts z ++ [32] ++ 39 :: twice ((bts x).take j))) (fun _ i _ => x.size - (intOf i).toNat)
              case atStart => exact ⟨0, z ++ (⟨#[32]⟩ : ByteArray) ++ ⟨#[39]⟩, Nat.zero_le _, rfl, rfl, by rw [ByteArray.size_append, ByteArray.size_append]; show z.size + 1 + 1 ≤ _; omega, b0, by simp, by rw [bts_append, bts_append]; rfl⟩
              case round =>
                obtain ⟨j, q, hj, rfl, rfl, hqs, b5, c5, HQ⟩ := hrel
                by_cases hjx : j < x.size
                · have hjx1 : (j : Int) < (x.size : Int) := by omega
                  have hj2 : (j : Int) + 1 ≤ (x.size : Int) := by omega
                  have hjl : j < (bts x).length := by rw [← size_bytes]; exact hjx
                  obtain ⟨v, hv⟩ : ∃ v, (x[j]'hjx).toNat = v := ⟨_, rfl⟩
                  have hv3 : v < 256 := by rw [← hv]; exact (x[j]'hjx).toNat_lt
                  obtain ⟨y, hy⟩ : ∃ y, x.extract j (j + 1) = y := ⟨_, rfl⟩
                  have hyb : bts y = [x[j]'hjx] := by
                    rw [← hy, bytes_extract, drop_cons hjl, show j + 1 - j = 1 by omega]
                    rfl
                  have hys : y.size = 1 := by rw [size_bytes, hyb]; rfl
                  have htk : (bts x).take (j + 1) = (bts x).take j ++ [x[j]'hjx] := List.take_succ_eq_append_getElem hjl
                  by_cases h39 : v = 39
                  · have h391 : (v : Int) = 39 := by omega
                    have e : Hid (bts (q ++ ⟨#[39]⟩ ++ y) = bts z ++ [32] ++ 39 :: twice ((bts x).take (j + 1))) := by
                      have ec : x[j]'hjx = 39 := UInt8.toNat_inj.1 (by rw [hv, h39]; rfl)
                      show _ = _
                      rw [htk, twice_push, bts_append, bts_append, HQ.out, hyb, ec]
                      show _ ++ [39] ++ [39] = _ ++ 39 :: (_ ++ [39, 39])
                      simp
                    clear htk hyb HQ
                    go_wp2
                    go_roundw
                    case rel => exact ⟨j + 1, q ++ ⟨#[39]⟩ ++ y, by omega, rfl, by go_num, by rw [ByteArray.size_append, ByteArray.size_append, hys]; show q.size + 1 + 1 ≤ _; omega, b5, c5, e⟩
                    case measure => simp [intOf]; omega
                  · have h391 : ¬ (v : Int) = 39 := by omega
                    have e : Hid (bts (q ++ y) = bts z ++ [32] ++ 39 :: twice ((bts x).take (j + 1))) := by
                      have en : ¬ (x[j]'hjx).toNat = 39 := by rw [hv]; exact h39
                      show _ = _
                      rw [htk, twice_push, if_neg en, bts_append, HQ.out, hyb]
                      simp
                    clear htk hyb HQ
                    go_wp2
                    go_roundw
                    case rel => exact ⟨j + 1, q ++ y, by omega, rfl, by go_num, by rw [ByteArray.size_append, hys]; omega, b5, c5, e⟩
                    case measure => simp [intOf]; omega
                · have hjx1 : ¬ (j : Int) < (x.size : Int) := by omega
                  have hjl : (bts x).take j = bts x := List.take_of_length_le (by rw [← size_bytes]; omega)
                  have e : Hid (bts (q ++ ⟨#[39]⟩) = joined (ts.take (k + 1))) := by
                    show _ = _
                    rw [← HP.out, HW.out, bts_append, HQ.out, hjl]
                    show _ ++ 39 :: _ ++ [39] = _
                    simp
                  clear hjl HQ
                  go_wp2
                  go_roundw
                  case rel => exact ⟨k + 1, q ++ ⟨#[39]⟩, by omega, rfl, by go_num, by rw [ByteArray.size_append]; show q.size + 1 ≤ _; omega, b5, e⟩
                  case measure => simp [intOf]; omega
            · have HW : Hid (Go.Proofs.YtogkghifpocgmaaDoor.wr t = bts x) := by
                show _ = _
                unfold Go.Proofs.YtogkghifpocgmaaDoor.wr
                rw [if_neg hk2, if_neg hk3, HX.out]
              have hxl : x.size ≤ 82 := by rw [size_bytes, ← HW.out]; exact hwl
              clear hm HX hwl hti
              go_wp2
              go_roundw
              case rel =>
                have e : bts (z ++ (⟨#[32]⟩ : ByteArray) ++ x) = joined (ts.take (k + 1)) := by
                  rw [← HP.out, HW.out, bts_append, bts_append]
                  rfl
                exact ⟨k + 1, z ++ (⟨#[32]⟩ : ByteArray) ++ x, by omega, rfl, by go_num, by rw [ByteArray.size_append, ByteArray.size_append]; show z.size + 1 + x.size ≤ _; omega, b0, e⟩
              case measure => simp [intOf]; omega
        · have hlt1 : ¬ (k : Int) < (n : Int) := by omega
          have hkn : ts.take k = ts := List.take_of_length_le (by rw [HN.out]; omega)
          have ez : bts z = joined ts := by rw [HZ.out, hkn]
          have esz : z.size = (joined ts).length := by rw [size_bytes, ez]
          by_cases hbig : 2000 < z.size
          · have R : Hid (joinAns ts = ([], 1)) := by
              show _ = _
              unfold joinAns
              rw [if_neg (by rw [HN.out]; exact h0), if_pos HA.out, if_pos (by rw [← esz]; exact hbig)]
            have hbig1 : (2000 : Int) < (z.size : Int) := by omega
            clear ez hkn esz
            go_wp2
            go_ret2
            rw [R.out]
            exact ⟨rfl, HB2.out⟩
          · have R : Hid (joinAns ts = (bts z, 0)) := by
              show _ = _
              unfold joinAns
              rw [if_neg (by rw [HN.out]; exact h0), if_pos HA.out, if_neg (by rw [← esz]; exact hbig), ez]
            have hbig1 : ¬ (2000 : Int) < (z.size : Int) := by omega
            clear ez hkn esz
            go_wp2
            go_ret2
            rw [R.out]
            exact ⟨by rw [str_bts]; rfl, HB2.out⟩

end Go.Proofs.YtogkghifpocgmaaDoor
