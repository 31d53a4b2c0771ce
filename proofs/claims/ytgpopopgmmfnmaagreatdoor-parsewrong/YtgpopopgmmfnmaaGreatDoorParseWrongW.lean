/- ParseWrong's walk: where a statement goes wrong is told. -/
import Derived.Test.YtgpopopgmmfnmaaGreatDoorParseLaws
import Derived.Deep.DeepAppendWide
import Derived.Deep.AppendLies
import Derived.Deep.Cut
namespace Go.Proofs.YtgpopopgmmfnmaaGreatDoor
open Go.ChangeShapes Go.WideShapes Go.ChangeAt Go.RowKit

/-- append to a row that the call has laid, as one step of a region that draws its order -/
theorem step_own {P : Program} {w : World} {ops : Array Oper} {o : Oper} {a : Act} {K : Act → World → Prop} {Q : Exit → Act → World → Prop} {E : Prop} (hgd : o.guard = none) (s x : Operand) (t : TypeId)
    (ho : o.op = .call { callee := .builtin .append, args := #[s, x], argTypes := #[t, t] })
    (base : Nat) (e : TypeId) (i : TypeInfo) (z : Value) (size bytes : Nat) (ht : P.underlying t = some (.slice e)) (hi : P.info? e = some i) (hz : i.zero = some z)
    (hsize : i.size = size) (hby : i.bytes = bytes) (hzs : z.cells.size = size) (hsz : 0 < size)
    (v : Value) (n : Nat) (xs : List Value) (hs : a.eval s = v) (hown : w.ownsRow base e size v n xs)
    (ad : Addr) (m c : Nat) (news : List Value) (hx : a.eval x = .slice (some ad) m c) (hl : news.length = m * size) (hnews : ∀ j u, news[j]? = some u → w.cell? (ad.add j) = some u) (h1 : ∀ u ∈ news, u.oneCell' = true)
    (h63 : n + m ≤ maxLen) (hbytes : ((n + m) + (n + m) / 4 + 192) * bytes ≤ 281474976710656) (hbase : base ≤ w.heap.size)
    (h : ∀ v' w', w'.ownsRow base e size v' (n + m) (xs ++ news) → w.grownBy w' v.ownBlock → K (a.put o.dst v') w') :
    if Region.wanted o (yielded ops a.tmps) = true then Oper.wp P o a w K Q else E := by
  have hw : Region.wanted o (yielded ops a.tmps) = true := by simp [Region.wanted, hgd]
  rw [if_pos hw]
  exact wp_append_own_wide w s x t ho base e i z size bytes ht hi hz hsize hby hzs hsz v n xs hs hown ad m c news hx hl hnews h1 h63 hbytes hbase fun v' w' h2 h3 _ => h v' w' h2 h3

abbrev badObj : Obj := .cells #[.int .i64 1, .int .i64 0, .string ⟨#[99, 114, 101, 97, 116, 101]⟩, .int .i64 1, .int .i64 0, .string ⟨#[105, 110, 116, 111]⟩, .int .i64 1, .int .i64 0, .string ⟨#[100, 101, 108, 101, 116, 101]⟩] 48

/-- the three bad tokens, laid -/
theorem bad_laid {w W : World} (hb : Below w.heap.size w W) (q : Nat) (hq : q < 3) : ∃ W', W.alloc badObj = W' ∧ W.heap.size < W'.heap.size ∧ Hid (Below w.heap.size w W' ∧ Below W.heap.size W W') ∧
    W'.cell? ⟨W.heap.size, q * 3, none⟩ = some (.int .i64 1) ∧ W'.cell? ⟨W.heap.size, q * 3 + 1, none⟩ = some (.int .i64 0) ∧ W'.cell? ⟨W.heap.size, q * 3 + 2, none⟩ = some (.string (str (badToks.getD q zeroTok).text)) := by
  have h1 : Below W.heap.size W (W.alloc badObj) := (Below.refl _ W).alloc (Nat.le_refl _) _
  refine ⟨_, rfl, by simp, ⟨hb.trans (h1.mono hb.size), h1⟩, ?_⟩
  simp only [World.cell?_alloc_new]
  rcases (show q = 0 ∨ q = 1 ∨ q = 2 by omega) with rfl | rfl | rfl <;> exact ⟨rfl, rfl, rfl⟩

theorem bad_may (q : Nat) (hq : q < 3) : may (badToks.getD q zeroTok) = true ∧ (badToks.getD q zeroTok).kind = 1 ∧ (badToks.getD q zeroTok).int = 0 := by
  rcases (show q = 0 ∨ q = 1 ∨ q = 2 by omega) with rfl | rfl | rfl <;> decide +kernel

theorem row_take {w : World} {base g cap k : Nat} {ts : List Tok} (h : w.ownsRow base 48 3 (.slice (some ⟨g, 0, none⟩) k cap) k (tokCells ts)) (n : Nat) : ∀ j u, (tokCells (ts.take n))[j]? = some u → w.cell? ((⟨g, 0, none⟩ : Addr).add j) = some u := by
  intro j u hu
  rw [tokCells_take] at hu
  refine h.cells (g := g) rfl j u ?_
  rw [List.getElem?_take] at hu
  split at hu
  · exact hu
  · cases hu

theorem tokCells_drop (ts : List Tok) (n : Nat) : tokCells (ts.drop n) = (tokCells ts).drop (n * 3) := by
  induction ts generalizing n with
  | nil => simp [tokCells]
  | cons t ts ih =>
    cases n with
    | zero => simp
    | succ n =>
      have e : ∀ l : List Tok, tokCells (t :: l) = .int .i64 t.kind :: .int .i64 t.int :: .string (str t.text) :: tokCells l := fun l => by simp [tokCells]
      rw [List.drop_succ_cons, e, ih, show (n + 1) * 3 = n * 3 + 3 by omega]
      rfl

theorem add_any (g o j : Nat) : (⟨g, o, none⟩ : Addr).add j = ⟨g, o + j, none⟩ := by unfold Addr.add; split <;> simp_all

theorem row_drop {w : World} {base g cap k : Nat} {ts : List Tok} (h : w.ownsRow base 48 3 (.slice (some ⟨g, 0, none⟩) k cap) k (tokCells ts)) (n : Nat) : ∀ j u, (tokCells (ts.drop n))[j]? = some u → w.cell? ((⟨g, n * 3, none⟩ : Addr).add j) = some u := by
  intro j u hu
  rw [tokCells_drop, List.getElem?_drop] at hu
  have := h.cells (g := g) rfl _ u hu
  rw [add_off] at this
  rw [add_any]
  exact this

theorem one_row {w : World} {b : Nat} {x : List UInt8} (h : w.heap[b]? = some (.cells #[.int .i64 1, .int .i64 0, .string (str x)] 48)) : ∀ j u, (tokCells [⟨1, 0, x⟩])[j]? = some u → w.cell? ((⟨b, 0, none⟩ : Addr).add j) = some u :=
  fun j u hu => World.news_of_block h j u hu

theorem one_block (W : World) (x : List UInt8) : (W.alloc (.cells #[.int .i64 1, .int .i64 0, .string (str x)] 48)).heap[W.heap.size]? = some (.cells #[.int .i64 1, .int .i64 0, .string (str x)] 48) := by
  show (W.heap.push _)[W.heap.size]? = _
  simp

theorem one_new (W : World) (x : List UInt8) : ∀ j u, (tokCells [(⟨1, 0, x⟩ : Tok)])[j]? = some u → (W.alloc (.cells #[.int .i64 1, .int .i64 0, .string (str x)] 48)).cell? ((⟨W.heap.size, 0, none⟩ : Addr).add j) = some u :=
  one_row (one_block W x)

set_option maxRecDepth 100000 in
theorem first_text : ∀ m, m < 8 → (str ((sampleT m).getD 0 zeroTok).text).toList = ((sampleT m).getD 0 zeroTok).text := by decide +kernel

set_option maxRecDepth 100000 in
set_option maxHeartbeats 8000000 in
theorem wrong_walk (a0 a1 a2 : Int) (w : World) (tab : ParseTabs w) :
    Calls Tryz.prog 6 #[.int .i64 a0, .int .i64 a1, .int .i64 a2] w fun e w' => e = .returned (.bool true) ∧ Below w.heap.size w w' := by
  obtain ⟨m, hm⟩ : ∃ m : Nat, a0 % 8 = (m : Int) := ⟨(a0 % 8).toNat, by omega⟩
  have hm8 : m < 8 := by omega
  have hm8i : (m : Int) < 8 := by omega
  have cP := Picked_any a0 8 (by decide) (by decide)
  rw [hm] at cP
  clear hm
  obtain ⟨hg1, hg2, hg3, _⟩ := samples_good m hm8
  obtain ⟨k, hk⟩ : ∃ k, (sampleT m).length = k := ⟨_, rfl⟩
  rw [hk] at hg2 hg3
  have hk4 : ¬ (k : Int) < 4 := by omega
  obtain ⟨n, hn⟩ : ∃ n : Nat, a1 % (k : Int) = (n : Int) := ⟨(a1 % (k : Int)).toNat, by have := Int.emod_nonneg a1 (b := (k : Int)) (by omega); omega⟩
  have hnk : n < k := by have := Int.emod_lt_of_pos a1 (b := (k : Int)) (by omega); omega
  have cQ := Picked_any a1 (k : Int) (by omega) (by omega)
  rw [hn] at cQ
  clear hn
  obtain ⟨q, hq⟩ : ∃ q : Nat, a2 % 3 = (q : Int) := ⟨(a2 % 3).toNat, by omega⟩
  have hq3 : q < 3 := by omega
  have hq3i : (q : Int) < 3 := by omega
  have cR := Picked_any a2 3 (by decide) (by decide)
  rw [hq] at cR
  clear hq
  have hone := samples_wrong m n q hm8 (by omega) hq3
  obtain ⟨nn, hnn⟩ : ∃ nn : Nat, nn = n + 1 := ⟨_, rfl⟩
  rw [← hnn] at hone
  have hnn1 : 1 + (n : Int) = (nn : Int) := by omega
  have hnnk : (nn : Int) ≤ (k : Int) := by omega
  have cS := samples_any w
  have cC := hide (fun W h => Cut_sample m hm8 k hk (W := W) tab h)
  obtain ⟨i0, hi0, hz0, hz1, hz2⟩ := info_parts Tryz.infoTok
  have htl := first_text m hm8
  obtain ⟨ts, hts⟩ : ∃ ts, sampleT m = ts := ⟨_, rfl⟩
  rw [hts] at hg1 hk hone cC htl
  clear hts
  obtain ⟨x0, hx0⟩ : ∃ x, (ts.getD 0 zeroTok).text = x := ⟨_, rfl⟩
  have h2c : (tokCells ts)[2]? = some (.string (str x0)) := by
    have := (tokCells_at ts 0 (by omega)).2.2
    rw [← hx0, List.getD_eq_getElem?_getD, List.getElem?_eq_getElem (show 0 < ts.length by omega)]
    exact this
  rw [hx0] at htl
  have hbm := bad_may q hq3
  obtain ⟨xt, hbt⟩ : ∃ xt, badToks.getD q zeroTok = ⟨1, 0, xt⟩ := ⟨(badToks.getD q zeroTok).text, by rw [← hbm.2.1, ← hbm.2.2]⟩
  rw [hbt] at hbm
  have cL := hide (fun (W : World) (h : Below w.heap.size w W) => bad_laid h q hq3)
  rw [hbt] at cL
  have hmo : AllMay' (ts.take nn ++ [(⟨1, 0, xt⟩ : Tok)] ++ ts.drop nn) = true := List.all_eq_true.2 fun t ht => by
    rcases List.mem_append.1 ht with h | h
    · rcases List.mem_append.1 h with h | h
      · exact List.all_eq_true.1 hg1 t (List.mem_of_mem_take h)
      · rw [List.mem_singleton.1 h, hbm.1, hbm.2.2]
        rfl
    · exact List.all_eq_true.1 hg1 t (List.mem_of_mem_drop h)
  have hml : (ts.take nn ++ [(⟨1, 0, xt⟩ : Tok)] ++ ts.drop nn).length = k + 1 := by simp; omega
  have cB := hide (fun ao cap W h => Parse_read (ts.take nn ++ [(⟨1, 0, xt⟩ : Tok)] ++ ts.drop nn) hmo (by omega) (k + 1) hml.symm (ao := ao) (cap := cap) (W := W) tab h)
  unfold wrongOk at hone
  rw [hx0, hbt] at hone
  obtain ⟨⟨t, p, e⟩, hr⟩ : ∃ r, readP (ts.take nn ++ [(⟨1, 0, xt⟩ : Tok)] ++ ts.drop nn) = r := ⟨_, rfl⟩
  rw [hr] at cB hone
  have HK := hide (And.intro hk (And.intro hg1 (And.intro hml (And.intro hmo (And.intro hbm (And.intro h2c (And.intro hnn hg2)))))))
  clear tab hk hg1 hml hmo hbm h2c hnn hr hbt hx0
  simp only at cB
  by_cases hD : q = 1 ∧ x0 = [105, 110, 115, 101, 114, 116] ∧ nn = 1
  · obtain ⟨rfl, rfl, rfl⟩ := hD
    clear hone cB
    go_enter Tryz.func6, Tryz.ntmps6
    go_wp2_with (first
      | (go_at_call 13; refine cS.mono ?_; rintro e w1 ⟨b, rfl, hb1, HB⟩; have hc1 := HB.out.2 m hm8; have HB1 := hide HB.out.1)
      | (go_at_call 7; (with_reducible refine (cP _).mono ?_); rintro e w1 ⟨rfl, rfl⟩)
      | (go_at_call 12; refine (cC.out _ HB1).mono ?_; rintro e w2 ⟨g, cap, rfl, hcap, hg, HB2⟩)
      | (go_at_call 7; (with_reducible refine (cQ _).mono ?_); rintro e w3 ⟨rfl, rfl⟩)
      | (go_at_call 7; (with_reducible refine (cR _).mono ?_); rintro e w3 ⟨rfl, rfl⟩; obtain ⟨w5, e5, hb5, HB5, z0, z1, z2⟩ := cL.out _ HB2.out.1; rw [e5]; clear e5; have y2 := (own_later HB2.out.2 HB5.out.2).cells (g := g) rfl 2 _ HK.out.2.2.2.2.2.1; rw [add_off] at y2))
    go_ret
    exact ⟨rfl, HB5.out.1⟩
  · have hone : e = 4 ∧ p = nn ∧ t.kind = 0 := by
      simp only [Bool.or_eq_true, Bool.and_eq_true, decide_eq_true_eq, Prod.mk.injEq] at hone
      rcases hone with h | h
      · exact absurd ⟨h.1.1, h.1.2, h.2⟩ hD
      · exact ⟨h.1.2, h.1.1, h.2⟩
    obtain ⟨rfl, rfl, hkd⟩ := hone
    have Hkd := hide hkd
    clear hkd
    go_enter Tryz.func6, Tryz.ntmps6
    go_upto_region 7 with (first
      | (go_at_call 13; refine cS.mono ?_; rintro e w1 ⟨b, rfl, hb1, HB⟩; have hc1 := HB.out.2 m hm8; have HB1 := hide HB.out.1)
      | (go_at_call 7; (with_reducible refine (cP _).mono ?_); rintro e w1 ⟨rfl, rfl⟩)
      | (go_at_call 12; refine (cC.out _ HB1).mono ?_; rintro e w2 ⟨g, cap, rfl, hcap, hg, HB2⟩)
      | (go_at_call 7; (with_reducible refine (cQ _).mono ?_); rintro e w3 ⟨rfl, rfl⟩)
      | (go_at_call 7; (with_reducible refine (cR _).mono ?_); rintro e w3 ⟨rfl, rfl⟩; obtain ⟨w5, e5, hb5, HB5, z0, z1, z2⟩ := cL.out _ HB2.out.1; rw [e5]; clear e5; have y2 := (own_later HB2.out.2 HB5.out.2).cells (g := g) rfl 2 _ HK.out.2.2.2.2.2.1; rw [add_off] at y2))
    go_cut [57] from 17 (fun s57 wc => s57 = .bool false ∧ wc = w5)
    case first =>
      by_cases hq1 : q = 1
      · subst hq1
        by_cases hx1 : x0 = [105, 110, 115, 101, 114, 116]
        · subst hx1
          have hn1 : ¬ (p : Int) = 1 := by
            intro h
            exact hD ⟨rfl, rfl, by omega⟩
          have hn2 : ((p : Int) == 1) = false := beq_eq_false_iff_ne.2 hn1
          go_wp2
          go_meet
          exact ⟨rfl, rfl⟩
        · have hx2 : ¬ (str x0).toList = [105, 110, 115, 101, 114, 116] := by rw [htl]; exact hx1
          go_wp2
          go_meet
          exact ⟨rfl, rfl⟩
      · have hq2 : ¬ (q : Int) = 1 := by omega
        have hq4 : ((q : Int) == 1) = false := beq_eq_false_iff_ne.2 hq2
        go_wp2
        go_meet
        exact ⟨rfl, rfl⟩
    case rest =>
      obtain ⟨rfl, rfl⟩ := hcut
      clear hD cS cP cQ cR cC cL
      have HN1 := hide (fun (W : World) (h : Below wc.heap.size wc W) => row_take (own_later (own_later HB2.out.2 HB5.out.2) h) p)
      have HN2 := hide (fun (W : World) (h : Below wc.heap.size wc W) => row_drop (own_later (own_later HB2.out.2 HB5.out.2) h) p)
      have hpc : p ≤ cap := by omega
      have hpk : p ≤ k := by omega
      obtain ⟨ad, had, hadn⟩ : ∃ ad : Addr, (if cap = p then some (⟨g, 0, none⟩ : Addr) else some ⟨g, p * 3, none⟩) = some ad ∧ ∀ W : World, Below wc.heap.size wc W → ∀ j u, (tokCells (ts.drop p))[j]? = some u → W.cell? (ad.add j) = some u := by
        by_cases hcp : cap = p
        · refine ⟨⟨g, 0, none⟩, if_pos hcp, fun W _ j u hu => ?_⟩
          rw [List.drop_eq_nil_of_le (by have := HK.out.1; omega)] at hu
          simp [tokCells] at hu
        · exact ⟨⟨g, p * 3, none⟩, if_neg hcp, HN2.out⟩
      have HN3 := hide hadn
      clear hadn HN2
      have hbA : Below wc.heap.size wc wc.drew := (Below.refl _ wc).drew
      have hbB : Below wc.heap.size wc (wc.drew.alloc (.cells #[.int .i64 1, .int .i64 0, .string (str xt)] 48)) := hbA.alloc (Nat.le_refl _) _
      have hl1 : (tokCells (ts.take p)).length = p * 3 := by rw [tokCells_length, List.length_take]; have := HK.out.1; omega
      have hl2 : (tokCells (ts.drop p)).length = (k - p) * 3 := by rw [tokCells_length, List.length_drop, HK.out.1]
      have HL := hide (And.intro hl1 hl2)
      clear hl1 hl2
      have zA0 : wc.drew.cell? ⟨w2.heap.size, q * 3, none⟩ = some (.int .i64 1) := z0
      have zA1 : wc.drew.cell? ⟨w2.heap.size, q * 3 + 1, none⟩ = some (.int .i64 0) := z1
      have zA2 : wc.drew.cell? ⟨w2.heap.size, q * 3 + 2, none⟩ = some (.string (str xt)) := z2
      go_wp2
      go_cut [13] from 17 (fun s13 W => ∃ ao cap, s13 = .slice ao (k + 1) cap ∧ Hid (Below w.heap.size w W ∧ Toks W ao cap (ts.take p ++ [(⟨1, 0, xt⟩ : Tok)] ++ ts.drop p) ∧ ∀ a, ao = some a → a.block < W.heap.size))
      case first =>
        refine wp_region_any (by kernel_rfl) ?_
        change wpAny _ _ _ _ _ _ _ wc.drew
        refine wpAny_take (i := 0) (v := .slice (some ⟨g, 0, none⟩) k cap) rfl (by kernel_rfl) (by kernel_rfl) (by kernel_rfl) (fun _ _ _ h => h) (Or.inl ⟨by rfl, ?_⟩) ?_
        · intro wq
          go_simp
        refine wpAny_take (i := 1) (v := .int .i64 (p : Int)) rfl (by kernel_rfl) (by kernel_rfl) (by kernel_rfl) (fun _ _ _ h => h) (Or.inl ⟨by rfl, ?_⟩) ?_
        · intro wq
          go_simp
        refine wpAny_take (i := 2) (v := .slice (some ⟨g, 0, none⟩) p cap) rfl (by kernel_rfl) (by kernel_rfl) (by kernel_rfl) (fun _ _ _ h => h) (Or.inl ⟨by rfl, ?_⟩) ?_
        · intro wq
          go_simp
        refine wpAny_take (i := 4) (v := .slice (some ⟨w2.heap.size, 0, none⟩) 3 3) rfl (by kernel_rfl) (by kernel_rfl) (by kernel_rfl) (fun _ _ _ h => h) (Or.inl ⟨by rfl, ?_⟩) ?_
        · intro wq
          go_simp
        refine wpAny_take (i := 5) (v := .int .i64 (q : Int)) rfl (by kernel_rfl) (by kernel_rfl) (by kernel_rfl) (fun _ _ _ h => h) (Or.inl ⟨by rfl, ?_⟩) ?_
        · intro wq
          go_simp
        refine wpAny_take (i := 6) (v := .pointer (some ⟨w2.heap.size, q * 3, none⟩)) rfl (by kernel_rfl) (by kernel_rfl) (by kernel_rfl) (fun _ _ _ h => h) (Or.inl ⟨by rfl, ?_⟩) ?_
        · intro wq
          go_simp
        refine wpAny_take (i := 10) (v := .slice (some ⟨g, 0, none⟩) k cap) rfl (by kernel_rfl) (by kernel_rfl) (by kernel_rfl) (fun _ _ _ h => h) (Or.inl ⟨by rfl, ?_⟩) ?_
        · intro wq
          go_simp
        refine wpAny_take (i := 11) (v := .int .i64 (p : Int)) rfl (by kernel_rfl) (by kernel_rfl) (by kernel_rfl) (fun _ _ _ h => h) (Or.inl ⟨by rfl, ?_⟩) ?_
        · intro wq
          go_simp
        refine wpAny_take (i := 12) (v := .slice (some ad) (k - p) (cap - p)) rfl (by kernel_rfl) (by kernel_rfl) (by kernel_rfl) (fun _ _ _ h => h) (Or.inl ⟨by rfl, ?_⟩) ?_
        · intro wq
          go_simp
        refine wpAny_ready (rs := [3, 7]) (by kernel_rfl) (by simp) ?_
        refine AllReady.cons rfl (fun K1 hK1 => ?_) (AllReady.cons rfl (fun K1 hK1 => ?_) AllReady.nil)
        · skip
          refine step_own rfl (.const (.slice none 0 0)) (.tmp 60) 43 rfl wc.heap.size 48 i0 (.agg #[.int .i64 0, .int .i64 0, .string ⟨#[]⟩]) 3 32 Tryz.underlying43 hi0 hz0 hz1 hz2 rfl (by decide) (.slice none 0 0) 0 [] rfl (World.ownsRow_nil _ _ _ _) ⟨g, 0, none⟩ p cap (tokCells (ts.take p)) (by simp [Act.eval, Act.put]) HL.out.1 (HN1.out _ hbA) (tok_cells_one _) (by unfold maxLen; omega) (by omega) hbA.size (fun v2 w6 hown hgrow => hK1 _ _ ?_)
          have hb6 : Below wc.heap.size wc w6 := hbA.grown hgrow hbA.size (fun k hk => by cases hk)
          rw [Nat.zero_add, List.nil_append] at hown
          obtain ⟨ao2, cap2, rfl⟩ := own_shape hown
          have zB0 := (hb6.cell (p := ⟨w2.heap.size, q * 3, none⟩) hb5).trans z0
          have zB1 := (hb6.cell (p := ⟨w2.heap.size, q * 3 + 1, none⟩) hb5).trans z1
          have zB2 := (hb6.cell (p := ⟨w2.heap.size, q * 3 + 2, none⟩) hb5).trans z2
          refine wpAny_ready (rs := [7]) (by kernel_rfl) (by simp) ?_
          refine AllReady.cons rfl (fun K2 hK2 => ?_) AllReady.nil
          rw [if_pos (by rfl)]
          unfold Oper.wp
          go_simp
          refine hK2 _ _ ?_
          refine wpAny_ready (rs := [8]) (by kernel_rfl) (by simp) ?_
          refine AllReady.cons rfl (fun K3 hK3 => ?_) AllReady.nil
          rw [if_pos (by rfl)]
          unfold Oper.wp
          go_simp
          refine hK3 _ _ ?_
          refine wpAny_ready (rs := [9]) (by kernel_rfl) (by simp) ?_
          refine AllReady.cons rfl (fun K4 hK4 => ?_) AllReady.nil
          refine step_own rfl (.tmp 61) (.tmp 66) 43 rfl wc.heap.size 48 i0 (.agg #[.int .i64 0, .int .i64 0, .string ⟨#[]⟩]) 3 32 Tryz.underlying43 hi0 hz0 hz1 hz2 rfl (by decide) (.slice ao2 p cap2) p (tokCells (ts.take p)) (by simp [Act.eval]) (hown.alloc _) ⟨w6.heap.size, 0, none⟩ 1 1 (tokCells [(⟨1, 0, xt⟩ : Tok)]) (by simp [Act.eval]) rfl (one_new _ _) (tok_cells_one _) (by unfold maxLen; omega) (by omega) (hb6.alloc hb6.size _).size (fun v3 w7 hown3 hgrow3 => hK4 _ _ ?_)
          have hb7 : Below wc.heap.size wc w7 := (hb6.alloc hb6.size _).grown hgrow3 (hb6.alloc hb6.size _).size (fun k hk => (hown.lt k hk).1)
          obtain ⟨ao3, cap3, rfl⟩ := own_shape hown3
          refine wpAny_ready (rs := [13]) (by kernel_rfl) (by simp) ?_
          refine AllReady.cons rfl (fun K5 hK5 => ?_) AllReady.nil
          refine step_own rfl (.tmp 67) (.tmp 70) 43 rfl wc.heap.size 48 i0 (.agg #[.int .i64 0, .int .i64 0, .string ⟨#[]⟩]) 3 32 Tryz.underlying43 hi0 hz0 hz1 hz2 rfl (by decide) (.slice ao3 (p + 1) cap3) (p + 1) (tokCells (ts.take p) ++ tokCells [(⟨1, 0, xt⟩ : Tok)]) (by simp [Act.eval, Act.put]) hown3 ad (k - p) (cap - p) (tokCells (ts.drop p)) (by simp [Act.eval, Act.put]) HL.out.2 (HN3.out _ hb7) (tok_cells_one _) (by unfold maxLen; omega) (by omega) hb7.size (fun v4 w8 hown4 hgrow4 => hK5 _ _ ?_)
          have hb8 : Below wc.heap.size wc w8 := hb7.grown hgrow4 hb7.size (fun k hk => (hown3.lt k hk).1)
          rw [show p + 1 + (k - p) = k + 1 by omega, tokCells_append, tokCells_append] at hown4
          obtain ⟨ao4, cap4, rfl⟩ := own_shape hown4
          refine wpAny_take (i := 14) (v := .slice ao4 (k + 1) cap4) rfl (by kernel_rfl) (by kernel_rfl) (by kernel_rfl) (fun _ _ _ h => h) (Or.inl ⟨by rfl, ?_⟩) ?_
          · intro wq
            go_simp
          refine wpAny_done (by kernel_rfl) ?_ _
          go_wp2
          go_meet
          exact ⟨ao4, cap4, rfl, HB5.out.1.trans (hb8.mono HB5.out.1.size), own_toks HK.out.2.2.1.symm (AllMay'.int HK.out.2.2.2.1) hown4⟩
        · skip
          rw [if_pos (by rfl)]
          unfold Oper.wp
          go_simp
          refine hK1 _ _ ?_
          refine wpAny_ready (rs := [3, 8]) (by kernel_rfl) (by simp) ?_
          refine AllReady.cons rfl (fun K2 hK2 => ?_) (AllReady.cons rfl (fun K2 hK2 => ?_) AllReady.nil)
          · skip
            refine step_own rfl (.const (.slice none 0 0)) (.tmp 60) 43 rfl wc.heap.size 48 i0 (.agg #[.int .i64 0, .int .i64 0, .string ⟨#[]⟩]) 3 32 Tryz.underlying43 hi0 hz0 hz1 hz2 rfl (by decide) (.slice none 0 0) 0 [] rfl (World.ownsRow_nil _ _ _ _) ⟨g, 0, none⟩ p cap (tokCells (ts.take p)) (by simp [Act.eval]) HL.out.1 (HN1.out _ hbA) (tok_cells_one _) (by unfold maxLen; omega) (by omega) hbA.size (fun v2 w6 hown hgrow => hK2 _ _ ?_)
            have hb6 : Below wc.heap.size wc w6 := hbA.grown hgrow hbA.size (fun k hk => by cases hk)
            rw [Nat.zero_add, List.nil_append] at hown
            obtain ⟨ao2, cap2, rfl⟩ := own_shape hown
            refine wpAny_ready (rs := [8]) (by kernel_rfl) (by simp) ?_
            refine AllReady.cons rfl (fun K3 hK3 => ?_) AllReady.nil
            rw [if_pos (by rfl)]
            unfold Oper.wp
            go_simp
            refine hK3 _ _ ?_
            refine wpAny_ready (rs := [9]) (by kernel_rfl) (by simp) ?_
            refine AllReady.cons rfl (fun K4 hK4 => ?_) AllReady.nil
            refine step_own rfl (.tmp 61) (.tmp 66) 43 rfl wc.heap.size 48 i0 (.agg #[.int .i64 0, .int .i64 0, .string ⟨#[]⟩]) 3 32 Tryz.underlying43 hi0 hz0 hz1 hz2 rfl (by decide) (.slice ao2 p cap2) p (tokCells (ts.take p)) (by simp [Act.eval]) (hown.alloc _) ⟨w6.heap.size, 0, none⟩ 1 1 (tokCells [(⟨1, 0, xt⟩ : Tok)]) (by simp [Act.eval]) rfl (one_new _ _) (tok_cells_one _) (by unfold maxLen; omega) (by omega) (hb6.alloc hb6.size _).size (fun v3 w7 hown3 hgrow3 => hK4 _ _ ?_)
            have hb7 : Below wc.heap.size wc w7 := (hb6.alloc hb6.size _).grown hgrow3 (hb6.alloc hb6.size _).size (fun k hk => (hown.lt k hk).1)
            obtain ⟨ao3, cap3, rfl⟩ := own_shape hown3
            refine wpAny_ready (rs := [13]) (by kernel_rfl) (by simp) ?_
            refine AllReady.cons rfl (fun K5 hK5 => ?_) AllReady.nil
            refine step_own rfl (.tmp 67) (.tmp 70) 43 rfl wc.heap.size 48 i0 (.agg #[.int .i64 0, .int .i64 0, .string ⟨#[]⟩]) 3 32 Tryz.underlying43 hi0 hz0 hz1 hz2 rfl (by decide) (.slice ao3 (p + 1) cap3) (p + 1) (tokCells (ts.take p) ++ tokCells [(⟨1, 0, xt⟩ : Tok)]) (by simp [Act.eval, Act.put]) hown3 ad (k - p) (cap - p) (tokCells (ts.drop p)) (by simp [Act.eval, Act.put]) HL.out.2 (HN3.out _ hb7) (tok_cells_one _) (by unfold maxLen; omega) (by omega) hb7.size (fun v4 w8 hown4 hgrow4 => hK5 _ _ ?_)
            have hb8 : Below wc.heap.size wc w8 := hb7.grown hgrow4 hb7.size (fun k hk => (hown3.lt k hk).1)
            rw [show p + 1 + (k - p) = k + 1 by omega, tokCells_append, tokCells_append] at hown4
            obtain ⟨ao4, cap4, rfl⟩ := own_shape hown4
            refine wpAny_take (i := 14) (v := .slice ao4 (k + 1) cap4) rfl (by kernel_rfl) (by kernel_rfl) (by kernel_rfl) (fun _ _ _ h => h) (Or.inl ⟨by rfl, ?_⟩) ?_
            · intro wq
              go_simp
            refine wpAny_done (by kernel_rfl) ?_ _
            go_wp2
            go_meet
            exact ⟨ao4, cap4, rfl, HB5.out.1.trans (hb8.mono HB5.out.1.size), own_toks HK.out.2.2.1.symm (AllMay'.int HK.out.2.2.2.1) hown4⟩
          · skip
            rw [if_pos (by rfl)]
            unfold Oper.wp
            go_simp
            refine hK2 _ _ ?_
            refine wpAny_ready (rs := [3]) (by kernel_rfl) (by simp) ?_
            refine AllReady.cons rfl (fun K3 hK3 => ?_) AllReady.nil
            refine step_own rfl (.const (.slice none 0 0)) (.tmp 60) 43 rfl wc.heap.size 48 i0 (.agg #[.int .i64 0, .int .i64 0, .string ⟨#[]⟩]) 3 32 Tryz.underlying43 hi0 hz0 hz1 hz2 rfl (by decide) (.slice none 0 0) 0 [] rfl (World.ownsRow_nil _ _ _ _) ⟨g, 0, none⟩ p cap (tokCells (ts.take p)) (by simp [Act.eval]) HL.out.1 (HN1.out _ hbB) (tok_cells_one _) (by unfold maxLen; omega) (by omega) hbB.size (fun v2 w6 hown hgrow => hK3 _ _ ?_)
            have hb6 : Below wc.heap.size wc w6 := hbB.grown hgrow hbB.size (fun k hk => by cases hk)
            rw [Nat.zero_add, List.nil_append] at hown
            obtain ⟨ao2, cap2, rfl⟩ := own_shape hown
            have hblk := (hgrow.block wc.heap.size (by simp) (by simp [Value.ownBlock])).trans (one_block wc.drew xt)
            refine wpAny_ready (rs := [9]) (by kernel_rfl) (by simp) ?_
            refine AllReady.cons rfl (fun K4 hK4 => ?_) AllReady.nil
            refine step_own rfl (.tmp 61) (.tmp 66) 43 rfl wc.heap.size 48 i0 (.agg #[.int .i64 0, .int .i64 0, .string ⟨#[]⟩]) 3 32 Tryz.underlying43 hi0 hz0 hz1 hz2 rfl (by decide) (.slice ao2 p cap2) p (tokCells (ts.take p)) (by simp [Act.eval, Act.put]) hown ⟨wc.heap.size, 0, none⟩ 1 1 (tokCells [(⟨1, 0, xt⟩ : Tok)]) (by simp [Act.eval, Act.put]) rfl (one_row hblk) (tok_cells_one _) (by unfold maxLen; omega) (by omega) hb6.size (fun v3 w7 hown3 hgrow3 => hK4 _ _ ?_)
            have hb7 : Below wc.heap.size wc w7 := hb6.grown hgrow3 hb6.size (fun k hk => (hown.lt k hk).1)
            obtain ⟨ao3, cap3, rfl⟩ := own_shape hown3
            refine wpAny_ready (rs := [13]) (by kernel_rfl) (by simp) ?_
            refine AllReady.cons rfl (fun K5 hK5 => ?_) AllReady.nil
            refine step_own rfl (.tmp 67) (.tmp 70) 43 rfl wc.heap.size 48 i0 (.agg #[.int .i64 0, .int .i64 0, .string ⟨#[]⟩]) 3 32 Tryz.underlying43 hi0 hz0 hz1 hz2 rfl (by decide) (.slice ao3 (p + 1) cap3) (p + 1) (tokCells (ts.take p) ++ tokCells [(⟨1, 0, xt⟩ : Tok)]) (by simp [Act.eval, Act.put]) hown3 ad (k - p) (cap - p) (tokCells (ts.drop p)) (by simp [Act.eval, Act.put]) HL.out.2 (HN3.out _ hb7) (tok_cells_one _) (by unfold maxLen; omega) (by omega) hb7.size (fun v4 w8 hown4 hgrow4 => hK5 _ _ ?_)
            have hb8 : Below wc.heap.size wc w8 := hb7.grown hgrow4 hb7.size (fun k hk => (hown3.lt k hk).1)
            rw [show p + 1 + (k - p) = k + 1 by omega, tokCells_append, tokCells_append] at hown4
            obtain ⟨ao4, cap4, rfl⟩ := own_shape hown4
            refine wpAny_take (i := 14) (v := .slice ao4 (k + 1) cap4) rfl (by kernel_rfl) (by kernel_rfl) (by kernel_rfl) (fun _ _ _ h => h) (Or.inl ⟨by rfl, ?_⟩) ?_
            · intro wq
              go_simp
            refine wpAny_done (by kernel_rfl) ?_ _
            go_wp2
            go_meet
            exact ⟨ao4, cap4, rfl, HB5.out.1.trans (hb8.mono HB5.out.1.size), own_toks HK.out.2.2.1.symm (AllMay'.int HK.out.2.2.2.1) hown4⟩
      case rest =>
        obtain ⟨ao9, cap9, rfl, HC⟩ := hcut
        go_wp2_with (first
          | (go_at_call 14; (with_reducible refine (cB.out _ _ _ HC).mono ?_); rintro e w9 ⟨x2, rfl, HB7⟩)
          | (refine wpList_store_mid rfl 34 (.tmp 14) (.tmp 75) rfl w9.heap.size 0 (stmCells x2).toArray rfl rfl (init_there _ _) (stm_size _) (stm_one _) ?_; obtain ⟨w10, e10, HB8⟩ := law_var HB7.out.1 x2; rw [e10]; clear e10; have z9 : w10.cell? ⟨w9.heap.size, 0, none⟩ = some (.int .i64 0) := (by have h1 := HB8.out.2.2.2.1 0 _ rfl; have h2 : x2.kind = 0 := HB7.out.2.2.kind.trans Hkd.out; rw [h2] at h1; exact h1)))
        go_ret
        exact ⟨rfl, HB8.out.1⟩

end Go.Proofs.YtgpopopgmmfnmaaGreatDoor
