/- A tree that was told, looked through. -/
import Derived.Test.YtcegkgobkpakiaaFmInner
namespace Go.Proofs.Ytcegkgobkpakiaa
open Go.ChangeShapes Go.WideShapes Go.ChangeAt Go.RowKit

/-- all that is the same at each node -/
structure BelG (F : List Nd) (s : Nat → Nat) (tl : List Tn) (n : Nat) : Prop where
  bfs : Bfs F s
  hn : F.length = n
  ht : tl.length = n
  get : ∀ i (hi : i < F.length) (ht : i < tl.length), tl[i] = toldN F[i] (s i)
  few : n ≤ 1000

/-- what is asked of a node -/
structure BelH (h : Nat) (t : Tr h) (root : Bool) (lo hi : List Int) : Prop where
  wk : Wk h t
  most : deg h t ≤ 4
  least : root = false ∨ 0 < h → 2 ≤ deg h t
  asc : Asc (flat h t)
  some' : ∀ e ∈ flat h t, e.1 ≠ []
  bnd : Bnd lo hi (flat h t)
  few : (flat h t).length ≤ 1000

theorem BelH.kid {h : Nat} {ks : List (Tr h)} {root : Bool} {lo hi : List Int} (H : BelH (h + 1) ks root lo hi) {c : Nat} (hc : c < ks.length) {lo2 hi2 : List Int} (h1 : lo2 = lo ∨ lo2 = leastK h ks[c]) (h2 : hi2 = hi ∨ ∃ hc2 : c + 1 < ks.length, hi2 = leastK h ks[c + 1]) : BelH h ks[c] false lo2 hi2 := by
  have hw := (Wk_node _).1 H.wk
  have hk := hw _ (List.getElem_mem hc)
  have ha : Asc (ks.flatMap (flat h)) := H.asc
  obtain ⟨A, B, e, -⟩ := flat_mid hc
  have hf : (ks.flatMap (flat h)).length ≤ 1000 := H.few
  rw [e, List.length_append, List.length_append] at hf
  exact ⟨hk.2.2, hk.2.1, fun _ => hk.1, kid_asc hc ha, fun x hx => H.some' x (kid_mem hc x hx), kid_bnd hw ha H.bnd hc h1 h2, by omega⟩

theorem least_some {h : Nat} {t : Tr h} (hw : Wn h t) (hs : ∀ e ∈ flat h t, e.1 ≠ []) : leastK h t ≠ [] := by
  obtain ⟨y, hy, e⟩ := least_mem (flat_pos h t (by have := hw.1; omega) hw.2.2)
  rw [← e]
  exact hs y hy

/-- the contract for trees of one height -/
def BelC (F : List Nd) (s : Nat → Nat) (tl : List Tn) (gb n : Nat) (la : Option Addr) (lc h : Nat) : Prop :=
  ∀ (t : Tr h) (i : Nat) (hi : i < F.length), F[i] = ⟨h, t⟩ → ∀ (root : Bool) (lo hi' : List Int), BelH h t root lo hi' → ∀ u : Nat → Int, (∀ j, Und s n i j → u j = 0) → ∀ (loa hia : Option Addr) (lol loc hil hic : Nat) (W : World), Lies kTn (fun b => b < gb) W la lc tl → gb < W.heap.size → Used W gb n u → lol = lo.length → IsBody W (fun b => b < gb) (.slice loa lol loc) lo → hil = hi'.length → IsBody W (fun b => b < gb) (.slice hia hil hic) hi' →
    Calls Try.prog 9 #[.slice la n lc, .int .i64 i, .bool root, .slice (some ⟨gb, 0, none⟩) n n, .slice loa lol loc, .slice hia hil hic] W fun e w' => BelPost gb n s i h (flat h t) u W e w'

theorem belC_zero {F : List Nd} {s : Nat → Nat} {tl : List Tn} {n : Nat} (G : BelG F s tl n) (gb : Nat) (la : Option Addr) (lc : Nat) : BelC F s tl gb n la lc 0 := by
  intro t i hi he root lo hi' H u hu loa hia lol loc hil hic W hL hg hU e1 hlo e2 hhi
  subst e1 e2
  change List Ent at t
  have hit : i < tl.length := by rw [G.ht, ← G.hn]; exact hi
  obtain ⟨_, _, q1, o1, -⟩ := hlo
  obtain ⟨_, _, q2, o2, -⟩ := hhi
  simp only [Value.slice.injEq, true_and] at q1 q2
  obtain ⟨rfl, rfl⟩ := q1
  obtain ⟨rfl, rfl⟩ := q2
  refine (below_leaf tl gb n la lc i t root hit (by rw [G.get i hi hit, he]; rfl) G.ht H.most (fun e => H.least (.inl e)) lo hi' H.bnd loa hia loc hic W hL o1 o2).mono ?_
  rintro e w' ⟨a, m, c, rfl, h1, h2, h3⟩
  refine ⟨a, m, c, rfl, h1, h2.move (Kept.of_below (Below.refl _ _)) (fun b _ hb => .inl hb), ⟨u, hU.move (h3.block gb hg), fun j hj => ?_, fun _ _ => rfl⟩, below_grownBy h3⟩
  rw [← G.hn] at hj
  exact absurd hj (leaf_und G.bfs hi he j)

end Go.Proofs.Ytcegkgobkpakiaa

/- A tree that was told, looked through: a node with kids. -/
namespace Go.Proofs.Ytcegkgobkpakiaa
open Go.ChangeShapes Go.WideShapes Go.ChangeAt Go.RowKit

set_option maxRecDepth 100000 in
set_option maxHeartbeats 32000000 in
theorem belC_succ {F : List Nd} {s : Nat → Nat} {tl : List Tn} {n : Nat} (G : BelG F s tl n) (gb : Nat) (la : Option Addr) (lc h : Nat) (ih : BelC F s tl gb n la lc h) : BelC F s tl gb n la lc (h + 1) := by
  intro t i hi he root lo hi' H u hu loa hia lol loc hil hic W hL hg hU e1 hlo e2 hhi
  change List (Tr h) at t
  obtain ⟨ks, hks⟩ : ∃ ks : List (Tr h), ks = t := ⟨_, rfl⟩
  subst hks
  have hit : i < tl.length := by rw [G.ht, ← G.hn]; exact hi
  have hiF := hi
  have hno := G.few
  obtain ⟨b4, off, rfl, hb4, hok4, cs, hr, hc⟩ := hL.at hit
  rw [G.get i hi hit, he, told_inner] at hr
  obtain ⟨ea, ec, ka, kc, ia, ic, rfl, -, lK, lI⟩ := hr
  obtain ⟨d, hd⟩ : ∃ d, d = ks.length := ⟨_, rfl⟩
  obtain ⟨kn, hkn⟩ : ∃ kn, kn = ((ks.drop 1).map (leastK h)).length := ⟨_, rfl⟩
  have hd2 : 2 ≤ d := by have : 2 ≤ ks.length := H.least (.inr (by omega)); omega
  have hd4 : d ≤ 4 := by have : ks.length ≤ 4 := H.most; omega
  have hkd : kn + 1 = d := by rw [hkn, List.length_map, List.length_drop]; omega
  have d0 : W.cell? ⟨b4, off + i * 3, none⟩ = some (.slice ea 0 ec) := by simpa using hc 0 _ rfl
  have d1 : W.cell? ⟨b4, off + i * 3 + 1, none⟩ = some (.slice ka kn kc) := by rw [hkn]; exact hc 1 _ rfl
  have d2 : W.cell? ⟨b4, off + i * 3 + 2, none⟩ = some (.slice ia d ic) := by
    have := hc 2 _ rfl
    rw [List.length_map, List.length_range, ← hd] at this
    exact this
  obtain ⟨D, hD⟩ : ∃ D : Int, D = ((h + 1 : Nat) : Int) := ⟨_, rfl⟩
  have hDb : 0 < D ∧ D < 2000 := by
    have h1 := flat_many (h + 1) ks (H.least (.inr (by omega))) H.wk
    have h2 := H.few
    have h3 := @Nat.lt_two_pow_self (h + 1 + 1)
    omega
  obtain ⟨hD0, hD1⟩ := hDb
  have hst : s (i + 1) = s i + d := by rw [G.bfs.step i hi, he, kids_inner, List.length_map, hd]
  have HG : Hid (BelC F s tl gb n (some ⟨b4, off, none⟩) lc h ∧ BelH (h + 1) ks root lo hi' ∧ Lies kTn (fun b => b < gb) W (some ⟨b4, off, none⟩) lc tl ∧ (∀ j, Und s n i j → u j = 0)) := ⟨ih, H, hL, hu⟩
  have HE : Hid (i < F.length ∧ (∀ hi : i < F.length, F[i] = ⟨h + 1, ks⟩) ∧ BelG F s tl n ∧ s (i + 1) = s i + d ∧ d = ks.length ∧ kn = ((ks.drop 1).map (leastK h)).length) := ⟨hi, fun _ => he, G, hst, hd, hkn⟩
  have HLo : Hid (lol = lo.length ∧ IsBody W (fun b => b < gb) (.slice loa lol loc) lo) := ⟨e1, hlo⟩
  have HHi : Hid (hil = hi'.length ∧ IsBody W (fun b => b < gb) (.slice hia hil hic) hi') := ⟨e2, hhi⟩
  have HK := put_by (And.intro lK lI)
  have HDD := put_by hD
  have H0 : Hid (BelI gb n s i 0 u W (.slice ea 0 ec) (.slice ka kn kc) (.slice ia d ic) (.slice none 0 0) [] (W.alloc (.cells #[.slice ea 0 ec, .slice ka kn kc, .slice ia d ic] 60))) := belI_new _ _ _ _ hg hU
  have ii : (i : Int) < (n : Int) := by have := G.hn; omega
  have hgW : gb < W.heap.size := hg
  have z1 : ¬ (4 : Int) < (d : Int) := by omega
  have z2 : ((d : Int) == 0) = false := by rw [beq_eq_false_iff_ne]; omega
  have z3 : ¬ (d : Int) < 2 := by omega
  have z4 : IntKind.i64.wrap ((d : Int) - 1) = (kn : Int) := by rw [IntKind.wrap_i64]; omega
  have z5 : IntKind.i64.wrap (D + 1) = D + 1 := by rw [IntKind.wrap_i64]; omega
  generalize hpost : (fun e w' => BelPost gb n s i (h + 1) (flat (h + 1) ks) u W e w') = R
  have HR := put_by hpost
  clear hpost hc lK lI hlo hhi e1 e2 hu hU hL ih H he hi hD hkn hd hst hit hiF G
  go_enter Try.func9, Try.ntmps9
  go_wp2
  generalize W.alloc (.cells #[.slice ea 0 ec, .slice ka kn kc, .slice ia d ic] 60) = W1 at H0 ⊢
  go_loopw [17, 18, 19] (fun ov dv iv wr => ∃ (c : Nat) (oa : Option Addr) (om oc : Nat) (dp : Int), c ≤ d ∧ iv = .int .i64 c ∧ ov = .slice oa om oc ∧ dv = .int .i64 dp ∧ Hid ((0 < c → dp = D) ∧ BelI gb n s i c u W (.slice ea 0 ec) (.slice ka kn kc) (.slice ia d ic) (.slice oa om oc) ((ks.take c).flatMap (flat h)) wr)) (fun _ _ iv _ => d - (intOf iv).toNat)
  case atStart => exact ⟨0, none, 0, 0, 0, Nat.zero_le _, rfl, rfl, rfl, fun h => absurd h (Nat.not_lt_zero _), H0.out⟩
  case round =>
    clear H0
    obtain ⟨c, oa, om, oc, dp, hcd, rfl, rfl, rfl, HI⟩ := hrel
    by_cases hcl : c < d
    · obtain ⟨kk, hkk⟩ : ∃ kk, kk = s i + c := ⟨_, rfl⟩
      obtain ⟨hiF, heF, G, hst, hds, hkn⟩ := HE.out
      have hck : c < ks.length := by omega
      have hgt := G.bfs.gt i hiF
      have hkF : s i + c < F.length := G.bfs.below hiF (by omega)
      have hkc : c < (kidsOf F[i]).length := by rw [heF hiF, kids_inner, List.length_map]; exact hck
      have hFk : F[s i + c] = ⟨h, ks[c]⟩ := by
        have h1 := G.bfs.kid i hiF c hkc
        rw [List.getElem?_eq_getElem hkF] at h1
        have h2 := Option.some.inj h1
        rw [h2]
        have h3 : ∀ (y : Nd) (hy : c < (kidsOf y).length), y = ⟨h + 1, ks⟩ → (kidsOf y)[c] = ⟨h, ks[c]⟩ := fun y hy e => by
          subst e
          exact List.getElem_map _
        exact h3 _ hkc (heF hiF)
      obtain ⟨uc, hu1, hu2⟩ := HI.out.2.used
      rw [← G.hn] at hu2
      have hnx := metU_next G.bfs hiF hkc (by rw [G.hn]; exact HG.out.2.2.2) hu2
      have u0 : wr.cell? ⟨gb, kk, none⟩ = some (.int .i64 0) := by rw [hkk, hu1.cell _ (by rw [← G.hn]; exact hkF), hnx.1]
      have u1 : wr.frozen? ⟨gb, kk, none⟩ = false := by rw [hkk]; exact hu1.frozen _ (by rw [← G.hn]; exact hkF)
      have hG0 := HI.out.2.grown
      have hkp : ∀ V, W.grownBy V (some gb) → Kept (fun b => b < gb) W V := fun V hV => kept_grown hV (fun b hb => by omega)
      have hci : c < ((List.range ks.length).map (fun j => ((s i + j : Nat) : Int))).length := by rw [List.length_map, List.length_range]; exact hck
      obtain ⟨ib, ioff, rfl, hib, hok5, hi5⟩ := nums_at HK.out.2 hci
      have k0 : wr.cell? ⟨ib, ioff + c, none⟩ = some (.int .i64 (kk : Int)) := by
        have h1 := (World.cell?_of_block (w := W) (a := ⟨ib, ioff + c, none⟩) ((hkp wr hG0).2 ib hib hok5)).trans hi5
        rw [List.getElem_map, List.getElem_range, ← hkk] at h1
        exact h1
      have hV1g := grownBy_set (W := wr) gb kk (.int .i64 1)
      have hV1 := grownBy_trans hG0 hV1g (fun r e => .inr (Option.some.inj e).symm)
      obtain ⟨y3, y4, y5, -, -, -⟩ := id (HI.out.2.called hV1g).2.1
      have hU1 := hu1.stored kk (by rw [← G.hn, hkk]; exact hkF) 1
      have HV : Hid (wr.grownBy (wr.setCell ⟨gb, kk, none⟩ (.int .i64 1)) (some gb) ∧ W.grownBy (wr.setCell ⟨gb, kk, none⟩ (.int .i64 1)) (some gb) ∧ Used (wr.setCell ⟨gb, kk, none⟩ (.int .i64 1)) gb n (fun j => if j = kk then 1 else uc j) ∧ MetU s F.length i c u uc) := ⟨hV1g, hV1, hU1, hu2⟩
      obtain ⟨y0, y1, y2, -, -, -⟩ := id HI.out.2.var
      have ik : (c : Int) < (d : Int) := by omega
      have i1 : ¬ (kk : Int) ≤ (i : Int) := by omega
      have i2 : ¬ (n : Int) ≤ (kk : Int) := by have := G.hn; omega
      have i3 : (kk : Int) < (n : Int) := by have := G.hn; omega
      have HKK : Hid (kk = s i + c ∧ s i + c < F.length ∧ (∀ hk : s i + c < F.length, F[s i + c] = ⟨h, ks[c]⟩) ∧ (∀ j, Und s n (s i + c) j → (if j = s i + c then (1 : Int) else uc j) = 0)) := ⟨hkk, hkF, fun _ => hFk, by rw [← G.hn]; exact hnx.2⟩
      clear hkk hkF hFk hnx hu1 hu2 hG0 hci hi5 hV1g hV1 hU1 hkc hgt hst hds heF hkp hkn
      go_upto_region 27 with (fail)
      generalize wr.setCell ⟨gb, kk, none⟩ (.int .i64 1) = V1 at HV y3 y4 y5 ⊢
      obtain ⟨kb, koff, -, -, rfl, -, -, -, -⟩ := keys_at HK.out.1 (k := 0) (by have h1 := HE.out.2.2.2.2.2; rw [← h1]; omega)
      have hkeys : Hid (∀ p (hp : p < kn) (hp2 : p + 1 < ks.length), ∃ (x : Option Addr) (y : Nat), V1.cell? ⟨kb, koff + p, none⟩ = some (.slice x (leastK h ks[p + 1]).length y) ∧ IsBody V1 (fun b => b < gb) (.slice x (leastK h ks[p + 1]).length y) (leastK h ks[p + 1]) ∧ (((leastK h ks[p + 1]).length : Int) == 0) = false) := fun p hp hp2 => by
        have hpl : p < ((ks.drop 1).map (leastK h)).length := by rw [← HE.out.2.2.2.2.2]; exact hp
        obtain ⟨b, o, x, y, e, hb, ho, hcl, hbd⟩ := keys_at HK.out.1 hpl
        cases e
        have hg2 : ((ks.drop 1).map (leastK h))[p] = leastK h ks[p + 1] := by
          rw [List.getElem_map, List.getElem_drop]
          congr 2
          omega
        have hkp := kept_grown (ok := fun b => b < gb) HV.out.2.1 (fun b hb => by omega)
        rw [hg2] at hcl hbd
        refine ⟨x, y, (World.cell?_of_block (w := W) (a := ⟨kb, koff + p, none⟩) (hkp.2 kb hb ho)).trans hcl, hbd.move hkp (fun _ _ h => h), ?_⟩
        have hne := least_some ((Wk_node _).1 HG.out.2.1.wk _ (List.getElem_mem hp2)) (fun e he => HG.out.2.1.some' e (kid_mem hp2 e he))
        rw [beq_eq_false_iff_ne]
        have := List.length_pos_iff.2 hne
        omega
      have hA : Hid (∃ (aa : Option Addr) (al ac : Nat) (lo2 : List Int), (lo2 = lo ∨ lo2 = leastK h ks[c]) ∧ al = lo2.length ∧ IsBody V1 (fun b => b < gb) (.slice aa al ac) lo2 ∧ ((¬ (0 : Int) < (c : Int) ∧ aa = loa ∧ ac = loc ∧ al = lol ∧ lol = 0) ∨ (¬ (0 : Int) < (c : Int) ∧ aa = loa ∧ ac = loc ∧ al = lol ∧ ((lol : Int) == 0) = false) ∨ ((0 : Int) < (c : Int) ∧ dp = D ∧ ∃ p : Nat, IntKind.i64.wrap ((c : Int) - 1) = (p : Int) ∧ (p : Int) < (kn : Int) ∧ V1.cell? ⟨kb, koff + p, none⟩ = some (.slice aa al ac) ∧ ((al : Int) == 0) = false))) := by
        have hkp := kept_grown (ok := fun b => b < gb) HV.out.2.1 (fun b hb => by omega)
        by_cases hc0 : c = 0
        · refine ⟨loa, lol, loc, lo, .inl rfl, HLo.out.1, HLo.out.2.move hkp (fun _ _ h => h), ?_⟩
          by_cases hl0 : lol = 0
          · exact .inl ⟨by omega, rfl, rfl, rfl, hl0⟩
          · exact .inr (.inl ⟨by omega, rfl, rfl, rfl, by rw [beq_eq_false_iff_ne]; omega⟩)
        · obtain ⟨p, hp⟩ : ∃ p, c = p + 1 := ⟨c - 1, by omega⟩
          subst hp
          obtain ⟨x, y, h1, h2, h3⟩ := hkeys.out p (by omega) hck
          exact ⟨x, _, y, _, .inr rfl, rfl, h2, .inr (.inr ⟨by omega, HI.out.1 (by omega), p, by rw [IntKind.wrap_i64]; omega, by omega, h1, h3⟩)⟩
      have hBs : Hid (∃ (ba : Option Addr) (bl bc : Nat) (hi2 : List Int), (hi2 = hi' ∨ ∃ hc2 : c + 1 < ks.length, hi2 = leastK h ks[c + 1]) ∧ bl = hi2.length ∧ IsBody V1 (fun b => b < gb) (.slice ba bl bc) hi2 ∧ ((¬ (c : Int) < (kn : Int) ∧ ba = hia ∧ bc = hic ∧ bl = hil ∧ hil = 0) ∨ (¬ (c : Int) < (kn : Int) ∧ ba = hia ∧ bc = hic ∧ bl = hil ∧ ((hil : Int) == 0) = false) ∨ ((c : Int) < (kn : Int) ∧ V1.cell? ⟨kb, koff + c, none⟩ = some (.slice ba bl bc) ∧ ((bl : Int) == 0) = false))) := by
        have hkp := kept_grown (ok := fun b => b < gb) HV.out.2.1 (fun b hb => by omega)
        by_cases hc0 : c < kn
        · have hc2 : c + 1 < ks.length := by have := HE.out.2.2.2.2.1; omega
          obtain ⟨x, y, h1, h2, h3⟩ := hkeys.out c hc0 hc2
          exact ⟨x, _, y, _, .inr ⟨hc2, rfl⟩, rfl, h2, .inr (.inr ⟨by omega, h1, h3⟩)⟩
        · refine ⟨hia, hil, hic, hi', .inl rfl, HHi.out.1, HHi.out.2.move hkp (fun _ _ h => h), ?_⟩
          by_cases hl0 : hil = 0
          · exact .inl ⟨by omega, rfl, rfl, rfl, hl0⟩
          · exact .inr (.inl ⟨by omega, rfl, rfl, rfl, by rw [beq_eq_false_iff_ne]; omega⟩)
      obtain ⟨aa, al, ac, lo2, ha1, ha2, ha3, ha4⟩ := hA.out
      obtain ⟨ba, bl, bc, hi2, hb1, hb2, hb3, hb5⟩ := hBs.out
      have cR : Hid (Calls Try.prog 9 #[.slice (some ⟨b4, off, none⟩) n lc, .int .i64 kk, .bool false, .slice (some ⟨gb, 0, none⟩) n n, .slice aa al ac, .slice ba bl bc] V1 fun e w2 => ∃ (a2 : Option Addr) (m2 c2 : Nat), e = .returned (.tuple #[.slice a2 m2 c2, .int .i64 D]) ∧ Hid (m2 = (flat h ks[c]).length ∧ Lies kEnt (fun b => b < gb ∨ V1.heap.size ≤ b) w2 a2 c2 (flat h ks[c]) ∧ Rows kEnt (fun b => b < gb ∨ W.heap.size + 1 ≤ b) w2 (W.heap.size + 1) 62 (.slice oa om oc) ((ks.take c).flatMap (flat h)) ∧ (∀ b, b < w2.heap.size → (b < gb ∨ V1.heap.size ≤ b) → (Value.slice oa om oc).ownBlock ≠ some b → (b < gb ∨ W.heap.size + 1 ≤ b)) ∧ (∀ b, b < w2.heap.size → (b < gb ∨ V1.heap.size ≤ b) → (Value.slice oa om oc).ownBlock ≠ some b) ∧ W.heap.size + 1 ≤ w2.heap.size ∧ (∀ v' w3, Rows kEnt (fun b => b < gb ∨ W.heap.size + 1 ≤ b) w3 (W.heap.size + 1) 62 v' ((ks.take c).flatMap (flat h) ++ flat h ks[c]) → w2.grownBy w3 (Value.slice oa om oc).ownBlock → BelI gb n s i (c + 1) u W (.slice ea 0 ec) (.slice (some ⟨kb, koff, none⟩) kn kc) (.slice (some ⟨ib, ioff, none⟩) d ic) v' ((ks.take (c + 1)).flatMap (flat h)) w3))) := by
        obtain ⟨hkk, hkF, hFk, hz0⟩ := HKK.out
        subst hkk
        obtain ⟨v1, v2, v3, v4⟩ := HV.out
        have hkp := kept_grown (ok := fun b => b < gb) v2 (fun b hb => by omega)
        have hs1 := v1.size
        have hvl := HI.out.2.var.lt
        refine (HG.out.1 ks[c] (s i + c) hkF (hFk hkF) false lo2 hi2 (HG.out.2.1.kid hck ha1 hb1) _ hz0 aa ba al ac bl bc V1 (HG.out.2.2.1.move hkp (fun _ _ h => h)) (Nat.lt_of_lt_of_le hgW v2.size) v3 ha2 ha3 hb2 hb3).mono ?_
        rintro e w2 ⟨a2, m2, c2, rfl, p1, p2, ⟨u', p3, p4, p5⟩, p6⟩
        have hG2 := grownBy_trans v1 p6 (fun r e => .inr (Option.some.inj e).symm)
        obtain ⟨g1, g2, g3⟩ := HI.out.2.called hG2
        have hro := rows_lt HI.out.2.rows
        refine ⟨a2, m2, c2, by rw [HDD.out], p1, p2, g3, fun b _ hb _ => hb.elim .inl (fun h => .inr (by omega)), fun b _ hb e => ?_, by have := p6.size; omega, fun v' w3 r1 r2 => ?_⟩
        · have := hro b e
          rcases hb with hb | hb <;> omega
        · have hm : MetU s n i (c + 1) u u' := by
            rw [← HE.out.2.2.1.hn] at p4 p5 ⊢
            exact metU_step v4 p4 p5
          have e1 : (ks.take (c + 1)).flatMap (flat h) = (ks.take c).flatMap (flat h) ++ flat h ks[c] := by
            rw [List.take_succ_eq_append_getElem hck, List.flatMap_append, List.flatMap_cons, List.flatMap_nil, List.append_nil]
          rw [e1]
          exact HI.out.2.next hG2 p3 hm r1 r2
      have hfl : ((ks.take c).flatMap (flat h)).length + (flat h ks[c]).length ≤ 1000 := by
        have h1 : (ks.flatMap (flat h)).length ≤ 1000 := HG.out.2.1.few
        have h2 : ks = ks.take c ++ ks[c] :: ks.drop (c + 1) := by rw [← List.drop_eq_getElem_cons hck, List.take_append_drop]
        have h3 := congrArg (fun l => (List.flatMap (flat h) l).length) h2
        simp only [List.flatMap_append, List.flatMap_cons, List.length_append] at h3
        omega
      have HFL := put_by hfl
      generalize (ks.take c).flatMap (flat h) = fl at cR HFL
      generalize flat h ks[c] = fl2 at cR HFL
      clear hfl ha1 ha2 ha3 hb1 hb2 hb3 hA hBs hkeys HV HKK HI u0 u1 k0 y0 y1 y2
      have hDn : ¬ D < 0 := by omega
      rcases ha4 with ⟨g1, rfl, rfl, rfl, rfl⟩ | ⟨g1, rfl, rfl, rfl, g2⟩ | ⟨g1, rfl, p, g2, g3, g4, g5⟩
      all_goals
        rcases hb5 with ⟨g6, rfl, rfl, rfl, rfl⟩ | ⟨g6, rfl, rfl, rfl, g7⟩ | ⟨g6, g7, g8⟩
        all_goals
          first
            | (exfalso; omega)
            | (
              go_wp2_with (first
                | (go_at_call 9; refine cR.out.mono ?_; clear cR; rintro e w2 ⟨a2, m2, c2, rfl, H2⟩)
                | (at_builtin; refine wpList_append_rows (K := kEnt) (ok := fun b => b < gb ∨ W.heap.size + 1 ≤ b) (ok2 := fun b => b < gb ∨ V1.heap.size ≤ b) eltE rfl (.tmp 203) (.tmp 204) rfl (W.heap.size + 1) (.slice oa om oc) fl rfl H2.out.2.2.1 a2 c2 m2 fl2 rfl H2.out.1 H2.out.2.1 H2.out.2.2.2.1 H2.out.2.2.2.2.1 (by rw [H2.out.1]; have := HFL.out; omega) (by decide) H2.out.2.2.2.2.2.1 ?_; intro v' w3 r1 r2 r3; refine hidGoal ?_))
              have hJ := H2.out.2.2.2.2.2.2 v' w3 r1 r2
              obtain ⟨va, vc, hv'⟩ := rows_form r1
              generalize (fl ++ fl2).length = vn at hv'
              subst hv'
              have HJ := put_by hJ
              clear hJ r1 r2 r3 H2
              unfold Hid
              go_wp2
              go_roundw
              case rel => exact ⟨c + 1, va, vn, vc, _, by omega, by go_num, rfl, rfl, fun _ => rfl, HJ.out⟩
              case measure => simp [intOf]; omega)
    · obtain rfl : c = d := by omega
      have H9 : Hid (dp = D ∧ R (.returned (.tuple #[.slice oa om oc, .int .i64 (D + 1)])) wr) := by
        obtain ⟨h1, h2⟩ := HI.out
        refine ⟨h1 (by omega), ?_⟩
        rw [← HR.out]
        rw [List.take_of_length_le (by rw [← HE.out.2.2.2.2.1]; exact Nat.le_refl _)] at h2
        obtain ⟨a', c', e', l', -⟩ := h2.rows.lies (fun b e => .inr (rows_lt h2.rows b e).1)
        simp only [Value.slice.injEq] at e'
        obtain ⟨rfl, rfl, rfl⟩ := e'
        obtain ⟨uc, hu1, hu2⟩ := h2.used
        have hall : ∀ j, Met s n i c j ↔ Und s n i j := fun j => by
          have h3 := met_all HE.out.2.2.1.bfs HE.out.1 j
          rw [HE.out.2.1 HE.out.1, kids_inner, List.length_map, ← HE.out.2.2.2.2.1, HE.out.2.2.1.hn] at h3
          exact h3
        refine ⟨oa, _, oc, ?_, rfl, l'.move (Kept.of_below (Below.refl _ _)) (fun b _ hb => hb.elim .inl (fun h => .inr (by omega))), ⟨uc, hu1, fun j hj => hu2.1 j ((hall j).2 hj), fun j hj => hu2.2 j (fun hm => hj ((hall j).1 hm))⟩, h2.grown⟩
        rw [HDD.out]
        rfl
      obtain ⟨rfl, hR9⟩ := H9.out
      have H10 := put_by hR9
      clear hR9 H9
      obtain ⟨y0, y1, y2, -, -, -⟩ := id HI.out.2.var
      have ik : ¬ (c : Int) < (c : Int) := by omega
      clear HI
      go_wp2
      exact H10.out

end Go.Proofs.Ytcegkgobkpakiaa
