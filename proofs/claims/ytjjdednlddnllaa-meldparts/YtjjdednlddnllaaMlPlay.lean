/- An entry is played: play. -/
import Derived.Test.YtjjdednlddnllaaMlPlayP
import Derived.Test.YtjjdednlddnllaaMlJudge
namespace Go.Proofs.Ytjjdednlddnllaa
open Go.ChangeShapes Go.WideShapes Go.ChangeAt Go.RowKit

set_option maxRecDepth 100000 in
set_option maxHeartbeats 1500000 in
theorem play_any (w0 wb : World) (vb vc : Value) (P : Nat) (s : Sta) (ca : Option Addr) (cn cc : Nat) (da : Option Addr) (dn dc : Nat) (w : World) (hI : PlI w0 wb vb vc P s ca cn cc da dn dc w) (o : Option Itt) (xs : List Int) (ho : TellsI xs o) (a : Option Addr) (c : Nat) (hx : Octs w0 a c xs) (hp : Ples a c) (hl : ∀ ad, a = some ad → ad.block < w0.heap.size) (hpos : 0 ≤ s.pos ∧ s.pos ≤ 1048576) (hfew : (s.cells.length + 400) * 64 ≤ 140737488351232) (hfd : s.dones.length ≤ 2000000) :
    Calls Try.prog 33 #[.pointer (some ⟨P, 0, none⟩), .slice a xs.length c] w fun e w' => PyPost w0 wb vb vc P s o e w' := by
  generalize hpost : (fun e w' => PyPost w0 wb vb vc P s o e w') = Q
  have HO : Hid (∀ w', ¬ Q .outgrown w') := fun w' hh => by
    rw [← hpost] at hh
    obtain ⟨_, _, _, _, _, _, h, -⟩ := hh
    cases h
  have HP : Hid (∀ e w', PyPost w0 wb vb vc P s o e w' → Q e w') := fun e w' h => by rw [← hpost]; exact h
  clear hpost
  have H1 := put_by (hI.next (s.pos + 1))
  have c1 := put_by (Decode_any a c xs (w.setCell ⟨P, 0, none⟩ (.int .i64 (s.pos + 1))) (hx.later H1.out.below) hp (fun ad e => Nat.lt_of_lt_of_le (hl ad e) H1.out.below.size))
  obtain ⟨x0, y0⟩ := hI.var 0 _ rfl
  have iw : IntKind.i64.wrap (s.pos + 1) = s.pos + 1 := by rw [IntKind.wrap_i64]; omega
  have HT := put_by ho
  have HF := put_by (And.intro hfew hfd)
  clear hI hx hp hl ho hfew hfd
  generalize xs.length = m at c1 ⊢
  obtain ⟨pos, cs, ds⟩ := s
  simp only at x0 iw hpos H1 c1 HF
  go_enter Try.func33, Try.ntmps33
  go_upto_region 2 with (fail)
  clear x0 y0
  generalize w.setCell ⟨P, 0, none⟩ (.int .i64 (pos + 1)) = W1 at H1 c1 ⊢
  go_upto_region 3 with (first
    | (go_at_call 51; (with_reducible refine c1.out.mono ?_); clear c1; rintro e w2 ⟨C, N, B, ra, rn, rc, wa, wn, wc, code, rfl, hb, hx⟩; have H2 := put_by hb; have HX := put_by hx; clear hb hx))
  have hb2 := (Below.refl w2.heap.size w2).alloc (Nat.le_refl _) (.cells #[.int .i64 C, .int .i64 N, .int .i64 B, .slice ra rn rc, .slice wa wn wc] 77)
  have H3 := put_by ((H1.out.later H2.out).later hb2)
  have HV := put_by (Cls.new w2 [.int .i64 C, .int .i64 N, .int .i64 B, .slice ra rn rc, .slice wa wn wc] 77)
  have HX3 : Hid ((∃ (rs : List Ent) (ws : List Wt), rn = rs.length ∧ wn = ws.length ∧ ItIs (fun b => W1.heap.size ≤ b) (w2.alloc (.cells #[.int .i64 C, .int .i64 N, .int .i64 B, .slice ra rn rc, .slice wa wn wc] 77)) rs ws ra rc wa wc ∧ DecCode xs ⟨C, N, B, rs, ws⟩ code) ∧ (P < w2.heap.size ∧ w2.heap.size < (w2.alloc (.cells #[.int .i64 C, .int .i64 N, .int .i64 B, .slice ra rn rc, .slice wa wn wc] 77)).heap.size ∧ ∀ b, ((Value.slice da dn dc).ownBlock = some b ∨ vc.ownBlock = some b) → b < W1.heap.size) ∧ P < W1.heap.size) := by
    obtain ⟨rs, ws, g1, g2, g3, g4⟩ := HX.out
    exact ⟨⟨rs, ws, g1, g2, g3.later hb2, g4⟩, ⟨(H1.out.later H2.out).lt, by simp, fun b e => e.elim (fun e => (rows_lt H1.out.dones b e).2) (H1.out.vlt b)⟩, H1.out.lt⟩
  clear H1 H2 HX hb2
  generalize w2.heap.size = X at HV HX3 ⊢
  generalize w2.alloc (.cells #[.int .i64 C, .int .i64 N, .int .i64 B, .slice ra rn rc, .slice wa wn wc] _) = W3 at H3 HV HX3 ⊢
  obtain ⟨⟨rs, ws, hrn, hwn, hit, hdc⟩, ⟨hPX, hXW, hown⟩, hPW⟩ := HX3.out
  rcases hdc with ⟨hd, rfl⟩ | ⟨hd, rfl, -⟩
  · obtain rfl : some ⟨C, N, B, rs, ws⟩ = o := TellsI.one (o := some _) hd HT.out
    have HI3 := put_by (And.intro hrn (And.intro hwn hit))
    have HD := put_by hd
    have HOW := put_by hown
    clear hrn hwn hit hd HX3 hown HT
    obtain ⟨v0, -⟩ := HV.out 0 _ rfl
    obtain ⟨v1, -⟩ := HV.out 1 _ rfl
    obtain ⟨p0, -⟩ := H3.out.var 0 _ rfl
    have hPX2 : X ≠ P := by omega
    have hPX3 : P ≠ X := by omega
    go_upto_region 5 with (fail)
    go_region_held3 (fun V => V.cell? ⟨X, 0, none⟩ = some (.int .i64 C) ∧ V.cell? ⟨X, 1, none⟩ = some (.int .i64 N) ∧ V.cell? ⟨P, 0, none⟩ = some (.int .i64 (pos + 1))) (go_keep) (fail)
    have hb4 : Below W3.heap.size W3 (W3.alloc (.cells #[.int .i64 C, .int .i64 N, .int .i64 (pos + 1), .bool false] 57)).drew := ((Below.refl W3.heap.size W3).alloc (Nat.le_refl _) _).drew
    have H4 := put_by (H3.out.later hb4)
    have HV4 := put_by (HV.out.later hb4)
    have HD4 := put_by ((Cls.new W3 [.int .i64 C, .int .i64 N, .int .i64 (pos + 1), .bool false] 57).later (Below.refl _ _).drew)
    have HZ4 : Hid (W3.heap.size < (W3.alloc (.cells #[.int .i64 C, .int .i64 N, .int .i64 (pos + 1), .bool false] 57)).drew.heap.size) := by simp [Hid]
    have HI4 : Hid (rn = rs.length ∧ wn = ws.length ∧ ItIs (fun b => W1.heap.size ≤ b) (W3.alloc (.cells #[.int .i64 C, .int .i64 N, .int .i64 (pos + 1), .bool false] 57)).drew rs ws ra rc wa wc) := ⟨HI3.out.1, HI3.out.2.1, HI3.out.2.2.later hb4⟩
    have HS4 : Hid (∀ V, Below W3.heap.size (W3.alloc (.cells #[.int .i64 C, .int .i64 N, .int .i64 (pos + 1), .bool false] 57)).drew V → PlI w0 wb vb vc P ⟨pos + 1, cs, ds⟩ ca cn cc da dn dc V ∧ Cls V X [.int .i64 C, .int .i64 N, .int .i64 B, .slice ra rn rc, .slice wa wn wc] ∧ (rn = rs.length ∧ wn = ws.length ∧ ItIs (fun b => W1.heap.size ≤ b) V rs ws ra rc wa wc)) := fun V hV => ⟨H3.out.later (hb4.trans hV), HV.out.later (hb4.trans hV), HI3.out.1, HI3.out.2.1, HI3.out.2.2.later (hb4.trans hV)⟩
    have HOD : Hid ((Value.slice da dn dc).ownBlock ≠ some W3.heap.size) := fun e => by have := (rows_lt H3.out.dones _ e).2; omega
    clear H3 HV HI3 hb4 v0 v1 p0
    generalize W3.heap.size = D at hXW HD4 HZ4 HS4 HOD ⊢
    generalize (W3.alloc (.cells #[.int .i64 C, .int .i64 N, .int .i64 (pos + 1), .bool false] 57)).drew = W4 at H4 HV4 HD4 HZ4 HI4 HS4 ⊢
    have hXD : X < D := by omega
    have hPD : P < D := by omega
    obtain ⟨d0, -⟩ := HD4.out 0 _ rfl
    obtain ⟨d1, -⟩ := HD4.out 1 _ rfl
    obtain ⟨d2, -⟩ := HD4.out 2 _ rfl
    obtain ⟨d3, -⟩ := HD4.out 3 _ rfl
    obtain ⟨p2, -⟩ := H4.out.var 2 _ rfl
    have cS : Hid (∀ V, Below W4.heap.size W4 V → Calls Try.prog 52 #[.slice da dn dc, .agg #[.int .i64 C, .int .i64 N, .int .i64 (pos + 1), .bool false], .func (.func 49) #[] #[]] V fun e w' => ∃ (q : Nat) (t : Bool), e = .returned (.tuple #[.int .i64 q, .bool t]) ∧ Hid ((∃ l r, ds = l ++ r ∧ l.length = q ∧ hasD ds C N = t ∧ (t = false → ∀ k, putD ds ⟨C, N, pos + 1, k⟩ = l ++ ⟨C, N, pos + 1, k⟩ :: r)) ∧ Below W4.heap.size W4 w')) := fun V hV => by
      have h9 := H4.out.later hV
      obtain ⟨-, hL, -, -⟩ := rows_lies h9.dones (fun _ _ => trivial)
      have h0 := findD_any _ ds (by have := HF.out.2; omega) h9.ord.dones da dc ⟨C, N, pos + 1, false⟩ V hL
      rw [← h9.lend] at h0
      refine h0.mono ?_
      rintro e w' ⟨l, r, h1, h2, h3, rfl, h4⟩
      obtain ⟨f1, f2⟩ := found_done h9.ord.dones h1 h2 h3
      exact ⟨l.length, headF (fun c => cmpD c ⟨C, N, pos + 1, false⟩) r, rfl, ⟨l, r, h1, rfl, f1, fun e k => f2 e ⟨C, N, pos + 1, k⟩ rfl rfl⟩, hV.trans (h4.mono hV.size)⟩
    go_upto_region 6 with (fail)
    go_region_held3 (fun V => V.cell? ⟨P, 2, none⟩ = some (.slice da dn dc) ∧ V.cell? ⟨D, 0, none⟩ = some (.int .i64 C) ∧ V.cell? ⟨D, 1, none⟩ = some (.int .i64 N) ∧ V.cell? ⟨D, 2, none⟩ = some (.int .i64 (pos + 1)) ∧ V.cell? ⟨D, 3, none⟩ = some (.bool false)) (go_keep) (first
      | (go_at_call 52; (with_reducible refine (cS.out _ (Below.refl _ _).drew).mono ?_); clear cS; rintro e w5 ⟨q, t, rfl, H5⟩; obtain ⟨e0, -⟩ := (HD4.out.later H5.out.2) 0 _ rfl; obtain ⟨e1, -⟩ := (HD4.out.later H5.out.2) 1 _ rfl; obtain ⟨e2, -⟩ := (HD4.out.later H5.out.2) 2 _ rfl; obtain ⟨e3, -⟩ := (HD4.out.later H5.out.2) 3 _ rfl; obtain ⟨e4, -⟩ := (H4.out.later H5.out.2).var 2 _ rfl))
    obtain ⟨l, r, hds, hlq, hhas, hput⟩ := H5.out.1
    have H6 := put_by (H4.out.later H5.out.2)
    have HV6 := put_by (HV4.out.later H5.out.2)
    have HD6 := put_by (HD4.out.later H5.out.2)
    have HI6 : Hid (rn = rs.length ∧ wn = ws.length ∧ ItIs (fun b => W1.heap.size ≤ b) w5 rs ws ra rc wa wc) := ⟨HI4.out.1, HI4.out.2.1, HI4.out.2.2.later H5.out.2⟩
    have HZ6 : Hid (D < w5.heap.size) := Nat.lt_of_lt_of_le HZ4.out H5.out.2.size
    have HB6 : Hid (Below D W4 w5) := H5.out.2.mono (Nat.le_of_lt HZ4.out)
    have HPU := put_by hput
    have HLQ : Hid (ds = l ++ r ∧ l.length = q) := ⟨hds, hlq⟩
    have HHA := put_by hhas
    clear H4 HV4 HD4 HI4 HZ4 H5 d0 d1 d2 d3 p2 e0 e1 e2 e3 e4 hds hlq hhas hput
    cases t with
    | true =>
      have HE := put_by (HP.out (.returned (.int .i64 7)) w5 ⟨ca, cn, cc, da, dn, dc, by rw [(stepM_done (s := ⟨pos, cs, ds⟩) HHA.out).1], by rw [(stepM_done (s := ⟨pos, cs, ds⟩) HHA.out).2]; exact H6.out⟩)
      clear HP H6 HV6 HD6 HI6 HZ6 HPU HLQ HHA HF HD HOW
      go_wp2
      exact HE.out
    | false =>
      have HPU2 : Hid (∀ k, putD ds ⟨C, N, pos + 1, k⟩ = l ++ ⟨C, N, pos + 1, k⟩ :: r) := HPU.out rfl
      obtain ⟨z0, -⟩ := HV6.out 0 _ rfl
      obtain ⟨z1, -⟩ := HV6.out 1 _ rfl
      obtain ⟨z2, -⟩ := HV6.out 2 _ rfl
      obtain ⟨z3, -⟩ := HV6.out 3 _ rfl
      obtain ⟨z4, -⟩ := HV6.out 4 _ rfl
      obtain ⟨j, hj⟩ : ∃ j, j = judgeK (pos + 1) B rs cs := ⟨_, rfl⟩
      have HJ := put_by hj
      have cJ : Hid (Calls Try.prog 53 #[.pointer (some ⟨P, 0, none⟩), .agg #[.int .i64 C, .int .i64 N, .int .i64 B, .slice ra rn rc, .slice wa wn wc]] w5 fun e w' => e = .returned (.int .i64 j) ∧ Hid (Below w5.heap.size w5 w')) := by
        have h0 := judge_any _ _ P (pos + 1) cs H6.out.ord.cells ca cc C N B rs ra rc wa wn wc w5 H6.out.lt (H6.out.var 0 _ rfl).1 (by rw [← H6.out.lenc]; exact (H6.out.var 1 _ rfl).1) H6.out.cells (by have := HF.out.1; omega) HI6.out.2.2.reads HI6.out.2.2.few.1
        rw [← HI6.out.1] at h0
        rw [hj]
        exact h0
      have HSN : Hid (codeM ⟨pos, cs, ds⟩ (pos + 1) (some ⟨C, N, B, rs, ws⟩) = j ∧ stepM ⟨pos, cs, ds⟩ (some ⟨C, N, B, rs, ws⟩) = ⟨pos + 1, if j = 0 then putsK (pos + 1) cs ws else cs, putD ds ⟨C, N, pos + 1, decide (j = 0)⟩⟩) := stepM_new (s := ⟨pos, cs, ds⟩) (x := ⟨C, N, B, rs, ws⟩) HHA.out j hj
      clear hj HHA
      go_upto_region 10 with (first
        | (go_at_call 53; (with_reducible refine cJ.out.mono ?_); clear cJ; rintro e w7 ⟨rfl, H7⟩))
      clear z0 z1 z2 z3 z4
      have H8 := put_by (H6.out.later H7.out)
      have HV8 := put_by (HV6.out.later H7.out)
      have HD8 := put_by (HD6.out.later H7.out)
      have HI8 : Hid (rn = rs.length ∧ wn = ws.length ∧ ItIs (fun b => W1.heap.size ≤ b) w7 rs ws ra rc wa wc) := ⟨HI6.out.1, HI6.out.2.1, HI6.out.2.2.later H7.out⟩
      have HB8 : Hid (Below D W4 w7) := HB6.out.trans (H7.out.mono (Nat.le_of_lt HZ6.out))
      have HZ8 : Hid (D < w7.heap.size) := Nat.lt_of_lt_of_le HZ6.out H7.out.size
      clear H6 HV6 HD6 HI6 HZ6 HB6 H7
      by_cases hj0 : j = 0
      · subst hj0
        replace HSN : Hid (codeM ⟨pos, cs, ds⟩ (pos + 1) (some ⟨C, N, B, rs, ws⟩) = 0 ∧ stepM ⟨pos, cs, ds⟩ (some ⟨C, N, B, rs, ws⟩) = ⟨pos + 1, putsK (pos + 1) cs ws, putD ds ⟨C, N, pos + 1, true⟩⟩) := HSN.out
        replace HPU : Hid (putD ds ⟨C, N, pos + 1, true⟩ = l ++ ⟨C, N, pos + 1, true⟩ :: r) := HPU2.out true
        obtain ⟨y3, f3⟩ := HD8.out 3 _ rfl
        have hbs : Below D w7 (w7.setCell ⟨D, 3, none⟩ (.bool true)) := (Below.refl D w7).setCell (Nat.le_refl D) _
        have H9 := put_by (HS4.out _ (HB8.out.trans hbs))
        have HD9 := put_by (HD8.out.set (k := 3) (.bool true))
        go_upto_region 12 with (fail)
        clear y3 f3 hbs H8 HV8 HD8 HI8 HZ8
        generalize w7.setCell ⟨D, 3, none⟩ (.bool true) = W8 at H9 HD9 ⊢
        obtain ⟨HA9, HV9, HI9⟩ := H9.out
        have HAp := put_by HA9
        have HIp := put_by HI9
        obtain ⟨y4, -⟩ := HV9 4 _ rfl
        have cW : Hid (Calls Try.prog 54 #[.pointer (some ⟨P, 0, none⟩), .slice wa wn wc] W8 fun e w' => e = .returned (.tuple #[]) ∧ Hid (W8.grownBy w' (some P) ∧ ∃ (ca' : Option Addr) (cn' cc' : Nat), PlI w0 wb vb vc P ⟨pos + 1, putsK (pos + 1) cs ws, ds⟩ ca' cn' cc' da dn dc w')) := by
          have h4 : ws.length ≤ 400 := HD.out.1.few.2
          have hv := HAp.out.var
          rw [HAp.out.lenc] at hv
          have h0 := write_any (fun b => (b ≠ P ∧ (Value.slice da dn dc).ownBlock ≠ some b) ∧ (vc.ownBlock ≠ some b ∧ w0.heap.size ≤ b)) (fun b => W1.heap.size ≤ b) P (pos + 1) (.slice da dn dc) cs ca cc ws wa wc W8 HAp.out.lt hv HAp.out.cells HAp.out.ples HAp.out.ord.cells HIp.out.2.2.writes HD.out.1.asc (fun b _ hb => ⟨⟨by omega, fun e => by have := HOW.out b (.inl e); omega⟩, (fun e => by have := HOW.out b (.inr e); omega), by have := HAp.out.old; omega⟩) (fun b hb => ⟨⟨by have := HAp.out.lt; omega, fun e => by have := (rows_lt HAp.out.dones b e).2; omega⟩, (fun e => by have := HAp.out.vlt b e; omega), by have := HAp.out.below.size; omega⟩) (fun q => q.1.1 rfl) (by have := HF.out.1; omega)
          rw [← HIp.out.2.1] at h0
          refine h0.mono ?_
          intro e w' h
          obtain ⟨h1, h2, h3⟩ := HAp.out.write (putsK_ascC ws HAp.out.ord.cells) h
          exact ⟨h1, h2, h3⟩
        clear HA9 HV9 HI9
        go_upto_region 13 with (first
          | (go_at_call 54; (with_reducible refine cW.out.mono ?_); clear cW; rintro e w8 ⟨rfl, H10⟩))
        clear y4
        obtain ⟨hg10, ca', cn', cc', hI10⟩ := H10.out
        have H11 := put_by hI10
        have HD11 := put_by (HD9.out.grown hg10 (by omega))
        clear hg10 hI10 H10 HD9 H9 HAp HIp
        have hSd : (fun V : World => V.cell? ⟨P, 2, none⟩ = some (.slice da dn dc) ∧ V.cell? ⟨D, 0, none⟩ = some (.int .i64 C) ∧ V.cell? ⟨D, 1, none⟩ = some (.int .i64 N) ∧ V.cell? ⟨D, 2, none⟩ = some (.int .i64 (pos + 1)) ∧ V.cell? ⟨D, 3, none⟩ = some (.bool true)) w8.drew := ⟨(H11.out.var 2 _ rfl).1, (HD11.out 0 _ rfl).1, (HD11.out 1 _ rfl).1, (HD11.out 2 _ rfl).1, (HD11.out 3 _ rfl).1⟩
        have hba : Below w8.heap.size w8 (w8.drew.alloc (.cells #[.int .i64 C, .int .i64 N, .int .i64 (pos + 1), .bool true] 57)) := (Below.refl _ _).drew.alloc (Nat.le_refl _) _
        have HAa := put_by (H11.out.later hba)
        have HDa := put_by (HD11.out.later hba)
        have hSa : (fun V : World => V.cell? ⟨P, 2, none⟩ = some (.slice da dn dc) ∧ V.cell? ⟨D, 0, none⟩ = some (.int .i64 C) ∧ V.cell? ⟨D, 1, none⟩ = some (.int .i64 N) ∧ V.cell? ⟨D, 2, none⟩ = some (.int .i64 (pos + 1)) ∧ V.cell? ⟨D, 3, none⟩ = some (.bool true)) (w8.drew.alloc (.cells #[.int .i64 C, .int .i64 N, .int .i64 (pos + 1), .bool true] 57)) := ⟨(HAa.out.var 2 _ rfl).1, (HDa.out 0 _ rfl).1, (HDa.out 1 _ rfl).1, (HDa.out 2 _ rfl).1, (HDa.out 3 _ rfl).1⟩
        have cI : Hid (Calls Try.prog 55 #[.slice da dn dc, .int .i64 q, .slice (some ⟨w8.heap.size, 0, none⟩) 1 1] (w8.drew.alloc (.cells #[.int .i64 C, .int .i64 N, .int .i64 (pos + 1), .bool true] 57)) fun e w' => ∃ (a' : Option Addr) (n' c' : Nat), e = .returned (.slice a' n' c') ∧ Hid (PlD w0 wb vb vc (w8.drew.alloc (.cells #[.int .i64 C, .int .i64 N, .int .i64 (pos + 1), .bool true] 57)) P ⟨pos + 1, putsK (pos + 1) cs ws, ds⟩ ca' cn' cc' da dn dc (putD ds ⟨C, N, pos + 1, true⟩) a' n' c' w' ∧ (fun V : World => V.cell? ⟨P, 2, none⟩ = some (.slice da dn dc) ∧ V.cell? ⟨D, 0, none⟩ = some (.int .i64 C) ∧ V.cell? ⟨D, 1, none⟩ = some (.int .i64 N) ∧ V.cell? ⟨D, 2, none⟩ = some (.int .i64 (pos + 1)) ∧ V.cell? ⟨D, 3, none⟩ = some (.bool true)) w')) := by
          have hsz : w8.heap.size < (w8.drew.alloc (.cells #[.int .i64 C, .int .i64 N, .int .i64 (pos + 1), .bool true] 57)).heap.size := by simp
          have h0 := dinsert_any w0.heap.size ds HF.out.2 q (by have h1 := HLQ.out.1; have h2 := HLQ.out.2; rw [h1, List.length_append]; omega) da dc w8.heap.size (.int .i64 C) (.int .i64 N) (.int .i64 (pos + 1)) (.bool true) ⟨C, N, pos + 1, true⟩ (w8.drew.alloc (.cells #[.int .i64 C, .int .i64 N, .int .i64 (pos + 1), .bool true] 57)) HAa.out.below.size hsz (by have h1 := dn_rows (ok2 := fun b => b < w0.heap.size) HAa.out.dones (fun _ _ => rfl); rw [HAa.out.lend] at h1; exact h1) ⟨heap_alloc_new _ _, rfl⟩ (fun ad e e2 => by have h1 := (rows_lt H11.out.dones ad.block (by rw [e]; rfl)).2; omega)
          rw [← HAa.out.lend] at h0
          have h3 : ds.take q ++ ⟨C, N, pos + 1, true⟩ :: ds.drop q = putD ds ⟨C, N, pos + 1, true⟩ := by
            rw [HPU.out, HLQ.out.1, ← HLQ.out.2, List.take_append_of_le_length (Nat.le_refl _), List.take_length, List.drop_append_of_le_length (Nat.le_refl _), List.drop_length, List.nil_append]
          rw [h3] at h0
          refine h0.mono ?_
          rintro e w' ⟨a', n', c', rfl, r1, r2, r3⟩
          have hD9 : Cls w' D [.int .i64 C, .int .i64 N, .int .i64 (pos + 1), .bool true] := HDa.out.block (fun hb => r2.block _ hb (fun e => HOD.out e.symm))
          have hP9 : PlD w0 wb vb vc (w8.drew.alloc (.cells #[.int .i64 C, .int .i64 N, .int .i64 (pos + 1), .bool true] 57)) P ⟨pos + 1, putsK (pos + 1) cs ws, ds⟩ ca' cn' cc' da dn dc (putD ds ⟨C, N, pos + 1, true⟩) a' n' c' w' := ⟨HAa.out, r1, r2, r3⟩
          exact ⟨a', n', c', rfl, hP9, (hP9.var 2 _ rfl).1, (hD9 0 _ rfl).1, (hD9 1 _ rfl).1, (hD9 2 _ rfl).1, (hD9 3 _ rfl).1⟩
        have hord := putD_asc H11.out.ord.dones ⟨C, N, pos + 1, true⟩
        have HORD := put_by hord
        clear hord
        refine region_plain (fun V : World => V.cell? ⟨P, 2, none⟩ = some (.slice da dn dc) ∧ V.cell? ⟨D, 0, none⟩ = some (.int .i64 C) ∧ V.cell? ⟨D, 1, none⟩ = some (.int .i64 N) ∧ V.cell? ⟨D, 2, none⟩ = some (.int .i64 (pos + 1)) ∧ V.cell? ⟨D, 3, none⟩ = some (.bool true)) 13 (by kernel_rfl) ?_
        change wpAnyU _ _ _ _ _ 14 #[false, false, false, false, false, false, false, false, false, false, false, false, false, false] _ w8.drew
        refine V_takeS [13] 57 (k := 0) (v := .pointer (some ⟨P, 0, none⟩)) rfl rfl (by kernel_rfl) (by kernel_rfl) (by kernel_rfl) (by kernel_rfl) (by kernel_rfl) (by kernel_rfl) (fun _ _ _ h => h) (Or.inl ⟨by rfl, fun V hV => ?_⟩) hSd ?_
        · obtain ⟨z0, z1, z2, z3, z4⟩ := hV; go_simp
        try simp only [Act.put, List.setIfInBounds_toArray, List.set_cons_zero, List.set_cons_succ]
        refine V_takeS [13] 58 (k := 1) (v := .pointer (some ⟨P, 0, none⟩)) rfl rfl (by kernel_rfl) (by kernel_rfl) (by kernel_rfl) (by kernel_rfl) (by kernel_rfl) (by kernel_rfl) (fun _ _ _ h => h) (Or.inl ⟨by rfl, fun V hV => ?_⟩) hSd ?_
        · obtain ⟨z0, z1, z2, z3, z4⟩ := hV; go_simp
        try simp only [Act.put, List.setIfInBounds_toArray, List.set_cons_zero, List.set_cons_succ]
        refine V_takeS [13] 59 (k := 2) (v := .pointer (some ⟨P, 0, none⟩)) rfl rfl (by kernel_rfl) (by kernel_rfl) (by kernel_rfl) (by kernel_rfl) (by kernel_rfl) (by kernel_rfl) (fun _ _ _ h => h) (Or.inl ⟨by rfl, fun V hV => ?_⟩) hSd ?_
        · obtain ⟨z0, z1, z2, z3, z4⟩ := hV; go_simp
        try simp only [Act.put, List.setIfInBounds_toArray, List.set_cons_zero, List.set_cons_succ]
        refine V_takeS [13] 60 (k := 3) (v := .pointer (some ⟨P, 0, none⟩)) rfl rfl (by kernel_rfl) (by kernel_rfl) (by kernel_rfl) (by kernel_rfl) (by kernel_rfl) (by kernel_rfl) (fun _ _ _ h => h) (Or.inl ⟨by rfl, fun V hV => ?_⟩) hSd ?_
        · obtain ⟨z0, z1, z2, z3, z4⟩ := hV; go_simp
        try simp only [Act.put, List.setIfInBounds_toArray, List.set_cons_zero, List.set_cons_succ]
        refine V_takeS [13] 61 (k := 4) (v := .pointer (some ⟨P, 2, none⟩)) rfl rfl (by kernel_rfl) (by kernel_rfl) (by kernel_rfl) (by kernel_rfl) (by kernel_rfl) (by kernel_rfl) (fun _ _ _ h => h) (Or.inl ⟨by rfl, fun V hV => ?_⟩) hSd ?_
        · obtain ⟨z0, z1, z2, z3, z4⟩ := hV; go_simp
        try simp only [Act.put, List.setIfInBounds_toArray, List.set_cons_zero, List.set_cons_succ]
        refine V_takeS [13] 62 (k := 5) (v := .slice da dn dc) rfl rfl (by kernel_rfl) (by kernel_rfl) (by kernel_rfl) (by kernel_rfl) (by kernel_rfl) (by kernel_rfl) (fun _ _ _ h => h) (Or.inl ⟨by rfl, fun V hV => ?_⟩) hSd ?_
        · obtain ⟨z0, z1, z2, z3, z4⟩ := hV; go_simp
        try simp only [Act.put, List.setIfInBounds_toArray, List.set_cons_zero, List.set_cons_succ]
        refine V_takeS [13] 63 (k := 6) (v := .int .i64 q) rfl rfl (by kernel_rfl) (by kernel_rfl) (by kernel_rfl) (by kernel_rfl) (by kernel_rfl) (by kernel_rfl) (fun _ _ _ h => h) (Or.inl ⟨by rfl, fun V hV => ?_⟩) hSd ?_
        · obtain ⟨z0, z1, z2, z3, z4⟩ := hV; go_simp
        try simp only [Act.put, List.setIfInBounds_toArray, List.set_cons_zero, List.set_cons_succ]
        refine V_takeS [13] 64 (k := 7) (v := .agg #[.int .i64 C, .int .i64 N, .int .i64 (pos + 1), .bool true]) rfl rfl (by kernel_rfl) (by kernel_rfl) (by kernel_rfl) (by kernel_rfl) (by kernel_rfl) (by kernel_rfl) (fun _ _ _ h => h) (Or.inl ⟨by rfl, fun V hV => ?_⟩) hSd ?_
        · obtain ⟨z0, z1, z2, z3, z4⟩ := hV; go_simp
        try simp only [Act.put, List.setIfInBounds_toArray, List.set_cons_zero, List.set_cons_succ]
        refine U_one (i := 8) (listed' := #[true, true, true, true, true, true, true, true, true, false, false, false, false, false]) (by kernel_rfl) rfl (by kernel_rfl) rfl (fun K hK => ?_)
        go_simp
        refine hK _ _ (fun _ => hSa) ?_
        clear hK K
        try simp only [Act.put, List.setIfInBounds_toArray, List.set_cons_zero, List.set_cons_succ]
        clear hSd
        refine U_one (i := 9) (listed' := #[true, true, true, true, true, true, true, true, true, true, false, false, false, false]) (by kernel_rfl) rfl (by kernel_rfl) rfl (fun K hK => ?_)
        go_simp
        refine cI.out.mono ?_
        rintro e w9 ⟨a', n', c', rfl, H9⟩
        have hS9 := H9.out.2
        refine hK _ _ (fun _ => hS9) ?_
        clear hK K
        try simp only [Act.put, List.setIfInBounds_toArray, List.set_cons_zero, List.set_cons_succ]
        clear cI hSa
        refine V_takeS [13, 12, 11] 67 (k := 10) (v := .pointer (some ⟨P, 0, none⟩)) rfl rfl (by kernel_rfl) (by kernel_rfl) (by kernel_rfl) (by kernel_rfl) (by kernel_rfl) (by kernel_rfl) (fun _ _ _ h => h) (Or.inl ⟨by rfl, fun V hV => ?_⟩) hS9 ?_
        · obtain ⟨z0, z1, z2, z3, z4⟩ := hV; go_simp
        try simp only [Act.put, List.setIfInBounds_toArray, List.set_cons_zero, List.set_cons_succ]
        refine V_takeS [13, 12] 68 (k := 11) (v := .pointer (some ⟨P, 0, none⟩)) rfl rfl (by kernel_rfl) (by kernel_rfl) (by kernel_rfl) (by kernel_rfl) (by kernel_rfl) (by kernel_rfl) (fun _ _ _ h => h) (Or.inl ⟨by rfl, fun V hV => ?_⟩) hS9 ?_
        · obtain ⟨z0, z1, z2, z3, z4⟩ := hV; go_simp
        try simp only [Act.put, List.setIfInBounds_toArray, List.set_cons_zero, List.set_cons_succ]
        refine V_takeS [13] 69 (k := 12) (v := .pointer (some ⟨P, 2, none⟩)) rfl rfl (by kernel_rfl) (by kernel_rfl) (by kernel_rfl) (by kernel_rfl) (by kernel_rfl) (by kernel_rfl) (fun _ _ _ h => h) (Or.inl ⟨by rfl, fun V hV => ?_⟩) hS9 ?_
        · obtain ⟨z0, z1, z2, z3, z4⟩ := hV; go_simp
        try simp only [Act.put, List.setIfInBounds_toArray, List.set_cons_zero, List.set_cons_succ]
        obtain ⟨t2, f2⟩ := H9.out.1.var 2 _ rfl
        refine U_one (i := 13) (listed' := #[true, true, true, true, true, true, true, true, true, true, true, true, true, true]) (by kernel_rfl) rfl (by kernel_rfl) rfl (fun K hK => ?_)
        go_simp
        refine hK _ _ (fun hh => by cases (show true = false from hh)) ?_
        clear hK K
        try simp only [Act.put, List.setIfInBounds_toArray, List.set_cons_zero, List.set_cons_succ]
        refine U_done (by kernel_rfl) ?_ _
        have HE : Hid (Q (.returned (.int .i64 0)) (w9.setCell ⟨P, 2, none⟩ (.slice a' n' c'))) := HP.out _ _ ⟨ca', cn', cc', a', n', c', by rw [HSN.out.1], by rw [HSN.out.2]; exact H9.out.1.put HORD.out⟩
        clear HP H9 HORD hS9 HSN t2 f2
        go_wp2
        exact HE.out
      · replace HSN : Hid (codeM ⟨pos, cs, ds⟩ (pos + 1) (some ⟨C, N, B, rs, ws⟩) = j ∧ stepM ⟨pos, cs, ds⟩ (some ⟨C, N, B, rs, ws⟩) = ⟨pos + 1, cs, putD ds ⟨C, N, pos + 1, false⟩⟩) := ⟨HSN.out.1, HSN.out.2.trans (by rw [if_neg hj0, decide_eq_false hj0])⟩
        replace HPU : Hid (putD ds ⟨C, N, pos + 1, false⟩ = l ++ ⟨C, N, pos + 1, false⟩ :: r) := HPU2.out false
        go_upto_region 13 with (fail)
        clear HV8 HI8 HZ8
        have hSd : (fun V : World => V.cell? ⟨P, 2, none⟩ = some (.slice da dn dc) ∧ V.cell? ⟨D, 0, none⟩ = some (.int .i64 C) ∧ V.cell? ⟨D, 1, none⟩ = some (.int .i64 N) ∧ V.cell? ⟨D, 2, none⟩ = some (.int .i64 (pos + 1)) ∧ V.cell? ⟨D, 3, none⟩ = some (.bool false)) w7.drew := ⟨(H8.out.var 2 _ rfl).1, (HD8.out 0 _ rfl).1, (HD8.out 1 _ rfl).1, (HD8.out 2 _ rfl).1, (HD8.out 3 _ rfl).1⟩
        have hba : Below w7.heap.size w7 (w7.drew.alloc (.cells #[.int .i64 C, .int .i64 N, .int .i64 (pos + 1), .bool false] 57)) := (Below.refl _ _).drew.alloc (Nat.le_refl _) _
        have HAa := put_by (H8.out.later hba)
        have HDa := put_by (HD8.out.later hba)
        have hSa : (fun V : World => V.cell? ⟨P, 2, none⟩ = some (.slice da dn dc) ∧ V.cell? ⟨D, 0, none⟩ = some (.int .i64 C) ∧ V.cell? ⟨D, 1, none⟩ = some (.int .i64 N) ∧ V.cell? ⟨D, 2, none⟩ = some (.int .i64 (pos + 1)) ∧ V.cell? ⟨D, 3, none⟩ = some (.bool false)) (w7.drew.alloc (.cells #[.int .i64 C, .int .i64 N, .int .i64 (pos + 1), .bool false] 57)) := ⟨(HAa.out.var 2 _ rfl).1, (HDa.out 0 _ rfl).1, (HDa.out 1 _ rfl).1, (HDa.out 2 _ rfl).1, (HDa.out 3 _ rfl).1⟩
        have cI : Hid (Calls Try.prog 55 #[.slice da dn dc, .int .i64 q, .slice (some ⟨w7.heap.size, 0, none⟩) 1 1] (w7.drew.alloc (.cells #[.int .i64 C, .int .i64 N, .int .i64 (pos + 1), .bool false] 57)) fun e w' => ∃ (a' : Option Addr) (n' c' : Nat), e = .returned (.slice a' n' c') ∧ Hid (PlD w0 wb vb vc (w7.drew.alloc (.cells #[.int .i64 C, .int .i64 N, .int .i64 (pos + 1), .bool false] 57)) P ⟨pos + 1, cs, ds⟩ ca cn cc da dn dc (putD ds ⟨C, N, pos + 1, false⟩) a' n' c' w' ∧ (fun V : World => V.cell? ⟨P, 2, none⟩ = some (.slice da dn dc) ∧ V.cell? ⟨D, 0, none⟩ = some (.int .i64 C) ∧ V.cell? ⟨D, 1, none⟩ = some (.int .i64 N) ∧ V.cell? ⟨D, 2, none⟩ = some (.int .i64 (pos + 1)) ∧ V.cell? ⟨D, 3, none⟩ = some (.bool false)) w')) := by
          have hsz : w7.heap.size < (w7.drew.alloc (.cells #[.int .i64 C, .int .i64 N, .int .i64 (pos + 1), .bool false] 57)).heap.size := by simp
          have h0 := dinsert_any w0.heap.size ds HF.out.2 q (by have h1 := HLQ.out.1; have h2 := HLQ.out.2; rw [h1, List.length_append]; omega) da dc w7.heap.size (.int .i64 C) (.int .i64 N) (.int .i64 (pos + 1)) (.bool false) ⟨C, N, pos + 1, false⟩ (w7.drew.alloc (.cells #[.int .i64 C, .int .i64 N, .int .i64 (pos + 1), .bool false] 57)) HAa.out.below.size hsz (by have h1 := dn_rows (ok2 := fun b => b < w0.heap.size) HAa.out.dones (fun _ _ => rfl); rw [HAa.out.lend] at h1; exact h1) ⟨heap_alloc_new _ _, rfl⟩ (fun ad e e2 => by have h1 := (rows_lt H8.out.dones ad.block (by rw [e]; rfl)).2; omega)
          rw [← HAa.out.lend] at h0
          have h3 : ds.take q ++ ⟨C, N, pos + 1, false⟩ :: ds.drop q = putD ds ⟨C, N, pos + 1, false⟩ := by
            rw [HPU.out, HLQ.out.1, ← HLQ.out.2, List.take_append_of_le_length (Nat.le_refl _), List.take_length, List.drop_append_of_le_length (Nat.le_refl _), List.drop_length, List.nil_append]
          rw [h3] at h0
          refine h0.mono ?_
          rintro e w' ⟨a', n', c', rfl, r1, r2, r3⟩
          have hD9 : Cls w' D [.int .i64 C, .int .i64 N, .int .i64 (pos + 1), .bool false] := HDa.out.block (fun hb => r2.block _ hb (fun e => HOD.out e.symm))
          have hP9 : PlD w0 wb vb vc (w7.drew.alloc (.cells #[.int .i64 C, .int .i64 N, .int .i64 (pos + 1), .bool false] 57)) P ⟨pos + 1, cs, ds⟩ ca cn cc da dn dc (putD ds ⟨C, N, pos + 1, false⟩) a' n' c' w' := ⟨HAa.out, r1, r2, r3⟩
          exact ⟨a', n', c', rfl, hP9, (hP9.var 2 _ rfl).1, (hD9 0 _ rfl).1, (hD9 1 _ rfl).1, (hD9 2 _ rfl).1, (hD9 3 _ rfl).1⟩
        have hord := putD_asc H8.out.ord.dones ⟨C, N, pos + 1, false⟩
        have HORD := put_by hord
        clear hord
        refine region_plain (fun V : World => V.cell? ⟨P, 2, none⟩ = some (.slice da dn dc) ∧ V.cell? ⟨D, 0, none⟩ = some (.int .i64 C) ∧ V.cell? ⟨D, 1, none⟩ = some (.int .i64 N) ∧ V.cell? ⟨D, 2, none⟩ = some (.int .i64 (pos + 1)) ∧ V.cell? ⟨D, 3, none⟩ = some (.bool false)) 13 (by kernel_rfl) ?_
        change wpAnyU _ _ _ _ _ 14 #[false, false, false, false, false, false, false, false, false, false, false, false, false, false] _ w7.drew
        refine V_takeS [13] 57 (k := 0) (v := .pointer (some ⟨P, 0, none⟩)) rfl rfl (by kernel_rfl) (by kernel_rfl) (by kernel_rfl) (by kernel_rfl) (by kernel_rfl) (by kernel_rfl) (fun _ _ _ h => h) (Or.inl ⟨by rfl, fun V hV => ?_⟩) hSd ?_
        · obtain ⟨z0, z1, z2, z3, z4⟩ := hV; go_simp
        try simp only [Act.put, List.setIfInBounds_toArray, List.set_cons_zero, List.set_cons_succ]
        refine V_takeS [13] 58 (k := 1) (v := .pointer (some ⟨P, 0, none⟩)) rfl rfl (by kernel_rfl) (by kernel_rfl) (by kernel_rfl) (by kernel_rfl) (by kernel_rfl) (by kernel_rfl) (fun _ _ _ h => h) (Or.inl ⟨by rfl, fun V hV => ?_⟩) hSd ?_
        · obtain ⟨z0, z1, z2, z3, z4⟩ := hV; go_simp
        try simp only [Act.put, List.setIfInBounds_toArray, List.set_cons_zero, List.set_cons_succ]
        refine V_takeS [13] 59 (k := 2) (v := .pointer (some ⟨P, 0, none⟩)) rfl rfl (by kernel_rfl) (by kernel_rfl) (by kernel_rfl) (by kernel_rfl) (by kernel_rfl) (by kernel_rfl) (fun _ _ _ h => h) (Or.inl ⟨by rfl, fun V hV => ?_⟩) hSd ?_
        · obtain ⟨z0, z1, z2, z3, z4⟩ := hV; go_simp
        try simp only [Act.put, List.setIfInBounds_toArray, List.set_cons_zero, List.set_cons_succ]
        refine V_takeS [13] 60 (k := 3) (v := .pointer (some ⟨P, 0, none⟩)) rfl rfl (by kernel_rfl) (by kernel_rfl) (by kernel_rfl) (by kernel_rfl) (by kernel_rfl) (by kernel_rfl) (fun _ _ _ h => h) (Or.inl ⟨by rfl, fun V hV => ?_⟩) hSd ?_
        · obtain ⟨z0, z1, z2, z3, z4⟩ := hV; go_simp
        try simp only [Act.put, List.setIfInBounds_toArray, List.set_cons_zero, List.set_cons_succ]
        refine V_takeS [13] 61 (k := 4) (v := .pointer (some ⟨P, 2, none⟩)) rfl rfl (by kernel_rfl) (by kernel_rfl) (by kernel_rfl) (by kernel_rfl) (by kernel_rfl) (by kernel_rfl) (fun _ _ _ h => h) (Or.inl ⟨by rfl, fun V hV => ?_⟩) hSd ?_
        · obtain ⟨z0, z1, z2, z3, z4⟩ := hV; go_simp
        try simp only [Act.put, List.setIfInBounds_toArray, List.set_cons_zero, List.set_cons_succ]
        refine V_takeS [13] 62 (k := 5) (v := .slice da dn dc) rfl rfl (by kernel_rfl) (by kernel_rfl) (by kernel_rfl) (by kernel_rfl) (by kernel_rfl) (by kernel_rfl) (fun _ _ _ h => h) (Or.inl ⟨by rfl, fun V hV => ?_⟩) hSd ?_
        · obtain ⟨z0, z1, z2, z3, z4⟩ := hV; go_simp
        try simp only [Act.put, List.setIfInBounds_toArray, List.set_cons_zero, List.set_cons_succ]
        refine V_takeS [13] 63 (k := 6) (v := .int .i64 q) rfl rfl (by kernel_rfl) (by kernel_rfl) (by kernel_rfl) (by kernel_rfl) (by kernel_rfl) (by kernel_rfl) (fun _ _ _ h => h) (Or.inl ⟨by rfl, fun V hV => ?_⟩) hSd ?_
        · obtain ⟨z0, z1, z2, z3, z4⟩ := hV; go_simp
        try simp only [Act.put, List.setIfInBounds_toArray, List.set_cons_zero, List.set_cons_succ]
        refine V_takeS [13] 64 (k := 7) (v := .agg #[.int .i64 C, .int .i64 N, .int .i64 (pos + 1), .bool false]) rfl rfl (by kernel_rfl) (by kernel_rfl) (by kernel_rfl) (by kernel_rfl) (by kernel_rfl) (by kernel_rfl) (fun _ _ _ h => h) (Or.inl ⟨by rfl, fun V hV => ?_⟩) hSd ?_
        · obtain ⟨z0, z1, z2, z3, z4⟩ := hV; go_simp
        try simp only [Act.put, List.setIfInBounds_toArray, List.set_cons_zero, List.set_cons_succ]
        refine U_one (i := 8) (listed' := #[true, true, true, true, true, true, true, true, true, false, false, false, false, false]) (by kernel_rfl) rfl (by kernel_rfl) rfl (fun K hK => ?_)
        go_simp
        refine hK _ _ (fun _ => hSa) ?_
        clear hK K
        try simp only [Act.put, List.setIfInBounds_toArray, List.set_cons_zero, List.set_cons_succ]
        clear hSd
        refine U_one (i := 9) (listed' := #[true, true, true, true, true, true, true, true, true, true, false, false, false, false]) (by kernel_rfl) rfl (by kernel_rfl) rfl (fun K hK => ?_)
        go_simp
        refine cI.out.mono ?_
        rintro e w9 ⟨a', n', c', rfl, H9⟩
        have hS9 := H9.out.2
        refine hK _ _ (fun _ => hS9) ?_
        clear hK K
        try simp only [Act.put, List.setIfInBounds_toArray, List.set_cons_zero, List.set_cons_succ]
        clear cI hSa
        refine V_takeS [13, 12, 11] 67 (k := 10) (v := .pointer (some ⟨P, 0, none⟩)) rfl rfl (by kernel_rfl) (by kernel_rfl) (by kernel_rfl) (by kernel_rfl) (by kernel_rfl) (by kernel_rfl) (fun _ _ _ h => h) (Or.inl ⟨by rfl, fun V hV => ?_⟩) hS9 ?_
        · obtain ⟨z0, z1, z2, z3, z4⟩ := hV; go_simp
        try simp only [Act.put, List.setIfInBounds_toArray, List.set_cons_zero, List.set_cons_succ]
        refine V_takeS [13, 12] 68 (k := 11) (v := .pointer (some ⟨P, 0, none⟩)) rfl rfl (by kernel_rfl) (by kernel_rfl) (by kernel_rfl) (by kernel_rfl) (by kernel_rfl) (by kernel_rfl) (fun _ _ _ h => h) (Or.inl ⟨by rfl, fun V hV => ?_⟩) hS9 ?_
        · obtain ⟨z0, z1, z2, z3, z4⟩ := hV; go_simp
        try simp only [Act.put, List.setIfInBounds_toArray, List.set_cons_zero, List.set_cons_succ]
        refine V_takeS [13] 69 (k := 12) (v := .pointer (some ⟨P, 2, none⟩)) rfl rfl (by kernel_rfl) (by kernel_rfl) (by kernel_rfl) (by kernel_rfl) (by kernel_rfl) (by kernel_rfl) (fun _ _ _ h => h) (Or.inl ⟨by rfl, fun V hV => ?_⟩) hS9 ?_
        · obtain ⟨z0, z1, z2, z3, z4⟩ := hV; go_simp
        try simp only [Act.put, List.setIfInBounds_toArray, List.set_cons_zero, List.set_cons_succ]
        obtain ⟨t2, f2⟩ := H9.out.1.var 2 _ rfl
        refine U_one (i := 13) (listed' := #[true, true, true, true, true, true, true, true, true, true, true, true, true, true]) (by kernel_rfl) rfl (by kernel_rfl) rfl (fun K hK => ?_)
        go_simp
        refine hK _ _ (fun hh => by cases (show true = false from hh)) ?_
        clear hK K
        try simp only [Act.put, List.setIfInBounds_toArray, List.set_cons_zero, List.set_cons_succ]
        refine U_done (by kernel_rfl) ?_ _
        have HE : Hid (Q (.returned (.int .i64 j)) (w9.setCell ⟨P, 2, none⟩ (.slice a' n' c'))) := HP.out _ _ ⟨ca, cn, cc, a', n', c', by rw [HSN.out.1], by rw [HSN.out.2]; exact H9.out.1.put HORD.out⟩
        clear HP H9 HORD hS9 HSN t2 f2
        go_wp2
        exact HE.out
  · obtain rfl : none = o := TellsI.one (o := none) hd HT.out
    have HE := put_by (HP.out (.returned (.int .i64 4)) W3 ⟨ca, cn, cc, da, dn, dc, rfl, H3.out⟩)
    clear HP H3 HV HX3 HT HF hit hd hrn hwn hown
    go_wp2
    exact HE.out

end Go.Proofs.Ytjjdednlddnllaa
