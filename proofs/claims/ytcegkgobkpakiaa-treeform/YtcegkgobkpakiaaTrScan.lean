/- A scan. -/
import Derived.Test.YtcegkgobkpakiaaTrScanI
namespace Go.Proofs.Ytcegkgobkpakiaa
open Go.ChangeShapes Go.WideShapes Go.ChangeAt Go.RowKit Go.Shelf

attribute [local go_sem] Oper.semAt_some

/-- what a scan comes to -/
def ScanPost (w : World) (res : List Ent) (e : Ending) (w' : World) : Prop :=
  ∃ (a : Option Addr) (c : Nat), e = .returned (.agg #[.int .i64 0, .int .i64 0, .slice none 0 0, .slice a res.length c]) ∧ Lies kEnt (fun b => w.heap.size ≤ b) w' a c res ∧ Ples a c ∧ Below w.heap.size w w'

/-- what stands when a scan leaves -/
def ScanEnd (w : World) (base B : Nat) (res : List Ent) (a : Option Addr) (c : Nat) (V : World) : Prop :=
  Quad V B (.int .i64 0) (.int .i64 0) (.slice none 0 0) (.slice a res.length c) ∧ Rows kEnt (fun b => base ≤ b) V base 62 (.slice a res.length c) res ∧ Below w.heap.size w V

theorem ScanEnd.mark {w V : World} {base B D : Nat} {res : List Ent} {a : Option Addr} {c : Nat} (h : ScanEnd w base B res a c V) (hB : B < base) (hw : w.heap.size ≤ base) (hD : base ≤ D) (hd : V.heap[D]? = some (.deferred (some []))) : ScanEnd w base B res a c (V.putObj D (.deferred none)) :=
  ⟨h.1.move (World.putObj_heap_other (by omega)), rows_own h.2.1 (grownBy_putObj' _ _ _) (fun r e => by cases e; exact ⟨_, hd, rfl⟩),
    below_grown h.2.2 h.2.2.size (grownBy_putObj' _ _ _) (fun r e => by cases e; omega)⟩

theorem ScanEnd.put {w V : World} {base B : Nat} {res : List Ent} {a : Option Addr} {c : Nat} {p q r s : Value} (hQ : Quad V B p q r s) (hR : Rows kEnt (fun b => base ≤ b) V base 62 (.slice a res.length c) res) (hb : Below w.heap.size w V) (hB : B < base) (hw : w.heap.size ≤ B) :
    ScanEnd w base B res a c ((((V.setCell ⟨B, 0, none⟩ (.int .i64 0)).setCell ⟨B, 1, none⟩ (.int .i64 0)).setCell ⟨B, 2, none⟩ (.slice none 0 0)).setCell ⟨B, 3, none⟩ (.slice a res.length c)) :=
  ⟨hQ.set _ _ _ _, hR.move ⟨by simp, fun b _ ho => heap_quad _ _ _ _ _ _ (by omega)⟩ (fun g hg => heap_quad _ _ _ _ _ _ (by have := (rows_lt hR g hg).1; omega)),
    (((hb.setCell (p := ⟨B, 0, none⟩) hw _).setCell (p := ⟨B, 1, none⟩) hw _).setCell (p := ⟨B, 2, none⟩) hw _).setCell (p := ⟨B, 3, none⟩) hw _⟩

theorem ScanEnd.post {w V : World} {base B : Nat} {res : List Ent} {a : Option Addr} {c : Nat} (h : ScanEnd w base B res a c V) (hw : w.heap.size ≤ base) : ScanPost w res (.returned (.agg #[.int .i64 0, .int .i64 0, .slice none 0 0, .slice a res.length c])) V := by
  obtain ⟨-, h1, h2, -⟩ := rows_lies h.2.1 (fun b hb => hb)
  exact ⟨a, c, rfl, h1.move (Kept.of_below (Below.refl _ _)) (fun b _ hb => Nat.le_trans hw hb), h2, h.2.2⟩

set_option maxRecDepth 100000 in
set_option maxHeartbeats 16000000 in
theorem scan_any (ok : Nat → Prop) (h : Nat) (t : Tr h) (hq : Wq h t) (hfew : (flat h t).length ≤ 90000) (a b : Option Addr) (n c m d : Nat) (lo hi : List Int) (loo hio : Option Addr) (lc hc lim : Nat) (w : World)
    (hr : (kNd h).rel ok w t [.slice a n c, .slice b m d]) (hlo : Octs w loo lc lo) (hhi : Octs w hio hc hi) :
    Calls Try.prog 22 #[.agg #[.slice a n c, .slice b m d], .agg #[.slice loo lo.length lc, .slice hio hi.length hc], .int .i64 lim] w fun e w' => ScanPost w (scanK (flat h t) lo hi lim) e w' := by
  obtain ⟨lm, hlm⟩ : ∃ lm, lm = lo.length := ⟨_, rfl⟩
  obtain ⟨hm, hhm⟩ : ∃ hm, hm = hi.length := ⟨_, rfl⟩
  rw [← hlm, ← hhm]
  have HR := put_by (And.intro hr (And.intro hlo hhi))
  have HQ := put_by (And.intro hq hfew)
  have HM := put_by (And.intro hlm hhm)
  clear hr hlo hhi hq hfew hlm hhm
  have hl0 : ¬ ((lim : Int) < 0) := by omega
  have hdd : ∀ (f : FuncId), Fence.wide.fn f := fun _ => trivial
  obtain ⟨r0, -⟩ : ∃ r : Nat, r = 0 := ⟨_, rfl⟩
  refine callsIn_wide.1 (callsIn_of_wp_marks (n := r0) Try.func22 rfl trivial ?_ rfl)
  simp only [Try.ntmps22, List.size_toArray, List.length_cons, List.length_nil, Nat.reduceAdd, Nat.reduceSub, Array.replicate_succ, Array.replicate_zero, List.push_toArray, List.append_toArray, List.nil_append, List.cons_append]
  gi_wp2_with ((try refine ⟨fun h => (by cases h), ?_⟩); gi_at_call 31; refine (callsIn_wide.2 (from_made _ _ _ _ _ _)).mono ?_; rintro e V2 ⟨rfl, rfl⟩)
  -- the world in which the tree is ranged over
  have HV := put_by (laid_new w (.slice a n c) (.slice b m d) (.slice loo lm lc) (.slice hio hm hc) (.int .i64 lim) 53 70 3 50 28 53 40)
  generalize ((((((w.alloc (.cells #[.slice a n c, .slice b m d] 53)).alloc _).alloc _).alloc _).alloc _).alloc _).alloc _ = Vs at HV ⊢
  have hB : w.heap.size + 1 + 1 + 1 + 1 < Vs.heap.size := by have := HV.out.size; omega
  have hwB : w.heap.size ≤ w.heap.size + 1 + 1 + 1 + 1 := by omega
  have hS7 := HV.out.size
  have hkept : Hid (∀ (pre : List Ent) (V : World), ScanI w Vs (w.heap.size + 1 + 1 + 1 + 1) hi lim pre V → V.cell? ⟨w.heap.size + 1, 1, none⟩ = some (.slice hio hm hc) ∧ V.cell? ⟨w.heap.size + 1 + 1, 0, none⟩ = some (.int .i64 lim) ∧ Quad V (w.heap.size + 1 + 1 + 1) (.int .i64 0) (.int .i64 0) (.slice none 0 0) (.slice none 0 0)) := fun pre V hV =>
    ⟨(World.cell?_of_block (w := Vs) (hV.old (w.heap.size + 1) (by omega) (by omega))).trans HV.out.hi, (World.cell?_of_block (w := Vs) (hV.old (w.heap.size + 1 + 1) (by omega) (by omega))).trans HV.out.lim, HV.out.res.move (hV.old _ (by omega) (by omega))⟩
  refine range_ents (ok := ok) (w0 := w) (N := (fromL (flat h t) lo).length) (xs := fromL (flat h t) lo) (c0 := .exit 0) (gf := 41) (lb := #[.pointer (some ⟨w.heap.size + 1 + 1 + 1 + 1 + 1, 0, none⟩), .pointer (some ⟨w.heap.size + 1 + 1 + 1 + 1 + 1 + 1, 0, none⟩)]) rfl (enters_of Try.func41 (by kernel_rfl) rfl) rfl
    (ScanI w Vs (w.heap.size + 1 + 1 + 1 + 1) hi lim) (fun q V => ∃ pre x, q = pre ++ [x] ∧ ScanI w Vs (w.heap.size + 1 + 1 + 1 + 1) hi lim pre V ∧ (pre.length = lim ∨ (hi ≠ [] ∧ ahead x.1 hi = false))) (scanM (w.heap.size + 1 + 1 + 1 + 1)) ?own ?ownx ?low ?kind ?same ?start
    (fun u v E => { tmps := #[.agg #[.slice a n c, .slice b m d], .agg #[.slice loo lm lc, .slice hio hm hc], .int .i64 lim, .pointer (some ⟨w.heap.size, 0, none⟩), .pointer (some ⟨w.heap.size + 1, 0, none⟩), .pointer (some ⟨w.heap.size + 1 + 1, 0, none⟩), .pointer (some ⟨w.heap.size + 1 + 1 + 1, 0, none⟩), .pointer (some ⟨w.heap.size + 1 + 1 + 1 + 1, 0, none⟩), .pointer (some ⟨E, 0, none⟩), .int .i64 lim, .bool false, undef, .agg #[.slice a n c, .slice b m d], .pointer (some ⟨w.heap.size + 1, 0, none⟩), .slice loo lm lc, .func (.func 41) #[] #[.pointer (some ⟨w.heap.size + 1 + 1 + 1 + 1 + 1, 0, none⟩), .pointer (some ⟨w.heap.size + 1 + 1 + 1 + 1 + 1 + 1, 0, none⟩)], .agg #[u, v], undef, undef, undef, undef, undef, undef, undef, undef, undef, undef, undef, undef, undef, undef, undef, undef, undef, undef, undef, undef, undef, undef, undef, undef, undef], defers := [] }) ?assign ?body ?iter ?done ?stop
  case own => exact scan_own hB hwB
  case ownx =>
    rintro q X Y row ⟨pre, x, e, h1, h2⟩ hg hr
    exact ⟨pre, x, e, scan_own hB hwB pre X Y row h1 hg hr, h2⟩
  case low => exact fun pre V hV => ⟨hV.below, hV.size⟩
  case kind => exact fun pre V hV b hb => scan_kind hB hV hb
  case same => exact fun pre V V' row hV hs b hb => scan_same hB hV hs hb
  case start => exact ⟨⟨_, HV.out.row, Rows.nil _ _ _ _ _⟩, HV.out.fr, ⟨Nat.zero_le _, by simp⟩, fun _ _ _ => rfl, Nat.le_refl _, HV.out.below⟩
  case assign =>
    intro l' m' x1 y1 z1 x2 y2 z2 X K' hK'
    gi_wp2
    exact hK'
  case iter =>
    intro l' B' J' Jx' M' X m' Y' hold hsz hM hJ'
    have hc : ∀ (b o : Nat) (y : Value), b < Vs.heap.size → Vs.cell? ⟨b, o, none⟩ = some y → X.cell? ⟨b, o, none⟩ = some y := fun b o y hb e => (World.cell?_of_block (w := Vs) (hold b hb)).trans e
    have hnM : ∀ b, b < Vs.heap.size → b ≠ w.heap.size + 1 + 1 + 1 + 1 → ¬ M' X b := fun b hb hne hm9 => by
      rcases hM b hm9 with (q | ⟨v, q1, q2⟩) | q
      · exact hne q
      · rw [HV.out.row] at q1
        cases q1
        cases q2
      · omega
    have e1 := HM.out.1
    have := fromC_any ok w lo loo lc HR.out.2.1 h t HQ.out.1 a b n c m d HR.out.1 l' B' _ M' J' Jx' Y' [] X m' (w.heap.size + 1 + 1 + 1 + 1 + 1) (w.heap.size + 1 + 1 + 1 + 1 + 1 + 1) (hc _ _ _ (by omega) HV.out.nd0) (hc _ _ _ (by omega) HV.out.nd1) (hnM _ (by omega) (by omega)) (by rw [← e1]; exact hc _ _ _ (by omega) HV.out.key) (hnM _ (by omega) (by omega)) hJ' (by simp)
    simpa using this
  case body =>
    intro l' m' pre x u v E W hpN hW hx hT hE
    obtain ⟨v0, hv0, hRows⟩ := hW.cell
    obtain ⟨ra, rc, rfl⟩ := rows_form hRows
    obtain ⟨u', v', e9, hu, hv⟩ := id hx
    simp only [List.cons.injEq, and_true] at e9
    obtain ⟨rfl, rfl⟩ := e9
    obtain ⟨xa, xc, rfl, hxo, -⟩ := id hu
    obtain ⟨ya, yc, rfl, -, -⟩ := id hv
    obtain ⟨s1, s2, -⟩ := hkept.out _ W hW
    obtain ⟨g0, g1, -, -⟩ := hT
    have cC : Hid (Calls Try.prog 32 #[.slice xa x.1.length xc, .slice hio hm hc] W fun e w' => e = .returned (.int .i64 (cmpK x.1 hi)) ∧ w' = W) := by
      rw [HM.out.2]
      exact Compare_any xa hio xc hc x.1 hi W (hxo.later hW.below) (HR.out.2.2.later hW.below)
    have hbd : Below W.heap.size W W.drew := (Below.refl _ W).drew
    have cE : Hid (Calls Try.prog 23 #[.agg #[.slice xa x.1.length xc, .slice ya x.2.length yc]] W.drew fun e w1 => ∃ (a1 : Option Addr) (n1 c1 : Nat) (a2 : Option Addr) (n2 c2 : Nat), e = .returned (.agg #[.slice a1 n1 c1, .slice a2 n2 c2]) ∧ w1.cell? ⟨w.heap.size + 1 + 1 + 1 + 1, 0, none⟩ = some (.slice ra pre.length rc) ∧ Hid (kEnt.rel (fun b => Vs.heap.size ≤ b ∧ (Value.slice ra pre.length rc).ownBlock ≠ some b) w1 x [.slice a1 n1 c1, .slice a2 n2 c2] ∧ Below W.heap.size W w1)) := by
      have hb2 : Below w.heap.size w W.drew := hW.below.trans (hbd.mono hW.below.size)
      refine (copiedEntry_any x ok _ _ W.drew (hu.later hb2) (hv.later hb2)).mono ?_
      rintro e w1 ⟨a1, n1, c1, a2, n2, c2, rfl, q1, q2⟩
      have hb3 : Below W.heap.size W w1 := hbd.trans q2
      refine ⟨a1, n1, c1, a2, n2, c2, rfl, (hb3.cell (p := ⟨w.heap.size + 1 + 1 + 1 + 1, 0, none⟩) (by have := hW.size; simp; omega)).trans hv0, kEnt.move (Kept.of_below (Below.refl _ _)) (fun b _ hb => ?_) q1, hb3⟩
      have hs := hW.size
      have hb4 : W.heap.size ≤ b := hb.1
      exact ⟨by omega, fun e => by have := (rows_lt hRows b e).2; omega⟩
    have HW := put_by (And.intro hW hRows)
    have HP := put_by hpN
    have hcase : (pre.length = lim) ∨ (¬ pre.length = lim ∧ 0 < hm ∧ 0 ≤ cmpK x.1 hi) ∨ (¬ pre.length = lim ∧ (hm = 0 ∨ (0 < hm ∧ cmpK x.1 hi < 0))) := by omega
    have HC : Hid ((hm = 0 → hi = []) ∧ (0 < hm → hi ≠ []) ∧ (cmpK x.1 hi < 0 → ahead x.1 hi = true) ∧ (0 ≤ cmpK x.1 hi → ahead x.1 hi = false)) := by
      have e := HM.out.2
      have := cmpK_lt x.1 hi
      refine ⟨fun q => List.length_eq_zero_iff.1 (by omega), fun q q2 => ?_, fun q => ?_, fun q => ?_⟩
      · rw [q2] at e
        simp at e
        omega
      · rw [← this]
        simpa using q
      · rw [← this]
        simpa using q
    have hfr := hW.fr
    clear hW hRows hx hu hv hxo hpN hE hbd
    obtain ⟨pn, hpn⟩ : ∃ pn, pn = pre.length := ⟨_, rfl⟩
    obtain ⟨xm, hxm⟩ : ∃ xm, xm = x.1.length := ⟨_, rfl⟩
    obtain ⟨ym, hym⟩ : ∃ ym, ym = x.2.length := ⟨_, rfl⟩
    obtain ⟨r, hr⟩ : ∃ r, r = cmpK x.1 hi := ⟨_, rfl⟩
    have HPN := put_by hpn
    rw [← hpn] at hv0 cE hcase HW HP
    rw [← hxm] at g0 cC cE
    rw [← hym] at g1 cE
    rw [← hr] at cC hcase HC
    clear hpn hxm hym hr
    have HX : Hid (∀ W', W' = W → KptX (scanM (w.heap.size + 1 + 1 + 1 + 1)) W W') := fun W' e => by subst e; exact ⟨Nat.le_refl _, fun _ _ _ => rfl⟩
    rcases hcase with rfl | ⟨hne, hp, hrn⟩ | ⟨hne, hgo⟩
    · gi_wp2
      any_goals (rename_i q1 q2; exact absurd q1 (by simp [undef]))
      all_goals exact ⟨rfl, ⟨pre, x, rfl, HW.out.1, .inl HPN.out.symm⟩, HX.out _ rfl⟩
    · have hbe : ((pn : Int) == (lim : Int)) = false := by simp; omega
      gi_wp2_with ((try refine ⟨fun h => (by cases h), ?_⟩); gi_at_call 32; refine (CallsIn.inRound l' (callsIn_wide.2 cC.out)).mono ?_; rintro e w2 ⟨rfl, hw2⟩; rw [hw2]; clear hw2)
      exact ⟨rfl, ⟨pre, x, rfl, HW.out.1, .inr ⟨HC.out.2.1 hp, HC.out.2.2.2 hrn⟩⟩, HX.out _ rfl⟩
    · have hbe : ((pn : Int) == (lim : Int)) = false := by simp; omega
      have HT' : Hid (Taken hi lim (pre ++ [x])) := taken_snoc HW.out.1.tk (by have := HW.out.1.tk.few; have := HPN.out; omega) (hgo.imp (fun q => HC.out.1 q) (fun q => HC.out.2.2.1 q.2))
      have hvd : W.drew.cell? ⟨w.heap.size + 1 + 1 + 1 + 1, 0, none⟩ = some (.slice ra pn rc) := by simpa using hv0
      have hbW := put_by HW.out.1.size
      have HFL : Hid (pn + 1 ≤ 100000) := by
        have h1 := HP.out
        have h2 : (fromL (flat h t) lo).length ≤ (flat h t).length := List.length_filter_le _ _
        have h3 := HQ.out.2
        show pn + 1 ≤ 100000
        omega
      rcases hgo with rfl | ⟨hp, hrn⟩
      all_goals
        gi_wp2_with ((try refine ⟨fun h => (by cases h), ?_⟩); gi_at_call 32; refine (CallsIn.inRound l' (callsIn_wide.2 cC.out)).mono ?_; rintro e w2 ⟨rfl, hw2⟩; rw [hw2]; clear hw2)
      all_goals
        refine region_round (fun V => V.cell? ⟨w.heap.size + 1 + 1 + 1 + 1, 0, none⟩ = some (.slice ra pn rc)) 4 (by kernel_rfl) (by kernel_rfl) (by rintro ⟨_, _, hh⟩; exact hh) ?_
        refine U_take (k := 0) (v := .slice ra pn rc) rfl rfl (by kernel_rfl) (by kernel_rfl) (by kernel_rfl) (by kernel_rfl) (by kernel_rfl) (fun _ _ _ h => h) (Or.inl ⟨by rfl, fun V hV => ?_⟩) hvd ?_
        · go_simp
        simp only [Act.put, List.setIfInBounds_toArray]
        refine U_one (i := 1) (by kernel_rfl) rfl rfl rfl (fun K hK => ?_)
        go_simp
        refine hK _ _ (fun _ => hvd) ?_
        clear hK K
        refine U_one (i := 2) (by kernel_rfl) rfl rfl rfl (fun K hK => ?_)
        go_simp
        refine cE.out.mono ?_
        rintro e w1 ⟨a1, n1, c1, a2, n2, c2, rfl, z0, HE⟩
        refine hK _ _ (fun _ => z0) ?_
        clear hK K
        refine U_one (i := 3) (by kernel_rfl) rfl rfl rfl (fun K hK => ?_)
        go_simp
        refine hK _ _ (fun _ => by simp [World.cell?_alloc_some, z0]) ?_
        clear hK K
        refine U_one (i := 4) (by kernel_rfl) rfl rfl rfl (fun K hK => ?_)
        refine wp_of_list rfl (by rintro ⟨_, _, hh⟩; exact hh) (wpList_append_one eltE rfl (.tmp 35) (.tmp 38) rfl Vs.heap.size (.slice ra pn rc) pre rfl (HW.out.2.later HE.out.2) x [.slice a1 n1 c1, .slice a2 n2 c2] _ _ rfl rfl HE.out.1 (fun b hb => Nat.le_trans hbW.out (Nat.le_trans HE.out.2.size hb)) (by rw [← HPN.out]; exact HFL.out) (by decide) (Nat.le_trans hbW.out HE.out.2.size) (fun v' w5 q1 q2 q3 => ?_))
        obtain ⟨ra', rc', hv'⟩ := rows_form q1
        generalize (pre ++ [x]).length = qn at hv'
        subst hv'
        obtain ⟨eB, hI', hK'⟩ := scan_next hB hwB HW.out.1 hv0 HE.out.2 q1 q2 q3 HT'.out
        have c5 := (World.cell?_of_block (w := W) eB).trans hv0
        have f5 := (World.frozen?_of_block (w := W) eB).trans hfr
        refine hK _ _ (fun hh => by cases (show true = false from hh)) ?_
        clear hK K
        refine U_one (i := 5) (by kernel_rfl) rfl rfl rfl (fun K hK => ?_)
        go_simp
        refine hK _ _ (fun hh => by cases (show true = false from hh)) ?_
        refine U_done (by kernel_rfl) ?_ _
        exact ⟨hI', hK'⟩
  case done =>
    intro D V hD hI hdef
    obtain ⟨v0, hv0, hRows⟩ := hI.cell
    obtain ⟨ra, rc, rfl⟩ := rows_form hRows
    obtain ⟨-, -, hQd⟩ := hkept.out _ V hI
    have HF : Hid (ScanEnd w Vs.heap.size (w.heap.size + 1 + 1 + 1) (fromL (flat h t) lo) ra rc ((((V.setCell ⟨w.heap.size + 1 + 1 + 1, 0, none⟩ (.int .i64 0)).setCell ⟨w.heap.size + 1 + 1 + 1, 1, none⟩ (.int .i64 0)).setCell ⟨w.heap.size + 1 + 1 + 1, 2, none⟩ (.slice none 0 0)).setCell ⟨w.heap.size + 1 + 1 + 1, 3, none⟩ (.slice ra (fromL (flat h t) lo).length rc)) ∧ scanK (flat h t) lo hi lim = (fromL (flat h t) lo)) := ⟨ScanEnd.put hQd hRows hI.below (by omega) (by omega), scan_all hI.tk⟩
    have hdef2 : Hid (((((V.setCell ⟨w.heap.size + 1 + 1 + 1, 0, none⟩ (.int .i64 0)).setCell ⟨w.heap.size + 1 + 1 + 1, 1, none⟩ (.int .i64 0)).setCell ⟨w.heap.size + 1 + 1 + 1, 2, none⟩ (.slice none 0 0)).setCell ⟨w.heap.size + 1 + 1 + 1, 3, none⟩ (.slice ra (fromL (flat h t) lo).length rc)).heap[D]? = some (.deferred (some []))) := (heap_quad _ _ _ _ _ _ (by omega)).trans hdef
    obtain ⟨res, hres⟩ : ∃ res, res = (fromL (flat h t) lo) := ⟨_, rfl⟩
    rw [← hres] at HF hdef2 hv0
    obtain ⟨rn, hrn⟩ : ∃ rn, rn = res.length := ⟨_, rfl⟩
    obtain ⟨c0, c1, c2, c3, f0, f1, f2, f3⟩ := hQd
    have HN := put_by hrn
    rw [← hrn] at HF hdef2 hv0
    clear hrn hres hI hRows hdef
    gi_wp2
    obtain ⟨HF1, HF2⟩ := HF.out
    rw [HF2]
    exact leaves_marks (ScanEnd w Vs.heap.size (w.heap.size + 1 + 1 + 1) res ra rc) Vs.heap.size (fun V D h1 h2 h3 => h1.mark (by omega) (by omega) h2 h3) (fun V hV => ⟨.agg #[.int .i64 0, .int .i64 0, .slice none 0 0, .slice ra res.length rc], by simp [results, Try.results22, go_sem, asAddr, hV.1.c0, hV.1.c1, hV.1.c2, hV.1.c3], hV.post (by omega)⟩) [D] _ HF1 (by
      intro D' hD'
      rw [List.mem_singleton.1 hD']
      exact ⟨hD, hdef2.out⟩) (by simp)
  case stop =>
    rintro D q V hD hq' ⟨pre, x, rfl, hI, hst⟩ hdef
    obtain ⟨v0, hv0, hRows⟩ := hI.cell
    obtain ⟨ra, rc, rfl⟩ := rows_form hRows
    obtain ⟨-, -, hQd⟩ := hkept.out _ V hI
    have HF : Hid (ScanEnd w Vs.heap.size (w.heap.size + 1 + 1 + 1) pre ra rc ((((V.setCell ⟨w.heap.size + 1 + 1 + 1, 0, none⟩ (.int .i64 0)).setCell ⟨w.heap.size + 1 + 1 + 1, 1, none⟩ (.int .i64 0)).setCell ⟨w.heap.size + 1 + 1 + 1, 2, none⟩ (.slice none 0 0)).setCell ⟨w.heap.size + 1 + 1 + 1, 3, none⟩ (.slice ra pre.length rc)) ∧ scanK (flat h t) lo hi lim = pre) := ⟨ScanEnd.put hQd hRows hI.below (by omega) (by omega), scan_stop HQ.out.1.asc hI.tk hq' hst⟩
    have hdef2 : Hid (((((V.setCell ⟨w.heap.size + 1 + 1 + 1, 0, none⟩ (.int .i64 0)).setCell ⟨w.heap.size + 1 + 1 + 1, 1, none⟩ (.int .i64 0)).setCell ⟨w.heap.size + 1 + 1 + 1, 2, none⟩ (.slice none 0 0)).setCell ⟨w.heap.size + 1 + 1 + 1, 3, none⟩ (.slice ra pre.length rc)).heap[D]? = some (.deferred (some []))) := (heap_quad _ _ _ _ _ _ (by omega)).trans hdef
    obtain ⟨res, hres⟩ : ∃ res, res = pre := ⟨_, rfl⟩
    rw [← hres] at HF hdef2 hv0
    obtain ⟨rn, hrn⟩ : ∃ rn, rn = res.length := ⟨_, rfl⟩
    obtain ⟨c0, c1, c2, c3, f0, f1, f2, f3⟩ := hQd
    have HN := put_by hrn
    rw [← hrn] at HF hdef2 hv0
    clear hrn hres hI hRows hdef hst hq'
    gi_wp2
    obtain ⟨HF1, HF2⟩ := HF.out
    rw [HF2]
    exact leaves_marks (ScanEnd w Vs.heap.size (w.heap.size + 1 + 1 + 1) res ra rc) Vs.heap.size (fun V D h1 h2 h3 => h1.mark (by omega) (by omega) h2 h3) (fun V hV => ⟨.agg #[.int .i64 0, .int .i64 0, .slice none 0 0, .slice ra res.length rc], by simp [results, Try.results22, go_sem, asAddr, hV.1.c0, hV.1.c1, hV.1.c2, hV.1.c3], hV.post (by omega)⟩) [D] _ HF1 (by
      intro D' hD'
      rw [List.mem_singleton.1 hD']
      exact ⟨hD, hdef2.out⟩) (by simp)

end Go.Proofs.Ytcegkgobkpakiaa
