/- What Octets comes to at every slice of bytes: a copy of its first ones. -/
import Derived.Test.YtjjdednlddnllabRowsStep
import Derived.LoopTactic
import Derived.Handy
import Derived.Test.YtjjdednlddnllabMlLog
import Derived.Test.YtjjdednlddnllabSameStaK
namespace Go.Proofs.Ytjjdednlddnllab
open Go.ChangeShapes Go.WideShapes Go.ChangeAt Go.RowKit

theorem Octets_new (ao : Option Addr) (cap : Nat) (xs : List Int) (k : Nat) (hk : k ≤ 140737488351232) (w : World) (he : Octs w ao cap xs) :
    Calls Try.prog 19 #[.slice ao xs.length cap, .int .i64 k] w fun e w' => ∃ ao' cap', e = .returned (.slice ao' (xs.take k).length cap') ∧ Octs w' ao' cap' (xs.take k) ∧ (∀ a, ao' = some a → w.heap.size ≤ a.block) ∧ Below w.heap.size w w' := by
  have hcap := he.1
  have hl := he.2.1
  have HE : Hid (Octs w ao cap xs) := he
  clear he
  obtain ⟨n, hn⟩ : ∃ n, n = xs.length := ⟨_, rfl⟩
  rw [← hn] at hcap hl
  rw [← hn]
  by_cases hlt : k < n
  · have hm : k = (xs.take k).length := by simp; omega
    obtain ⟨ys, hys⟩ : ∃ ys, ys = xs.take k := ⟨_, rfl⟩
    have HT : Hid (Octs w ao cap ys) := by rw [hys]; exact HE.out.take k
    rw [← hys] at hm
    rw [← hys]
    have HM : Hid (k = ys.length) := hm
    have hkc : k ≤ cap := by omega
    clear hys hm hn HE
    go_enter Try.func19, Try.ntmps19
    go_wp2_with (at_builtin; refine wpList_append_oct rfl _ _ rfl w.heap.size _ _ _ rfl (World.ownsRow_nil _ _ _ _) ao cap k ys rfl HM.out HT.out (by omega) (Nat.le_refl _) ?_; intro v' w1 hown hgrow; have hb1 : Below w.heap.size w w1 := (Below.refl _ w).grown hgrow (Nat.le_refl _) (by intro k hk; cases hk); obtain ⟨ao', cap', rfl, he1⟩ := own_octs (xs := ys) (by rw [Nat.zero_add]; exact HM.out) (by simp) HT.out.2.1 HT.out.2.2.2.1 hown)
    go_ret
    exact ⟨ao', cap', rfl, he1, own_new hown, hb1⟩
  · rw [List.take_of_length_le (by omega)]
    have HN : Hid (n = xs.length) := hn
    clear hn
    go_enter Try.func19, Try.ntmps19
    go_wp2_with (at_builtin; refine wpList_append_oct rfl _ _ rfl w.heap.size _ _ _ rfl (World.ownsRow_nil _ _ _ _) ao cap n xs rfl HN.out HE.out (by omega) (Nat.le_refl _) ?_; intro v' w1 hown hgrow; have hb1 : Below w.heap.size w w1 := (Below.refl _ w).grown hgrow (Nat.le_refl _) (by intro k hk; cases hk); obtain ⟨ao', cap', rfl, he1⟩ := own_octs (xs := xs) (by rw [Nat.zero_add]; exact HN.out) (by simp) HE.out.2.1 HE.out.2.2.2.1 hown)
    go_ret
    exact ⟨ao', cap', rfl, he1, own_new hown, hb1⟩

theorem Octets_any (ao : Option Addr) (cap : Nat) (xs : List Int) (k : Nat) (hk : k ≤ 140737488351232) (w : World) (he : Octs w ao cap xs) :
    Calls Try.prog 19 #[.slice ao xs.length cap, .int .i64 k] w fun e w' => ∃ ao' cap', e = .returned (.slice ao' (xs.take k).length cap') ∧ Octs w' ao' cap' (xs.take k) ∧ Below w.heap.size w w' :=
  (Octets_new ao cap xs k hk w he).mono fun _ _ ⟨a, c, h1, h2, _, h4⟩ => ⟨a, c, h1, h2, h4⟩

end Go.Proofs.Ytjjdednlddnllab

/- Logs of wishes that are played: contracts for the laws. -/
namespace Go.Proofs.Ytjjdednlddnllab
open Go.ChangeShapes Go.WideShapes Go.ChangeAt Go.RowKit

/-- what was played, in memory -/
structure PlH (s : Sta) (es : List (Option Itt)) (p : Int) (a : Option Addr) (n c : Nat) (a2 : Option Addr) (n2 c2 : Nat) (a3 : Option Addr) (n3 c3 : Nat) (w : World) : Prop where
  pos : p = (playM s es).1.pos
  cn : n = (playM s es).1.cells.length
  dn : n2 = (playM s es).1.dones.length
  codes : n3 = (playM s es).2.length
  st : StIs (fun _ => True) w (playM s es).1.cells (playM s es).1.dones a c a2 c2
  told : Lies kNum (fun _ => True) w a3 c3 (playM s es).2

theorem PlH.later {s : Sta} {es : List (Option Itt)} {p : Int} {a : Option Addr} {n c : Nat} {a2 : Option Addr} {n2 c2 : Nat} {a3 : Option Addr} {n3 c3 : Nat} {w w' : World} (h : PlH s es p a n c a2 n2 c2 a3 n3 c3 w) (hb : Below w.heap.size w w') : PlH s es p a n c a2 n2 c2 a3 n3 c3 w' :=
  ⟨h.pos, h.cn, h.dn, h.codes, h.st.later hb, h.told.later hb⟩

theorem StIs.weak {ok : Nat → Prop} {w : World} {cs : List Cel} {ds : List Dn} {ca : Option Addr} {cc : Nat} {da : Option Addr} {dc : Nat} (h : StIs ok w cs ds ca cc da dc) : StIs (fun _ => True) w cs ds ca cc da dc :=
  ⟨h.cells.move (Kept.of_below (Below.refl _ _)) (fun _ _ _ => trivial), h.dones.move (Kept.of_below (Below.refl _ _)) (fun _ _ _ => trivial), h.few⟩

/-- the intents' bytes tell them -/
theorem tells_js : ∀ {js : List Itt}, (∀ x ∈ js, Mild x) → All2 TellsI (js.map encI) (js.map some)
  | [], _ => trivial
  | x :: js, h => by
    have hx := h x List.mem_cons_self
    exact ⟨⟨hx.may, rfl, by have := hx.short; omega⟩, tells_js (fun y hy => h y (List.mem_cons_of_mem _ hy))⟩

/-- a log is played from where nothing is -/
theorem Play_law {V : World} {ok : Nat → Prop} {xss : List (List Int)} {es : List (Option Itt)} {oa : Option Addr} {oc m : Nat} (hL : Lies kLog ok V oa oc xss) (ht : All2 TellsI xss es) (hl : xss.length ≤ 300) (hm : m = xss.length) :
    Calls Try.prog 9 #[.agg #[.int .i64 0, .slice none 0 0, .slice none 0 0], .slice oa m oc] V fun e w' => ∃ (p : Int) (a : Option Addr) (n c : Nat) (a2 : Option Addr) (n2 c2 : Nat) (a3 : Option Addr) (c3 : Nat), e = .returned (.tuple #[.agg #[.int .i64 p, .slice a n c, .slice a2 n2 c2], .slice a3 m c3, .int .i64 0]) ∧ Hid (PlH noSta es p a n c a2 n2 c2 a3 m c3 w' ∧ Below V.heap.size V w') := by
  subst hm
  have h0 := Play_good (fun _ => True) ok 0 [] [] none 0 none 0 xss oa oc es V ⟨Lies.nil _ _ _ (fun _ => rfl), Lies.nil _ _ _ (fun _ => rfl), by simp⟩ noSta_may hL ht hl (by omega) (by simp) (by simp)
  refine h0.mono ?_
  rintro e w' ⟨a, n, c, a2, n2, c2, a3, n3, c3, rfl, h1, h2, h3, h4, h5, h6⟩
  have h9 : n3 = xss.length := by rw [h3, playM_length]; exact ht.length.symm
  subst h9
  exact ⟨_, a, n, c, a2, n2, c2, a3, c3, rfl, ⟨rfl, h1, h2, h3, h4.weak, h5.move (Kept.of_below (Below.refl _ _)) (fun _ _ _ => trivial)⟩, h6⟩

/-- and from a state -/
theorem Play_from {V : World} {ok ok2 : Nat → Prop} {s : Sta} {p : Int} {ca : Option Addr} {cn cc : Nat} {da : Option Addr} {dn dc : Nat} {xss : List (List Int)} {es : List (Option Itt)} {oa : Option Addr} {oc m : Nat} (hp : p = s.pos) (hcn : cn = s.cells.length) (hdn : dn = s.dones.length) (hI : StIs ok2 V s.cells s.dones ca cc da dc) (hM : MayS s) (hL : Lies kLog ok V oa oc xss) (ht : All2 TellsI xss es) (hl : xss.length ≤ 300) (hm : m = xss.length) (hpos : s.pos + xss.length ≤ 1048576) (hfew : s.cells.length ≤ 1000000) (hfd : s.dones.length ≤ 1000000) :
    Calls Try.prog 9 #[.agg #[.int .i64 p, .slice ca cn cc, .slice da dn dc], .slice oa m oc] V fun e w' => ∃ (p : Int) (a : Option Addr) (n c : Nat) (a2 : Option Addr) (n2 c2 : Nat) (a3 : Option Addr) (c3 : Nat), e = .returned (.tuple #[.agg #[.int .i64 p, .slice a n c, .slice a2 n2 c2], .slice a3 m c3, .int .i64 0]) ∧ Hid (PlH s es p a n c a2 n2 c2 a3 m c3 w' ∧ Below V.heap.size V w') := by
  subst hm hp hcn hdn
  obtain ⟨p, cs, ds⟩ := s
  have h0 := Play_good ok2 ok p cs ds ca cc da dc xss oa oc es V hI hM hL ht hl hpos (by have : cs.length ≤ 1000000 := hfew; omega) (by have : ds.length ≤ 1000000 := hfd; omega)
  refine h0.mono ?_
  rintro e w' ⟨a, n, c, a2, n2, c2, a3, n3, c3, rfl, h1, h2, h3, h4, h5, h6⟩
  have h9 : n3 = xss.length := by rw [h3, playM_length]; exact ht.length.symm
  subst h9
  exact ⟨_, a, n, c, a2, n2, c2, a3, c3, rfl, ⟨rfl, h1, h2, h3, h4.weak, h5.move (Kept.of_below (Below.refl _ _)) (fun _ _ _ => trivial)⟩, h6⟩

/-- a log of wishes, whatever has been made since -/
theorem LogOf_law (l : List Wsh) (la : Option Addr) (lc : Nat) (n : Nat) (hn : n ≤ 1000) (w V : World) (hV : Below w.heap.size w V) (hL : Lies kWi (fun _ => True) w la lc l) :
    Calls Try.prog 8 #[.slice la l.length lc, .int .i64 n] V fun e w' => ∃ (oa : Option Addr) (on oc : Nat) (xa : Option Addr) (xn xc : Nat), e = .returned (.tuple #[.slice oa on oc, .slice xa xn xc, .bool true]) ∧ Hid (∃ js : List Itt, LogJ n js ∧ on = js.length ∧ xn = js.length ∧ Lies kLog (fun b => V.heap.size ≤ b) w' oa oc (js.map encI) ∧ Ples oa oc ∧ Lies kItt (fun b => V.heap.size ≤ b) w' xa xc js ∧ Below w.heap.size w w') := by
  refine (LogOf_any l la lc n hn V (hL.later hV)).mono ?_
  rintro e w' ⟨oa, on, oc, xa, xn, xc, rfl, js, h1, h2, h3, h4, h5, h6, h7⟩
  exact ⟨oa, on, oc, xa, xn, xc, rfl, js, h1, h2, h3, h4, h5, h6, hV.trans (h7.mono hV.size)⟩

theorem own_plesA {w : World} {base n size : Nat} {e : TypeId} {a : Option Addr} {m c : Nat} {vs : List Value} (h : w.ownsRow base e size (.slice a m c) n vs) : Ples a c := by
  rcases h.2 with ⟨h1, h2⟩ | ⟨g, cap, cur, h1, -⟩
  · simp only [Value.slice.injEq] at h1
    obtain ⟨rfl, -, rfl⟩ := h1
    exact Ples.none
  · simp only [Value.slice.injEq] at h1
    obtain ⟨rfl, rfl, rfl⟩ := h1
    exact Ples.some _ _ _

/-- bytes of the call's own, that a log may hold -/
theorem Octets_lg (ao : Option Addr) (cap : Nat) (xs : List Int) (k : Nat) (hk : k ≤ 140737488351232) (w : World) (he : Octs w ao cap xs) :
    Calls Try.prog 19 #[.slice ao xs.length cap, .int .i64 k] w fun e w' => ∃ (a' : Option Addr) (m' c' : Nat), e = .returned (.slice a' m' c') ∧ Hid (kLog.rel (fun b => w.heap.size ≤ b) w' (xs.take k) [.slice a' m' c'] ∧ Below w.heap.size w w') := by
  have hcap := he.1
  have hl := he.2.1
  have HE : Hid (Octs w ao cap xs) := he
  clear he
  obtain ⟨n, hn⟩ : ∃ n, n = xs.length := ⟨_, rfl⟩
  rw [← hn] at hcap hl
  rw [← hn]
  by_cases hlt : k < n
  · have hm : k = (xs.take k).length := by simp; omega
    obtain ⟨ys, hys⟩ : ∃ ys, ys = xs.take k := ⟨_, rfl⟩
    have HT : Hid (Octs w ao cap ys) := by rw [hys]; exact HE.out.take k
    rw [← hys] at hm
    rw [← hys]
    have HM : Hid (k = ys.length) := hm
    have hkc : k ≤ cap := by omega
    clear hys hm hn HE
    go_enter Try.func19, Try.ntmps19
    go_wp2_with (at_builtin; refine wpList_append_oct rfl _ _ rfl w.heap.size _ _ _ rfl (World.ownsRow_nil _ _ _ _) ao cap k ys rfl HM.out HT.out (by omega) (Nat.le_refl _) ?_; intro v' w1 hown hgrow; have hb1 : Below w.heap.size w w1 := (Below.refl _ w).grown hgrow (Nat.le_refl _) (by intro k hk; cases hk); obtain ⟨ao', cap', rfl, he1⟩ := own_octs (xs := ys) (by rw [Nat.zero_add]; exact HM.out) (by simp) HT.out.2.1 HT.out.2.2.2.1 hown)
    go_ret
    exact ⟨ao', ys.length, cap', rfl, ⟨ao', cap', rfl, he1, own_plesA hown, fun ad e => ⟨own_new hown ad e, own_plesB hown ad e⟩⟩, hb1⟩
  · rw [List.take_of_length_le (by omega)]
    have HN : Hid (n = xs.length) := hn
    clear hn
    go_enter Try.func19, Try.ntmps19
    go_wp2_with (at_builtin; refine wpList_append_oct rfl _ _ rfl w.heap.size _ _ _ rfl (World.ownsRow_nil _ _ _ _) ao cap n xs rfl HN.out HE.out (by omega) (Nat.le_refl _) ?_; intro v' w1 hown hgrow; have hb1 : Below w.heap.size w w1 := (Below.refl _ w).grown hgrow (Nat.le_refl _) (by intro k hk; cases hk); obtain ⟨ao', cap', rfl, he1⟩ := own_octs (xs := xs) (by rw [Nat.zero_add]; exact HN.out) (by simp) HE.out.2.1 HE.out.2.2.2.1 hown)
    go_ret
    exact ⟨ao', xs.length, cap', rfl, ⟨ao', cap', rfl, he1, own_plesA hown, fun ad e => ⟨own_new hown ad e, own_plesB hown ad e⟩⟩, hb1⟩

/-- of a log the first ones -/
theorem log_take {V : World} {ok : Nat → Prop} {js : List Itt} {oa : Option Addr} {oc : Nat} (hL : Lies kLog ok V oa oc (js.map encI)) (k : Nat) : Lies kLog ok V oa oc ((js.take k).map encI) := by
  have h := hL.take k
  rwa [← List.map_take] at h

/-- the state behind a log may be -/
theorem may_js {js : List Itt} (hm : ∀ x ∈ js, Mild x) (hl : js.length ≤ 1000) : MayS (playM noSta (js.map some)).1 :=
  MayS.play _ noSta_may (by rw [List.length_map]; show (0 : Int) + _ ≤ _; omega) (fun x hx => by
    obtain ⟨y, hy, e⟩ := List.mem_map.1 hx
    cases e
    exact (hm _ hy).may)

theorem few_js {js : List Itt} (hm : ∀ x ∈ js, Mild x) : (playM noSta (js.map some)).1.cells.length ≤ 400 * js.length ∧ (playM noSta (js.map some)).1.dones.length ≤ js.length := by
  have h := playM_few (js.map some) (js.map encI) Ordl.none (tells_js hm)
  rw [List.length_map] at h
  simpa [noSta] using h

/-- what is asked twice is told so, and changes nothing -/
theorem twice_js {js : List Itt} {i k : Nat} (hk : k ≤ js.length) (hi : i < k) : playM noSta ((js.take k).map some ++ [some (js[i]'(by omega))]) = (⟨(playM noSta ((js.take k).map some)).1.pos + 1, (playM noSta ((js.take k).map some)).1.cells, (playM noSta ((js.take k).map some)).1.dones⟩, (playM noSta ((js.take k).map some)).2 ++ [7]) := by
  have hm : some (js[i]'(by omega)) ∈ (js.take k).map some := by
    refine List.mem_map.2 ⟨_, ?_, rfl⟩
    rw [List.mem_take_iff_getElem]
    exact ⟨i, by omega, rfl⟩
  have h := hasD_mem _ noSta hm
  rw [playM_snoc, (stepM_done h).1, (stepM_done h).2]

end Go.Proofs.Ytjjdednlddnllab
