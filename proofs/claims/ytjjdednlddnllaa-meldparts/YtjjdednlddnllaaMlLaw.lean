/- Logs of wishes that are played: contracts for the laws. -/
import Derived.Test.YtjjdednlddnllaaMlLog
import Derived.Test.YtjjdednlddnllaaSameStaK
namespace Go.Proofs.Ytjjdednlddnllaa
open Go.ChangeShapes Go.WideShapes Go.ChangeAt Go.RowKit

/-- what was played, in memory -/
structure PlH (s : Sta) (es : List (Option Itt)) (p : Int) (a : Option Addr) (n c : Nat) (a2 : Option Addr) (n2 c2 : Nat) (a3 : Option Addr) (n3 c3 : Nat) (w : World) : Prop where
  pos : p = (playM s es).1.pos
  cn : n = (playM s es).1.cells.length
  dn : n2 = (playM s es).1.dones.length
  codes : n3 = (playM s es).2.length
  st : StIs (fun _ => True) w (playM s es).1.cells (playM s es).1.dones a c a2 c2
  told : Lies kNum (fun _ => True) w a3 c3 (playM s es).2

theorem PlH.later {s : Sta} {es : List (Option Itt)} {p : Int} {a : Option Addr} {n c : Nat} {a2 : Option Addr} {n2 c2 : Nat} {a3 : Option Addr} {n3 c3 : Nat} {w w' : World} (h : PlH s es p a n c a2 n2 c2 a3 n3 c3 w) (hb : Below w.heap.size w w') : PlH s es p a n c a2 n2 c2 a3 n3 c3 w' :=
  ⟨h.pos, h.cn, h.dn, h.codes, h.st.later hb, h.told.later hb⟩

theorem StIs.weak {ok : Nat → Prop} {w : World} {cs : List Cel} {ds : List Dn} {ca : Option Addr} {cc : Nat} {da : Option Addr} {dc : Nat} (h : StIs ok w cs ds ca cc da dc) : StIs (fun _ => True) w cs ds ca cc da dc :=
  ⟨h.cells.move (Kept.of_below (Below.refl _ _)) (fun _ _ _ => trivial), h.dones.move (Kept.of_below (Below.refl _ _)) (fun _ _ _ => trivial), h.few⟩

/-- the intents' bytes tell them -/
theorem tells_js : ∀ {js : List Itt}, (∀ x ∈ js, Mild x) → All2 TellsI (js.map encI) (js.map some)
  | [], _ => trivial
  | x :: js, h => by
    have hx := h x List.mem_cons_self
    exact ⟨⟨hx.may, rfl, by have := hx.short; omega⟩, tells_js (fun y hy => h y (List.mem_cons_of_mem _ hy))⟩

/-- a log is played from where nothing is -/
theorem Play_law {V : World} {ok : Nat → Prop} {xss : List (List Int)} {es : List (Option Itt)} {oa : Option Addr} {oc m : Nat} (hL : Lies kLog ok V oa oc xss) (ht : All2 TellsI xss es) (hl : xss.length ≤ 300) (hm : m = xss.length) :
    Calls Try.prog 11 #[.agg #[.int .i64 0, .slice none 0 0, .slice none 0 0], .slice oa m oc] V fun e w' => ∃ (p : Int) (a : Option Addr) (n c : Nat) (a2 : Option Addr) (n2 c2 : Nat) (a3 : Option Addr) (c3 : Nat), e = .returned (.tuple #[.agg #[.int .i64 p, .slice a n c, .slice a2 n2 c2], .slice a3 m c3, .int .i64 0]) ∧ Hid (PlH noSta es p a n c a2 n2 c2 a3 m c3 w' ∧ Below V.heap.size V w') := by
  subst hm
  have h0 := Play_good (fun _ => True) ok 0 [] [] none 0 none 0 xss oa oc es V ⟨Lies.nil _ _ _ (fun _ => rfl), Lies.nil _ _ _ (fun _ => rfl), by simp⟩ noSta_may hL ht hl (by omega) (by simp) (by simp)
  refine h0.mono ?_
  rintro e w' ⟨a, n, c, a2, n2, c2, a3, n3, c3, rfl, h1, h2, h3, h4, h5, h6⟩
  have h9 : n3 = xss.length := by rw [h3, playM_length]; exact ht.length.symm
  subst h9
  exact ⟨_, a, n, c, a2, n2, c2, a3, c3, rfl, ⟨rfl, h1, h2, h3, h4.weak, h5.move (Kept.of_below (Below.refl _ _)) (fun _ _ _ => trivial)⟩, h6⟩

/-- and from a state -/
theorem Play_from {V : World} {ok ok2 : Nat → Prop} {s : Sta} {p : Int} {ca : Option Addr} {cn cc : Nat} {da : Option Addr} {dn dc : Nat} {xss : List (List Int)} {es : List (Option Itt)} {oa : Option Addr} {oc m : Nat} (hp : p = s.pos) (hcn : cn = s.cells.length) (hdn : dn = s.dones.length) (hI : StIs ok2 V s.cells s.dones ca cc da dc) (hM : MayS s) (hL : Lies kLog ok V oa oc xss) (ht : All2 TellsI xss es) (hl : xss.length ≤ 300) (hm : m = xss.length) (hpos : s.pos + xss.length ≤ 1048576) (hfew : s.cells.length ≤ 1000000) (hfd : s.dones.length ≤ 1000000) :
    Calls Try.prog 11 #[.agg #[.int .i64 p, .slice ca cn cc, .slice da dn dc], .slice oa m oc] V fun e w' => ∃ (p : Int) (a : Option Addr) (n c : Nat) (a2 : Option Addr) (n2 c2 : Nat) (a3 : Option Addr) (c3 : Nat), e = .returned (.tuple #[.agg #[.int .i64 p, .slice a n c, .slice a2 n2 c2], .slice a3 m c3, .int .i64 0]) ∧ Hid (PlH s es p a n c a2 n2 c2 a3 m c3 w' ∧ Below V.heap.size V w') := by
  subst hm hp hcn hdn
  obtain ⟨p, cs, ds⟩ := s
  have h0 := Play_good ok2 ok p cs ds ca cc da dc xss oa oc es V hI hM hL ht hl hpos (by have : cs.length ≤ 1000000 := hfew; omega) (by have : ds.length ≤ 1000000 := hfd; omega)
  refine h0.mono ?_
  rintro e w' ⟨a, n, c, a2, n2, c2, a3, n3, c3, rfl, h1, h2, h3, h4, h5, h6⟩
  have h9 : n3 = xss.length := by rw [h3, playM_length]; exact ht.length.symm
  subst h9
  exact ⟨_, a, n, c, a2, n2, c2, a3, c3, rfl, ⟨rfl, h1, h2, h3, h4.weak, h5.move (Kept.of_below (Below.refl _ _)) (fun _ _ _ => trivial)⟩, h6⟩

/-- a log of wishes, whatever has been made since -/
theorem LogOf_law (l : List Wsh) (la : Option Addr) (lc : Nat) (n : Nat) (hn : n ≤ 1000) (w V : World) (hV : Below w.heap.size w V) (hL : Lies kWi (fun _ => True) w la lc l) :
    Calls Try.prog 24 #[.slice la l.length lc, .int .i64 n] V fun e w' => ∃ (oa : Option Addr) (on oc : Nat) (xa : Option Addr) (xn xc : Nat), e = .returned (.tuple #[.slice oa on oc, .slice xa xn xc, .bool true]) ∧ Hid (∃ js : List Itt, LogJ n js ∧ on = js.length ∧ xn = js.length ∧ Lies kLog (fun b => V.heap.size ≤ b) w' oa oc (js.map encI) ∧ Ples oa oc ∧ Lies kItt (fun b => V.heap.size ≤ b) w' xa xc js ∧ Below w.heap.size w w') := by
  refine (LogOf_any l la lc n hn V (hL.later hV)).mono ?_
  rintro e w' ⟨oa, on, oc, xa, xn, xc, rfl, js, h1, h2, h3, h4, h5, h6, h7⟩
  exact ⟨oa, on, oc, xa, xn, xc, rfl, js, h1, h2, h3, h4, h5, h6, hV.trans (h7.mono hV.size)⟩

theorem own_plesA {w : World} {base n size : Nat} {e : TypeId} {a : Option Addr} {m c : Nat} {vs : List Value} (h : w.ownsRow base e size (.slice a m c) n vs) : Ples a c := by
  rcases h.2 with ⟨h1, h2⟩ | ⟨g, cap, cur, h1, -⟩
  · simp only [Value.slice.injEq] at h1
    obtain ⟨rfl, -, rfl⟩ := h1
    exact Ples.none
  · simp only [Value.slice.injEq] at h1
    obtain ⟨rfl, rfl, rfl⟩ := h1
    exact Ples.some _ _ _


/-- of a log the first ones -/
theorem log_take {V : World} {ok : Nat → Prop} {js : List Itt} {oa : Option Addr} {oc : Nat} (hL : Lies kLog ok V oa oc (js.map encI)) (k : Nat) : Lies kLog ok V oa oc ((js.take k).map encI) := by
  have h := hL.take k
  rwa [← List.map_take] at h

/-- the state behind a log may be -/
theorem may_js {js : List Itt} (hm : ∀ x ∈ js, Mild x) (hl : js.length ≤ 1000) : MayS (playM noSta (js.map some)).1 :=
  MayS.play _ noSta_may (by rw [List.length_map]; show (0 : Int) + _ ≤ _; omega) (fun x hx => by
    obtain ⟨y, hy, e⟩ := List.mem_map.1 hx
    cases e
    exact (hm _ hy).may)

theorem few_js {js : List Itt} (hm : ∀ x ∈ js, Mild x) : (playM noSta (js.map some)).1.cells.length ≤ 400 * js.length ∧ (playM noSta (js.map some)).1.dones.length ≤ js.length := by
  have h := playM_few (js.map some) (js.map encI) Ordl.none (tells_js hm)
  rw [List.length_map] at h
  simpa [noSta] using h

/-- what is asked twice is told so, and changes nothing -/
theorem twice_js {js : List Itt} {i k : Nat} (hk : k ≤ js.length) (hi : i < k) : playM noSta ((js.take k).map some ++ [some (js[i]'(by omega))]) = (⟨(playM noSta ((js.take k).map some)).1.pos + 1, (playM noSta ((js.take k).map some)).1.cells, (playM noSta ((js.take k).map some)).1.dones⟩, (playM noSta ((js.take k).map some)).2 ++ [7]) := by
  have hm : some (js[i]'(by omega)) ∈ (js.take k).map some := by
    refine List.mem_map.2 ⟨_, ?_, rfl⟩
    rw [List.mem_take_iff_getElem]
    exact ⟨i, by omega, rfl⟩
  have h := hasD_mem _ noSta hm
  rw [playM_snoc, (stepM_done h).1, (stepM_done h).2]

end Go.Proofs.Ytjjdednlddnllaa
