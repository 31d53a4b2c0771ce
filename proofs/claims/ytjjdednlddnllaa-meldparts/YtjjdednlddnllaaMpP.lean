/- A log that is played in two parts: what the laws want. -/
import Derived.Test.YtjjdednlddnllaaMlLaw
import Derived.Test.YtjjdednlddnllaaMlSave
import Derived.Test.YtjjdednlddnllaaLdLoad
import Derived.Test.YtjjdednlddnllaaUnguard
namespace Go.Proofs.Ytjjdednlddnllaa
open Go.ChangeShapes Go.WideShapes Go.ChangeAt Go.RowKit

theorem flat_le {α : Type} (f : α → List Int) (q : Nat) : ∀ (l : List α), (∀ x ∈ l, (f x).length ≤ q) → (l.flatMap f).length ≤ q * l.length
  | [], _ => by simp
  | x :: l, h => by
    have h1 := h x List.mem_cons_self
    have h2 := flat_le f q l (fun y hy => h y (List.mem_cons_of_mem _ hy))
    rw [List.flatMap_cons, List.length_append, List.length_cons, Nat.mul_add]
    omega

/-- so many bytes tell a state at most -/
theorem encS_few {s : Sta} (h : MayS s) : (encS s).length ≤ 12 + 5213 * s.cells.length + 13 * s.dones.length := by
  have h1 := flat_le encC 5213 s.cells (fun c hc => by
    have h2 := h.cells c hc
    have h3 : c.key.length ≤ 1200 := h2.2.1
    have h4 : c.val.length ≤ 4000 := h2.2.2.1
    rw [encC_length]; omega)
  have h2 := flat_le encD 13 s.dones (fun d _ => by rw [encD_length]; omega)
  simp only [encS, List.length_append, le4_length]
  omega

theorem encS_some (s : Sta) : encS s ≠ [] := by
  intro h
  have := congrArg List.length h
  simp only [encS, List.length_append, le4_length, List.length_nil] at this
  omega

theorem octs_ples {w : World} {a : Option Addr} {c : Nat} {xs : List Int} (h : Octs w a c xs) (hx : xs ≠ []) : Ples a c ∧ ∀ ad, a = some ad → ad.block < w.heap.size := by
  refine ⟨?_, fun ad e => h.blocks hx ad e⟩
  rcases h.2.2.2.2 with h0 | ⟨b, off, e, -⟩
  · exact absurd h0 hx
  · rw [e]; exact Ples.some _ _ _

/-- what was played, in memory of so many blocks -/
structure PlQ (ok : Nat → Prop) (s : Sta) (es : List (Option Itt)) (p : Int) (a : Option Addr) (n c : Nat) (a2 : Option Addr) (n2 c2 : Nat) (a3 : Option Addr) (n3 c3 : Nat) (w : World) : Prop where
  pos : p = (playM s es).1.pos
  cn : n = (playM s es).1.cells.length
  dn : n2 = (playM s es).1.dones.length
  st : StIs ok w (playM s es).1.cells (playM s es).1.dones a c a2 c2
  told : Lies kNum ok w a3 c3 (playM s es).2

theorem PlQ.move {ok ok' : Nat → Prop} {s : Sta} {es : List (Option Itt)} {p : Int} {a : Option Addr} {n c : Nat} {a2 : Option Addr} {n2 c2 : Nat} {a3 : Option Addr} {n3 c3 : Nat} {w w' : World} (h : PlQ ok s es p a n c a2 n2 c2 a3 n3 c3 w) (hk : Kept ok w w') (ho : ∀ b, b < w.heap.size → ok b → ok' b) : PlQ ok' s es p a n c a2 n2 c2 a3 n3 c3 w' :=
  ⟨h.pos, h.cn, h.dn, ⟨h.st.cells.move hk ho, h.st.dones.move hk ho, h.st.few⟩, h.told.move hk ho⟩

theorem PlQ.later {ok : Nat → Prop} {s : Sta} {es : List (Option Itt)} {p : Int} {a : Option Addr} {n c : Nat} {a2 : Option Addr} {n2 c2 : Nat} {a3 : Option Addr} {n3 c3 : Nat} {w w' : World} (h : PlQ ok s es p a n c a2 n2 c2 a3 n3 c3 w) (hb : Below w.heap.size w w') : PlQ ok s es p a n c a2 n2 c2 a3 n3 c3 w' := h.move (Kept.of_below hb) (fun _ _ h => h)

/-- from a state, in new memory -/
theorem Play_fresh {V : World} {ok ok2 : Nat → Prop} {s : Sta} {p : Int} {ca : Option Addr} {cn cc : Nat} {da : Option Addr} {dn dc : Nat} {xss : List (List Int)} {es : List (Option Itt)} {oa : Option Addr} {oc m : Nat} (hp : p = s.pos) (hcn : cn = s.cells.length) (hdn : dn = s.dones.length) (hI : StIs ok2 V s.cells s.dones ca cc da dc) (hM : MayS s) (hL : Lies kLog ok V oa oc xss) (ht : All2 TellsI xss es) (hl : xss.length ≤ 300) (hm : m = xss.length) (hpos : s.pos + xss.length ≤ 1048576) (hfew : s.cells.length ≤ 1000000) (hfd : s.dones.length ≤ 1000000) :
    Calls Try.prog 11 #[.agg #[.int .i64 p, .slice ca cn cc, .slice da dn dc], .slice oa m oc] V fun e w' => ∃ (p : Int) (a : Option Addr) (n c : Nat) (a2 : Option Addr) (n2 c2 : Nat) (a3 : Option Addr) (c3 : Nat), e = .returned (.tuple #[.agg #[.int .i64 p, .slice a n c, .slice a2 n2 c2], .slice a3 m c3, .int .i64 0]) ∧ Hid (PlQ (fun b => V.heap.size ≤ b) s es p a n c a2 n2 c2 a3 m c3 w' ∧ Below V.heap.size V w') := by
  subst hm hp hcn hdn
  obtain ⟨p, cs, ds⟩ := s
  have h0 := Play_good ok2 ok p cs ds ca cc da dc xss oa oc es V hI hM hL ht hl hpos (by have : cs.length ≤ 1000000 := hfew; omega) (by have : ds.length ≤ 1000000 := hfd; omega)
  refine h0.mono ?_
  rintro e w' ⟨a, n, c, a2, n2, c2, a3, n3, c3, rfl, h1, h2, h3, h4, h5, h6⟩
  have h9 : n3 = xss.length := by rw [h3, playM_length]; exact ht.length.symm
  subst h9
  exact ⟨_, a, n, c, a2, n2, c2, a3, c3, rfl, ⟨rfl, h1, h2, h4, h5⟩, h6⟩

/-- what is saved of a state that may be -/
theorem Save_good {V : World} {s : Sta} (hM : MayS s) (hfew : (encS s).length ≤ 900000000) {p : Int} {a : Option Addr} {n c : Nat} {a2 : Option Addr} {n2 c2 : Nat} (hp : p = s.pos) (hn : n = s.cells.length) (hn2 : n2 = s.dones.length) (hI : StIs (fun _ => True) V s.cells s.dones a c a2 c2) :
    Calls Try.prog 18 #[.agg #[.int .i64 p, .slice a n c, .slice a2 n2 c2]] V fun e w' => ∃ (sa : Option Addr) (sm sk : Nat), e = .returned (.tuple #[.slice sa sm sk, .int .i64 0]) ∧ Hid (sm = (encS s).length ∧ Octs w' sa sk (encS s) ∧ Below V.heap.size V w') := by
  subst hp hn hn2
  obtain ⟨p, cs, ds⟩ := s
  refine (Save_any _ p cs ds a c a2 c2 V hI hfew).mono ?_
  rintro e w' ⟨ys, code, sa, sm, sk, rfl, h1, h2, h3, -, h5⟩
  rcases h1 with ⟨-, rfl, rfl⟩ | ⟨h, -⟩
  · exact ⟨sa, sm, sk, rfl, h2, h3, h5⟩
  · exact absurd hM h

theorem Load_from {V : World} {s : Sta} (hM : MayS s) (hc : s.cells.length ≤ 1000000) (hd : s.dones.length ≤ 1000000) {k : Nat} (hk : s.pos = (k : Int)) {sa : Option Addr} {sm sk : Nat} (hm : sm = (encS s).length) (ho : Octs V sa sk (encS s)) :
    Calls Try.prog 21 #[.slice sa sm sk] V fun e w' => ∃ (a : Option Addr) (n c : Nat) (a2 : Option Addr) (n2 c2 : Nat), e = .returned (.tuple #[.agg #[.int .i64 (k : Int), .slice a n c, .slice a2 n2 c2], .int .i64 0]) ∧ Hid (n = s.cells.length ∧ n2 = s.dones.length ∧ StIs (fun _ => True) w' s.cells s.dones a c a2 c2 ∧ Below V.heap.size V w') := by
  obtain ⟨p, cs, ds⟩ := s
  obtain rfl : p = (k : Int) := hk
  obtain ⟨h1, h2⟩ := octs_ples ho (encS_some _)
  refine (Load_good k cs ds hM hc hd sa sm sk V hm ho h1 h2).mono ?_
  rintro e w' ⟨ca, n1, cc, da, n2, dc, rfl, h3, h4, h5, h6⟩
  exact ⟨ca, n1, cc, da, n2, dc, rfl, h3, h4, h5.weak, h6⟩

/-- a state in slots -/
structure QSt (s : Sta) (p : Int) (a : Option Addr) (n c : Nat) (a2 : Option Addr) (n2 c2 : Nat) (w : World) : Prop where
  pos : p = s.pos
  cn : n = s.cells.length
  dn : n2 = s.dones.length
  st : StIs (fun _ => True) w s.cells s.dones a c a2 c2

theorem QSt.later {s : Sta} {p : Int} {a : Option Addr} {n c : Nat} {a2 : Option Addr} {n2 c2 : Nat} {w w' : World} (h : QSt s p a n c a2 n2 c2 w) (hb : Below w.heap.size w w') : QSt s p a n c a2 n2 c2 w' := ⟨h.pos, h.cn, h.dn, h.st.later hb⟩

theorem May_q {s : Sta} {p : Int} {a : Option Addr} {n c : Nat} {a2 : Option Addr} {n2 c2 : Nat} {V : World} (hM : MayS s) (h : QSt s p a n c a2 n2 c2 V) :
    Calls Try.prog 9 #[.agg #[.int .i64 p, .slice a n c, .slice a2 n2 c2]] V fun e w' => e = .returned (.bool true) ∧ Below V.heap.size V w' := by
  obtain ⟨rfl, rfl, rfl, hI⟩ := h
  exact MayS_any _ s.pos s.cells s.dones a c a2 c2 V hI true (by simpa using hM)

theorem same_q {s : Sta} {p q : Int} {a b : Option Addr} {n m c d : Nat} {a2 b2 : Option Addr} {n2 m2 c2 d2 : Nat} {V : World} (h : QSt s p a n c a2 n2 c2 V) (h' : QSt s q b m d b2 m2 d2 V) :
    Calls Try.prog 26 #[.agg #[.int .i64 p, .slice a n c, .slice a2 n2 c2], .agg #[.int .i64 q, .slice b m d, .slice b2 m2 d2]] V fun e w' => e = .returned (.bool true) ∧ Below V.heap.size V w' := by
  obtain ⟨rfl, rfl, rfl, hI⟩ := h
  obtain ⟨rfl, rfl, rfl, hJ⟩ := h'
  exact sameStateK_yes _ _ s.pos s.cells s.dones a b a2 b2 c d c2 d2 V hI hJ

theorem codes_q {l : List Int} (hl : l.length ≤ 1000) {a b : Option Addr} {n m c d : Nat} {V : World} (hn : n = l.length) (hm : m = l.length) (hL : Lies kNum (fun _ => True) V a c l) (hM : Lies kNum (fun _ => True) V b d l) :
    Calls Try.prog 27 #[.slice a n c, .slice b m d] V fun e w' => e = .returned (.bool true) ∧ Below V.heap.size V w' := by
  subst hn
  rw [hm]
  exact sameCodesK_yes _ _ l (by omega) a b c d V hL hM

/-- a log in two parts -/
theorem two_parts (js : List Itt) (k : Nat) : playM noSta (js.map some) = ((playM (playM noSta ((js.take k).map some)).1 ((js.drop k).map some)).1, (playM noSta ((js.take k).map some)).2 ++ (playM (playM noSta ((js.take k).map some)).1 ((js.drop k).map some)).2) := by
  rw [← playM_append, ← List.map_append, List.take_append_drop]

end Go.Proofs.Ytjjdednlddnllaa
