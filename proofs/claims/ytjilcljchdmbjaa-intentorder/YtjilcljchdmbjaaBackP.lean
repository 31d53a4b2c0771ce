/- An intent of a wish, its bytes, and what is read of them: contracts for the laws. -/
import Derived.Test.YtjilcljchdmbjaaWishArg
import Derived.Test.YtjilcljchdmbjaaSameIttK
import Derived.Test.YtjilcljchdmbjaaItEnc
import Derived.Test.YtjilcljchdmbjaaKpWish
namespace Go.Proofs.Ytjilcljchdmbjaa
open Go.ChangeShapes Go.WideShapes Go.ChangeAt Go.RowKit

/-- an intent in memory, its bytes beside it -/
structure BkI (w : World) (X : Nat) (C N B : Int) (rs : List Ent) (ws : List Wt) (ra : Option Addr) (rn rc : Nat) (wa : Option Addr) (wn wc : Nat) (V : World) : Prop where
  var : Cls V X [.int .i64 C, .int .i64 N, .int .i64 B, .slice ra rn rc, .slice wa wn wc]
  below : Below w.heap.size w V
  it : ItIs (fun _ => True) V rs ws ra rc wa wc
  rn : rn = rs.length
  wn : wn = ws.length

theorem BkI.later {w V V' : World} {X : Nat} {C N B : Int} {rs : List Ent} {ws : List Wt} {ra : Option Addr} {rn rc : Nat} {wa : Option Addr} {wn wc : Nat} (h : BkI w X C N B rs ws ra rn rc wa wn wc V) (hb : Below V.heap.size V V') : BkI w X C N B rs ws ra rn rc wa wn wc V' :=
  ⟨h.var.later hb, h.below.trans (hb.mono h.below.size), h.it.later hb, h.rn, h.wn⟩

theorem IntentOf_law (c n s : Int) (xs ys : List Int) (xa ya : Option Addr) (xc yc : Nat) (g : Bool) (w V : World) (hV : Below w.heap.size w V) (hx : Lies kI (fun _ => True) w xa xc xs) (hy : Lies kI (fun _ => True) w ya yc ys) :
    Calls Try.prog 10 #[.agg #[.int .i64 c, .int .i64 n, .int .i64 s, .slice xa xs.length xc, .slice ya ys.length yc, .bool g]] V fun e w' => ∃ (C N B : Int) (ra : Option Addr) (rn rc : Nat) (wa : Option Addr) (wn wc : Nat), e = .returned (.agg #[.int .i64 C, .int .i64 N, .int .i64 B, .slice ra rn rc, .slice wa wn wc]) ∧ Hid (Below w.heap.size w w' ∧ ∃ (rs : List Ent) (ws : List Wt), rn = rs.length ∧ wn = ws.length ∧ ItIs (fun _ => True) w' rs ws ra rc wa wc ∧ Mild ⟨C, N, B, rs, ws⟩) :=
  (IntentOf_any c n s xs ys xa ya xc yc g V (hx.later hV) (hy.later hV)).mono (fun _ _ ⟨C, N, B, ra, rn, rc, wa, wn, wc, h1, h2, rs, ws, h3, h4, h5, h6⟩ => ⟨C, N, B, ra, rn, rc, wa, wn, wc, h1, hV.trans (h2.mono hV.size), rs, ws, h3, h4, ⟨h5.reads.move (Kept.of_below (Below.refl _ _)) (fun _ _ _ => trivial), h5.writes.move (Kept.of_below (Below.refl _ _)) (fun _ _ _ => trivial), h5.few⟩, h6⟩)

/-- its variable is laid -/
theorem bk_new {w w1 : World} {C N B : Int} {rs : List Ent} {ws : List Wt} {ra : Option Addr} {rn rc : Nat} {wa : Option Addr} {wn wc : Nat} (h1 : Below w.heap.size w w1) (h2 : rn = rs.length) (h3 : wn = ws.length) (h4 : ItIs (fun _ => True) w1 rs ws ra rc wa wc) :
    BkI w w1.heap.size C N B rs ws ra rn rc wa wn wc (w1.alloc (.cells #[.int .i64 C, .int .i64 N, .int .i64 B, .slice ra rn rc, .slice wa wn wc] 26)) := by
  have hb := (Below.refl w1.heap.size w1).alloc (Nat.le_refl _) (.cells #[.int .i64 C, .int .i64 N, .int .i64 B, .slice ra rn rc, .slice wa wn wc] 26)
  exact ⟨Cls.new w1 _ _, h1.trans (hb.mono h1.size), h4.later hb, h2, h3⟩

/-- May says yes -/
theorem May_bk {w V : World} {X : Nat} {C N B : Int} {rs : List Ent} {ws : List Wt} {ra : Option Addr} {rn rc : Nat} {wa : Option Addr} {wn wc : Nat} (h : BkI w X C N B rs ws ra rn rc wa wn wc V) (R : Bool) (hR : R = true ↔ MayI ⟨C, N, B, rs, ws⟩) :
    Calls Try.prog 12 #[.agg #[.int .i64 C, .int .i64 N, .int .i64 B, .slice ra rn rc, .slice wa wn wc]] V fun e w' => e = .returned (.bool R) ∧ Below V.heap.size V w' := by
  have := May_any _ C N B rs ws ra rc wa wc V h.it R hR
  rwa [← h.rn, ← h.wn] at this

theorem encI_twenty (x : Itt) : 20 ≤ (encI x).length := by
  simp only [encI, List.length_append, le4_length]
  omega

/-- its bytes -/
theorem Encode_bk {w V : World} {X : Nat} {C N B : Int} {rs : List Ent} {ws : List Wt} {ra : Option Addr} {rn rc : Nat} {wa : Option Addr} {wn wc : Nat} (h : BkI w X C N B rs ws ra rn rc wa wn wc V) (hM : Mild ⟨C, N, B, rs, ws⟩) (L : Nat) (hL : L = (encI ⟨C, N, B, rs, ws⟩).length) :
    Calls Try.prog 11 #[.agg #[.int .i64 C, .int .i64 N, .int .i64 B, .slice ra rn rc, .slice wa wn wc]] V fun e w' => ∃ (b off k : Nat), e = .returned (.tuple #[.slice (some ⟨b, off, none⟩) L k, .int .i64 0]) ∧ L ≤ k ∧ Hid (Octs w' (some ⟨b, off, none⟩) k (encI ⟨C, N, B, rs, ws⟩) ∧ b < w'.heap.size ∧ Below V.heap.size V w') := by
  have hE := Encode_any _ C N B rs ws ra rc wa wc V h.it
  rw [← h.rn, ← h.wn] at hE
  refine hE.mono ?_
  rintro e w' ⟨zs, ecode, a6, m6, k6, rfl, h1, h2, h3, h4, h5⟩
  have h8 : EncIs ⟨C, N, B, rs, ws⟩ (encI ⟨C, N, B, rs, ws⟩) 0 := .inr (.inr ⟨hM.may, by have := hM.short; omega, rfl, rfl⟩)
  obtain ⟨rfl, rfl⟩ := h1.one h8
  have h20 := encI_twenty ⟨C, N, B, rs, ws⟩
  obtain ⟨b, off, rfl, -⟩ := h3.at (k := 0) (by omega)
  have hcap := h3.1
  exact ⟨b, off, k6, by rw [h2, hL], by omega, h3, h3.blocks (fun e => by rw [e] at h20; simp at h20) _ rfl, h5⟩

/-- what is read of bytes that are none's -/
theorem Decode_none {V : World} {b off k m : Nat} {zs : List Int} (ho : Octs V (some ⟨b, off, none⟩) k zs) (hm : m = zs.length) (hb : b < V.heap.size) (hn : ∀ y, ¬ DecIs zs y) :
    Calls Try.prog 6 #[.slice (some ⟨b, off, none⟩) m k] V fun e w' => ∃ (c n s : Int) (ra : Option Addr) (rn rc : Nat) (wa : Option Addr) (wn wc : Nat), e = .returned (.tuple #[.agg #[.int .i64 c, .int .i64 n, .int .i64 s, .slice ra rn rc, .slice wa wn wc], .int .i64 4]) ∧ Below V.heap.size V w' := by
  subst hm
  refine (Decode_any _ k zs V ho (Ples.some _ _ _) (fun ad e => by cases e; exact hb)).mono ?_
  rintro e w' ⟨c, n, s, ra, rn, rc, wa, wn, wc, code, rfl, h1, rs, ws, -, -, -, h2⟩
  rcases h2 with ⟨h2, -⟩ | ⟨-, rfl, -⟩
  · exact absurd h2 (hn _)
  · exact ⟨c, n, s, ra, rn, rc, wa, wn, wc, rfl, h1⟩

/-- what is read of its bytes -/
theorem Decode_bk {V : World} {C N B : Int} {rs : List Ent} {ws : List Wt} {b off k L : Nat} (hM : Mild ⟨C, N, B, rs, ws⟩) (hL : L = (encI ⟨C, N, B, rs, ws⟩).length) (ho : Octs V (some ⟨b, off, none⟩) k (encI ⟨C, N, B, rs, ws⟩)) (hb : b < V.heap.size) :
    Calls Try.prog 6 #[.slice (some ⟨b, off, none⟩) L k] V fun e w' => ∃ (ra : Option Addr) (rn rc : Nat) (wa : Option Addr) (wn wc : Nat), e = .returned (.tuple #[.agg #[.int .i64 C, .int .i64 N, .int .i64 B, .slice ra rn rc, .slice wa wn wc], .int .i64 0]) ∧ Hid (rn = rs.length ∧ wn = ws.length ∧ ItIs (fun _ => True) w' rs ws ra rc wa wc ∧ Below V.heap.size V w') := by
  subst hL
  refine (Decode_any _ k _ V ho (Ples.some _ _ _) (fun ad e => by cases e; exact hb)).mono ?_
  rintro e w' ⟨c, n, s, ra, rn, rc, wa, wn, wc, code, rfl, h1, rs', ws', h3, h4, h5, h2⟩
  have hd : DecCode (encI ⟨C, N, B, rs, ws⟩) ⟨C, N, B, rs, ws⟩ 0 := .inl ⟨⟨hM.may, rfl, by have := hM.short; omega⟩, rfl⟩
  obtain ⟨e1, rfl⟩ := h2.one hd
  simp only [Itt.mk.injEq] at e1
  obtain ⟨rfl, rfl, rfl, rfl, rfl⟩ := e1
  exact ⟨ra, rn, rc, wa, wn, wc, rfl, h3, h4, ⟨h5.reads.move (Kept.of_below (Below.refl _ _)) (fun _ _ _ => trivial), h5.writes.move (Kept.of_below (Below.refl _ _)) (fun _ _ _ => trivial), h5.few⟩, h1⟩

/-- cut, or with one byte more, they are none's -/
theorem enc_cut_none {x : Itt} (hx : Mild x) {k : Nat} (hk : k < (encI x).length) : ∀ y, ¬ DecIs ((encI x).take k) y := fun _ hy => encI_cut_off hx.may hy.1 hk hy.2.1

theorem enc_more_none {x : Itt} (hx : Mild x) (m : Int) : ∀ y, ¬ DecIs (encI x ++ [m]) y := fun y hy => by
  have hk : (encI x).length < (encI y).length := by rw [hy.2.1]; simp
  refine encI_cut_off hy.1 hx.may hk ?_
  rw [hy.2.1]
  simp

theorem own_plesB {w : World} {base n size : Nat} {e : TypeId} {a : Option Addr} {m c : Nat} {vs : List Value} (h : w.ownsRow base e size (.slice a m c) n vs) : ∀ ad, a = some ad → ad.block < w.heap.size := by
  rcases h.2 with ⟨h1, h2⟩ | ⟨g, cap, cur, h1, -⟩
  · simp only [Value.slice.injEq] at h1
    obtain ⟨rfl, -, rfl⟩ := h1
    exact fun ad e => by cases e
  · simp only [Value.slice.injEq] at h1
    obtain ⟨rfl, rfl, rfl⟩ := h1
    exact fun ad e => by cases e; exact (h.lt g rfl).2

end Go.Proofs.Ytjilcljchdmbjaa
