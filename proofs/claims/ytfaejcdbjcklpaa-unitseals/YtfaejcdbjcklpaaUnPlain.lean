/- A unit in plain words: slots, an epoch, the address that was stored just now; what each job comes to. -/
import Derived.Test.YtfaejcdbjcklpaaTrOne
namespace Go.Proofs.Ytfaejcdbjcklpaa
open Go.ChangeShapes Go.WideShapes Go.ChangeAt Go.RowKit

/-- a job -/
structure Jb where
  kind : Int
  epoch : Int
  addr : Int
  data : List Int

/-- a reply -/
structure Rp where
  code : Int
  junk : Bool
  data : List Int
  tail : Int

/-- a slot: unwritten (0), data (1), junk (2), trimmed (3) -/
structure Sl where
  kind : Nat
  data : List Int

/-- a unit: slots, epoch, and the address that was stored just now (-1: none) -/
structure Un where
  sl : Nat → Sl
  ep : Int
  fr : Int

def rp (c : Int) : Rp := ⟨c, false, [], 0⟩

def readSl (s : Sl) : Rp := if s.kind = 0 then rp 17 else if s.kind = 1 then ⟨0, false, s.data, 0⟩ else if s.kind = 2 then ⟨0, true, [], 0⟩ else rp 16

def Un.put (u : Un) (a : Nat) (s : Sl) : Un := ⟨fun i => if i = a then s else u.sl i, u.ep, u.fr⟩

/-- why nothing is put where this stands, and what is told of it -/
def hasSl (s : Sl) : Rp := ⟨if s.kind = 3 then 16 else 15, (readSl s).junk, (readSl s).data, 0⟩

def putU (u : Un) (a : Nat) (s : Sl) : Rp × Un := if (u.sl a).kind = 0 then (rp 0, u.put a s) else (hasSl (u.sl a), u)

def tailTo (sl : Nat → Sl) : Nat → Nat
  | 0 => 0
  | n + 1 => if (sl n).kind = 0 then tailTo sl n else n + 1

def sealU (u : Un) (e : Int) : Rp × Un :=
  if e ≤ u.ep then (rp 18, u) else if 1000000 < e then (rp 2, u) else (⟨0, false, [], tailTo u.sl 64⟩, ⟨u.sl, e, u.fr⟩)

def crashU (u : Un) (fr size : Int) : Un :=
  if fr = -1 then u else if (u.sl fr.toNat).kind = 1 ∧ size < 8 + ((u.sl fr.toNat).data.length : Int) then u.put fr.toNat ⟨0, []⟩ else u

def storeU (u : Un) (a : Nat) (d : List Int) : Rp × Un :=
  if 4000 < d.length then (rp 1, u) else if (u.sl a).kind = 0 then (rp 0, ⟨(u.put a ⟨1, d⟩).sl, u.ep, a⟩) else (hasSl (u.sl a), u)

def atU (u : Un) (j : Jb) : Rp × Un :=
  if j.epoch ≠ u.ep then (rp 18, u) else if j.addr < 0 ∨ 64 ≤ j.addr then (rp 2, u) else
    if j.kind = 1 then storeU u j.addr.toNat j.data else if j.kind = 2 then (readSl (u.sl j.addr.toNat), u) else
      if j.kind = 3 then putU u j.addr.toNat ⟨2, []⟩ else (rp 0, u.put j.addr.toNat ⟨3, []⟩)

def Un.calm (u : Un) : Un := ⟨u.sl, u.ep, -1⟩

def stepU (u : Un) (j : Jb) : Rp × Un :=
  if j.kind = 1 ∨ j.kind = 2 ∨ j.kind = 3 ∨ j.kind = 4 then atU u.calm j else if j.kind = 5 then sealU u.calm j.epoch else
    if j.kind = 6 then (rp 0, crashU u.calm u.fr j.addr) else (rp 3, u.calm)

def playU (u : Un) : List Jb → List Rp × Un
  | [] => ([], u)
  | j :: js => ((stepU u j).1 :: (playU (stepU u j).2 js).1, (playU (stepU u j).2 js).2)

def unit0 : Un := ⟨fun _ => ⟨0, []⟩, 0, -1⟩

theorem playU_append (u : Un) (l m : List Jb) : playU u (l ++ m) = ((playU u l).1 ++ (playU (playU u l).2 m).1, (playU (playU u l).2 m).2) := by
  induction l generalizing u with
  | nil => rfl
  | cons j js ih => simp only [List.cons_append, playU, ih]

theorem playU_snoc (u : Un) (l : List Jb) (j : Jb) : playU u (l ++ [j]) = ((playU u l).1 ++ [(stepU (playU u l).2 j).1], (stepU (playU u l).2 j).2) := by
  rw [playU_append]
  rfl

theorem playU_length (u : Un) (l : List Jb) : (playU u l).1.length = l.length := by
  induction l generalizing u with
  | nil => rfl
  | cons j js ih => simp only [playU, List.length_cons, ih]

/-- what may stand in a unit: slots of the four kinds, data of no more than 4000 bytes, an address there is -/
structure MayU (u : Un) : Prop where
  kinds : ∀ i, (u.sl i).kind = 0 ∨ (u.sl i).kind = 1 ∨ (u.sl i).kind = 2 ∨ (u.sl i).kind = 3
  fr : u.fr = -1 ∨ (0 ≤ u.fr ∧ u.fr < 64)

end Go.Proofs.Ytfaejcdbjcklpaa
