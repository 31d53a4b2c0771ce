/- Tokens as a statement, over plain lists: the reader that goes down P7.2 rule by rule, rule for rule as the program has it. No model here. -/
import Derived.Test.YtedinkoapieakaaDoorLexPlain
namespace Go.Proofs.YtedinkoapieakaaDoor

/-- an expression: a leaf (its Op, its Value, Table, Name), one part, two parts -/
inductive Ex where
  | leaf (op : Int) (v : Tok) (table name : List UInt8)
  | un (op : Int) (a : Ex)
  | bi (op : Int) (a b : Ex)
deriving DecidableEq

/-- where the reader is: the tokens that are left, and whether it has refused -/
structure St where
  rest : List Tok
  ref : Bool
deriving DecidableEq

def St.next (s : St) : Tok := if s.ref then zeroTok else s.rest.headD zeroTok
def St.adv (s : St) : St := ⟨s.rest.tail, s.ref⟩
def St.stop (s : St) : St := ⟨s.rest, true⟩
/-- how many tokens it can still read -/
def St.len (s : St) : Nat := if s.ref then 0 else s.rest.length

def keptList : List (List UInt8) := [[97, 110, 100], [98, 121], [99, 111, 117, 110, 116], [99, 114, 101, 97, 116, 101], [100, 101, 108, 101, 116, 101], [100, 101, 115, 99], [102, 97, 108, 115, 101], [102, 114, 111, 109], [103, 114, 111, 117, 112], [105, 110, 100, 101, 120], [105, 110, 115, 101, 114, 116], [105, 110, 116], [105, 110, 116, 111], [105, 115], [106, 111, 105, 110], [107, 101, 121], [108, 105, 109, 105, 116], [109, 97, 120], [109, 105, 110], [110, 111, 116], [110, 117, 108, 108], [111, 110], [111, 114], [111, 114, 100, 101, 114], [112, 114, 105, 109, 97, 114, 121], [115, 101, 108, 101, 99, 116], [115, 101, 116], [115, 117, 109], [116, 97, 98, 108, 101], [116, 101, 120, 116], [116, 114, 117, 101], [116, 114, 117, 116, 104], [117, 112, 100, 97, 116, 101], [118, 97, 108, 117, 101, 115], [119, 104, 101, 114, 101]]
def kept (w : List UInt8) : Bool := keptList.contains w

/-- is a token one of these Words and Marks? -/
def isOne (ws : List (List UInt8)) (t : Tok) : Bool := (decide (t.kind = 1) || decide (t.kind = 4)) && ws.contains t.text
def anyOf (ws : List (List UInt8)) (s : St) : List UInt8 × St := if isOne ws s.next then (s.next.text, s.adv) else ([], s)
def oneOf (ws : List (List UInt8)) (s : St) : List UInt8 × St := if (anyOf ws s).1 = [] then ([], (anyOf ws s).2.stop) else anyOf ws s
def needs : List (List UInt8) → St → St
  | [], s => s
  | w :: ws, s => needs ws (oneOf [w] s).2
def mayBe (first : List UInt8) (behind : List (List UInt8)) (s : St) : Bool × St :=
  if (anyOf [first] s).1 = [] then (false, (anyOf [first] s).2) else (true, needs behind (anyOf [first] s).2)
def isName (t : Tok) : Bool := decide (t.kind = 1) && !kept t.text
def nameP (s : St) : List UInt8 × St := if isName s.next then (s.next.text, s.adv) else ([], s.stop)
def numberP (s : St) : Int × St := if s.next.kind = 2 then (s.next.int, s.adv) else (0, s.stop)

/-- the operators between two parts -/
def opList : List (List UInt8 × Int) := [([43], 8), ([45], 9), ([42], 10), ([47], 11), ([37], 12), ([61], 13), ([60, 62], 14), ([60], 15), ([60, 61], 16), ([62], 17), ([62, 61], 18), ([97, 110, 100], 19), ([111, 114], 20)]
def opIn : List (List UInt8 × Int) → List UInt8 → Int
  | [], _ => 0
  | p :: r, w => if p.1 = w then p.2 else opIn r w
def opOf (w : List UInt8) : Int := opIn opList w

def leftLoop (part : St → Ex × St) (signs : List (List UInt8)) : Nat → Ex → St → Ex × St
  | 0, e, s => (e, s)
  | n + 1, e, s =>
    if opOf (anyOf signs s).1 = 0 then (e, (anyOf signs s).2)
    else leftLoop part signs n (.bi (opOf (anyOf signs s).1) e (part (anyOf signs s).2).1) (part (anyOf signs s).2).2
def leftward (part : St → Ex × St) (signs : List (List UInt8)) (s : St) : Ex × St := leftLoop part signs ((part s).2.len + 1) (part s).1 (part s).2

def columnOfP (s : St) : Ex × St :=
  if (mayBe [46] [] (nameP s).2).1 then (.leaf 2 zeroTok (nameP s).1 (nameP (mayBe [46] [] (nameP s).2).2).1, (nameP (mayBe [46] [] (nameP s).2).2).2)
  else (.leaf 2 zeroTok [] (nameP s).1, (mayBe [46] [] (nameP s).2).2)
def closedP (ex : St → Ex × St) (s : St) : Ex × St := ((ex s).1, needs [[41]] (ex s).2)
def ofP (ex : St → Ex × St) (op : Int) (s : St) : Ex × St := (.un op (closedP ex (needs [[40]] s)).1, (closedP ex (needs [[40]] s)).2)
def countP (ex : St → Ex × St) (s : St) : Ex × St :=
  if (mayBe [42] [[41]] (needs [[40]] s)).1 then (.leaf 21 zeroTok [] [], (mayBe [42] [[41]] (needs [[40]] s)).2)
  else (.un 22 (closedP ex (mayBe [42] [[41]] (needs [[40]] s)).2).1, (closedP ex (mayBe [42] [[41]] (needs [[40]] s)).2).2)

def oneWords : List (List UInt8) := [[110, 117, 108, 108], [116, 114, 117, 101], [102, 97, 108, 115, 101], [40], [99, 111, 117, 110, 116], [115, 117, 109], [109, 105, 110], [109, 97, 120]]
def wordP (ex : St → Ex × St) (w : List UInt8) (s : St) : Ex × St :=
  if w = [110, 117, 108, 108] then (.leaf 1 zeroTok [] [], s)
  else if w = [116, 114, 117, 101] then (.leaf 1 ⟨1, 1, []⟩ [] [], s)
  else if w = [102, 97, 108, 115, 101] then (.leaf 1 ⟨1, 0, []⟩ [] [], s)
  else if w = [40] then closedP ex s
  else if w = [99, 111, 117, 110, 116] then countP ex s
  else if w = [115, 117, 109] then ofP ex 23 s
  else if w = [109, 105, 110] then ofP ex 24 s
  else if w = [109, 97, 120] then ofP ex 25 s
  else columnOfP s
def oneP (ex : St → Ex × St) (s : St) : Ex × St :=
  if s.next.kind = 2 then (.leaf 1 ⟨2, s.next.int, []⟩ [] [], s.adv)
  else if s.next.kind = 3 then (.leaf 1 ⟨3, 0, s.next.text⟩ [] [], s.adv)
  else wordP ex (anyOf oneWords s).1 (anyOf oneWords s).2

def minusN (ex : St → Ex × St) : Nat → St → Ex × St
  | 0, s => oneP ex s
  | n + 1, s => if (mayBe [45] [] s).1 then (.un 4 (minusN ex n (mayBe [45] [] s).2).1, (minusN ex n (mayBe [45] [] s).2).2) else oneP ex (mayBe [45] [] s).2
def minusP (ex : St → Ex × St) (s : St) : Ex × St := minusN ex (s.len + 1) s
def timesP (ex : St → Ex × St) (s : St) : Ex × St := leftward (minusP ex) [[42], [47], [37]] s
def sumP (ex : St → Ex × St) (s : St) : Ex × St := leftward (timesP ex) [[43], [45]] s

def cmpSigns : List (List UInt8) := [[61], [60, 62], [60], [60, 61], [62], [62, 61]]
def isP (e : Ex) (s : St) : Ex × St :=
  if (mayBe [105, 115] [] s).1 then
    (if (mayBe [110, 111, 116] [[110, 117, 108, 108]] (mayBe [105, 115] [] s).2).1 then (.un 7 e, (mayBe [110, 111, 116] [[110, 117, 108, 108]] (mayBe [105, 115] [] s).2).2) else (.un 6 e, needs [[110, 117, 108, 108]] (mayBe [110, 111, 116] [[110, 117, 108, 108]] (mayBe [105, 115] [] s).2).2))
  else (e, (mayBe [105, 115] [] s).2)
def testOn (sm : St → Ex × St) (e : Ex) (s : St) : Ex × St :=
  if opOf (anyOf cmpSigns s).1 = 0 then isP e (anyOf cmpSigns s).2
  else (.bi (opOf (anyOf cmpSigns s).1) e (sm (anyOf cmpSigns s).2).1, (sm (anyOf cmpSigns s).2).2)
def testP (ex : St → Ex × St) (s : St) : Ex × St := testOn (sumP ex) (sumP ex s).1 (sumP ex s).2
def noN (ex : St → Ex × St) : Nat → St → Ex × St
  | 0, s => testP ex s
  | n + 1, s => if (mayBe [110, 111, 116] [] s).1 then (.un 5 (noN ex n (mayBe [110, 111, 116] [] s).2).1, (noN ex n (mayBe [110, 111, 116] [] s).2).2) else testP ex (mayBe [110, 111, 116] [] s).2
def noP (ex : St → Ex × St) (s : St) : Ex × St := noN ex (s.len + 1) s
def bothP (ex : St → Ex × St) (s : St) : Ex × St := leftward (noP ex) [[97, 110, 100]] s
def orP (ex : St → Ex × St) (s : St) : Ex × St := leftward (bothP ex) [[111, 114]] s
def exprN : Nat → St → Ex × St
  | 0, s => (.leaf 0 zeroTok [] [], s)
  | n + 1, s => orP (exprN n) s
def exprP (s : St) : Ex × St := exprN (s.len + 1) s

def listLoop {α : Type} (one : St → α × St) (more : St → Bool × St) : Nat → List α → St → List α × St
  | 0, l, s => (l, s)
  | n + 1, l, s => if (more s).1 then listLoop one more n (l ++ [(one (more s).2).1]) (one (more s).2).2 else (l, (more s).2)
def listP {α : Type} (one : St → α × St) (more : St → Bool × St) (s : St) : List α × St := listLoop one more ((one s).2.len + 1) [(one s).1] (one s).2

structure Col where
  name : List UInt8
  type : Int
  notNull : Bool
deriving DecidableEq

structure Stm where
  kind : Int
  name : List UInt8
  table : List UInt8
  other : List UInt8
  columns : List Col
  names : List (List UInt8)
  values : List Ex
  sets : List (List UInt8 × Ex)
  on : Ex
  wher : Ex
  groups : List Ex
  orders : List (Int × Bool)
  limited : Bool
  limit : Int
deriving DecidableEq

def noEx : Ex := .leaf 0 zeroTok [] []
def noStm : Stm := ⟨0, [], [], [], [], [], [], [], noEx, noEx, [], [], false, 0⟩

def comma (s : St) : Bool × St := mayBe [44] [] s
def typeOf (w : List UInt8) : Int := if w = [116, 114, 117, 116, 104] then 1 else if w = [105, 110, 116] then 2 else if w = [116, 101, 120, 116] then 3 else 0
def typeP (s : St) : Int × St := (typeOf (oneOf [[116, 114, 117, 116, 104], [105, 110, 116], [116, 101, 120, 116]] s).1, (oneOf [[116, 114, 117, 116, 104], [105, 110, 116], [116, 101, 120, 116]] s).2)
def columnP (s : St) : Col × St :=
  let n := nameP s
  let t := typeP n.2
  let m := mayBe [110, 111, 116] [[110, 117, 108, 108]] t.2
  (⟨n.1, t.1, m.1⟩, m.2)
def moreColumns (s : St) : Bool × St := (isName (needs [[44]] s).next, needs [[44]] s)
def namesP (s : St) : List (List UInt8) × St :=
  let l := listP nameP comma (needs [[40]] s)
  (l.1, needs [[41]] l.2)
def exprsP (s : St) : List Ex × St := listP exprP comma s
def setP (s : St) : (List UInt8 × Ex) × St :=
  let n := nameP s
  let e := exprP (needs [[61]] n.2)
  ((n.1, e.1), e.2)
def orderP (s : St) : (Int × Bool) × St :=
  let n := numberP s
  let m := mayBe [100, 101, 115, 99] [] n.2
  ((n.1, m.1), m.2)
def whereP (s : St) : Ex × St := if (mayBe [119, 104, 101, 114, 101] [] s).1 then exprP (mayBe [119, 104, 101, 114, 101] [] s).2 else (noEx, (mayBe [119, 104, 101, 114, 101] [] s).2)

def tableP (s : St) : Stm × St :=
  let n := nameP s
  let c := listP columnP moreColumns (needs [[40]] n.2)
  let k := namesP (needs [[112, 114, 105, 109, 97, 114, 121], [107, 101, 121]] c.2)
  ({ noStm with kind := 1, table := n.1, columns := c.1, names := k.1 }, needs [[41]] k.2)
def indexP (s : St) : Stm × St :=
  let n := nameP s
  let t := nameP (needs [[111, 110]] n.2)
  let k := namesP t.2
  ({ noStm with kind := 2, name := n.1, table := t.1, names := k.1 }, k.2)
def createP (s : St) : Stm × St :=
  let w := oneOf [[116, 97, 98, 108, 101], [105, 110, 100, 101, 120]] s
  if w.1 = [116, 97, 98, 108, 101] then tableP w.2 else if w.1 = [105, 110, 100, 101, 120] then indexP w.2 else (noStm, w.2)
def insertP (s : St) : Stm × St :=
  let n := nameP (needs [[105, 110, 116, 111]] s)
  let v := exprsP (needs [[118, 97, 108, 117, 101, 115], [40]] n.2)
  ({ noStm with kind := 3, table := n.1, values := v.1 }, needs [[41]] v.2)
def updateP (s : St) : Stm × St :=
  let n := nameP s
  let l := listP setP comma (needs [[115, 101, 116]] n.2)
  let c := whereP l.2
  ({ noStm with kind := 4, table := n.1, sets := l.1, wher := c.1 }, c.2)
def deleteP (s : St) : Stm × St :=
  let n := nameP (needs [[102, 114, 111, 109]] s)
  let c := whereP n.2
  ({ noStm with kind := 5, table := n.1, wher := c.1 }, c.2)
def itemsP (s : St) : List Ex × St := if (mayBe [42] [] s).1 then ([], (mayBe [42] [] s).2) else exprsP (mayBe [42] [] s).2
def joinP (s : St) : (List UInt8 × Ex) × St :=
  if (mayBe [106, 111, 105, 110] [] s).1 then
    let n := nameP (mayBe [106, 111, 105, 110] [] s).2
    let e := exprP (needs [[111, 110]] n.2)
    ((n.1, e.1), e.2)
  else (([], noEx), (mayBe [106, 111, 105, 110] [] s).2)
def groupsP (s : St) : List Ex × St := if (mayBe [103, 114, 111, 117, 112] [[98, 121]] s).1 then listP columnOfP comma (mayBe [103, 114, 111, 117, 112] [[98, 121]] s).2 else ([], (mayBe [103, 114, 111, 117, 112] [[98, 121]] s).2)
def ordersP (s : St) : List (Int × Bool) × St := if (mayBe [111, 114, 100, 101, 114] [[98, 121]] s).1 then listP orderP comma (mayBe [111, 114, 100, 101, 114] [[98, 121]] s).2 else ([], (mayBe [111, 114, 100, 101, 114] [[98, 121]] s).2)
def limitP (s : St) : (Bool × Int) × St := if (mayBe [108, 105, 109, 105, 116] [] s).1 then ((true, (numberP (mayBe [108, 105, 109, 105, 116] [] s).2).1), (numberP (mayBe [108, 105, 109, 105, 116] [] s).2).2) else ((false, 0), (mayBe [108, 105, 109, 105, 116] [] s).2)
def chooseP (s : St) : Stm × St :=
  let v := itemsP s
  let n := nameP (needs [[102, 114, 111, 109]] v.2)
  let j := joinP n.2
  let c := whereP j.2
  let g := groupsP c.2
  let o := ordersP g.2
  let l := limitP o.2
  (⟨6, [], n.1, j.1.1, [], [], v.1, [], j.1.2, c.1, g.1, o.1, l.1.1, l.1.2⟩, l.2)
def statementP (s : St) : Stm × St :=
  let w := oneOf [[99, 114, 101, 97, 116, 101], [105, 110, 115, 101, 114, 116], [117, 112, 100, 97, 116, 101], [100, 101, 108, 101, 116, 101], [115, 101, 108, 101, 99, 116]] s
  if w.1 = [99, 114, 101, 97, 116, 101] then createP w.2
  else if w.1 = [105, 110, 115, 101, 114, 116] then insertP w.2
  else if w.1 = [117, 112, 100, 97, 116, 101] then updateP w.2
  else if w.1 = [100, 101, 108, 101, 116, 101] then deleteP w.2
  else if w.1 = [115, 101, 108, 101, 99, 116] then chooseP w.2
  else (noStm, w.2)
/-- the statement that tokens are, all of which may be -/
def readP (ts : List Tok) : Stm × Nat × Int :=
  let p := statementP ⟨ts, false⟩
  if p.2.ref = false ∧ p.2.rest = [] then (p.1, 0, 0)
  else if p.2.rest = [] then (noStm, ts.length, 5)
  else (noStm, ts.length - p.2.rest.length, 4)

end Go.Proofs.YtedinkoapieakaaDoor
