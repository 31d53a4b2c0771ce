/- What an entry of a log comes to, plainly; and the player in memory. -/
import Derived.Test.YtjjdednlddnllaaItDec
import Derived.Test.YtjjdednlddnllaaMlMem
import Derived.Test.YtjjdednlddnllaaMlWrite
import Derived.Test.YtjjdednlddnllaaMlIns
import Derived.Test.YtjjdednlddnllaaMlCop
namespace Go.Proofs.Ytjjdednlddnllaa
open Go.ChangeShapes Go.WideShapes Go.ChangeAt Go.RowKit

/-- what bytes tell: an intent, or none -/
def TellsI (xs : List Int) (o : Option Itt) : Prop := match o with
  | some x => DecIs xs x
  | none => ∀ y, ¬ DecIs xs y

theorem TellsI.one {xs : List Int} {o o' : Option Itt} (h : TellsI xs o) (h' : TellsI xs o') : o = o' := by
  cases o with
  | none =>
    cases o' with
    | none => rfl
    | some y => exact absurd h' (h y)
  | some x =>
    cases o' with
    | none => exact absurd h (h' x)
    | some y => rw [DecIs.one h h']

/-- the order of a state's lists -/
structure Ordl (s : Sta) : Prop where
  cells : AscC s.cells
  dones : s.dones.Pairwise (fun a b => dnAhead a b = true)

theorem Ordl.none : Ordl noSta := ⟨List.Pairwise.nil, List.Pairwise.nil⟩

theorem Ordl.step {s : Sta} (h : Ordl s) (e : Option Itt) : Ordl (stepM s e) := by
  refine ⟨h.cells.step e, ?_⟩
  cases e with
  | none => exact h.dones
  | some x =>
    simp only [stepM]
    split
    · exact h.dones
    · exact putD_asc h.dones _

theorem Ordl.play : ∀ (l : List (Option Itt)) {s : Sta}, Ordl s → Ordl (playM s l).1
  | [], _, h => h
  | e :: l, _, h => by simp only [playM]; exact Ordl.play l (h.step e)

theorem putC_few (l : List Cel) (c : Cel) (h : AscC l) : (putC l c).length ≤ l.length + 1 := by
  have : ∀ (l : List Cel), AscC l → (l.filter (fun x => ahead x.key c.key)).length + (l.filter (fun x => ahead c.key x.key)).length ≤ l.length := by
    intro l
    induction l with
    | nil => intro _; simp
    | cons y l ih =>
      intro ha
      have hi := ih (List.pairwise_cons.1 ha).2
      simp only [List.filter_cons]
      by_cases h1 : ahead y.key c.key = true
      · have h2 : ahead c.key y.key = false := by
          cases q : ahead c.key y.key with
          | false => rfl
          | true => have := ahead_trans h1 q; rw [ahead_irrefl] at this; cases this
        rw [if_pos h1, h2]
        simp only [List.length_cons, Bool.false_eq_true, if_false]
        omega
      · rw [if_neg h1]
        split <;> simp only [List.length_cons] <;> omega
  have h1 := this l h
  simp only [putC, List.length_append, List.length_cons]
  omega

theorem putsK_few {p : Int} : ∀ (ws : List Wt) {l : List Cel}, AscC l → (putsK p l ws).length ≤ l.length + ws.length
  | [], l, _ => by simp [putsK]
  | y :: ws, l, h => by
    have h1 := putsK_few (p := p) ws (putC_ascC h (cellOf p y))
    have h2 := putC_few l (cellOf p y) h
    have h3 : putsK p l (y :: ws) = putsK p (putC l (cellOf p y)) ws := rfl
    rw [h3, List.length_cons]
    omega

theorem putD_few (l : List Dn) (d : Dn) : (putD l d).length ≤ l.length + 1 := by
  have : ∀ (l : List Dn), (l.filter (fun x => dnAhead x d)).length + (l.filter (fun x => dnAhead d x)).length ≤ l.length := by
    intro l
    induction l with
    | nil => simp
    | cons y l ih =>
      simp only [List.filter_cons]
      by_cases h1 : dnAhead y d = true
      · have h2 : dnAhead d y = false := by
          simp only [dnAhead, decide_eq_false_iff_not, decide_eq_true_eq] at h1 ⊢
          omega
        rw [if_pos h1, h2]
        simp only [List.length_cons, Bool.false_eq_true, if_false]
        omega
      · rw [if_neg h1]
        split <;> simp only [List.length_cons] <;> omega
  have h1 := this l
  simp only [putD, List.length_append, List.length_cons]
  omega

/-- so many more cells and dones at most, an entry -/
theorem stepM_few {s : Sta} (h : Ordl s) {xs : List Int} {e : Option Itt} (he : TellsI xs e) : (stepM s e).cells.length ≤ s.cells.length + 400 ∧ (stepM s e).dones.length ≤ s.dones.length + 1 := by
  cases e with
  | none => exact ⟨Nat.le_add_right _ _, Nat.le_succ _⟩
  | some x =>
    have h4 : x.writes.length ≤ 400 := he.1.few.2
    simp only [stepM]
    split
    · exact ⟨Nat.le_add_right _ _, Nat.le_succ _⟩
    · refine ⟨?_, putD_few _ _⟩
      have h1 := putsK_few (p := s.pos + 1) x.writes h.cells
      split
      · show (putsK (s.pos + 1) s.cells x.writes).length ≤ _
        omega
      · exact Nat.le_add_right _ _

/-- what is told of an intent that is not done, and what its state is -/
theorem stepM_done {s : Sta} {x : Itt} (h : hasD s.dones x.client x.number = true) : codeM s (s.pos + 1) (some x) = 7 ∧ stepM s (some x) = ⟨s.pos + 1, s.cells, s.dones⟩ := by
  simp [codeM, stepM, h]

theorem stepM_new {s : Sta} {x : Itt} (h : hasD s.dones x.client x.number = false) (j : Int) (hj : j = judgeK (s.pos + 1) x.base x.reads s.cells) :
    codeM s (s.pos + 1) (some x) = j ∧ stepM s (some x) = ⟨s.pos + 1, if j = 0 then putsK (s.pos + 1) s.cells x.writes else s.cells, putD s.dones ⟨x.client, x.number, s.pos + 1, decide (j = 0)⟩⟩ := by
  have h1 : codeM s (s.pos + 1) (some x) = j := by
    rw [hj, judgeK, ← touched_hit]
    simp [codeM, h]
  refine ⟨h1, ?_⟩
  simp only [stepM, h, h1]
  simp

/-- where a done was found, or would stand -/
theorem found_done {ds l r : List Dn} {d : Dn} (ha : ds.Pairwise (fun a b => dnAhead a b = true)) (e : ds = l ++ r) (hl : ∀ y ∈ l, cmpD y d < 0) (hr : ∀ y ∈ r, 0 ≤ cmpD y d) :
    hasD ds d.client d.number = headF (fun c => cmpD c d) r ∧ (headF (fun c => cmpD c d) r = false → ∀ d', d'.client = d.client → d'.number = d.number → putD ds d' = l ++ d' :: r) := by
  subst e
  have hl1 : ∀ y ∈ l, dnAhead y d = true := fun y hy => cmpD_neg.1 (hl y hy)
  have hr1 : ∀ y ∈ r, dnAhead y d = false := fun y hy => by
    have h0 := hr y hy
    cases q : dnAhead y d with
    | false => rfl
    | true => have := cmpD_neg.2 q; omega
  cases hh : headF (fun c => cmpD c d) r with
  | true =>
    refine ⟨?_, fun h => by cases h⟩
    cases r with
    | nil => cases hh
    | cons y r =>
      have h0 : cmpD y d = 0 := by simpa [headF] using hh
      have h1 := (cmpD_eq y d).1 h0
      simp only [hasD, List.any_eq_true]
      exact ⟨y, by simp, by simp [h1]⟩
  | false =>
    have hn : ∀ c ∈ r.head?, ¬ (c.client = d.client ∧ c.number = d.number) := fun c hc h => by
      cases r with
      | nil => cases hc
      | cons y r =>
        simp only [List.head?_cons, Option.mem_def, Option.some.injEq] at hc
        subst hc
        have h0 := (cmpD_eq y d).2 h
        simp [headF, h0] at hh
    refine ⟨(putD_cut ha hl1 hr1 hn).2, fun _ d' h1 h2 => ?_⟩
    have hd : ∀ y, dnAhead y d' = dnAhead y d := fun y => by simp only [dnAhead, h1, h2]
    exact (putD_cut ha (fun y hy => (hd y).trans (hl1 y hy)) (fun y hy => (hd y).trans (hr1 y hy)) (fun c hc => by rw [h1, h2]; exact hn c hc)).1

/-- what else was there is as it was: but the player, and the row of its dones -/
def PlK (wb w : World) (P : Nat) (vb v : Value) : Prop := wb.heap.size ≤ w.heap.size ∧ (∀ b, b < wb.heap.size → b ≠ P → vb.ownBlock ≠ some b → w.heap[b]? = wb.heap[b]?) ∧ ∀ g, v.ownBlock = some g → vb.ownBlock = some g ∨ wb.heap.size ≤ g

theorem PlK.refl (w : World) (P : Nat) (v : Value) : PlK w w P v v := ⟨Nat.le_refl _, fun _ _ _ _ => rfl, fun _ h => .inl h⟩

theorem PlK.grownP {wb w w' : World} {P : Nat} {vb v : Value} (h : PlK wb w P vb v) (hg : w.grownBy w' (some P)) : PlK wb w' P vb v :=
  ⟨Nat.le_trans h.1 hg.size, fun b hb h1 h2 => (hg.block b (Nat.lt_of_lt_of_le hb h.1) (fun e => h1 (Option.some.inj e))).trans (h.2.1 b hb h1 h2), h.2.2⟩

theorem PlK.grownV {wb w w' : World} {P : Nat} {vb v v' : Value} (h : PlK wb w P vb v) (hg : w.grownBy w' v.ownBlock) (hv : ∀ g, v'.ownBlock = some g → v.ownBlock = some g ∨ w.heap.size ≤ g) : PlK wb w' P vb v' := by
  refine ⟨Nat.le_trans h.1 hg.size, fun b hb h1 h2 => (hg.block b (Nat.lt_of_lt_of_le hb h.1) (fun e => ?_)).trans (h.2.1 b hb h1 h2), fun g e => ?_⟩
  · rcases h.2.2 b e.symm with h3 | h3
    · exact h2 h3
    · omega
  · rcases hv g e with h3 | h3
    · exact h.2.2 g h3
    · exact .inr (Nat.le_trans h.1 h3)

/-- the player: a state in memory of its own -/
structure PlI (w0 wb : World) (vb vc : Value) (P : Nat) (s : Sta) (ca : Option Addr) (cn cc : Nat) (da : Option Addr) (dn dc : Nat) (w : World) : Prop where
  var : Cls w P [.int .i64 s.pos, .slice ca cn cc, .slice da dn dc]
  lenc : cn = s.cells.length
  lend : dn = s.dones.length
  cells : Lies kCel (fun b => (b ≠ P ∧ (Value.slice da dn dc).ownBlock ≠ some b) ∧ (vc.ownBlock ≠ some b ∧ w0.heap.size ≤ b)) w ca cc s.cells
  vlt : ∀ g, vc.ownBlock = some g → g < w.heap.size
  ples : Ples ca cc
  dones : Rows kDn (fun _ => True) w w0.heap.size 57 (.slice da dn dc) s.dones
  apart : (Value.slice da dn dc).ownBlock ≠ some P
  ord : Ordl s
  old : w0.heap.size ≤ P
  lt : P < w.heap.size
  below : Below w0.heap.size w0 w
  frame : PlK wb w P vb (.slice da dn dc)

theorem PlI.later {w0 wb w w' : World} {vb vc : Value} {P : Nat} {s : Sta} {ca : Option Addr} {cn cc : Nat} {da : Option Addr} {dn dc : Nat} (h : PlI w0 wb vb vc P s ca cn cc da dn dc w) (hb : Below w.heap.size w w') : PlI w0 wb vb vc P s ca cn cc da dn dc w' :=
  ⟨h.var.later hb, h.lenc, h.lend, h.cells.later hb, (fun g e => Nat.lt_of_lt_of_le (h.vlt g e) hb.size), h.ples, h.dones.later hb, h.apart, h.ord, h.old, Nat.lt_of_lt_of_le h.lt hb.size, h.below.trans (hb.mono h.below.size), h.frame.grownP (grown_below hb _)⟩

/-- from here on -/
theorem PlI.anew {w0 wb w : World} {vb vc : Value} {P : Nat} {s : Sta} {ca : Option Addr} {cn cc : Nat} {da : Option Addr} {dn dc : Nat} (h : PlI w0 wb vb vc P s ca cn cc da dn dc w) : PlI w0 w (.slice da dn dc) vc P s ca cn cc da dn dc w := { h with frame := PlK.refl _ _ _ }


section
variable {w0 wb W : World} {vb vc : Value} {P : Nat} {s : Sta} {ca : Option Addr} {cn cc : Nat} {da : Option Addr} {dn dc : Nat}

/-- one position on -/
theorem PlI.next (h : PlI w0 wb vb vc P s ca cn cc da dn dc W) (p : Int) : PlI w0 wb vb vc P ⟨p, s.cells, s.dones⟩ ca cn cc da dn dc (W.setCell ⟨P, 0, none⟩ (.int .i64 p)) := by
  have hg : W.grownBy (W.setCell ⟨P, 0, none⟩ (.int .i64 p)) (some P) := grown_set _
  exact ⟨h.var.set (k := 0) _, h.lenc, h.lend, h.cells.move (kept_old hg (fun q => q.1.1 rfl)) (fun _ _ q => q), (fun g e => Nat.lt_of_lt_of_le (h.vlt g e) hg.size), h.ples, dn_rows h.dones (fun g e => hg.block g (rows_lt h.dones g e).2 (fun e2 => h.apart (by rw [e, e2]))), h.apart, ⟨h.ord.cells, h.ord.dones⟩, h.old, Nat.lt_of_lt_of_le h.lt hg.size, below_grown h.below h.below.size hg (fun r e => by rw [← Option.some.inj e]; exact h.old), h.frame.grownP hg⟩

/-- other cells -/
theorem PlI.write {W' : World} {cs : List Cel} {e : Ending} (h : PlI w0 wb vb vc P s ca cn cc da dn dc W) (ha : AscC cs) (hw : WrPost P s.pos (fun b => (b ≠ P ∧ (Value.slice da dn dc).ownBlock ≠ some b) ∧ (vc.ownBlock ≠ some b ∧ w0.heap.size ≤ b)) (.slice da dn dc) cs W e W') :
    e = .returned (.tuple #[]) ∧ W.grownBy W' (some P) ∧ ∃ ca' cn' cc', PlI w0 wb vb vc P ⟨s.pos, cs, s.dones⟩ ca' cn' cc' da dn dc W' := by
  obtain ⟨e1, ca', cn', cc', h1, h2, h3, h4, hg⟩ := hw
  exact ⟨e1, hg, ca', cn', cc', h2, h1, h.lend, h3, (fun g e => Nat.lt_of_lt_of_le (h.vlt g e) hg.size), h4, dn_rows h.dones (fun g e => hg.block g (rows_lt h.dones g e).2 (fun e2 => h.apart (by rw [e, e2]))), h.apart, ⟨ha, h.ord.dones⟩, h.old, Nat.lt_of_lt_of_le h.lt hg.size, below_grown h.below h.below.size hg (fun r e => by rw [← Option.some.inj e]; exact h.old), h.frame.grownP hg⟩

/-- one done more: laid -/
structure PlD (w0 wb : World) (vb vc : Value) (W : World) (P : Nat) (s : Sta) (ca : Option Addr) (cn cc : Nat) (da : Option Addr) (dn dc : Nat) (ds : List Dn) (a : Option Addr) (n c : Nat) (W' : World) : Prop where
  old : PlI w0 wb vb vc P s ca cn cc da dn dc W
  rows : Rows kDn (fun b => b < w0.heap.size) W' w0.heap.size 57 (.slice a n c) ds
  grown : W.grownBy W' (Value.slice da dn dc).ownBlock
  own : ∀ g, (Value.slice a n c).ownBlock = some g → (Value.slice da dn dc).ownBlock = some g ∨ W.heap.size ≤ g

theorem PlD.var {ds : List Dn} {a : Option Addr} {n c : Nat} {W' : World} (h : PlD w0 wb vb vc W P s ca cn cc da dn dc ds a n c W') : Cls W' P [.int .i64 s.pos, .slice ca cn cc, .slice da dn dc] :=
  h.old.var.block (fun hb => h.grown.block _ hb (fun e => h.old.apart e.symm))

/-- and named -/
theorem PlD.put {ds : List Dn} {a : Option Addr} {n c : Nat} {W' : World} (h : PlD w0 wb vb vc W P s ca cn cc da dn dc ds a n c W') (ho : ds.Pairwise (fun a b => dnAhead a b = true)) : PlI w0 wb vb vc P ⟨s.pos, s.cells, ds⟩ ca cn cc a n c (W'.setCell ⟨P, 2, none⟩ (.slice a n c)) := by
  have hg : W'.grownBy (W'.setCell ⟨P, 2, none⟩ (.slice a n c)) (some P) := grown_set _
  have hne : ∀ b, b < W.heap.size → (Value.slice da dn dc).ownBlock ≠ some b → (Value.slice a n c).ownBlock ≠ some b := fun b hb h1 h2 => by
    rcases h.own b h2 with h3 | h3
    · exact h1 h3
    · omega
  have hap : (Value.slice a n c).ownBlock ≠ some P := hne P h.old.lt h.old.apart
  obtain ⟨a', c', e⟩ := rows_form h.rows
  simp only [Value.slice.injEq] at e
  refine ⟨h.var.set (k := 2) _, h.old.lenc, e.2.1, (h.old.cells.move (ok' := fun b => (b ≠ P ∧ (Value.slice a n c).ownBlock ≠ some b) ∧ (vc.ownBlock ≠ some b ∧ w0.heap.size ≤ b)) (Kept.of_grown h.grown (fun b hb => hb.1.2)) (fun b hb q => ⟨⟨q.1.1, hne b hb q.1.2⟩, q.2⟩)).move (kept_old hg (fun q => q.1.1 rfl)) (fun _ _ q => q), (fun g e => Nat.lt_of_lt_of_le (h.old.vlt g e) (Nat.le_trans h.grown.size hg.size)), h.old.ples, dn_rows h.rows (fun g e => hg.block g (rows_lt h.rows g e).2 (fun e2 => hap (by rw [e, e2]))), hap, ⟨h.old.ord.cells, ho⟩, h.old.old, Nat.lt_of_lt_of_le h.old.lt (Nat.le_trans h.grown.size hg.size), ?_, (h.old.frame.grownV h.grown h.own).grownP hg⟩
  have hb1 : Below w0.heap.size w0 W' := below_grown h.old.below h.old.below.size h.grown (fun r e => (rows_lt h.old.dones r e).1)
  exact below_grown hb1 hb1.size hg (fun r e => by rw [← Option.some.inj e]; exact h.old.old)

end

/-- what an entry that is played comes to -/
def PyPost (w0 wb : World) (vb vc : Value) (P : Nat) (s : Sta) (o : Option Itt) (e : Ending) (w' : World) : Prop := ∃ (ca : Option Addr) (cn cc : Nat) (da : Option Addr) (dn dc : Nat), e = .returned (.int .i64 (codeM s (s.pos + 1) o)) ∧ PlI w0 wb vb vc P (stepM s o) ca cn cc da dn dc w'

end Go.Proofs.Ytjjdednlddnllaa
