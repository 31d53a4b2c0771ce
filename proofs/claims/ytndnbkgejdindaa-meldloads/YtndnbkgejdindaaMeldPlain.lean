/- Plain facts: one log, one state. -/
import Derived.Test.YtndnbkgejdindaaIntentPlain
namespace Go.Proofs.Ytndnbkgejdindaa

/-- a cell: a key, what it has or that it is gone, and since which position -/
structure Cel where
  key : List Int
  val : List Int
  gone : Bool
  since : Int

/-- what became of an intent -/
structure Dn where
  client : Int
  number : Int
  pos : Int
  kept : Bool

structure Sta where
  pos : Int
  cells : List Cel
  dones : List Dn

def putC (l : List Cel) (c : Cel) : List Cel := l.filter (fun x => ahead x.key c.key) ++ c :: l.filter (fun x => ahead c.key x.key)
def dnAhead (a b : Dn) : Bool := decide (a.client < b.client ∨ a.client = b.client ∧ a.number < b.number)
def putD (l : List Dn) (d : Dn) : List Dn := l.filter (fun x => dnAhead x d) ++ d :: l.filter (fun x => dnAhead d x)
def hasD (l : List Dn) (c n : Int) : Bool := l.any (fun d => decide (d.client = c ∧ d.number = n))

/-- does a key lie in a range -/
def inRng (k : List Int) (r : List Int × List Int) : Bool := !ahead k r.1 && ahead k r.2

/-- was something that was read changed since -/
def touchedK (l : List Cel) (x : Itt) : Bool := l.any (fun c => decide (x.base < c.since) && x.reads.any (inRng c.key))

/-- what an entry comes to at a position -/
def codeM (s : Sta) (p : Int) : Option Itt → Int
  | none => 4
  | some x => if hasD s.dones x.client x.number then 7 else if p ≤ x.base then 2 else if touchedK s.cells x then 19 else 0

def cellOf (p : Int) (y : Wt) : Cel := ⟨y.key, y.val, y.gone, p⟩
def putsK (p : Int) (l : List Cel) (ws : List Wt) : List Cel := ws.foldl (fun l y => putC l (cellOf p y)) l

/-- an entry is played -/
def stepM (s : Sta) (e : Option Itt) : Sta :=
  match e with
  | none => ⟨s.pos + 1, s.cells, s.dones⟩
  | some x =>
    if hasD s.dones x.client x.number then ⟨s.pos + 1, s.cells, s.dones⟩
    else ⟨s.pos + 1, if codeM s (s.pos + 1) (some x) = 0 then putsK (s.pos + 1) s.cells x.writes else s.cells, putD s.dones ⟨x.client, x.number, s.pos + 1, decide (codeM s (s.pos + 1) (some x) = 0)⟩⟩

def playM (s : Sta) : List (Option Itt) → Sta × List Int
  | [] => (s, [])
  | e :: l => ((playM (stepM s e) l).1, codeM s (s.pos + 1) e :: (playM (stepM s e) l).2)

/-- where nothing is -/
def noSta : Sta := ⟨0, [], []⟩

theorem playM_append : ∀ (l m : List (Option Itt)) (s : Sta), playM s (l ++ m) = ((playM (playM s l).1 m).1, (playM s l).2 ++ (playM (playM s l).1 m).2)
  | [], m, s => rfl
  | e :: l, m, s => by simp only [List.cons_append, playM, playM_append l m]

theorem playM_length : ∀ (l : List (Option Itt)) (s : Sta), (playM s l).2.length = l.length
  | [], _ => rfl
  | e :: l, s => by simp only [playM, List.length_cons, playM_length l]

theorem stepM_pos (s : Sta) (e : Option Itt) : (stepM s e).pos = s.pos + 1 := by
  cases e with
  | none => rfl
  | some x =>
    simp only [stepM]
    split <;> rfl

theorem playM_pos : ∀ (l : List (Option Itt)) (s : Sta), (playM s l).1.pos = s.pos + l.length
  | [], s => by simp [playM]
  | e :: l, s => by
    simp only [playM, playM_pos l, stepM_pos, List.length_cons]
    omega

/-- what is done stays done -/
theorem hasD_putD {l : List Dn} {d : Dn} {c n : Int} : hasD (putD l d) c n = (hasD l c n || decide (d.client = c ∧ d.number = n)) := by
  by_cases h : d.client = c ∧ d.number = n
  · rw [decide_eq_true h, Bool.or_true]
    simp only [hasD, List.any_eq_true]
    exact ⟨d, by simp [putD], decide_eq_true h⟩
  · rw [decide_eq_false h, Bool.or_false, Bool.eq_iff_iff]
    simp only [hasD, List.any_eq_true, decide_eq_true_eq]
    constructor
    · rintro ⟨x, hx, hc⟩
      rcases List.mem_append.1 hx with hx | hx
      · exact ⟨x, (List.mem_filter.1 hx).1, hc⟩
      · rcases List.mem_cons.1 hx with rfl | hx
        · exact absurd hc h
        · exact ⟨x, (List.mem_filter.1 hx).1, hc⟩
    · rintro ⟨x, hx, hc⟩
      refine ⟨x, ?_, hc⟩
      have hne : ¬ (d.client = x.client ∧ d.number = x.number) := fun q => h ⟨q.1.trans hc.1, q.2.trans hc.2⟩
      by_cases h1 : dnAhead x d = true
      · exact List.mem_append.2 (.inl (List.mem_filter.2 ⟨hx, h1⟩))
      · refine List.mem_append.2 (.inr (List.mem_cons_of_mem _ (List.mem_filter.2 ⟨hx, ?_⟩)))
        simp only [dnAhead, decide_eq_true_eq] at h1 ⊢
        omega

theorem hasD_step {s : Sta} {e : Option Itt} {c n : Int} (h : hasD s.dones c n = true) : hasD (stepM s e).dones c n = true := by
  cases e with
  | none => exact h
  | some x =>
    simp only [stepM]
    split
    · exact h
    · simp only [hasD_putD, h, Bool.true_or]

theorem hasD_own (s : Sta) (x : Itt) : hasD (stepM s (some x)).dones x.client x.number = true := by
  simp only [stepM]
  split
  · assumption
  · simp [hasD_putD]

theorem hasD_play {c n : Int} : ∀ (l : List (Option Itt)) {s : Sta}, hasD s.dones c n = true → hasD (playM s l).1.dones c n = true
  | [], _, h => h
  | _ :: l, _, h => by simp only [playM]; exact hasD_play l (hasD_step h)

/-- what was played once is found -/
theorem hasD_mem {x : Itt} : ∀ (l : List (Option Itt)) (s : Sta), some x ∈ l → hasD (playM s l).1.dones x.client x.number = true
  | e :: l, s, h => by
    simp only [playM]
    rcases List.mem_cons.1 h with rfl | h
    · exact hasD_play l (hasD_own s x)
    · exact hasD_mem l _ h

/-- cells in order -/
def AscC (l : List Cel) : Prop := l.Pairwise (fun a b => ahead a.key b.key = true)

theorem putC_asc {l : List Cel} (h : AscC l) (c : Cel) (ht : ∀ {x y z : List Int}, ahead x y = true → ahead y z = true → ahead x z = true) : AscC (putC l c) := by
  refine List.pairwise_append.2 ⟨List.Pairwise.filter _ h, List.pairwise_cons.2 ⟨fun y hy => (List.mem_filter.1 hy).2, List.Pairwise.filter _ h⟩, fun a ha b hb => ?_⟩
  have h1 := (List.mem_filter.1 ha).2
  rcases List.mem_cons.1 hb with rfl | hb
  · exact h1
  · exact ht h1 (List.mem_filter.1 hb).2

/-- what a cell bears, without since when -/
def bare (c : Cel) : List Int × List Int × Bool := (c.key, c.val, c.gone)

theorem putC_bare {l m : List Cel} {c d : Cel} (h : l.map bare = m.map bare) (hc : bare c = bare d) : (putC l c).map bare = (putC m d).map bare := by
  have hk : c.key = d.key := congrArg (fun t : List Int × List Int × Bool => t.1) hc
  have hf : ∀ (p : List Int → Bool) (a b : List Cel), a.map bare = b.map bare → (a.filter (fun x => p x.key)).map bare = (b.filter (fun x => p x.key)).map bare := by
    intro p a
    induction a with
    | nil =>
      intro b hb
      cases b with
      | nil => rfl
      | cons y b => simp at hb
    | cons x a ih =>
      intro b hb
      cases b with
      | nil => simp at hb
      | cons y b =>
        simp only [List.map_cons, List.cons.injEq] at hb
        have hxy : x.key = y.key := congrArg (fun t : List Int × List Int × Bool => t.1) hb.1
        simp only [List.filter_cons, hxy]
        split
        · simp only [List.map_cons, hb.1, ih b hb.2]
        · exact ih b hb.2
  simp only [putC, List.map_append, List.map_cons, hc, hk]
  rw [hf (fun k => ahead k d.key) l m h, hf (fun k => ahead d.key k) l m h]

theorem putsK_bare {p q : Int} : ∀ (ws : List Wt) {l m : List Cel}, l.map bare = m.map bare → (putsK p l ws).map bare = (putsK q m ws).map bare
  | [], _, _, h => h
  | y :: ws, _, _, h => putsK_bare ws (putC_bare (c := cellOf p y) (d := cellOf q y) h rfl)

/-- the entries of a state -/
def snapK (l : List Cel) : List (List Int × List Int) := (l.filter (fun c => !c.gone)).map (fun c => (c.key, c.val))

theorem snapK_bare {l m : List Cel} (h : l.map bare = m.map bare) : snapK l = snapK m := by
  have e : ∀ a : List Cel, snapK a = ((a.map bare).filter (fun t => !t.2.2)).map (fun t => (t.1, t.2.1)) := fun a => by
    simp only [snapK, List.filter_map, List.map_map]
    rfl
  rw [e, e, h]

/-- since when: never behind the state -/
def Olds (s : Sta) : Prop := ∀ c ∈ s.cells, c.since ≤ s.pos

theorem mem_putC {l : List Cel} {c x : Cel} (h : x ∈ putC l c) : x = c ∨ x ∈ l := by
  rcases List.mem_append.1 h with h | h
  · exact .inr (List.mem_filter.1 h).1
  · rcases List.mem_cons.1 h with h | h
    · exact .inl h
    · exact .inr (List.mem_filter.1 h).1

theorem mem_putsK {p : Int} : ∀ (ws : List Wt) {l : List Cel} {x : Cel}, x ∈ putsK p l ws → x ∈ l ∨ x.since = p
  | [], _, _, h => .inl h
  | y :: ws, l, x, h => by
    rcases mem_putsK ws (l := putC l (cellOf p y)) h with h | h
    · rcases mem_putC h with rfl | h
      · exact .inr rfl
      · exact .inl h
    · exact .inr h

theorem stepM_cells (s : Sta) (e : Option Itt) : ((stepM s e).cells = s.cells ∧ codeM s (s.pos + 1) e ≠ 0) ∨ ∃ x, e = some x ∧ codeM s (s.pos + 1) e = 0 ∧ (stepM s e).cells = putsK (s.pos + 1) s.cells x.writes := by
  cases e with
  | none => exact .inl ⟨rfl, by simp [codeM]⟩
  | some x =>
    by_cases h : hasD s.dones x.client x.number = true
    · refine .inl ⟨by simp only [stepM, h, if_true], by simp [codeM, h]⟩
    · by_cases h0 : codeM s (s.pos + 1) (some x) = 0
      · exact .inr ⟨x, rfl, h0, by simp only [stepM, h, h0, if_true]; simp⟩
      · exact .inl ⟨by simp only [stepM, h, h0, if_false]; simp, h0⟩

theorem Olds.step {s : Sta} (h : Olds s) (e : Option Itt) : Olds (stepM s e) := by
  intro c hc
  rw [stepM_pos]
  rcases stepM_cells s e with ⟨e1, -⟩ | ⟨x, -, -, e1⟩
  · rw [e1] at hc
    have := h c hc
    omega
  · rw [e1] at hc
    rcases mem_putsK _ hc with hc | hc
    · have := h c hc
      omega
    · omega

theorem Olds.play : ∀ (l : List (Option Itt)) {s : Sta}, Olds s → Olds (playM s l).1
  | [], _, h => h
  | e :: l, _, h => by simp only [playM]; exact Olds.play l (h.step e)

/-- no cell changed since the state: nothing is touched -/
theorem touched_none {s : Sta} (h : Olds s) {x : Itt} (hb : s.pos ≤ x.base) : touchedK s.cells x = false := by
  simp only [touchedK, List.any_eq_false, Bool.and_eq_true, decide_eq_true_eq, not_and]
  intro c hc hlt
  have := h c hc
  omega

/-- the log of those that were kept, each based on what is just ahead of it -/
def keptM : Int → List (Option Itt) → List Int → List (Option Itt)
  | n, some x :: l, c :: cs => if c = 0 then some ⟨x.client, x.number, n, x.reads, x.writes⟩ :: keptM (n + 1) l cs else keptM n l cs
  | n, none :: l, _ :: cs => keptM n l cs
  | _, _, _ => []

/-- as if each had been alone -/
theorem serial : ∀ (l : List (Option Itt)) (s t : Sta), s.cells.map bare = t.cells.map bare → Olds t → (∀ c n, hasD t.dones c n = true → hasD s.dones c n = true) →
    (∀ c ∈ (playM t (keptM t.pos l (playM s l).2)).2, c = 0) ∧ (playM s l).1.cells.map bare = (playM t (keptM t.pos l (playM s l).2)).1.cells.map bare
  | [], s, t, h, _, _ => ⟨fun c hc => by simp [playM, keptM] at hc, by simpa [playM, keptM] using h⟩
  | none :: l, s, t, h, ho, hd => by
    have := serial l (stepM s none) t h ho hd
    simpa only [playM, keptM] using this
  | some x :: l, s, t, h, ho, hd => by
    simp only [playM, keptM]
    by_cases h0 : codeM s (s.pos + 1) (some x) = 0
    · rw [if_pos h0]
      have hns : hasD s.dones x.client x.number = false := by
        cases hh : hasD s.dones x.client x.number with
        | false => rfl
        | true => simp [codeM, hh] at h0
      have hnt : hasD t.dones x.client x.number = false := by
        cases hh : hasD t.dones x.client x.number with
        | false => rfl
        | true => rw [hd _ _ hh] at hns; cases hns
      have ht0 : codeM t (t.pos + 1) (some ⟨x.client, x.number, t.pos, x.reads, x.writes⟩) = 0 := by
        have hlt : ¬ t.pos + 1 ≤ t.pos := by omega
        simp only [codeM, hnt, hlt, if_false, touched_none ho (x := ⟨x.client, x.number, t.pos, x.reads, x.writes⟩) (Int.le_refl _)]
        simp
      have es : (stepM s (some x)).cells = putsK (s.pos + 1) s.cells x.writes := by simp only [stepM, hns, h0, if_true]; simp
      have et : (stepM t (some ⟨x.client, x.number, t.pos, x.reads, x.writes⟩)).cells = putsK (t.pos + 1) t.cells x.writes := by simp only [stepM, hnt, ht0, if_true]; simp
      have ih := serial l (stepM s (some x)) (stepM t (some ⟨x.client, x.number, t.pos, x.reads, x.writes⟩)) (by rw [es, et]; exact putsK_bare _ h) (ho.step _) (by
        intro c n hcn
        by_cases hc : x.client = c ∧ x.number = n
        · rw [← hc.1, ← hc.2]; exact hasD_own s x
        · refine hasD_step (hd c n ?_)
          simp only [stepM, hnt] at hcn
          simpa [hasD_putD, hc] using hcn)
      rw [stepM_pos] at ih
      simp only [playM]
      refine ⟨fun c hc => ?_, ih.2⟩
      rcases List.mem_cons.1 hc with rfl | hc
      · exact ht0
      · exact ih.1 c hc
    · rw [if_neg h0]
      have es : (stepM s (some x)).cells = s.cells := by
        rcases stepM_cells s (some x) with ⟨e1, -⟩ | ⟨y, -, e2, -⟩
        · exact e1
        · exact absurd e2 h0
      exact serial l (stepM s (some x)) t (by rw [es]; exact h) ho (fun c n hcn => hasD_step (hd c n hcn))

end Go.Proofs.Ytndnbkgejdindaa
