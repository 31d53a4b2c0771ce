/- Plain facts: what comes of deeds on versions: versions stay, keys are told apart, scans part, orders do not matter. -/
import Derived.Test.YtndnbkgejdindaaTreePlain
namespace Go.Proofs.Ytndnbkgejdindaa
open Go.ChangeShapes Go.WideShapes Go.ChangeAt Go.RowKit

theorem deedK_grow (vs : List (List Ent)) (d : Dd) : ∃ m, (deedK vs d).2 = vs ++ m := by
  simp only [deedK]
  split
  · split
    · exact ⟨[], by simp⟩
    · exact ⟨_, rfl⟩
  · split
    · split
      · exact ⟨_, rfl⟩
      · exact ⟨[], by simp⟩
    · split
      · split <;> exact ⟨[], by simp⟩
      · split <;> exact ⟨[], by simp⟩

theorem stepK_grow (vs : List (List Ent)) (d : Dd) : ∃ m, (stepK vs d).2 = vs ++ m := by
  simp only [stepK]
  split
  · exact ⟨[], by simp⟩
  · split
    · exact ⟨[], by simp⟩
    · exact deedK_grow vs d

theorem playK_grow : ∀ (ds : List Dd) (vs : List (List Ent)), ∃ m, (playK vs ds).2 = vs ++ m
  | [], vs => ⟨[], by simp [playK]⟩
  | d :: ds, vs => by
    obtain ⟨m, h⟩ := stepK_grow vs d
    obtain ⟨n, g⟩ := playK_grow ds (stepK vs d).2
    refine ⟨m ++ n, ?_⟩
    rw [h] at g
    simp only [playK, h, g, List.append_assoc]

theorem playK_append : ∀ (ds es : List Dd) (vs : List (List Ent)), playK vs (ds ++ es) = ((playK vs ds).1 ++ (playK (playK vs ds).2 es).1, (playK (playK vs ds).2 es).2)
  | [], es, vs => by simp [playK]
  | d :: ds, es, vs => by simp [playK, playK_append ds es]

/-- no version ever changes -/
theorem playK_stays (ds es : List Dd) (vs : List (List Ent)) {v : Nat} (h : v < (playK vs ds).2.length) : (playK vs (ds ++ es)).2.getD v [] = (playK vs ds).2.getD v [] := by
  obtain ⟨m, g⟩ := playK_grow es (playK vs ds).2
  rw [playK_append]
  simp only [g, List.getD, List.getElem?_append_left h]

theorem insK_length (x : Ent) : ∀ l : List Ent, (insK x l).length = l.length + 1
  | [] => rfl
  | e :: l => by
    simp only [insK]
    split
    · simp
    · simp [insK_length x l]

theorem dropK_length (l : List Ent) (k : List Int) : (dropK l k).length ≤ l.length := List.length_filter_le _ _

theorem putK_length (l : List Ent) (x : Ent) : (putK l x).length ≤ l.length + 1 := by
  rw [putK, insK_length]
  have := dropK_length l x.1
  omega

/-- no version has more entries than there were deeds -/
theorem stepK_few {vs : List (List Ent)} {n : Nat} (h : ∀ l ∈ vs, l.length ≤ n) (d : Dd) : ∀ l ∈ (stepK vs d).2, l.length ≤ n + 1 := by
  have h' : ∀ l ∈ vs, l.length ≤ n + 1 := fun l hl => Nat.le_succ_of_le (h l hl)
  have hn : (vs.getD d.ver.toNat []).length ≤ n := by
    by_cases e : d.ver.toNat < vs.length
    · simp only [List.getD, List.getElem?_eq_getElem e, Option.getD_some]
      exact h _ (List.getElem_mem e)
    · simp [List.getD, List.getElem?_eq_none (Nat.le_of_not_lt e)]
  simp only [stepK]
  split
  · exact h'
  split
  · exact h'
  simp only [deedK]
  split
  · split
    · exact h'
    · intro l hl
      rcases List.mem_append.1 hl with hl | hl
      · exact h' l hl
      · rw [List.mem_singleton.1 hl]
        have := putK_length (vs.getD d.ver.toNat []) (d.key, d.val)
        omega
  · split
    · split
      · intro l hl
        rcases List.mem_append.1 hl with hl | hl
        · exact h' l hl
        · rw [List.mem_singleton.1 hl]
          have := dropK_length (vs.getD d.ver.toNat []) d.key
          omega
      · exact h'
    · split
      · split <;> exact h'
      · split <;> exact h'

theorem playK_few : ∀ (ds : List Dd) {vs : List (List Ent)} {n : Nat}, (∀ l ∈ vs, l.length ≤ n) → ∀ l ∈ (playK vs ds).2, l.length ≤ n + ds.length
  | [], _, _, h => h
  | d :: ds, vs, n, h => by
    intro l hl
    have := playK_few ds (stepK_few h d) l hl
    simp only [List.length_cons]
    omega

theorem scanK_all (l : List Ent) (n : Nat) : scanK l [] [] n = l.take n := by
  have : l.filter (fun e => within [] [] e.1) = l := by
    rw [List.filter_eq_self]
    intro e _
    cases h : e.1 <;> simp [within, ahead]
  rw [scanK, this]

theorem split_pairwise {R : Ent → Ent → Prop} (p : Ent → Bool) (hp : ∀ a b, R a b → p b = true → p a = true) : ∀ l : List Ent, l.Pairwise R → l.filter p ++ l.filter (fun e => !p e) = l
  | [], _ => rfl
  | e :: l, h => by
    obtain ⟨h1, h2⟩ := List.pairwise_cons.1 h
    cases he : p e with
    | true => simp [he, split_pairwise p hp l h2]
    | false =>
      have hn : ∀ y ∈ l, p y = false := fun y hy => by
        cases hy' : p y with
        | false => rfl
        | true => rw [hp e y (h1 y hy) hy'] at he; cases he
      have f1 : l.filter p = [] := by
        rw [List.filter_eq_nil_iff]
        intro y hy
        simp [hn y hy]
      have f2 : l.filter (fun e => !p e) = l := by
        rw [List.filter_eq_self]
        intro y hy
        simp [hn y hy]
      simp [he, f1, f2]

theorem ahead_nil (k : List Int) : ahead k [] = false := by cases k <;> rfl

/-- a scan in three parts is the scan -/
theorem scanK_parts {l : List Ent} (h : Asc l) {lo hi : List Int} (h1 : lo ≠ []) (h2 : hi ≠ []) (hle : ahead hi lo = false) {n : Nat} (hn : l.length ≤ n) :
    scanK l [] lo n ++ (scanK l lo hi n ++ scanK l hi [] n) = l := by
  have cut : ∀ f : Ent → Bool, (l.filter f).take n = l.filter f := fun f => by
    rw [List.take_of_length_le]
    exact Nat.le_trans (List.length_filter_le _ _) hn
  simp only [scanK, cut]
  have e1 : l.filter (fun e => within [] lo e.1) = l.filter (fun e => ahead e.1 lo) := by
    congr 1; funext e; simp [within, ahead_nil, h1]
  have e3 : l.filter (fun e => within hi [] e.1) = l.filter (fun e => !ahead e.1 hi) := by
    congr 1; funext e; simp [within]
  have e2 : l.filter (fun e => within lo hi e.1) = (l.filter (fun e => ahead e.1 hi)).filter (fun e => !ahead e.1 lo) := by
    rw [List.filter_filter]
    congr 1; funext e; simp [within, h2]
  have e1' : l.filter (fun e => ahead e.1 lo) = (l.filter (fun e => ahead e.1 hi)).filter (fun e => ahead e.1 lo) := by
    rw [List.filter_filter]
    congr 1; funext e
    cases hx : ahead e.1 lo with
    | false => simp
    | true => simp [ahead_ge hx hle]
  rw [e1, e2, e3, e1', ← List.append_assoc]
  have mono : ∀ s : List Int, ∀ a b : Ent, ahead a.1 b.1 = true → ahead b.1 s = true → ahead a.1 s = true := fun s a b => ahead_trans
  rw [split_pairwise (R := fun a b => ahead a.1 b.1 = true) (fun e => ahead e.1 lo) (mono lo) _ (h.filter _)]
  exact split_pairwise (R := fun a b => ahead a.1 b.1 = true) (fun e => ahead e.1 hi) (mono hi) _ h

theorem lookK_insK_other {x : Ent} {k : List Int} (hk : ¬ x.1 = k) : ∀ l : List Ent, lookK (insK x l) k = lookK l k
  | [] => by simp [insK, lookK, hk]
  | e :: l => by
    simp only [insK]
    split
    · rw [lookK]
      cases h : lookK (e :: l) k <;> simp [hk]
    · simp only [lookK, lookK_insK_other hk l]

theorem lookK_insK_own {x : Ent} : ∀ {l : List Ent}, (∀ y ∈ l, ¬ y.1 = x.1) → lookK (insK x l) x.1 = some x.2
  | [], _ => by simp [insK, lookK]
  | e :: l, h => by
    simp only [insK]
    split
    · rw [lookK, lookK_none h]
      simp
    · rw [lookK, lookK_insK_own (fun y hy => h y (List.mem_cons_of_mem _ hy))]

theorem dropK_no (l : List Ent) (k : List Int) : ∀ y ∈ dropK l k, ¬ y.1 = k := fun y hy => by
  simpa using (List.mem_filter.1 hy).2

theorem lookK_dropK_other {k o : List Int} (hk : ¬ k = o) : ∀ l : List Ent, lookK (dropK l k) o = lookK l o
  | [] => rfl
  | e :: l => by
    have ih := lookK_dropK_other hk l
    simp only [dropK] at ih ⊢
    by_cases he : e.1 = k
    · simp only [List.filter_cons, he, decide_true, Bool.not_true, Bool.false_eq_true, if_false, ih, lookK, if_neg hk]
      cases lookK l o <;> rfl
    · simp only [List.filter_cons, he, decide_false, Bool.not_false, if_true, lookK, ih]

theorem lookK_dropK_own (l : List Ent) (k : List Int) : lookK (dropK l k) k = none := lookK_none (dropK_no l k)

/-- a key has what was put last -/
theorem lookK_putK_own (l : List Ent) (x : Ent) : lookK (putK l x) x.1 = some x.2 := lookK_insK_own (dropK_no l x.1)

/-- and no other key is touched -/
theorem lookK_putK_other {x : Ent} {k : List Int} (hk : ¬ x.1 = k) (l : List Ent) : lookK (putK l x) k = lookK l k := by
  rw [putK, lookK_insK_other hk, lookK_dropK_other hk]

theorem hasK_putK (l : List Ent) (x : Ent) : hasK (putK l x) x.1 = true := by
  rw [hasK_look, lookK_putK_own]
  rfl

theorem mem_putK {x y : Ent} {l : List Ent} : y ∈ putK l x ↔ y = x ∨ (y ∈ l ∧ ¬ y.1 = x.1) := by
  rw [putK, mem_insK, dropK, List.mem_filter]
  simp

/-- in order, the same entries are the same list -/
theorem Asc.ext : ∀ {l m : List Ent}, Asc l → Asc m → (∀ y, y ∈ l ↔ y ∈ m) → l = m
  | [], [], _, _, _ => rfl
  | [], e :: m, _, _, h => absurd ((h e).2 List.mem_cons_self) (by simp)
  | e :: l, [], _, _, h => absurd ((h e).1 List.mem_cons_self) (by simp)
  | e :: l, f :: m, hl, hm, h => by
    obtain ⟨l1, l2⟩ := List.pairwise_cons.1 hl
    obtain ⟨m1, m2⟩ := List.pairwise_cons.1 hm
    have hef : e = f := by
      rcases List.mem_cons.1 ((h e).1 List.mem_cons_self) with h1 | h1
      · exact h1
      · rcases List.mem_cons.1 ((h f).2 List.mem_cons_self) with h2 | h2
        · exact h2.symm
        · have a := m1 e h1
          have b := l1 f h2
          rw [ahead_asymm a] at b
          cases b
    subst hef
    have : l = m := Asc.ext l2 m2 (fun y => by
      constructor
      · intro hy
        rcases List.mem_cons.1 ((h y).1 (List.mem_cons_of_mem _ hy)) with h1 | h1
        · exact absurd (congrArg Prod.fst h1).symm (ahead_ne (l1 y hy))
        · exact h1
      · intro hy
        rcases List.mem_cons.1 ((h y).2 (List.mem_cons_of_mem _ hy)) with h1 | h1
        · exact absurd (congrArg Prod.fst h1).symm (ahead_ne (m1 y hy))
        · exact h1)
    rw [this]

/-- in whichever order keys were put -/
theorem putK_swap {l : List Ent} (h : Asc l) {x y : Ent} (hne : ¬ x.1 = y.1) : putK (putK l x) y = putK (putK l y) x :=
  Asc.ext ((h.put x).put y) ((h.put y).put x) (fun z => by
    simp only [mem_putK]
    constructor
    · rintro (rfl | ⟨rfl | ⟨h1, h2⟩, h3⟩)
      · exact .inr ⟨.inl rfl, fun e => hne e.symm⟩
      · exact .inl rfl
      · exact .inr ⟨.inr ⟨h1, h3⟩, h2⟩
    · rintro (rfl | ⟨rfl | ⟨h1, h2⟩, h3⟩)
      · exact .inr ⟨.inl rfl, hne⟩
      · exact .inl rfl
      · exact .inr ⟨.inr ⟨h1, h3⟩, h2⟩)

theorem two_putK {l : List Ent} {x y : Ent} (hne : ¬ x.1 = y.1) : 2 ≤ (putK (putK l x) y).length := by
  have hy : y ∈ putK (putK l x) y := mem_putK.2 (.inl rfl)
  have hx : x ∈ putK (putK l x) y := mem_putK.2 (.inr ⟨mem_putK.2 (.inl rfl), hne⟩)
  match h : putK (putK l x) y with
  | [] => rw [h] at hy; cases hy
  | [e] =>
    rw [h] at hx hy
    rw [List.mem_singleton] at hx hy
    exact absurd (by rw [hx, hy]) hne
  | _ :: _ :: _ => simp

end Go.Proofs.Ytndnbkgejdindaa
