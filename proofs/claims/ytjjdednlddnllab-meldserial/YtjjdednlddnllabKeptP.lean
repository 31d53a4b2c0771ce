/- Those of a log that were kept, each based on what is just ahead of it: plainly. -/
import Derived.Test.YtjjdednlddnllabMlLaw
namespace Go.Proofs.Ytjjdednlddnllab

/-- those that were kept -/
def keptJ : Int → List Itt → List Int → List Itt
  | n, x :: l, c :: cs => if c = 0 then ⟨x.client, x.number, n, x.reads, x.writes⟩ :: keptJ (n + 1) l cs else keptJ n l cs
  | _, _, _ => []

theorem keptJ_M : ∀ (n : Int) (l : List Itt) (cs : List Int), keptM n (l.map some) cs = (keptJ n l cs).map some
  | _, [], _ => by simp [keptM, keptJ]
  | _, _ :: _, [] => by simp [keptM, keptJ]
  | n, x :: l, c :: cs => by
    simp only [List.map_cons, keptM, keptJ]
    split
    · rw [keptJ_M (n + 1) l cs, List.map_cons]
    · exact keptJ_M n l cs

theorem keptJ_snoc : ∀ (n : Int) (l : List Itt) (cs : List Int) (x : Itt) (c : Int), l.length = cs.length → keptJ n (l ++ [x]) (cs ++ [c]) = keptJ n l cs ++ (if c = 0 then [⟨x.client, x.number, n + (keptJ n l cs).length, x.reads, x.writes⟩] else [])
  | n, [], [], x, c, _ => by
    simp only [List.nil_append, keptJ]
    split <;> simp
  | n, y :: l, d :: cs, x, c, h => by
    have h' : l.length = cs.length := by simpa using h
    simp only [List.cons_append, keptJ]
    split
    · rw [keptJ_snoc (n + 1) l cs x c h', List.length_cons]
      simp only [List.cons_append]
      congr 2
      split
      · congr 2
        push_cast
        omega
      · rfl
    · exact keptJ_snoc n l cs x c h'
  | _, [], _ :: _, _, _, h => by simp at h
  | _, _ :: _, [], _, _, h => by simp at h

theorem keptJ_few : ∀ (n : Int) (l : List Itt) (cs : List Int), (keptJ n l cs).length ≤ l.length
  | _, [], _ => by simp [keptJ]
  | _, _ :: _, [] => by simp [keptJ]
  | n, x :: l, c :: cs => by
    simp only [keptJ]
    split
    · have := keptJ_few (n + 1) l cs; simp only [List.length_cons]; omega
    · have := keptJ_few n l cs; simp only [List.length_cons]; omega

theorem keptJ_mild : ∀ (n : Int) (l : List Itt) (cs : List Int), 0 ≤ n → n + l.length ≤ 1000 → (∀ x ∈ l, Mild x) → ∀ x ∈ keptJ n l cs, Mild x
  | _, [], _, _, _, _ => by simp [keptJ]
  | _, _ :: _, [], _, _, _ => by simp [keptJ]
  | n, y :: l, c :: cs, h0, h1, h => by
    have hy := h y List.mem_cons_self
    have hl : ∀ x ∈ l, Mild x := fun x hx => h x (List.mem_cons_of_mem _ hx)
    rw [List.length_cons] at h1
    simp only [keptJ]
    split
    · intro x hx
      rcases List.mem_cons.1 hx with rfl | hx
      · exact ⟨hy.client, hy.number, ⟨h0, by show n ≤ 1000; omega⟩, hy.few, hy.reads, hy.writes, hy.asc⟩
      · exact keptJ_mild (n + 1) l cs (by omega) (by omega) hl x hx
    · exact keptJ_mild n l cs h0 (by omega) hl

/-- what they come to is the same, and all are kept -/
theorem kept_serial (js : List Itt) : (∀ c ∈ (playM noSta ((keptJ 0 js (playM noSta (js.map some)).2).map some)).2, c = 0) ∧ snapK (playM noSta (js.map some)).1.cells = snapK (playM noSta ((keptJ 0 js (playM noSta (js.map some)).2).map some)).1.cells := by
  have h := serial (js.map some) noSta noSta rfl (fun c h => by cases h) (fun _ _ h => h)
  have e : keptM noSta.pos (js.map some) (playM noSta (js.map some)).2 = (keptJ 0 js (playM noSta (js.map some)).2).map some := keptJ_M 0 js _
  rw [e] at h
  exact ⟨h.1, snapK_bare h.2⟩

end Go.Proofs.Ytjjdednlddnllab
