/- What is resolved of two true clauses is true. -/
import Derived.Test.YtiddcpemckifmaaPlain3
set_option linter.unusedVariables false
set_option linter.unusedSimpArgs false
namespace Go.Proofs.Ytiddcpemckifmaa

theorem sgn_neg (x : Int) : sgn (-x) = -sgn x := by
  rcases sgn_cases x with ⟨h, e⟩ | ⟨h, e⟩ | ⟨h, e⟩ <;> rcases sgn_cases (-x) with ⟨g, f⟩ | ⟨g, f⟩ | ⟨g, f⟩ <;> rw [e, f] <;> first | rfl | omega

theorem litB_neg (l t : Int) : litB (-l) t = litB l t := by
  rw [Bool.eq_iff_iff, litB_true, litB_true]; omega

theorem varI_neg (l : Int) : varI (-l) = varI l := by unfold varI; split <;> split <;> omega

theorem valI_neg (m : List Int) (l : Int) : valI m (-l) = -valI m l := by
  unfold valI
  rw [litB_neg, varI_neg, sgn_neg]
  split
  · rw [Int.mul_neg]
  · rfl

theorem wo_mem {xs : List Int} {n x : Int} : x ∈ wo xs n ↔ x ∈ xs ∧ x ≠ n := by unfold wo; simp

theorem clauseI_one_iff {m c : List Int} : clauseI m c = 1 ↔ ∃ l, l ∈ c ∧ valI m l = 1 := by
  constructor
  · intro h
    unfold clauseI at h
    split at h
    · rename_i g
      obtain ⟨l, h1, h2⟩ := List.any_eq_true.1 g
      exact ⟨l, h1, by simpa using h2⟩
    · split at h <;> simp at h
  · rintro ⟨l, h1, h2⟩
    exact clauseI_one (List.any_eq_true.2 ⟨l, h1, by simp [h2]⟩)

/-- The theorem of resolution. -/
theorem resolved_true {m xs ys : List Int} {n : Int} (hx : clauseI m xs = 1) (hy : clauseI m ys = 1) (hn : valI m n ≠ 0) : clauseI m (order (wo xs n ++ wo ys (-n))) = 1 := by
  rw [clauseI_order, clauseI_one_iff]
  obtain ⟨l, h1, h2⟩ := clauseI_one_iff.1 hx
  obtain ⟨k, g1, g2⟩ := clauseI_one_iff.1 hy
  have hneg := valI_neg m n
  rcases valI_cases m n with h | h | h
  · refine ⟨l, List.mem_append.2 (.inl (wo_mem.2 ⟨h1, ?_⟩)), h2⟩
    intro e; subst e; omega
  · exact absurd h hn
  · refine ⟨k, List.mem_append.2 (.inr (wo_mem.2 ⟨g1, ?_⟩)), g2⟩
    intro e; subst e; omega

theorem resolved_may {xs ys : List Int} {n : Int} (hx : mayB xs 1048576 = true) (hy : mayB ys 1048576 = true) (h1 : xs.length ≤ 600) (h2 : ys.length ≤ 600) : mayB (order (wo xs n ++ wo ys (-n))) 1048576 = true := by
  refine mayB_of ?_ ?_
  · have := order_len (wo xs n ++ wo ys (-n))
    have := wo_len xs n
    have := wo_len ys (-n)
    simp at *; omega
  · rw [List.all_eq_true]
    intro x hx'
    rw [order_mem, List.mem_append, wo_mem, wo_mem] at hx'
    rcases hx' with h | h
    · exact mayB_lit hx x h.1
    · exact mayB_lit hy x h.1

end Go.Proofs.Ytiddcpemckifmaa
