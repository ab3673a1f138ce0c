/- A text's words: none is empty, and how many there are at most. -/
import Derived.Test.YtgklollpajhmlaaDoorPlainT
set_option linter.unusedVariables false
set_option linter.unusedSimpArgs false
namespace Go.Proofs.YtgklollpajhmlaaDoor

theorem wordsP_nil (p : Nat) (cur : List UInt8) : wordsP p cur [] = if cur = [] then [] else [(p, cur)] := by rw [wordsP]
theorem wordsP_cons (p : Nat) (cur : List UInt8) (c : UInt8) (r : List UInt8) : wordsP p cur (c :: r) = if blankB c = true then (if cur = [] then [] else [(p, cur)]) ++ wordsP (p + cur.length + 1) [] r else wordsP p (cur ++ [c]) r := by rw [wordsP]

theorem wordsP_ne : ∀ (rest : List UInt8) (p : Nat) (cur : List UInt8), ∀ x ∈ wordsP p cur rest, x.2 ≠ []
  | [], p, cur, x, hx => by
    rw [wordsP_nil] at hx
    split at hx
    · simp at hx
    · simp at hx; subst hx; assumption
  | c :: r, p, cur, x, hx => by
    rw [wordsP_cons] at hx
    split at hx
    · rw [List.mem_append] at hx
      rcases hx with hx | hx
      · split at hx
        · simp at hx
        · simp at hx; subst hx; assumption
      · exact wordsP_ne r _ _ x hx
    · exact wordsP_ne r _ _ x hx

theorem wordsP_len : ∀ (rest : List UInt8) (p : Nat) (cur : List UInt8), 2 * (wordsP p cur rest).length ≤ rest.length + 1 + (if cur = [] then 0 else 1)
  | [], p, cur => by
    rw [wordsP_nil]
    by_cases h : cur = [] <;> simp [h]
  | c :: r, p, cur => by
    rw [wordsP_cons]
    split
    · have ih := wordsP_len r (p + cur.length + 1) []
      rw [List.length_append]
      by_cases h : cur = [] <;> simp [h] at ih ⊢ <;> omega
    · have ih := wordsP_len r p (cur ++ [c])
      rw [if_neg (by simp)] at ih
      simp only [List.length_cons]
      omega

theorem wordsP_at : ∀ (rest : List UInt8) (p : Nat) (cur : List UInt8), ∀ x ∈ wordsP p cur rest, x.1 ≤ p + cur.length + rest.length ∧ x.2.length ≤ cur.length + rest.length
  | [], p, cur, x, hx => by
    rw [wordsP_nil] at hx
    split at hx
    · simp at hx
    · simp at hx; subst hx; simp
  | c :: r, p, cur, x, hx => by
    rw [wordsP_cons] at hx
    simp only [List.length_cons]
    split at hx
    · rw [List.mem_append] at hx
      rcases hx with hx | hx
      · split at hx
        · simp at hx
        · simp at hx; subst hx; simp; omega
      · have := wordsP_at r _ _ x hx
        simp at this
        omega
    · have := wordsP_at r _ _ x hx
      simp at this
      omega


end Go.Proofs.YtgklollpajhmlaaDoor
