/- The statement on two texts one behind the other, walked. -/
import Derived.Test.YtjjeoodgejnplaaLawReads
set_option linter.unusedVariables false
set_option linter.unusedSimpArgs false
namespace Go.Proofs.Ytjjeoodgejnplaa
open Go.RowKit Go.Maps

attribute [local go_sem ↓] Go.wp_at_zero Go.wp_at_succ

/-- What is read of two texts. -/
theorem join_read (a b : List UInt8) (h : (readP Rs.zero 0 [] a).1 = 0) (hl : a.length + b.length < 200000) (hs : (readP Rs.zero 0 [] a).2.2.length ≤ a.length + 1) :
    readP Rs.zero 0 [] (a ++ 10 :: b) = ansBehind (readP Rs.zero 0 [] a).2.2 (a.length + 1) (readP Rs.zero 0 [] b) := by
  rw [read_join b a Rs.zero 0 [] h]
  have := read_behind (readP Rs.zero 0 [] a).2.2 (a.length + 1) b Rs.zero 0 [] (by have h0 : Rs.zero.steps.length = 0 := rfl; omega)
  rw [← this]
  simp [Rs.behind, Rs.zero]

theorem end_len (s : Rs) (n : Nat) : (endP s n).2.2.length ≤ s.steps.length := by
  unfold endP; split <;> simp

theorem read_len : ∀ (rest : List UInt8) (s : Rs) (p : Nat) (cur : List UInt8), (readP s p cur rest).2.2.length ≤ s.steps.length + rest.length + 1
  | [], s, p, cur => by
    rw [readP_nil]
    split
    · have h1 := end_len (wordS s cur) (p + cur.length)
      have h2 := wordS_steps s cur
      simp; omega
    · simp
  | c :: r, s, p, cur => by
    rw [readP_cons]
    split
    · split
      · have h1 := read_len r (wordS s cur) (p + cur.length + 1) []
        have h2 := wordS_steps s cur
        simp; omega
      · simp
    · have h1 := read_len r s p (cur ++ [c])
      simp; omega

theorem end_ok (s : Rs) (n : Nat) (h : (endP s n).1 = 0) : (endP s n).2.1 = 0 := by
  unfold endP at h ⊢
  split at h
  · simp at h
  · rename_i e; simp [e]

/-- The place of what is right is 0. -/
theorem read_at : ∀ (rest : List UInt8) (s : Rs) (p : Nat) (cur : List UInt8), (readP s p cur rest).1 = 0 → (readP s p cur rest).2.1 = 0
  | [], s, p, cur, h => by
    rw [readP_nil] at h ⊢
    by_cases e : wordE s cur = 0
    · rw [if_pos e] at h ⊢; exact end_ok _ _ h
    · rw [if_neg e] at h; exact absurd h e
  | c :: r, s, p, cur, h => by
    rw [readP_cons] at h ⊢
    by_cases hb : blankB c = true
    · rw [if_pos hb] at h ⊢
      by_cases e : wordE s cur = 0
      · rw [if_pos e] at h ⊢; exact read_at r _ _ _ h
      · rw [if_neg e] at h; exact absurd h e
    · rw [if_neg hb] at h ⊢; exact read_at r _ _ _ h

theorem end_fits (s : Rs) (n : Nat) : (endP s n).2.1 ≤ n := by unfold endP; split <;> simp

theorem read_fits : ∀ (rest : List UInt8) (s : Rs) (p : Nat) (cur : List UInt8), (readP s p cur rest).2.1 ≤ p + cur.length + rest.length
  | [], s, p, cur => by
    rw [readP_nil]
    split
    · have := end_fits (wordS s cur) (p + cur.length); omega
    · show p ≤ _; omega
  | c :: r, s, p, cur => by
    rw [readP_cons]
    simp only [List.length_cons]
    split
    · split
      · have := read_fits r (wordS s cur) (p + cur.length + 1) []
        simp only [List.length_nil] at this; omega
      · show p ≤ _; omega
    · have := read_fits r s p (cur ++ [c])
      simp only [List.length_append, List.length_cons, List.length_nil] at this; omega

/-- Steps put behind steps. -/
theorem steps_src {base : Nat} {w w' : World} {v : Value} {l : List Stp} (h : OSt base w v l) (hb : Below w.heap.size w w') : ∃ (a : Option Addr) (c : Nat) (cells : List Value), v = .slice a l.length c ∧ cells.length = l.length * 2 ∧
    (∀ i (h : i < l.length), ∃ u, cells[i * 2]? = some (.bool l[i].1) ∧ cells[i * 2 + 1]? = some u ∧ Own base w' u l[i].2) ∧ (∀ u ∈ cells, u.oneCell' = true) ∧
    ((a = none ∧ l.length = 0 ∧ c = 0 ∧ cells = []) ∨ ∃ ad, a = some ad ∧ cells.length = l.length * 2 ∧ ∀ j u, cells[j]? = some u → w'.cell? (ad.add j) = some u) := by
  obtain ⟨cells, h1, h2⟩ := h.below hb
  have hl : cells.length = l.length * 2 := h1.1
  have hone : ∀ u ∈ cells, u.oneCell' = true := by
    intro u hu
    obtain ⟨j, hj, e⟩ := List.getElem_of_mem hu
    have hi : j / 2 < l.length := by omega
    obtain ⟨x, e0, e1, ho⟩ := h2 (j / 2) hi
    rcases Nat.mod_two_eq_zero_or_one j with hm | hm
    · rw [show j / 2 * 2 = j by omega, List.getElem?_eq_getElem hj, e] at e0
      simp at e0; subst e0; rfl
    · rw [show j / 2 * 2 + 1 = j by omega, List.getElem?_eq_getElem hj, e] at e1
      simp at e1; subst e1
      obtain ⟨a, cap, rfl⟩ := Own.shape ho
      rfl
  rcases h1.2 with ⟨rfl, h0⟩ | ⟨g, cap, cur, rfl, hb', hg, hn, hm, hs, ht⟩
  · have : cells = [] := List.eq_nil_of_length_eq_zero (by omega)
    exact ⟨none, 0, cells, by rw [h0], hl, h2, hone, .inl ⟨rfl, h0, rfl, this⟩⟩
  · exact ⟨_, cap, cells, rfl, hl, h2, hone, .inr ⟨_, rfl, hl, h1.cells rfl⟩⟩

/-- Rows of steps, one behind the other. -/
theorem ost_join {base B : Nat} {w w' : World} {v : Value} {l m : List Stp} {x y : List Value} (hx : x.length = l.length * 2) (h1 : ∀ i (h : i < l.length), ∃ u, x[i * 2]? = some (.bool l[i].1) ∧ x[i * 2 + 1]? = some u ∧ Own base w u l[i].2)
    (h2 : ∀ i (h : i < m.length), ∃ u, y[i * 2]? = some (.bool m[i].1) ∧ y[i * 2 + 1]? = some u ∧ Own base w u m[i].2) (hb : Below w.heap.size w w') (hB : base ≤ B) (ho : w'.ownsRow B 33 2 v (l.length + m.length) (x ++ y)) : OSt base w' v (l ++ m) := by
  refine ⟨x ++ y, by rw [List.length_append]; exact owns_mono ho hB, fun i hi => ?_⟩
  rw [List.length_append] at hi
  rcases Nat.lt_or_ge i l.length with h | h
  · obtain ⟨u, e0, e1, hu⟩ := h1 i h
    refine ⟨u, ?_, ?_, ?_⟩
    · rw [List.getElem?_append_left (by omega), List.getElem_append_left h]; exact e0
    · rw [List.getElem?_append_left (by omega)]; exact e1
    · rw [List.getElem_append_left h]; exact hu.below hb
  · obtain ⟨u, e0, e1, hu⟩ := h2 (i - l.length) (by omega)
    have e : i * 2 - x.length = (i - l.length) * 2 := by omega
    have e' : i * 2 + 1 - x.length = (i - l.length) * 2 + 1 := by omega
    refine ⟨u, ?_, ?_, ?_⟩
    · rw [List.getElem?_append_right (by omega), List.getElem_append_right h, e]; exact e0
    · rw [List.getElem?_append_right (by omega), e']; exact e1
    · rw [List.getElem_append_right h]; exact hu.below hb

end Go.Proofs.Ytjjeoodgejnplaa
