/- The document's And, of two in order. -/
import Derived.Test.YtjfjigpmaeaopaaWalkR
set_option linter.unusedVariables false
set_option linter.unusedSimpArgs false
namespace Go.Proofs.Ytjfjigpmaeaopaa
open Go.RowKit Go.Maps

theorem refq_same {w W : World} {q off cap : Nat} {g : List Gt} {Z : List Gt × Int} {l : Int} (hZ : Z = (g, l)) (hs : GS w (some ⟨q, off, none⟩) g) (hb : Below w.heap.size w W) :
    RefP w q Z (.returned (.tuple #[.slice (some ⟨q, off, none⟩) g.length cap, .int .i64 l])) W := by
  subst hZ
  exact ⟨q, off, cap, rfl, hs.below hb, hb, .inl rfl⟩

/-- What the rules tell of two in order, in the document's order. -/
theorem rules {g : List Gt} (hm : May g) {a b : Int} (ha : isB g a = true) (hb : isB g b = true) (h1 : ¬ a = 0) (h2 : ¬ b = notI a) (h3 : ¬ a = 1) (h4 : ¬ a = b) (hab : a ≤ b) :
    ∃ c d o c' d' o', kidsF g b false = (c, d, o) ∧ kidsF g b true = (c', d', o') ∧
      (o = true → (a = c ∨ a = d) → andF g a b = (g, b)) ∧
      (o = true → ¬ (a = c ∨ a = d) → (notI a = c ∨ notI a = d) → andF g a b = (g, 0)) ∧
      ((o = true → ¬ (a = c ∨ a = d) ∧ ¬ (notI a = c ∨ notI a = d)) → o' = true → (notI a = c' ∨ notI a = d') → andF g a b = (g, a)) ∧
      ((o = true → ¬ (a = c ∨ a = d) ∧ ¬ (notI a = c ∨ notI a = d)) → o' = true → ¬ (notI a = c' ∨ notI a = d') → a = c' → 0 ≤ d' ∧ isB g (notI d') = true ∧ notI d' < b ∧ andF g a b = andF g a (notI d')) ∧
      ((o = true → ¬ (a = c ∨ a = d) ∧ ¬ (notI a = c ∨ notI a = d)) → o' = true → ¬ (notI a = c' ∨ notI a = d') → ¬ a = c' → a = d' → 0 ≤ c' ∧ isB g (notI c') = true ∧ notI c' < b ∧ andF g a b = andF g a (notI c')) ∧
      ((o = true → ¬ (a = c ∨ a = d) ∧ ¬ (notI a = c ∨ notI a = d)) → (o' = true → ¬ (notI a = c' ∨ notI a = d') ∧ ¬ a = c' ∧ ¬ a = d') → andF g a b = nodeF g a b) := by
  have hA := isB_iff.1 ha
  have hB := isB_iff.1 hb
  have h2' : ¬ a = notI b := fun e => h2 (by rw [e, notI_notI])
  have h2b : 2 ≤ b := by omega
  obtain ⟨i, hi, e1, e2, ek, ok⟩ := kid_ok hm h2b hb
  generalize hk : kid g b = t at *
  obtain ⟨x, y⟩ := t
  rw [← ek] at ok
  have hsh : shortF g a b = if (x = a ∨ y = a) ∧ b % 2 = 0 then b else if x = notI a ∨ y = notI a then (if b % 2 = 0 then 0 else a) else -1 := by
    unfold shortF
    rw [hk, if_neg (by simp [h1, h2']), if_neg (by simp [h3, h4])]
  have hrs : restF g a b = if a = x then notI y else if a = y then notI x else -1 := by unfold restF; rw [hk]
  have hna : 0 ≤ notI a := notI_nn.2 hA.1
  by_cases hp : b % 2 = 0
  · -- not negated
    have hk2 : kidsF g b true = (0, 0, false) := by unfold kidsF; rw [if_pos (.inr (.inl (by simp; omega)))]
    by_cases hx : x < 0
    · have hk1 : kidsF g b false = (0, 0, false) := by unfold kidsF; rw [if_pos (.inr (.inr (by rw [hk]; exact hx)))]
      have hin : x = -1 ∧ y = -1 := by unfold okAt isInB at ok; simp at ok; omega
      refine ⟨_, _, _, _, _, _, hk1, hk2, by simp, by simp, by simp, by simp, by simp, fun _ _ => ?_⟩
      refine and_end hm ha hb hab ?_ ?_
      · rw [hsh, if_neg (by omega), if_neg (by omega)]
      · rw [hrs, if_neg (by omega), if_neg (by omega)]
    · have hk1 : kidsF g b false = (x, y, true) := by unfold kidsF; rw [if_neg (by rw [hk]; simp; omega), hk]
      refine ⟨_, _, _, _, _, _, hk1, hk2, ?_, ?_, by simp, by simp, by simp, ?_⟩
      · intro _ h
        have : shortF g a b = b := by rw [hsh, if_pos ⟨by omega, hp⟩]
        rw [and_short hm ha hb hab (by omega), this]
      · intro _ h h'
        have : shortF g a b = 0 := by rw [hsh, if_neg (by omega), if_pos (by omega), if_pos hp]
        rw [and_short hm ha hb hab (by omega), this]
      · intro h _
        have := h rfl
        refine and_end hm ha hb hab ?_ ?_
        · rw [hsh, if_neg (by omega), if_neg (by omega)]
        · rw [hrs, if_neg (by omega), if_neg (by omega)]
  · have hk1 : kidsF g b false = (0, 0, false) := by unfold kidsF; rw [if_pos (.inr (.inl (by simp; omega)))]
    by_cases hx : x < 0
    · have hk2 : kidsF g b true = (0, 0, false) := by unfold kidsF; rw [if_pos (.inr (.inr (by rw [hk]; exact hx)))]
      have hin : x = -1 ∧ y = -1 := by unfold okAt isInB at ok; simp at ok; omega
      refine ⟨_, _, _, _, _, _, hk1, hk2, by simp, by simp, by simp, by simp, by simp, fun _ _ => ?_⟩
      refine and_end hm ha hb hab ?_ ?_
      · rw [hsh, if_neg (by omega), if_neg (by omega)]
      · rw [hrs, if_neg (by omega), if_neg (by omega)]
    · have hk2 : kidsF g b true = (x, y, true) := by unfold kidsF; rw [if_neg (by rw [hk]; simp; omega), hk]
      have hy : 0 ≤ x ∧ 0 ≤ y := by unfold okAt isInB at ok; simp at ok; omega
      refine ⟨_, _, _, _, _, _, hk1, hk2, by simp, by simp, ?_, ?_, ?_, ?_⟩
      · intro _ _ h
        have : shortF g a b = a := by rw [hsh, if_neg (by omega), if_pos (by omega), if_neg hp]
        rw [and_short hm ha hb hab (by omega), this]
      · intro _ _ h h'
        have hs : shortF g a b = -1 := by rw [hsh, if_neg (by omega), if_neg (by omega)]
        have hr : restF g a b = notI y := by rw [hrs, if_pos (by omega)]
        have hny := notI_nn.2 hy.2
        obtain ⟨n1, n2, n3⟩ := and_next hm ha hb hab hs (by omega)
        rw [hr] at n1 n2 n3
        exact ⟨hy.2, n2, n3, n1⟩
      · intro _ _ h h' h''
        have hs : shortF g a b = -1 := by rw [hsh, if_neg (by omega), if_neg (by omega)]
        have hr : restF g a b = notI x := by rw [hrs, if_neg (by omega), if_pos (by omega)]
        have hnx := notI_nn.2 hy.1
        obtain ⟨n1, n2, n3⟩ := and_next hm ha hb hab hs (by omega)
        rw [hr] at n1 n2 n3
        exact ⟨hy.1, n2, n3, n1⟩
      · intro _ h
        have := h rfl
        refine and_end hm ha hb hab ?_ ?_
        · rw [hsh, if_neg (by omega), if_neg (by omega)]
        · rw [hrs, if_neg (by omega), if_neg (by omega)]
end Go.Proofs.Ytjfjigpmaeaopaa
