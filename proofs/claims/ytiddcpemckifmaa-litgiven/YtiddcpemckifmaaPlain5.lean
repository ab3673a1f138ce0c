/- The theorem of a true literal. -/
import Derived.Test.YtiddcpemckifmaaWalkP
set_option linter.unusedVariables false
set_option linter.unusedSimpArgs false
namespace Go.Proofs.Ytiddcpemckifmaa
open Go.RowKit

theorem cnfB_parts {n : Int} {css : List (List Int)} (h : cnfB n css = true) : 0 ≤ n ∧ n ≤ 1048576 ∧ css.length ≤ 262144 ∧ ∀ c ∈ css, mayB c n = true := by
  unfold cnfB at h
  rw [Bool.and_eq_true, decide_eq_true_eq, List.all_eq_true] at h
  exact ⟨h.1.1, h.1.2.1, h.1.2.2, h.2⟩

theorem litB_wide {x n : Int} (h : litB x n = true) (hn : n ≤ 1048576) : litB x 1048576 = true := by
  rw [litB_true] at *; omega

theorem wo_same {c : List Int} {n : Int} (h : n ∉ c) : wo c n = c := by
  unfold wo; rw [List.filter_eq_self]; intro x hx; rw [bne_iff_ne]; intro e; exact h (e ▸ hx)

theorem given_none {n l nl : Int} {css : List (List Int)} (h : cnfB n css = true) (hl : litB l 1048576 = false) (hn : litB nl 1048576 = false) : given css l nl = css := by
  obtain ⟨_, h2, _, h4⟩ := cnfB_parts h
  have key : ∀ c ∈ css, ∀ x, litB x 1048576 = false → x ∉ c := by
    intro c hc x hx hxc
    have := litB_wide (mayB_lit (h4 c hc) x hxc) h2
    rw [this] at hx; cases hx
  unfold given
  rw [List.filter_eq_self.2 (fun c hc => by simp [hasB_not.2 (key c hc l hl)])]
  conv => rhs; rw [← List.map_id css]
  apply List.map_congr_left
  intro c hc
  exact wo_same (key c hc nl hn)

theorem given_cnf {n l nl : Int} {css : List (List Int)} (h : cnfB n css = true) : cnfB n (given css l nl) = true := by
  obtain ⟨h1, h2, h3, h4⟩ := cnfB_parts h
  refine cnfB_yes ⟨h1, h2, Nat.le_trans (given_len _ _ _) h3⟩ ?_
  rw [List.all_eq_true]
  intro d hd
  unfold given at hd
  obtain ⟨c, hc, rfl⟩ := List.mem_map.1 hd
  have hm := h4 c (List.mem_filter.1 hc).1
  refine mayB_of (Nat.le_trans (wo_len _ _) (mayB_len hm)) ?_
  rw [List.all_eq_true]
  intro x hx
  exact mayB_lit hm x (wo_mem.1 hx).1

theorem clause_without {m c : List Int} {l : Int} (hv : valI m l = 1) : (clauseI m (wo c (-l)) == 1) = (clauseI m c == 1) := by
  have hn := valI_neg m l
  rw [Bool.eq_iff_iff, beq_iff_eq, beq_iff_eq, clauseI_one_iff, clauseI_one_iff]
  constructor
  · rintro ⟨x, h1, h2⟩; exact ⟨x, (wo_mem.1 h1).1, h2⟩
  · rintro ⟨x, h1, h2⟩
    refine ⟨x, wo_mem.2 ⟨h1, ?_⟩, h2⟩
    intro e; subst e; omega

/-- A model that makes a literal true makes a formula hold just if it makes what is given hold. -/
theorem given_holds {m : List Int} {l : Int} {css : List (List Int)} (hv : valI m l = 1) : holdsB m (given css l (-l)) = holdsB m css := by
  unfold holdsB
  induction css with
  | nil => rfl
  | cons c css ih =>
    rw [List.all_cons, ← ih]
    unfold given
    rw [List.filter_cons]
    by_cases hh : hasB c l = true
    · rw [hh]
      have : (clauseI m c == 1) = true := by rw [beq_iff_eq, clauseI_one_iff]; exact ⟨l, hasB_iff.1 hh, hv⟩
      rw [this]
      simp
    · have hh' : hasB c l = false := by simpa using hh
      rw [hh']
      simp only [Bool.not_false, if_true, List.map_cons, List.all_cons]
      rw [clause_without hv]

theorem neg_lit {l nl : Int} (hnl : IntKind.i64.wrap (-l) = nl) (h : litB l 1048576 = true) : nl = -l := by
  rw [litB_true] at h
  rw [← hnl, IntWalk.i64_left]
  exact IntWalk.wrap64_in _ (by omega)

theorem neg_none {l nl : Int} (hnl : IntKind.i64.wrap (-l) = nl) (hb : -9223372036854775808 ≤ l ∧ l ≤ 9223372036854775807) (h : litB l 1048576 = false) : litB nl 1048576 = false := by
  rw [← hnl, IntWalk.i64_left]
  have h' : ¬ (l ≠ 0 ∧ -1048576 ≤ l ∧ l ≤ 1048576) := by rw [← litB_true, h]; simp
  rw [← Bool.not_eq_true, litB_true]
  by_cases e : l = -9223372036854775808
  · subst e; unfold wrap64; omega
  · rw [IntWalk.wrap64_in _ (by omega)]; omega

theorem lightB_parts {css : List (List Int)} (h : lightB css = true) : css.length ≤ 300 ∧ ∀ c ∈ css, c.length ≤ 5000 := by
  unfold lightB at h
  rw [Bool.and_eq_true, Bool.and_eq_true, decide_eq_true_eq, List.all_eq_true] at h
  exact ⟨h.1, fun c hc => by simpa using h.2.1 c hc⟩

end Go.Proofs.Ytiddcpemckifmaa
