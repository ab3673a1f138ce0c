/- A proof's text is told to be one, and loaded as that proof; plain functions on lists, no program is named here. -/
import Derived.Test.YtgklollpajhmlaaDoorPlainC
set_option linter.unusedVariables false
set_option linter.unusedSimpArgs false
namespace Go.Proofs.YtgklollpajhmlaaDoor

theorem dig_of {c : UInt8} (h : digB c = true) : ofT c = true := by
  unfold digB at h
  have h' := of_decide_eq_true h
  unfold ofT
  have h1 : 48 ≤ c.toNat := by omega
  have h2 : c.toNat ≤ 57 := by omega
  simp [h1, h2]

theorem digI_of (n : Int) : (digI n).all ofT = true := by
  have h := (digN_props n.natAbs).1
  have h2 : (digN n.natAbs).all ofT = true := by
    rw [List.all_eq_true] at h ⊢
    intro c hc
    exact dig_of (h c hc)
  unfold digI
  split
  · rw [List.all_cons, h2]; rfl
  · exact h2

theorem litsT_of : ∀ (c : List Int), (litsT c).all ofT = true
  | [] => rfl
  | l :: c => by
    have ih := litsT_of c
    unfold litsT at *
    rw [List.flatMap_cons, List.all_append, List.all_append, digI_of, ih]
    rfl

theorem stepT_of (s : Stp) : (stepT s).all ofT = true := by
  unfold stepT clauseT
  rw [List.all_append, List.all_append, litsT_of]
  cases s.1 <;> rfl

theorem printT_of : ∀ (l : List Stp), (printT l).all ofT = true
  | [] => rfl
  | s :: l => by
    have ih := printT_of l
    unfold printT at *
    rw [List.flatMap_cons, List.all_append, stepT_of, ih]
    rfl

theorem bin_print (l : List Stp) : binB (printT l) = false := by
  have h := printT_of l
  unfold binB
  rw [List.any_eq_false]
  rw [List.all_eq_true] at h
  intro c hc
  rw [h c (List.mem_of_mem_take hc)]
  simp

theorem load_print {l : List Stp} (h : mayL l = true) : loadP (printT l) = (0, 0, l) := by
  unfold loadP
  rw [bin_print, if_neg (by simp), print_read h]

end Go.Proofs.YtgklollpajhmlaaDoor
