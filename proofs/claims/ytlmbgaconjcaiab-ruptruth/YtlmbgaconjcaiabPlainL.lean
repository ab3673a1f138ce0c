/- Plain mathematics: a literal's watches, in place. -/
import Derived.Test.YtlmbgaconjcaiabPlainK
set_option linter.unusedVariables false
set_option linter.unusedSimpArgs false
namespace Go.Proofs.Ytlmbgaconjcaiab

section
variable {s : PS}
theorem setW_setW (s : PS) (j : Nat) (a b : List (Nat × Int)) : (s.setW j a).setW j b = s.setW j b := by
  unfold PS.setW; simp
theorem setW_self {j : Nat} {q : List (Nat × Int)} (h : s.wat[j]? = some q) : s.setW j q = s := by
  obtain ⟨hi, e⟩ := List.getElem?_eq_some_iff.1 h
  have : s.wat.set j q = s.wat := by rw [← e]; exact List.set_getElem_self hi
  unfold PS.setW; rw [this]
theorem setW_get {j : Nat} {q : List (Nat × Int)} (h : j < s.wat.length) : (s.setW j q).wat[j]? = some q := by
  unfold PS.setW; rw [List.getElem?_set_self h]
theorem setW_put (s : PS) (j : Nat) (a : List (Nat × Int)) (l r : Int) : (s.setW j a).put l r = (s.put l r).setW j a := rfl
theorem modify_set_comm {α : Type} (l : List α) (i j : Nat) (f : α → α) (a : α) (h : i ≠ j) : (l.set j a).modify i f = (l.modify i f).set j a := by
  apply List.ext_getElem?
  intro k
  rw [List.getElem?_modify, List.getElem?_set, List.getElem?_set, List.length_modify, List.getElem?_modify]
  by_cases e : j = k
  · subst e; simp [h]
  · simp [e]
theorem setW_moved (s : PS) (j : Nat) (a b : List (Nat × Int)) (i : Nat) (c : Cl) (k o : Int) (h : ix s.vars k ≠ j) : ((s.setW j a).setCl i { c with w0 := k, w1 := o }).watch k i o = (s.moved j b i c k o).setW j a := by
  unfold PS.moved PS.watch PS.setCl PS.setW
  simp only
  rw [modify_set_comm _ _ _ _ _ h, modify_set_comm _ _ _ _ _ h]
  simp

theorem raw_set {K R : List (Nat × Int)} {p : Nat × Int} (h : K.length < R.length) : (K ++ R.drop K.length).set K.length p = (K ++ [p]) ++ R.drop (K.length + 1) := by
  rw [List.set_append_right _ _ (Nat.le_refl _), Nat.sub_self, List.append_assoc]
  congr 1
  rw [List.drop_eq_getElem_cons h]
  rfl
theorem raw_get {K R : List (Nat × Int)} {k : Nat} (h : K.length ≤ k) : (K ++ R.drop K.length)[k]? = R[k]? := by
  rw [List.getElem?_append_right h, List.getElem?_drop]; congr 1; omega
theorem raw_len {K R : List (Nat × Int)} (h : K.length ≤ R.length) : (K ++ R.drop K.length).length = R.length := by
  simp; omega

theorem first_hit (p : Int → Bool) : ∀ ls : List Int, (∀ x ∈ ls, p x = false) ∨ ∃ t, ∃ h : t < ls.length, p ls[t] = true ∧ ∀ x ∈ ls.take t, p x = false
  | [] => .inl (by simp)
  | a :: r => by
    cases ha : p a with
    | true => exact .inr ⟨0, by simp, ha, by simp⟩
    | false =>
      rcases first_hit p r with h | ⟨t, h, h1, h2⟩
      · exact .inl (fun x hx => by rcases List.mem_cons.1 hx with rfl | hx; exact ha; exact h x hx)
      · refine .inr ⟨t + 1, by simpa using h, by simpa using h1, fun x hx => ?_⟩
        rw [List.take_succ_cons] at hx
        rcases List.mem_cons.1 hx with rfl | hx
        · exact ha
        · exact h2 x hx
end

/-- How the watches of a literal are gone through: the literals whose clauses stay, and are true. -/
def Tru (s : PS) (K : List (Nat × Int)) : Prop := ∀ p ∈ K, ∀ c, s.cls[p.1]? = some c → c.gone = false → ∃ x, x ∈ c.lits ∧ x ∈ s.trail

theorem Tru.put {s : PS} {K : List (Nat × Int)} (h : Tru s K) (l r : Int) : Tru (s.put l r) K := by
  intro p hp c hc hg
  obtain ⟨x, h1, h2⟩ := h p hp c hc hg
  exact ⟨x, h1, by rw [put_trail]; exact List.mem_append.2 (.inl h2)⟩
theorem Tru.moved {s : PS} {K : List (Nat × Int)} (h : Tru s K) {j : Nat} {q : List (Nat × Int)} {i : Nat} {c : Cl} {k o : Int} (hc : s.cls[i]? = some c) : Tru (s.moved j q i c k o) K := by
  intro p hp c' hc' hg
  have hc'' : (s.cls.set i { c with w0 := k, w1 := o })[p.1]? = some c' := hc'
  by_cases e : p.1 = i
  · rw [e, List.getElem?_set_self (List.getElem?_eq_some_iff.1 hc).1] at hc''
    cases hc''
    exact h p hp c (by rw [e]; exact hc) hg
  · rw [List.getElem?_set_ne (Ne.symm e)] at hc''
    exact h p hp c' hc'' hg
theorem Tru.snoc {s : PS} {K : List (Nat × Int)} (h : Tru s K) {p : Nat × Int} (hp : ∀ c, s.cls[p.1]? = some c → c.gone = false → ∃ x, x ∈ c.lits ∧ x ∈ s.trail) : Tru s (K ++ [p]) := by
  intro q hq
  rcases List.mem_append.1 hq with hq | hq
  · exact h q hq
  · simp at hq; subst hq; exact hp

theorem moved_frm {s : PS} {j : Nat} {q : List (Nat × Int)} {i : Nat} {c : Cl} {k o : Int} (hc : s.cls[i]? = some c) : Frm s (s.moved j q i c k o) := by
  refine ⟨rfl, ?_, rfl, rfl, rfl, [], by simp [PS.moved, PS.watch, PS.setCl, PS.setW]⟩
  show (s.cls.set i { c with w0 := k, w1 := o }).map key = s.cls.map key
  rw [List.map_set]
  obtain ⟨hi, e⟩ := List.getElem?_eq_some_iff.1 hc
  have : (s.cls.map key).set i (key { c with w0 := k, w1 := o }) = s.cls.map key := by
    have h2 : key { c with w0 := k, w1 := o } = (s.cls.map key)[i]'(by simpa using hi) := by simp [key, e]
    rw [h2]; exact List.set_getElem_self _
  exact this
theorem setW_frm (s : PS) (j : Nat) (q : List (Nat × Int)) : Frm s (s.setW j q) := ⟨rfl, rfl, rfl, rfl, rfl, [], by simp [PS.setW]⟩

end Go.Proofs.Ytlmbgaconjcaiab
