/- What is made, round by round; nodes in order. -/
import Derived.Test.YtbilhiklfficoaaPlain
set_option linter.unusedVariables false
set_option linter.unusedSimpArgs false
namespace Go.Proofs.Ytbilhiklfficoaa

theorem min_le {a b : Int} (h : a ≤ b) : min a b = a ∧ max a b = b := by omega
theorem and_comm' (g : List Gt) (a b : Int) : andF g a b = andF g b a := by
  by_cases h : (isB g a && isB g b) = true
  · have h' : (isB g b && isB g a) = true := by rw [Bool.and_comm]; exact h
    have e : redF (a + b + 1).toNat g a b = redF (b + a + 1).toNat g b a := by
      rw [show b + a + 1 = a + b + 1 by omega]
      have hh := h
      simp at hh
      have h1 := isB_iff.1 hh.1
      have h2 := isB_iff.1 hh.2
      obtain ⟨n, hn⟩ : ∃ n, (a + b + 1).toNat = n + 1 := ⟨(a + b).toNat, by omega⟩
      rw [hn]
      unfold redF
      rw [show min b a = min a b by omega, show max b a = max a b by omega]
    unfold andF
    simp only [h, h', if_true, e]
  · have h0 : (isB g a && isB g b) = false := by simpa using h
    have h' : (isB g b && isB g a) = false := by rw [Bool.and_comm]; exact h0
    unfold andF
    simp only [h0, h']
    rfl

theorem and_short {g : List Gt} {a b : Int} (hm : May g) (ha : isB g a = true) (hb : isB g b = true) (hab : a ≤ b) (h : shortF g a b ≠ -1) : andF g a b = (g, shortF g a b) := by
  have h1 := isB_iff.1 ha
  have h2 := isB_iff.1 hb
  obtain ⟨e1, e2⟩ := min_le hab
  have := red_short (n := (a + b + 1).toNat) ha hb (by omega) (by rw [e1, e2]; exact h)
  rw [e1, e2] at this
  unfold andF
  simp only [ha, hb, Bool.and_self, if_true, this]
  rw [if_pos h]
theorem and_end {g : List Gt} {a b : Int} (hm : May g) (ha : isB g a = true) (hb : isB g b = true) (hab : a ≤ b) (h : shortF g a b = -1) (hr : restF g a b = -1) : andF g a b = nodeF g a b := by
  have h1 := isB_iff.1 ha
  have h2 := isB_iff.1 hb
  obtain ⟨e1, e2⟩ := min_le hab
  have := red_end (n := (a + b + 1).toNat) ha hb (by omega) (by rw [e1, e2]; exact h) (by rw [e1, e2]; exact hr)
  rw [e1, e2] at this
  unfold andF
  simp only [ha, hb, Bool.and_self, if_true, this]
  rw [if_neg (by omega)]
theorem and_next {g : List Gt} {a b : Int} (hm : May g) (ha : isB g a = true) (hb : isB g b = true) (hab : a ≤ b) (h : shortF g a b = -1) (hr : restF g a b ≠ -1) :
    andF g a b = andF g a (restF g a b) ∧ isB g (restF g a b) = true ∧ restF g a b < b := by
  have h1 := isB_iff.1 ha
  have h2 := isB_iff.1 hb
  obtain ⟨e1, e2⟩ := min_le hab
  have := red_next (n := (a + b + 1).toNat) hm ha hb (by omega) (by rw [e1, e2]; exact h) (by rw [e1, e2]; exact hr)
  rw [e1, e2] at this
  obtain ⟨n1, n2, n3, n4⟩ := this
  refine ⟨?_, n3, by omega⟩
  unfold andF
  simp only [ha, hb, n3, Bool.and_self, if_true, n1]

/-- What the document's Kids tells. -/
def kidsF (g : List Gt) (l : Int) (neg : Bool) : Int × Int × Bool :=
  if l < 2 ∨ decide (l % 2 = 1) ≠ neg ∨ (kid g l).1 < 0 then (0, 0, false) else ((kid g l).1, (kid g l).2, true)
theorem kids_yes {g : List Gt} {l : Int} {neg : Bool} {c d : Int} (h : kidsF g l neg = (c, d, true)) : 2 ≤ l ∧ decide (l % 2 = 1) = neg ∧ kid g l = (c, d) ∧ 0 ≤ c := by
  unfold kidsF at h
  split at h
  · simp at h
  · rename_i hn
    simp at h
    obtain ⟨h1, h2⟩ := h
    have e : kid g l = (c, d) := by rw [← h1, ← h2]
    rw [← h1]
    refine ⟨by omega, ?_, by rw [h1]; exact e, by omega⟩
    cases hx : decide (l % 2 = 1) <;> cases neg <;> first | rfl | (exfalso; apply hn; right; left; rw [hx]; simp)
theorem kids_no {g : List Gt} {l : Int} {neg : Bool} (hl : 2 ≤ l) (hp : decide (l % 2 = 1) = neg) (h : (kidsF g l neg).2.2 = false) : (kid g l).1 < 0 := by
  unfold kidsF at h
  split at h
  · rename_i h'
    rcases h' with h' | h' | h'
    · omega
    · exact absurd hp h'
    · exact h'
  · simp at h
/-- The lesser one's node is not made of the greater one. -/
theorem kids_less {g : List Gt} (hm : May g) {a b : Int} (ha : isB g a = true) (hb : isB g b = true) (hab : a < b) {neg : Bool} {c d : Int} (hk : kidsF g a neg = (c, d, true)) :
    b ≠ c ∧ b ≠ d ∧ notI b ≠ c ∧ notI b ≠ d ∨ a = notI b := by
  obtain ⟨h2, hp, e, hc⟩ := kids_yes hk
  obtain ⟨i, hi, e1, e2, ek, ok⟩ := kid_ok hm h2 ha
  rw [ek] at e
  rw [e] at ok
  unfold okAt isInB at ok
  simp at ok
  by_cases hn : a = notI b
  · exact .inr hn
  · left
    have : 2 * ((i : Int) + 1) ≤ notI b := by rw [notI_ge]; omega
    omega

/-- Each node's lesser literal stands first. -/
def Ord (g : List Gt) : Prop := ∀ i (h : i < g.length), g[i].1 ≤ g[i].2
theorem ord_key {g : List Gt} (h : Ord g) {i : Nat} (hi : i < g.length) : keyF g[i] = g[i] := by
  have := h i hi
  unfold keyF
  apply Prod.ext <;> simp <;> omega
theorem ord_snoc {g : List Gt} (h : Ord g) {t : Gt} (ht : t.1 ≤ t.2) : Ord (g ++ [t]) := by
  intro i hi
  simp at hi
  by_cases e : i < g.length
  · rw [List.getElem_append_left e]; exact h i e
  · obtain rfl : i = g.length := by omega
    simpa using ht
theorem ord_node {g : List Gt} (h : Ord g) {a b : Int} (hab : a ≤ b) : Ord (nodeF g a b).1 := by
  unfold nodeF
  split
  · exact h
  · exact ord_snoc h hab
theorem ord_and {g : List Gt} (hm : May g) (h : Ord g) (a b : Int) : Ord (andF g a b).1 := by
  by_cases hc : (isB g a && isB g b) = true
  · simp at hc
    obtain ⟨ha, hb⟩ := hc
    have h1 := isB_iff.1 ha
    have h2 := isB_iff.1 hb
    have hs := red_spec hm (a + b + 1).toNat a b ha hb (by omega)
    unfold andF
    simp only [ha, hb, Bool.and_self, if_true]
    split
    · exact h
    · rename_i hne
      have := hs.resolve_left (fun c => by rw [isB_iff] at c; omega)
      exact ord_node h (by omega)
  · rw [(and_grow hm a b).2.2 (by simpa using hc)]; exact h
theorem ord_or {g : List Gt} (hm : May g) (h : Ord g) (a b : Int) : Ord (orF g a b).1 := ord_and hm h _ _
theorem ord_xor {g : List Gt} (hm : May g) (h : Ord g) (a b : Int) : Ord (xorF g a b).1 :=
  ord_or (and_grow (and_grow hm _ _).1.may _ _).1.may (ord_and (and_grow hm _ _).1.may (ord_and hm h _ _) _ _) _ _
theorem ord_ite {g : List Gt} (hm : May g) (h : Ord g) (c a b : Int) : Ord (iteF g c a b).1 :=
  ord_or (and_grow (and_grow hm _ _).1.may _ _).1.may (ord_and (and_grow hm _ _).1.may (ord_and hm h _ _) _ _) _ _
theorem ord_in {g : List Gt} (h : Ord g) : Ord (inF g).1 := ord_snoc h (by simp)
/-- The first node of just these two, in the order of the list. -/
theorem find_at {g : List Gt} (h : Ord g) {p : Gt} {i : Nat} (hi : i < g.length) (he : g[i] = p) (hno : ∀ j (hj : j < i), g[j] ≠ p) : findF g p = some i := by
  unfold findF
  rw [List.findIdx?_eq_some_iff_getElem]
  refine ⟨hi, by rw [ord_key h hi, he]; simp, fun j hj => ?_⟩
  rw [ord_key h (by omega)]
  simpa using hno j hj
theorem find_no {g : List Gt} (h : Ord g) {p : Gt} (hno : ∀ j (hj : j < g.length), g[j] ≠ p) : findF g p = none := by
  unfold findF
  rw [List.findIdx?_eq_none_iff]
  intro t ht
  obtain ⟨j, hj, rfl⟩ := List.getElem_of_mem ht
  rw [ord_key h hj]
  simpa using hno j hj
end Go.Proofs.Ytbilhiklfficoaa
