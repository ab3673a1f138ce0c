/- A tautology, told by literals that stand side by side. -/
import Derived.Test.YtaepanmkofhgoaaPlain2
set_option linter.unusedVariables false
set_option linter.unusedSimpArgs false
namespace Go.Proofs.Ytaepanmkofhgoaa

theorem tautB_iff {c : List Int} : tautB c = true ↔ ∃ x, x ∈ c ∧ -x ∈ c := by simp [tautB, hasB_iff]

theorem tautB_same {c d : List Int} (h : ∀ x, x ∈ c ↔ x ∈ d) : tautB c = tautB d := by
  rw [Bool.eq_iff_iff, tautB_iff, tautB_iff]
  constructor
  · rintro ⟨x, h1, h2⟩; exact ⟨x, (h _).1 h1, (h _).1 h2⟩
  · rintro ⟨x, h1, h2⟩; exact ⟨x, (h _).2 h1, (h _).2 h2⟩

theorem taut_side {ns : List Int} {i : Nat} (h1 : 1 ≤ i) (h : i < ns.length) (he : ns[i] = -(ns[i - 1]'(by omega))) : tautB ns = true :=
  tautB_iff.2 ⟨ns[i - 1]'(by omega), List.getElem_mem _, by rw [← he]; exact List.getElem_mem _⟩

theorem ordered_lt {ns : List Int} (ho : Ordered ns) {i j : Nat} (hi : i < ns.length) (hj : j < ns.length) (hij : i < j) : aheadB ns[i] ns[j] = true := List.pairwise_iff_getElem.1 ho i j hi hj hij

theorem varI_eq (l : Int) : (l < 0 ∧ varI l = -l) ∨ (0 ≤ l ∧ varI l = l) := by unfold varI; split <;> omega

theorem no_taut {ns : List Int} (ho : Ordered ns) (hz : ∀ x ∈ ns, x ≠ 0) (h : ∀ i (h1 : 1 ≤ i) (h2 : i < ns.length), ns[i] ≠ -(ns[i - 1]'(by omega))) : tautB ns = false := by
  rw [← Bool.not_eq_true, tautB_iff]
  rintro ⟨x0, a0, b0⟩
  obtain ⟨x, a, b, hx⟩ : ∃ x, x ∈ ns ∧ -x ∈ ns ∧ 0 < x := by
    have := hz x0 a0
    rcases Int.lt_or_lt_of_ne this with hlt | hlt
    · exact ⟨-x0, b0, by rw [Int.neg_neg]; exact a0, by omega⟩
    · exact ⟨x0, a0, b0, hlt⟩
  obtain ⟨i, hi, e1⟩ := List.mem_iff_getElem.1 a
  obtain ⟨j, hj, e2⟩ := List.mem_iff_getElem.1 b
  have va := varI_eq x
  have vb := varI_eq (-x)
  have hax : aheadB x (-x) = true := by rw [ahead_iff]; omega
  rcases Nat.lt_trichotomy i j with hij | hij | hij
  · rcases Nat.lt_or_ge (i + 1) j with h' | h'
    · have p := ordered_lt ho hi (j := i + 1) (by omega) (by omega)
      have q := ordered_lt ho (i := i + 1) (by omega) hj h'
      rw [e1] at p
      rw [e2] at q
      rw [ahead_iff] at p q
      have vy := varI_eq ns[i + 1]
      have := h (i + 1) (by omega) (by omega)
      simp only [Nat.add_sub_cancel, e1] at this
      omega
    · have : j = i + 1 := by omega
      subst this
      have := h (i + 1) (by omega) hj
      simp only [Nat.add_sub_cancel, e1, e2] at this
      exact this rfl
  · subst hij
    rw [e1] at e2
    omega
  · have p := ordered_lt ho hj hi hij
    rw [e1, e2] at p
    have := ahead_trans hax p
    rw [ahead_irrefl] at this
    cases this

theorem order_lits {c : List Int} (h : Lits c) : Lits (order c) := fun x hx => h x (order_mem.1 hx)
theorem order_nz {c : List Int} (h : mayB c 1048576 = true) : ∀ x ∈ order c, x ≠ 0 := fun x hx => (litB_true.1 (mayB_lit h x (order_mem.1 hx))).1
theorem order_taut (c : List Int) : tautB (order c) = tautB c := tautB_same fun _ => order_mem
theorem order_may {c : List Int} (h : mayB c 1048576 = true) : mayB (order c) 1048576 = true :=
  mayB_of (Nat.le_trans (order_len c) (mayB_len h)) (by rw [List.all_eq_true]; exact fun x hx => mayB_lit h x (order_mem.1 hx))

theorem clauseI_same {m c d : List Int} (h : ∀ x, x ∈ c ↔ x ∈ d) : clauseI m c = clauseI m d := by
  have e : ∀ p : Int → Bool, c.any p = d.any p := fun p => by
    rw [Bool.eq_iff_iff, List.any_eq_true, List.any_eq_true]
    constructor
    · rintro ⟨x, h1, h2⟩; exact ⟨x, (h x).1 h1, h2⟩
    · rintro ⟨x, h1, h2⟩; exact ⟨x, (h x).2 h1, h2⟩
  unfold clauseI; rw [e, e]

theorem clauseI_order (m c : List Int) : clauseI m (order c) = clauseI m c := clauseI_same fun _ => order_mem

end Go.Proofs.Ytaepanmkofhgoaa
