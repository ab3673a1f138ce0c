/- Plain mathematics: a clause is dropped; what was dropped is swept out. -/
import Derived.Test.YtlmbgaconjcaiabPlainN
set_option linter.unusedVariables false
set_option linter.unusedSimpArgs false
namespace Go.Proofs.Ytlmbgaconjcaiab

/-- What is counted: the clauses that are there; those that were dropped since the last sweep are among those that are gone. -/
structure Cnt (s : PS) : Prop where
  n : s.count = (s.cls.countP (fun c => !c.gone) : Nat)
  st : 0 ≤ s.stale ∧ s.stale ≤ (s.cls.countP (fun c => c.gone) : Nat)

theorem countP_set {α : Type} (p : α → Bool) : ∀ (l : List α) (i : Nat) (a b : α), l[i]? = some a → ((l.set i b).countP p : Nat) + (if p a then 1 else 0) = l.countP p + (if p b then 1 else 0)
  | [], i, a, b, h => by simp at h
  | x :: l, 0, a, b, h => by
    simp at h; subst h
    simp only [List.set_cons_zero, List.countP_cons]; omega
  | x :: l, i + 1, a, b, h => by
    simp at h
    have := countP_set p l i a b h
    simp only [List.set_cons_succ, List.countP_cons]; omega

section
variable {s : PS}

theorem set_at {i j : Nat} {c c' d : Cl} (hc : s.cls[i]? = some c) (h : (s.cls.set i d)[j]? = some c') : (j = i ∧ c' = d) ∨ (j ≠ i ∧ s.cls[j]? = some c') := by
  by_cases e : j = i
  · subst e
    rw [List.getElem?_set_self (List.getElem?_eq_some_iff.1 hc).1] at h
    exact .inl ⟨rfl, (Option.some.inj h).symm⟩
  · rw [List.getElem?_set_ne (Ne.symm e)] at h; exact .inr ⟨e, h⟩

theorem dropped_inv (h : Inv s) (hn : Cnt s) {i : Nat} {c : Cl} (hc : s.cls[i]? = some c) (hg : c.gone = false) (hnr : ∀ x ∈ c.lits, s.val x = 1 → (s.fct x).2.2 ≠ (i : Int)) :
    Inv (s.dropped i c) ∧ Cnt (s.dropped i c) := by
  have hil : i < s.cls.length := (List.getElem?_eq_some_iff.1 hc).1
  have c1 := countP_set (fun c : Cl => !c.gone) s.cls i c { c with gone := true, lits := [] } hc
  have c2 := countP_set (fun c : Cl => c.gone) s.cls i c { c with gone := true, lits := [] } hc
  simp only [hg, Bool.not_false, Bool.not_true, if_true, Bool.false_eq_true, if_false] at c1 c2
  have c3 := List.countP_le_length (p := fun c : Cl => !c.gone) (l := s.cls.set i { c with gone := true, lits := [] })
  have c4 := List.countP_le_length (p := fun c : Cl => c.gone) (l := s.cls.set i { c with gone := true, lits := [] })
  simp only [List.length_set] at c3 c4
  have hcount : (s.dropped i c).count = s.count - 1 := rfl
  have hstale : (s.dropped i c).stale = s.stale + 1 := rfl
  have hcnt : Cnt (s.dropped i c) := by
    refine ⟨?_, ?_⟩
    · rw [hcount, hn.n]; show _ = ((List.countP _ (s.cls.set i _) : Nat) : Int); omega
    · rw [hstale]
      have := hn.st
      show 0 ≤ s.stale + 1 ∧ s.stale + 1 ≤ ((List.countP _ (s.cls.set i _) : Nat) : Int); omega
  refine ⟨⟨?_, ?_, ⟨?_, ?_⟩, ?_⟩, hcnt⟩
  · refine ⟨h.tr.ok, h.tr.nd, h.tr.vl, ?_, h.tr.st, h.tr.sl, h.tr.hd, h.tr.hv, h.tr.hp⟩
    intro j x hx
    obtain ⟨r, e, hR⟩ := h.tr.fc j x hx
    refine ⟨r, e, ?_⟩
    rcases hR with ⟨a, b⟩ | ⟨a, k', c', q1, q2, q3, q4, q5⟩
    · exact .inl ⟨a, b⟩
    · refine .inr ⟨a, k', c', q1, ?_, q3, q4, q5⟩
      show (s.cls.set i _)[k']? = some c'
      by_cases ek : k' = i
      · subst ek
        rw [hc] at q2; simp at q2; subst q2
        have hxm := List.mem_of_getElem? hx
        have : s.val x = 1 := by rw [h.tr.vl x (h.tr.ok x hxm)]; exact tval_one.2 hxm
        exact absurd (by rw [e]; exact q1) (hnr x q4 this)
      · rw [List.getElem?_set_ne (Ne.symm ek)]; exact q2
  · refine ⟨?_, ?_, h.wt.nd, ?_⟩
    · intro j c' hj x hx
      rcases set_at hc hj with ⟨_, rfl⟩ | ⟨_, hj⟩
      · simp at hx
      · exact h.wt.ok j c' hj x hx
    · intro j c' hj hg' hw
      rcases set_at hc hj with ⟨_, rfl⟩ | ⟨_, hj⟩
      · simp at hg'
      · exact h.wt.ww j c' hj hg' hw
    · intro j q hq p hp
      obtain ⟨c', h1, h2, h3⟩ := h.wt.we j q hq p hp
      by_cases e : p.1 = i
      · refine ⟨{ c with gone := true, lits := [] }, ?_, h2, fun hg' => by simp at hg'⟩
        show (s.cls.set i _)[p.1]? = _
        rw [e, List.getElem?_set_self hil]
      · refine ⟨c', ?_, h2, h3⟩
        show (s.cls.set i _)[p.1]? = _
        rw [List.getElem?_set_ne (Ne.symm e)]; exact h1
  · intro k hk j c' hj hg'
    rcases set_at hc hj with ⟨_, rfl⟩ | ⟨_, hj⟩
    · simp at hg'
    · exact h.la.i1 k hk j c' hj hg'
  · intro k hk j c' hj hg'
    rcases set_at hc hj with ⟨_, rfl⟩ | ⟨_, hj⟩
    · simp at hg'
    · exact h.la.i2 k hk j c' hj hg'
  · have hz := h.sz
    have e : (s.dropped i c).cls.length = s.cls.length := by simp [PS.dropped]
    refine ⟨hz.vars, hz.vals, hz.wat, hz.fac, hz.bit, hz.num, ?_, ?_, ?_, ?_, ?_, ?_⟩
    · rw [e]; exact hz.lv
    · rw [e]; exact hz.la
    · rw [e]; exact hz.sum
    · rw [e]; have := hcnt.n; have := hz.count; omega
    · rw [e]; have := hcnt.st; refine ⟨this.1, Int.le_trans this.2 ?_⟩; have := c4; show ((List.countP _ (s.cls.set i _) : Nat) : Int) ≤ _; omega
    · rw [e]; exact hz.cls

theorem alive_of {i : Nat} {c : Cl} (hc : s.cls[i]? = some c) (hg : c.gone = false) : s.alive i = true := by unfold PS.alive; rw [hc]; simp [hg]

theorem swept_inv (h : Inv s) (hn : Cnt s) : Inv s.swept ∧ Cnt s.swept := by
  have hcnt : Cnt s.swept := ⟨hn.n, by show (0 : Int) ≤ 0 ∧ _; exact ⟨Int.le_refl _, Int.natCast_nonneg _⟩⟩
  have hlget : ∀ j : Nat, s.swept.lvs[j]? = (s.lvs[j]?).map (fun v : Lv => ({ v with late := v.late.filter s.alive } : Lv)) := fun j => by show (s.lvs.map _)[j]? = _; rw [List.getElem?_map]
  have hmem : ∀ v ∈ s.swept.lvs, ∃ u ∈ s.lvs, v.start = u.start ∧ v.head = u.head ∧ v.late = u.late.filter s.alive := by
    intro v hv
    obtain ⟨u, hu, rfl⟩ := List.mem_map.1 hv
    exact ⟨u, hu, rfl, rfl, rfl⟩
  have hlen : s.swept.lvs.length = s.lvs.length := by simp [PS.swept]
  have htk : ∀ k, tk s.swept k = tk s k := by
    intro k; unfold tk; rw [hlget]
    cases s.lvs[k]? <;> rfl
  have hhk : ∀ k, hk s.swept k = hk s k := by
    intro k; unfold hk; rw [hlget]
    cases s.lvs[k]? <;> rfl
  have hwget : ∀ j : Nat, s.swept.wat[j]? = (s.wat[j]?).map (fun q : List (Nat × Int) => q.filter (fun p => s.alive p.1)) := fun j => by show (s.wat.map _)[j]? = _; rw [List.getElem?_map]
  have hinw : ∀ l (i : Nat) c, s.cls[i]? = some c → c.gone = false → InW s l i → InW s.swept l i := by
    rintro l i c hc hg ⟨q, h1, h2⟩
    refine ⟨q.filter (fun p => s.alive p.1), ?_, ?_⟩
    · show s.swept.wat[ix s.vars l]? = _; rw [hwget, h1]; rfl
    · obtain ⟨p, hp, rfl⟩ := List.mem_map.1 h2
      exact List.mem_map.2 ⟨p, List.mem_filter.2 ⟨hp, alive_of hc hg⟩, rfl⟩
  have hwat : ∀ (j : Nat) q, s.swept.wat[j]? = some q → ∃ q0, s.wat[j]? = some q0 ∧ q = q0.filter (fun p => s.alive p.1) := by
    intro j q hq
    rw [hwget] at hq
    cases e : s.wat[j]? with
    | none => rw [e] at hq; cases hq
    | some q0 => rw [e] at hq; exact ⟨q0, rfl, (Option.some.inj hq).symm⟩
  refine ⟨⟨⟨h.tr.ok, h.tr.nd, h.tr.vl, ?_, ?_, ?_, h.tr.hd, ?_, ?_⟩, ⟨h.wt.ok, ?_, ?_, ?_⟩, ⟨?_, ?_⟩, ?_⟩, hcnt⟩
  · intro i x hx
    obtain ⟨r, e, hR⟩ := h.tr.fc i x hx
    have hlev : levAt s.swept.lvs i = levAt s.lvs i := by
      unfold levAt
      show List.countP _ (s.lvs.map _) = _
      rw [List.countP_map]; rfl
    refine ⟨r, by rw [hlev]; exact e, ?_⟩
    rcases hR with ⟨a, v, hv, b⟩ | ⟨a, b⟩
    · exact .inl ⟨a, _, List.mem_map.2 ⟨v, hv, rfl⟩, b⟩
    · refine .inr ⟨fun v hv => ?_, b⟩
      obtain ⟨u, hu, e1, _⟩ := hmem v hv
      rw [e1]; exact a u hu
  · exact List.pairwise_map.2 h.tr.st
  · intro v hv
    obtain ⟨u, hu, e1, _⟩ := hmem v hv
    rw [e1]; exact h.tr.sl u hu
  · intro v hv
    obtain ⟨u, hu, e1, e2, _⟩ := hmem v hv
    rw [e1, e2]; exact h.tr.hv u hu
  · exact List.pairwise_map.2 h.tr.hp
  · intro i c hc hg hw
    obtain ⟨a1, a2, a3, a4, a5⟩ := h.wt.ww i c hc hg hw
    exact ⟨a1, a2, a3, hinw _ i c hc hg a4, hinw _ i c hc hg a5⟩
  · intro j q hq
    obtain ⟨q0, h0, rfl⟩ := hwat j q hq
    exact (h.wt.nd j q0 h0).sublist (List.filter_sublist.map _)
  · intro j q hq p hp
    obtain ⟨q0, h0, rfl⟩ := hwat j q hq
    exact h.wt.we j q0 h0 p (List.mem_filter.1 hp).1
  · intro k hkk i c hc hg
    rw [hlen] at hkk
    rw [htk, hhk]
    rcases h.la.i1 k hkk i c hc hg with q | q
    · left
      rcases q with q | ⟨j, v, h1, h2, h3⟩
      · exact .inl (List.mem_filter.2 ⟨q, alive_of hc hg⟩)
      · refine .inr ⟨j, { v with late := v.late.filter s.alive }, h1, ?_, List.mem_filter.2 ⟨h3, alive_of hc hg⟩⟩
        rw [hlget, h2]; rfl
    · exact .inr q
  · intro k hkk i c hc hg h2
    rw [hlen] at hkk
    rw [htk] at h2
    rw [htk, hhk]
    exact h.la.i2 k hkk i c hc hg h2
  · have hz := h.sz
    refine ⟨hz.vars, hz.vals, ?_, hz.fac, hz.bit, hz.num, ?_, ?_, ?_, hz.count, ?_, hz.cls⟩
    · show (s.wat.map _).length = _; simp; exact hz.wat
    · intro v hv i hi
      obtain ⟨u, hu, _, _, e⟩ := hmem v hv
      rw [e] at hi
      exact hz.lv u hu i (List.mem_filter.1 hi).1
    · intro i hi; exact hz.la i (List.mem_filter.1 hi).1
    · have hs := hz.sum
      have h1 : (s.late.filter s.alive).length ≤ s.late.length := List.length_filter_le _ _
      have h2 : ∀ l : List Lv, ((l.map (fun v : Lv => ({ v with late := v.late.filter s.alive } : Lv))).map (fun v => v.late.length)).sum ≤ (l.map (fun v => v.late.length)).sum := by
        intro l
        induction l with
        | nil => simp
        | cons v l ih =>
          have := List.length_filter_le s.alive v.late
          simp only [List.map_cons, List.sum_cons]; omega
      have := h2 s.lvs
      show (s.late.filter s.alive).length + ((s.lvs.map _).map _).sum ≤ s.cls.length
      omega
    · show (0 : Int) ≤ 0 ∧ (0 : Int) ≤ _; omega

theorem drop_inv (h : Inv s) (hn : Cnt s) {i : Nat} {c : Cl} (hc : s.cls[i]? = some c) (hg : c.gone = false) (hnr : ∀ x ∈ c.lits, s.val x = 1 → (s.fct x).2.2 ≠ (i : Int)) :
    Inv (s.drop i c) ∧ Cnt (s.drop i c) := by
  have hd := dropped_inv h hn hc hg hnr
  unfold PS.drop
  simp only
  split
  · exact swept_inv hd.1 hd.2
  · exact hd
end
end Go.Proofs.Ytlmbgaconjcaiab
