/- Plain mathematics: a decision; what follows is true. -/
import Derived.Test.YtlmbgaconjcaiabPlainM
set_option linter.unusedVariables false
set_option linter.unusedSimpArgs false
namespace Go.Proofs.Ytlmbgaconjcaiab

section
variable {s : PS}

theorem decide_tr (h : Inv s) {l : Int} (hl : Lt s.vars l) (h1 : l ∉ s.trail) (h2 : -l ∉ s.trail) : Tr (s.decide l) := by
  have hz := h.sz
  have hz' : Sz s := hz
  have hval : ∀ x, Lt s.vars x → (s.decide l).val x = if x = l then 1 else if x = -l then -1 else s.val x := by
    intro x hx
    exact put_val (s := s.leveled) ⟨hz.vars, hz.vals, hz.wat, hz.fac, hz.bit, hz.num, fun v hv => by
      rcases List.mem_append.1 hv with hv | hv
      · exact hz.lv v hv
      · simp at hv; subst hv; simp, hz.la, by show s.late.length + ((s.lvs ++ [_]).map _).sum ≤ _; simp; exact hz.sum, hz.count, hz.stale, hz.cls⟩ (-1) hl x hx
  have hfct : ∀ x, (s.decide l).fct x = if x.natAbs = l.natAbs then ((s.trail.length : Int), ((s.lvs.length + 1 : Nat) : Int), -1) else s.fct x := by
    intro x
    unfold PS.decide PS.fct PS.put
    show (s.fac.set l.natAbs ((s.trail.length : Int), ((s.leveled.lvs.length : Nat) : Int), -1)).getD x.natAbs (0, 0, 0) = _
    have e : s.leveled.lvs.length = s.lvs.length + 1 := by simp [PS.leveled]
    rw [e]
    by_cases e : x.natAbs = l.natAbs
    · rw [if_pos e, e, List.getD_eq_getElem?_getD, List.getElem?_set_self (by rw [hz.fac]; exact hl.abs.1)]; rfl
    · rw [if_neg e, List.getD_eq_getElem?_getD, List.getElem?_set_ne (Ne.symm e), List.getD_eq_getElem?_getD]
  have htr : (s.decide l).trail = s.trail ++ [l] := rfl
  have hlv : (s.decide l).lvs = s.lvs ++ [⟨s.trail.length, s.head, []⟩] := rfl
  refine ⟨?_, ?_, ?_, ?_, ?_, ?_, ?_, ?_, ?_⟩
  · rw [htr]; intro x hx
    rcases List.mem_append.1 hx with h' | h'
    · exact h.tr.ok x h'
    · simp at h'; subst h'; exact hl
  · rw [htr, List.pairwise_append]
    refine ⟨h.tr.nd, by simp, fun a ha b hb => ?_⟩
    simp at hb; subst hb
    exact ⟨fun e => h1 (e ▸ ha), fun e => h2 (e ▸ ha)⟩
  · intro x hx
    rw [hval x hx, htr]
    by_cases e1 : x = l
    · subst e1; rw [if_pos rfl]; exact (tval_one.2 (by simp)).symm
    · rw [if_neg e1]
      by_cases e2 : x = -l
      · subst e2
        rw [if_pos rfl]
        unfold tval
        rw [if_neg (by simp; exact ⟨h2, e1⟩), if_pos (by simp)]
      · rw [if_neg e2, h.tr.vl x hx]
        have e3 : ¬ (-x = l) := fun e => e2 (by omega)
        unfold tval
        simp [e1, e3]
  · intro i x hx
    rw [htr] at hx
    rcases Nat.lt_or_ge i s.trail.length with hi | hi
    · rw [List.getElem?_append_left hi] at hx
      obtain ⟨r, e, hR⟩ := h.tr.fc i x hx
      have hxm := List.mem_of_getElem? hx
      have hab : x.natAbs ≠ l.natAbs := by
        intro e
        rcases Int.natAbs_eq_natAbs_iff.1 e with e | e
        · exact h1 (e ▸ hxm)
        · exact h2 (e ▸ hxm)
      have hlev : levAt (s.decide l).lvs i = levAt s.lvs i := by
        rw [hlv]; unfold levAt
        rw [List.countP_append]
        simp; omega
      refine ⟨r, by rw [hfct, if_neg hab, e, hlev], ?_⟩
      rcases hR with ⟨a, v, hv, b⟩ | ⟨a, k', c', e1, e2, e3, e4, e5⟩
      · exact .inl ⟨a, v, by rw [hlv]; exact List.mem_append.2 (.inl hv), b⟩
      · refine .inr ⟨fun v hv => ?_, k', c', e1, e2, e3, e4, fun y hy hne => ?_⟩
        · rw [hlv] at hv
          rcases List.mem_append.1 hv with hv | hv
          · exact a v hv
          · simp at hv; subst hv; simp; omega
        · rw [htr, take_snoc_le _ _ (Nat.le_of_lt hi)]; exact e5 y hy hne
    · have hi' : i < s.trail.length + 1 := by have := (List.getElem?_eq_some_iff.1 hx).1; simpa using this
      have hii : i = s.trail.length := by omega
      subst hii
      simp at hx
      subst hx
      have hlev : levAt (s.decide l).lvs s.trail.length = s.lvs.length + 1 := by
        rw [levAt_all]
        · rw [hlv]; simp
        · intro v hv
          rw [hlv] at hv
          rcases List.mem_append.1 hv with hv | hv
          · exact Nat.le_of_lt (h.tr.sl v hv)
          · simp at hv; subst hv; exact Nat.le_refl _
      refine ⟨-1, by rw [hfct, if_pos rfl, hlev], .inl ⟨rfl, ⟨s.trail.length, s.head, []⟩, by rw [hlv]; simp, rfl⟩⟩
  · rw [hlv, List.pairwise_append]
    refine ⟨h.tr.st, by simp, fun a ha b hb => ?_⟩
    simp at hb; subst hb; exact h.tr.sl a ha
  · intro v hv
    rw [hlv] at hv
    rw [htr]
    rcases List.mem_append.1 hv with hv | hv
    · have := h.tr.sl v hv; simp; omega
    · simp at hv; subst hv; simp
  · rw [htr]; have := h.tr.hd; show s.head ≤ _; simp; omega
  · intro v hv
    rw [hlv] at hv
    rcases List.mem_append.1 hv with hv | hv
    · exact h.tr.hv v hv
    · simp at hv; subst hv; exact ⟨h.tr.hd, Nat.le_refl _⟩
  · rw [hlv, List.pairwise_append]
    refine ⟨h.tr.hp, by simp, fun a ha b hb => ?_⟩
    simp at hb; subst hb; exact (h.tr.hv a ha).2

theorem decide_inv (h : Inv s) {l : Int} (hl : Lt s.vars l) (h1 : l ∉ s.trail) (h2 : -l ∉ s.trail) : Inv (s.decide l) := by
  have hz := h.sz
  have hTr := decide_tr h hl h1 h2
  have hlen := trail_len hTr
  have hlvl := lvs_len h.tr
  have htr : (s.decide l).trail = s.trail ++ [l] := rfl
  have hlv : (s.decide l).lvs = s.lvs ++ [⟨s.trail.length, s.head, []⟩] := rfl
  have hvars : (s.decide l).vars = s.vars := rfl
  rw [htr, hvars] at hlen
  simp only [List.length_append, List.length_singleton] at hlen
  have hT0 : ∀ k, k < s.lvs.length → tk (s.decide l) k = tk s k ∧ Ytlmbgaconjcaiab.hk (s.decide l) k = Ytlmbgaconjcaiab.hk s k := by
    intro k hk'
    unfold tk Ytlmbgaconjcaiab.hk
    rw [hlv, List.getElem?_append_left hk', List.getElem?_eq_getElem hk']
    exact ⟨rfl, rfl⟩
  have hT1 : tk (s.decide l) s.lvs.length = s.trail.length ∧ Ytlmbgaconjcaiab.hk (s.decide l) s.lvs.length = s.head := by
    unfold tk Ytlmbgaconjcaiab.hk
    rw [hlv]; simp
  have hT2 : tk (s.decide l) (s.lvs.length + 1) = s.trail.length + 1 ∧ Ytlmbgaconjcaiab.hk (s.decide l) (s.lvs.length + 1) = s.head := by
    unfold tk Ytlmbgaconjcaiab.hk
    rw [hlv, List.getElem?_eq_none (by simp)]
    exact ⟨by rw [htr]; simp, rfl⟩
  have lf : ∀ k i, k ≤ s.lvs.length → lateFrom s k i → lateFrom (s.decide l) k i := by
    rintro k i _ (h' | ⟨j, v, a1, a2, a3⟩)
    · exact .inl h'
    · exact .inr ⟨j, v, a1, by rw [hlv, List.getElem?_append_left (List.getElem?_eq_some_iff.1 a2).1]; exact a2, a3⟩
  have okt : ∀ (c : Cl) (a b : Nat), a ≤ s.trail.length → b ≤ a → (OKc c (s.trail ++ [l]) a b ↔ OKc c s.trail a b) := by
    intro c a b ha hb
    unfold OKc; rw [take_snoc_le _ _ ha, take_snoc_le _ _ (by omega)]
  refine ⟨hTr, ⟨h.wt.ok, h.wt.ww, h.wt.nd, h.wt.we⟩, ⟨?_, ?_⟩, ⟨hz.vars, by simp [PS.decide, PS.put, PS.leveled, hz.vals], hz.wat, by simp [PS.decide, PS.put, PS.leveled, hz.fac], ?_, ?_, ?_, hz.la, ?_, hz.count, hz.stale, hz.cls⟩⟩
  · intro k hk' i c hc hg
    rw [hlv] at hk'
    simp only [List.length_append, List.length_singleton] at hk'
    rcases Nat.lt_or_ge k s.lvs.length with h3 | h3
    · rw [(hT0 k h3).1, (hT0 k h3).2, htr]
      rcases h.la.i1 k (by omega) i c hc hg with h' | h'
      · exact .inl (lf k i (by omega) h')
      · exact .inr ((okt c _ _ (h.tr.tk_le k) (h.tr.hk_le k).1).2 h')
    · have h4 := h.la.i1 s.lvs.length (Nat.le_refl _) i c hc hg
      rw [tk_last, hk_last] at h4
      rcases Nat.lt_or_ge s.lvs.length k with h5 | h5
      · obtain rfl : k = s.lvs.length + 1 := by omega
        rw [hT2.1, hT2.2, htr]
        rcases h4 with (h' | ⟨j, v, a1, a2, _⟩) | h'
        · exact .inl (.inl h')
        · rw [List.getElem?_eq_none a1] at a2; cases a2
        · exact .inr (h'.snoc l h.tr.hd)
      · obtain rfl : k = s.lvs.length := by omega
        rw [hT1.1, hT1.2, htr]
        rcases h4 with h' | h'
        · exact .inl (lf _ i (Nat.le_refl _) h')
        · exact .inr ((okt c _ _ (Nat.le_refl _) h.tr.hd).2 h')
  · intro k hk' i c hc hg h2'
    rw [hlv] at hk'
    simp only [List.length_append, List.length_singleton] at hk'
    rcases Nat.lt_or_ge k s.lvs.length with h3 | h3
    · rw [(hT0 k h3).1] at h2' ⊢
      rw [(hT0 k h3).2]
      have : Two c s.trail (tk s k) := by
        unfold Two at h2' ⊢
        rw [htr, take_snoc_le _ _ (h.tr.tk_le k)] at h2'; exact h2'
      exact (okt c _ _ (h.tr.tk_le k) (h.tr.hk_le k).1).2 (h.la.i2 k (by omega) i c hc hg this)
    · rcases Nat.lt_or_ge s.lvs.length k with h5 | h5
      · obtain rfl : k = s.lvs.length + 1 := by omega
        rw [hT2.1] at h2' ⊢
        rw [hT2.2, htr]
        have h3 : Two c s.trail (tk s s.lvs.length) := by
          rw [tk_last]
          obtain ⟨x, y, a1, a2, a3, a4, a5⟩ := h2'
          rw [htr, List.take_of_length_le (by simp)] at a4 a5
          rw [List.mem_append, not_or] at a4 a5
          exact ⟨x, y, a1, a2, a3, by rw [List.take_length]; exact a4.1, by rw [List.take_length]; exact a5.1⟩
        have h' := h.la.i2 _ (Nat.le_refl _) i c hc hg h3
        rw [tk_last, hk_last] at h'
        exact h'.snoc l h.tr.hd
      · obtain rfl : k = s.lvs.length := by omega
        rw [hT1.1] at h2' ⊢
        rw [hT1.2, htr]
        have : Two c s.trail (tk s s.lvs.length) := by
          rw [tk_last]
          unfold Two at h2' ⊢
          rw [htr, take_snoc_le _ _ (Nat.le_refl _)] at h2'; exact h2'
        have h' := h.la.i2 _ (Nat.le_refl _) i c hc hg this
        rw [tk_last, hk_last] at h'
        exact (okt c _ _ (Nat.le_refl _) h.tr.hd).2 h'
  · exact bit_set' (bit_set' hz.bit (by omega)) (by omega)
  · intro p hp
    rcases List.mem_or_eq_of_mem_set hp with h' | rfl
    · exact hz.num p h'
    · have := hz.vars
      have e : s.leveled.trail.length = s.trail.length := rfl
      have e2 : s.leveled.lvs.length = s.lvs.length + 1 := by simp [PS.leveled]
      simp only [e, e2]; omega
  · intro v hv i hi
    rw [hlv] at hv
    rcases List.mem_append.1 hv with hv | hv
    · exact hz.lv v hv i hi
    · simp at hv; subst hv; simp at hi
  · show s.late.length + ((s.lvs ++ [_]).map _).sum ≤ _
    simp; exact hz.sum

/-- The decisions. -/
def PS.dec (s : PS) : List Int := s.lvs.map (fun v => s.trail.getD v.start 0)

theorem dec_decide (h : Inv s) (l : Int) : (s.decide l).dec = s.dec ++ [l] := by
  unfold PS.dec
  show (s.lvs ++ [_]).map (fun v : Lv => (s.trail ++ [l]).getD v.start 0) = _
  rw [List.map_append]
  congr 1
  · refine List.map_congr_left (fun v hv => ?_)
    have := h.tr.sl v hv
    rw [List.getD_eq_getElem?_getD, List.getElem?_append_left this, List.getD_eq_getElem?_getD]
  · simp
theorem Frm.dec {s' : PS} (h : Inv s) (hf : Frm s s') : s'.dec = s.dec := by
  obtain ⟨m, hm⟩ := hf.tr
  have e : ∀ t : List Int, ∀ l : List Lv, l.map (fun v => t.getD v.start 0) = (l.map sh).map (fun p => t.getD p.1 0) := by
    intro t l; rw [List.map_map]; rfl
  unfold PS.dec
  rw [e, e, hf.lv, ← e, ← e]
  refine List.map_congr_left (fun v hv => ?_)
  have := h.tr.sl v hv
  rw [hm, List.getD_eq_getElem?_getD, List.getElem?_append_left this, List.getD_eq_getElem?_getD]

/-- Whoever makes the clauses and the decisions true makes the trail true. -/
theorem sound_trail (h : Inv s) (v : Int → Int) (hneg : ∀ x, v (-x) = - v x) (hc : ∀ (i : Nat) c, s.cls[i]? = some c → c.gone = false → ∃ x ∈ c.lits, v x = 1) (hd : ∀ l ∈ s.dec, v l = 1) : ∀ x ∈ s.trail, v x = 1 := by
  have key : ∀ (n i : Nat) (x : Int), i < n → s.trail[i]? = some x → v x = 1 := by
    intro n
    induction n with
    | zero => intro i x hi; omega
    | succ n ih =>
      intro i x hi hx
      obtain ⟨r, _, hR⟩ := h.tr.fc i x hx
      rcases hR with ⟨_, u, hu, e⟩ | ⟨_, k, c, _, e2, e3, e4, e5⟩
      · refine hd x ?_
        unfold PS.dec
        refine List.mem_map.2 ⟨u, hu, ?_⟩
        rw [e, List.getD_eq_getElem?_getD, hx]; rfl
      · obtain ⟨y, y1, y2⟩ := hc k c e2 e3
        by_cases e : y = x
        · rw [← e]; exact y2
        · obtain ⟨j, j1, j2⟩ := mem_take_iff.1 (e5 y y1 e)
          have := ih j (-y) (by omega) j2
          rw [hneg, y2] at this; omega
  intro x hx
  obtain ⟨i, hi⟩ := List.mem_iff_getElem?.1 hx
  exact key (i + 1) i x (by omega) hi

/-- A broken clause is true of no one. -/
theorem sound_broken (h : Inv s) (v : Int → Int) (hneg : ∀ x, v (-x) = - v x) (hc : ∀ (i : Nat) c, s.cls[i]? = some c → c.gone = false → ∃ x ∈ c.lits, v x = 1) (hd : ∀ l ∈ s.dec, v l = 1) {n : Int} (hb : Brk s n) : False := by
  obtain ⟨i, c, _, e1, e2, e3⟩ := hb
  obtain ⟨x, x1, x2⟩ := hc i c e1 e2
  have := sound_trail h v hneg hc hd _ (e3 x x1)
  rw [hneg, x2] at this; omega
end

end Go.Proofs.Ytlmbgaconjcaiab
