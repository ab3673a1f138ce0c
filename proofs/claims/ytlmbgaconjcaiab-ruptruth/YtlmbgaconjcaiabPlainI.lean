/- Plain mathematics: late clauses are settled; watches are gone through. -/
import Derived.Test.YtlmbgaconjcaiabPlainH
set_option linter.unusedVariables false
set_option linter.unusedSimpArgs false
namespace Go.Proofs.Ytlmbgaconjcaiab

/-- A level's place and head. -/
def sh (v : Lv) : Nat × Nat := (v.start, v.head)

section
variable {s s' : PS}

theorem sh_get {a b : List Lv} (h : b.map sh = a.map sh) {k : Nat} {v : Lv} (hv : b[k]? = some v) : ∃ u, a[k]? = some u ∧ u.start = v.start ∧ u.head = v.head := by
  have h1 : (b.map sh)[k]? = some (sh v) := by rw [List.getElem?_map, hv]; rfl
  rw [h, List.getElem?_map] at h1
  obtain ⟨u, hu, e⟩ := Option.map_eq_some_iff.1 h1
  simp only [sh, Prod.mk.injEq] at e
  exact ⟨u, hu, e.1, e.2⟩
theorem sh_len {a b : List Lv} (h : b.map sh = a.map sh) : b.length = a.length := by simpa using congrArg List.length h

theorem levAt_sh {a b : List Lv} (h : b.map sh = a.map sh) (i : Nat) : levAt b i = levAt a i := by
  have e : ∀ l : List Lv, levAt l i = (l.map sh).countP (fun p => decide (p.1 ≤ i)) := by
    intro l; unfold levAt; rw [List.countP_map]; rfl
  rw [e, e, h]

theorem tk_sh (ht : s'.trail = s.trail) (h : s'.lvs.map sh = s.lvs.map sh) (k : Nat) : tk s' k = tk s k := by
  unfold tk
  cases e : s'.lvs[k]? with
  | none =>
    have : s.lvs[k]? = none := by rw [List.getElem?_eq_none_iff] at e ⊢; rw [← sh_len h]; exact e
    rw [this]; simp only; rw [ht]
  | some v =>
    obtain ⟨u, hu, h1, _⟩ := sh_get h e
    rw [hu]; exact h1.symm
theorem hk_sh (ht : s'.head = s.head) (h : s'.lvs.map sh = s.lvs.map sh) (k : Nat) : hk s' k = hk s k := by
  unfold hk
  cases e : s'.lvs[k]? with
  | none =>
    have : s.lvs[k]? = none := by rw [List.getElem?_eq_none_iff] at e ⊢; rw [← sh_len h]; exact e
    rw [this]; simp only; rw [ht]
  | some v =>
    obtain ⟨u, hu, _, h1⟩ := sh_get h e
    rw [hu]; exact h1.symm

/-- The trail's part stays where the trail, the values and the levels' places do. -/
theorem Tr.same (h : Tr s) (h1 : s'.vars = s.vars) (h2 : s'.trail = s.trail) (h3 : s'.vals = s.vals) (h4 : s'.fac = s.fac) (h5 : s'.head = s.head) (h6 : s'.lvs.map sh = s.lvs.map sh)
    (hc : ∀ (k : Nat) c x, x ∈ s.trail → (s.fct x).2.2 = (k : Int) → s.cls[k]? = some c → c.gone = false → ∃ c', s'.cls[k]? = some c' ∧ c'.gone = false ∧ c'.lits = c.lits) : Tr s' := by
  have hm : ∀ v ∈ s'.lvs, ∃ u ∈ s.lvs, u.start = v.start ∧ u.head = v.head := by
    intro v hv
    obtain ⟨k, hk⟩ := List.mem_iff_getElem?.1 hv
    obtain ⟨u, hu, e⟩ := sh_get h6 hk
    exact ⟨u, List.mem_of_getElem? hu, e⟩
  have hm' : ∀ v ∈ s.lvs, ∃ u ∈ s'.lvs, u.start = v.start ∧ u.head = v.head := by
    intro v hv
    obtain ⟨k, hk⟩ := List.mem_iff_getElem?.1 hv
    obtain ⟨u, hu, e⟩ := sh_get h6.symm hk
    exact ⟨u, List.mem_of_getElem? hu, e⟩
  refine ⟨by rw [h1, h2]; exact h.ok, by rw [h2]; exact h.nd, ?_, ?_, ?_, ?_, by rw [h5, h2]; exact h.hd, ?_, ?_⟩
  · intro x hx
    rw [h1] at hx
    have := h.vl x hx
    unfold PS.val at this ⊢
    rw [h1, h2, h3]; exact this
  · intro i x hx
    rw [h2] at hx
    obtain ⟨r, e, hR⟩ := h.fc i x hx
    have e' : s'.fct x = s.fct x := by unfold PS.fct; rw [h4]
    refine ⟨r, by rw [e', e, levAt_sh h6], ?_⟩
    rcases hR with ⟨a, v, hv, b⟩ | ⟨a, k, c, b1, b2, b3, b4, b5⟩
    · obtain ⟨u, hu, e1, _⟩ := hm' v hv
      exact .inl ⟨a, u, hu, e1.trans b⟩
    · obtain ⟨c', c1, c2, c3⟩ := hc k c x (List.mem_of_getElem? hx) (by rw [e]; exact b1) b2 b3
      refine .inr ⟨fun v hv => ?_, k, c', b1, c1, c2, by rw [c3]; exact b4, by rw [c3, h2]; exact b5⟩
      obtain ⟨u, hu, e1, _⟩ := hm v hv
      rw [← e1]; exact a u hu
  · have e : ∀ l : List Lv, l.Pairwise (fun a b => a.start < b.start) ↔ (l.map sh).Pairwise (fun a b => a.1 < b.1) := fun l => by rw [List.pairwise_map]; rfl
    rw [e, h6, ← e]; exact h.st
  · intro v hv
    obtain ⟨u, hu, e1, _⟩ := hm v hv
    rw [← e1, h2]; exact h.sl u hu
  · intro v hv
    obtain ⟨u, hu, e1, e2⟩ := hm v hv
    rw [← e1, ← e2, h5]; exact h.hv u hu
  · have e : ∀ l : List Lv, l.Pairwise (fun a b => a.head ≤ b.head) ↔ (l.map sh).Pairwise (fun a b => a.2 ≤ b.2) := fun l => by rw [List.pairwise_map]; rfl
    rw [e, h6, ← e]; exact h.hp

/-- The last late clause is no longer one. -/
theorem late_drop (h : Inv s) {pre : List Nat} {i : Nat} {c : Cl} (hs : s.late = pre ++ [i]) (hc : s.cls[i]? = some c)
    (hok : c.gone = false → ∀ k, k ≤ s.lvs.length → (∃ j v, k ≤ j ∧ s.lvs[j]? = some v ∧ i ∈ v.late) ∨ OKc c s.trail (tk s k) (hk s k)) : Inv { s with late := pre } := by
  have hz := h.sz
  refine ⟨h.tr.same rfl rfl rfl rfl rfl rfl (fun k c x _ _ h1 h2 => ⟨c, h1, h2, rfl⟩), ⟨h.wt.ok, h.wt.ww, h.wt.nd, h.wt.we⟩, ⟨?_, h.la.i2⟩, ⟨hz.vars, hz.vals, hz.wat, hz.fac, hz.bit, hz.num, hz.lv, ?_, ?_, hz.count, hz.stale, hz.cls⟩⟩
  · intro k hk1 i' c' hc' hg'
    rcases h.la.i1 k hk1 i' c' hc' hg' with (h' | h') | h'
    · rw [hs] at h'
      rcases List.mem_append.1 h' with h' | h'
      · exact .inl (.inl h')
      · simp at h'; subst h'
        have e : c' = c := by rw [hc] at hc'; exact (Option.some.inj hc').symm
        subst e
        rcases hok hg' k hk1 with h'' | h''
        · exact .inl (.inr h'')
        · exact .inr h''
    · exact .inl (.inr h')
    · exact .inr h'
  · intro j hj; exact hz.la j (by rw [hs]; simp [hj])
  · have := hz.sum; rw [hs] at this; simp only [List.length_append, List.length_singleton] at this; simp only; omega

theorem modify_sh (l : List Lv) (k : Nat) (f : Lv → Lv) (hf : ∀ v, sh (f v) = sh v) : (l.modify k f).map sh = l.map sh := by
  apply List.ext_getElem?
  intro i
  rw [List.getElem?_map, List.getElem?_map, List.getElem?_modify]
  cases l[i]? with
  | none => rfl
  | some v => by_cases e : k = i <;> simp [e, hf]

theorem sum_modify : ∀ (l : List Lv) (k : Nat) (i : Nat), k < l.length → ((l.modify k (fun v => { v with late := v.late ++ [i] })).map (fun v => v.late.length)).sum = (l.map (fun v => v.late.length)).sum + 1
  | [], k, i, h => by simp at h
  | v :: r, 0, i, h => by simp; omega
  | v :: r, k + 1, i, h => by
    have := sum_modify r k i (by simpa using h)
    simp only [List.modify_succ_cons, List.map_cons, List.sum_cons, this]; omega

/-- The last late clause was settled on the last level. -/
theorem late_move (h : Inv s) {pre : List Nat} {i : Nat} {c : Cl} (hs : s.late = pre ++ [i]) (hc : s.cls[i]? = some c) (hn : s.lvs.length ≠ 0) (htrue : ∃ x, x ∈ c.lits ∧ x ∈ s.trail) : Inv { s.lateLv i with late := pre } := by
  have hz := h.sz
  have hil : i < s.cls.length := (List.getElem?_eq_some_iff.1 hc).1
  have hsh : (s.lateLv i).lvs.map sh = s.lvs.map sh := modify_sh _ _ _ (fun v => rfl)
  have hsh' : ({ s.lateLv i with late := pre } : PS).lvs.map sh = s.lvs.map sh := hsh
  have hlen : (s.lateLv i).lvs.length = s.lvs.length := by simp [PS.lateLv]
  have hT : ∀ k, tk ({ s.lateLv i with late := pre } : PS) k = tk s k := fun k => tk_sh (s' := { s.lateLv i with late := pre }) (s := s) rfl hsh' k
  have hK : ∀ k, hk ({ s.lateLv i with late := pre } : PS) k = hk s k := fun k => hk_sh (s' := { s.lateLv i with late := pre }) (s := s) rfl hsh' k
  have old : ∀ (j : Nat) (v : Lv), s.lvs[j]? = some v → ∃ u : Lv, (s.lateLv i).lvs[j]? = some u ∧ ∀ x ∈ v.late, x ∈ u.late := by
    intro j v hv
    refine ⟨_, by unfold PS.lateLv; rw [List.getElem?_modify, hv]; rfl, ?_⟩
    intro x hx; split <;> simp [hx]
  have new : ∃ u : Lv, (s.lateLv i).lvs[s.lvs.length - 1]? = some u ∧ i ∈ u.late := by
    refine ⟨_, by unfold PS.lateLv; rw [List.getElem?_modify, List.getElem?_eq_getElem (by omega)]; rfl, ?_⟩
    simp
  refine ⟨h.tr.same rfl rfl rfl rfl rfl hsh (fun k c x _ _ h1 h2 => ⟨c, h1, h2, rfl⟩), ⟨h.wt.ok, h.wt.ww, h.wt.nd, h.wt.we⟩, ⟨?_, ?_⟩, ⟨hz.vars, hz.vals, hz.wat, hz.fac, hz.bit, hz.num, ?_, ?_, ?_, hz.count, hz.stale, hz.cls⟩⟩
  · intro k hk1 i' c' hc' hg'
    rw [hT, hK]
    replace hk1 : k ≤ s.lvs.length := by rw [← hlen]; exact hk1
    by_cases ei : i' = i
    · subst ei
      rcases Nat.lt_or_ge k s.lvs.length with hlt | hge
      · obtain ⟨u, hu, hi⟩ := new
        exact .inl (.inr ⟨s.lvs.length - 1, u, by omega, hu, hi⟩)
      · right
        have : k = s.lvs.length := by omega
        subst this
        rw [tk_last]
        have e : c' = c := Option.some.inj ((show s.cls[i']? = some c' from hc').symm.trans hc)
        subst e
        obtain ⟨x, hx1, hx2⟩ := htrue
        exact .inl ⟨x, hx1, by show x ∈ s.trail.take s.trail.length; rw [List.take_length]; exact hx2⟩
    · rcases h.la.i1 k hk1 i' c' hc' hg' with (h' | ⟨j, v, hj1, hj2, hj3⟩) | h'
      · rw [hs] at h'
        rcases List.mem_append.1 h' with h' | h'
        · exact .inl (.inl h')
        · simp at h'; exact absurd h' ei
      · obtain ⟨u, hu, hx⟩ := old j v hj2
        exact .inl (.inr ⟨j, u, hj1, hu, hx _ hj3⟩)
      · exact .inr h'
  · intro k hk1 i' c' hc' hg' h2
    rw [hT] at h2 ⊢
    rw [hK]
    exact h.la.i2 k (by rw [← hlen]; exact hk1) i' c' hc' hg' h2
  · intro v hv x hx
    obtain ⟨j, hj⟩ := List.mem_iff_getElem?.1 hv
    have hj' : (s.lvs.modify (s.lvs.length - 1) (fun v => { v with late := v.late ++ [i] }))[j]? = some v := hj
    rw [List.getElem?_modify] at hj'
    obtain ⟨u, hu, e⟩ := Option.map_eq_some_iff.1 hj'
    have hum := List.mem_of_getElem? hu
    subst e
    split at hx
    · simp at hx
      rcases hx with hx | rfl
      · exact hz.lv u hum x hx
      · exact hil
    · exact hz.lv u hum x hx
  · intro j hj; exact hz.la j (by rw [hs]; simp [hj])
  · have := hz.sum
    rw [hs] at this
    simp only [List.length_append, List.length_singleton] at this
    show pre.length + ((s.lvs.modify (s.lvs.length - 1) _).map _).sum ≤ s.cls.length
    rw [sum_modify _ _ _ (by omega)]; omega

theorem scan_false (v : Int → Int) : ∀ (ls : List Int) (left r : Int), (∀ x ∈ ls, x ≠ 0) → scan v ls left = (false, r) → (∀ x ∈ ls, x = r ∨ v x < 0) ∧ (r = left ∨ r ∈ ls ∧ ¬ v r < 0) ∧ (left ≠ 0 → r = left)
  | [], left, r, _, h => by simp [scan] at h; subst h; simp
  | l :: ls, left, r, h0, h => by
    unfold scan at h
    have h0' : ∀ x ∈ ls, x ≠ 0 := fun x hx => h0 x (List.mem_cons_of_mem _ hx)
    split at h
    · rename_i hc
      obtain ⟨a, b, c⟩ := scan_false v ls left r h0' h
      refine ⟨fun x hx => ?_, ?_, c⟩
      · rcases List.mem_cons.1 hx with rfl | hx
        · rcases hc with hc | hc
          · exact .inr hc
          · subst hc; exact .inl (c (h0 x (by simp))).symm
        · exact a x hx
      · rcases b with b | b
        · exact .inl b
        · exact .inr ⟨List.mem_cons_of_mem _ b.1, b.2⟩
    · rename_i hc
      split at h
      · simp at h
      · rename_i hl
        obtain ⟨a, b, c⟩ := scan_false v ls l r h0' h
        have hr : r = l := c (h0 l (by simp))
        subst hr
        refine ⟨fun x hx => ?_, .inr ⟨by simp, fun e => hc (.inl e)⟩, fun e => absurd e hl⟩
        rcases List.mem_cons.1 hx with rfl | hx
        · exact .inl rfl
        · exact a x hx
theorem scan_true (v : Int → Int) : ∀ (ls : List Int) (left r : Int), (∀ x ∈ ls, x ≠ 0) → scan v ls left = (true, r) → ∃ y ∈ ls, ¬ v y < 0 ∧ ((left ≠ 0 ∧ y ≠ left) ∨ ∃ x ∈ ls, x ≠ y ∧ ¬ v x < 0)
  | [], left, r, _, h => by simp [scan] at h
  | l :: ls, left, r, h0, h => by
    unfold scan at h
    have h0' : ∀ x ∈ ls, x ≠ 0 := fun x hx => h0 x (List.mem_cons_of_mem _ hx)
    split at h
    · obtain ⟨y, a, b, c⟩ := scan_true v ls left r h0' h
      refine ⟨y, List.mem_cons_of_mem _ a, b, ?_⟩
      rcases c with c | ⟨x, c1, c2⟩
      · exact .inl c
      · exact .inr ⟨x, List.mem_cons_of_mem _ c1, c2⟩
    · rename_i hc
      have hnl : ¬ v l < 0 := fun e => hc (.inl e)
      split at h
      · rename_i hl
        exact ⟨l, by simp, hnl, .inl ⟨hl, fun e => hc (.inr e)⟩⟩
      · rename_i hl
        obtain ⟨y, a, b, c⟩ := scan_true v ls l r h0' h
        refine ⟨y, List.mem_cons_of_mem _ a, b, .inr ?_⟩
        rcases c with c | ⟨x, c1, c2⟩
        · exact ⟨l, by simp, Ne.symm c.2, hnl⟩
        · exact ⟨x, List.mem_cons_of_mem _ c1, c2⟩

/-- A late clause that is alive is settled. -/
theorem settle_yes (h : Inv s) {pre : List Nat} {i : Nat} {c : Cl} (hs : s.late = pre ++ [i]) (hc : s.cls[i]? = some c) (hg : c.gone = false) (he : (s.settle i c.lits).1 = true) : Inv { (s.settle i c.lits).2 with late := pre } := by
  have hok := h.wt.ok i c hc
  have h0 : ∀ x ∈ c.lits, x ≠ 0 := fun x hx => (hok x hx).1
  unfold PS.settle at he ⊢
  cases e : scan s.val c.lits 0 with
  | mk b left =>
    cases b with
    | true =>
      rw [e] at he
      simp only
      obtain ⟨y, a1, a2, a3⟩ := scan_true s.val c.lits 0 left h0 e
      rcases a3 with ⟨a3, _⟩ | ⟨x, a3, a4, a5⟩
      · exact absurd rfl a3
      refine late_drop h hs hc (fun _ k hk1 => .inr (h.la.i2 k hk1 i c hc hg ⟨x, y, a3, a1, a4, fun hm => a5 ((h.vneg (hok x a3)).2 (List.mem_of_mem_take hm)), fun hm => a2 ((h.vneg (hok y a1)).2 (List.mem_of_mem_take hm))⟩))
    | false =>
      rw [e] at he
      simp only at he ⊢
      obtain ⟨b1, b2, _⟩ := scan_false s.val c.lits 0 left h0 e
      by_cases hl : left = 0
      · rw [if_pos hl] at he; cases he
      · rw [if_neg hl]
        obtain ⟨b3, b4⟩ := b2.resolve_left hl
        have hL := hok left b3
        have hno : ∀ y ∈ c.lits, y ≠ left → -y ∈ s.trail := fun y hy hne => (h.vneg (hok y hy)).1 ((b1 y hy).resolve_left hne)
        have key : ∀ t : PS, Inv t → t.late = pre ++ [i] → t.cls = s.cls → left ∈ t.trail → Inv { (if t.lvs.length = 0 then t else t.lateLv i) with late := pre } := by
          intro t ht h1 h2 h3
          have hc' : t.cls[i]? = some c := by rw [h2]; exact hc
          by_cases hn : t.lvs.length = 0
          · rw [if_pos hn]
            refine late_drop ht h1 hc' (fun _ k hk1 => .inr ?_)
            have : k = t.lvs.length := by omega
            subst this
            rw [tk_last]
            exact .inl ⟨left, b3, by rw [List.take_length]; exact h3⟩
          · rw [if_neg hn]
            exact late_move ht h1 hc' hn ⟨left, b3, h3⟩
        by_cases hv : s.val left = 0
        · rw [if_pos hv]
          obtain ⟨n1, n2⟩ := (h.vzero hL).1 hv
          exact key _ (put_inv h hL n1 n2 hc hg b3 hno) hs rfl (by simp [PS.put])
        · rw [if_neg hv]
          have hin : left ∈ s.trail := by
            have := (tval_bd (t := s.trail) left)
            have e' := h.tr.vl left hL
            refine (h.vone hL).1 ?_
            omega
          exact key _ h hs rfl hin

/-- A late clause that is not settled is broken. -/
theorem settle_no (h : Inv s) {i : Nat} {c : Cl} (hc : s.cls[i]? = some c) (he : (s.settle i c.lits).1 = false) : (s.settle i c.lits).2 = s ∧ ∀ x ∈ c.lits, -x ∈ s.trail := by
  have hok := h.wt.ok i c hc
  have h0 : ∀ x ∈ c.lits, x ≠ 0 := fun x hx => (hok x hx).1
  unfold PS.settle at he ⊢
  cases e : scan s.val c.lits 0 with
  | mk b left =>
    rw [e] at he
    cases b with
    | true => simp at he
    | false =>
      simp only at he ⊢
      obtain ⟨b1, b2, _⟩ := scan_false s.val c.lits 0 left h0 e
      by_cases hl : left = 0
      · rw [if_pos hl]
        refine ⟨rfl, fun x hx => (h.vneg (hok x hx)).1 ((b1 x hx).resolve_left (fun e => h0 x hx (e.trans hl)))⟩
      · rw [if_neg hl] at he; simp at he
end

end Go.Proofs.Ytlmbgaconjcaiab
