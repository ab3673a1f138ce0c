/- Plain mathematics: levels are taken back. -/
import Derived.Test.YtlmbgaconjcaiabPlainN
set_option linter.unusedVariables false
set_option linter.unusedSimpArgs false
namespace Go.Proofs.Ytlmbgaconjcaiab

section
variable {s : PS}

theorem unvals_eq : ∀ (ls : List Int) (s : PS), s.unvals ls = { s with vals := (s.unvals ls).vals }
  | [], s => rfl
  | l :: ls, s => by
    have := unvals_eq ls (s.unval l)
    show (s.unval l).unvals ls = _
    rw [this]; rfl

theorem unvals_len : ∀ (ls : List Int) (s : PS), (s.unvals ls).vals.length = s.vals.length
  | [], s => rfl
  | l :: ls, s => by
    show ((s.unval l).unvals ls).vals.length = _
    rw [unvals_len ls]; simp [PS.unval]

theorem unvals_bit : ∀ (ls : List Int) (s : PS), (∀ x ∈ s.vals, -1 ≤ x ∧ x ≤ 1) → ∀ x ∈ (s.unvals ls).vals, -1 ≤ x ∧ x ≤ 1
  | [], s, h => h
  | l :: ls, s, h => by
    refine unvals_bit ls (s.unval l) ?_
    intro x hx
    simp only [PS.unval] at hx
    rcases List.mem_or_eq_of_mem_set hx with hx | hx
    · rcases List.mem_or_eq_of_mem_set hx with hx | hx
      · exact h x hx
      · omega
    · omega

theorem unval_val (hz : s.vals.length = 2 * s.vars + 1) {l x : Int} (hl : Lt s.vars l) (hx : Lt s.vars x) : (s.unval l).val x = if x = l ∨ x = -l then 0 else s.val x := by
  have hl' : Lt s.vars (-l) := by unfold Lt at *; omega
  have inj : ∀ a b : Int, Lt s.vars a → Lt s.vars b → ix s.vars a = ix s.vars b → a = b := by
    intro a b ha hb e
    have h1 := ix_int ha
    have h2 := ix_int hb
    rw [e] at h1; omega
  unfold PS.val PS.unval
  show (((s.vals.set (ix s.vars l) 0).set (ix s.vars (-l)) 0)).getD (ix s.vars x) 0 = _
  rw [List.getD_eq_getElem?_getD, List.getD_eq_getElem?_getD]
  by_cases e2 : x = -l
  · subst e2
    rw [List.getElem?_set_self (by simp; rw [hz]; exact ix_lt hl')]; simp
  · rw [List.getElem?_set_ne (fun e => e2 (inj _ _ hx hl' e.symm))]
    by_cases e1 : x = l
    · subst e1
      rw [List.getElem?_set_self (by rw [hz]; exact ix_lt hl)]; simp
    · rw [List.getElem?_set_ne (fun e => e1 (inj _ _ hx hl e.symm))]
      simp [e1, e2]

theorem unvals_val : ∀ (ls : List Int) (s : PS), s.vals.length = 2 * s.vars + 1 → (∀ l ∈ ls, Lt s.vars l) → ∀ x, Lt s.vars x → (s.unvals ls).val x = if x ∈ ls ∨ -x ∈ ls then 0 else s.val x
  | [], s, _, _, x, _ => by simp [PS.unvals]
  | l :: ls, s, hz, hl, x, hx => by
    have h1 := unvals_val ls (s.unval l) (by simpa [PS.unval] using hz) (fun y hy => hl y (List.mem_cons_of_mem _ hy)) x hx
    show ((s.unval l).unvals ls).val x = _
    rw [h1, unval_val hz (hl l (List.mem_cons_self ..)) hx]
    by_cases a : x ∈ ls ∨ -x ∈ ls
    · rw [if_pos a, if_pos (by rcases a with a | a <;> simp [a])]
    · rw [if_neg a]
      by_cases b : x = l ∨ x = -l
      · rw [if_pos b, if_pos (by rcases b with rfl | rfl <;> simp)]
      · rw [if_neg b, if_neg]
        rintro (c | c)
        · rcases List.mem_cons.1 c with c | c
          · exact b (.inl c)
          · exact a (.inl c)
        · rcases List.mem_cons.1 c with c | c
          · exact b (.inr (by omega))
          · exact a (.inr c)

theorem back_eq (s : PS) (k : Nat) (lv : Lv) : s.back k lv = { s with vals := (s.unvals (s.trail.drop lv.start)).vals, trail := s.trail.take lv.start, head := lv.head, late := s.late ++ (s.lvs.drop k).flatMap Lv.late, lvs := s.lvs.take k } := by
  unfold PS.back; rw [unvals_eq]

theorem tval_iff {t : List Int} {t' : List Int} {x : Int} (h1 : x ∈ t ↔ x ∈ t') (h2 : -x ∈ t ↔ -x ∈ t') : tval t x = tval t' x := by unfold tval; simp only [h1, h2]

theorem back_lv (h : Inv s) {k : Nat} {lv : Lv} (hk : s.lvs[k]? = some lv) : ∀ (j : Nat) (v : Lv), s.lvs[j]? = some v → (j < k → v.start < lv.start ∧ v.head ≤ lv.head) ∧ (k ≤ j → lv.start ≤ v.start) := by
  intro j v hj
  have lj := (List.getElem?_eq_some_iff.1 hj)
  have lk := (List.getElem?_eq_some_iff.1 hk)
  obtain ⟨lj1, lj2⟩ := lj
  obtain ⟨lk1, lk2⟩ := lk
  constructor
  · intro hlt
    have p1 := List.pairwise_iff_getElem.1 h.tr.st j k lj1 lk1 hlt
    have p2 := List.pairwise_iff_getElem.1 h.tr.hp j k lj1 lk1 hlt
    rw [lj2, lk2] at p1 p2
    exact ⟨p1, p2⟩
  · intro hle
    rcases Nat.lt_or_eq_of_le hle with hlt | rfl
    · have p1 := List.pairwise_iff_getElem.1 h.tr.st k j lk1 lj1 hlt
      rw [lj2, lk2] at p1
      omega
    · rw [hj] at hk; simp at hk; subst hk; exact Nat.le_refl _

theorem back_tr (h : Inv s) {k : Nat} {lv : Lv} (hk : s.lvs[k]? = some lv) : Tr (s.back k lv) := by
  have hlv := back_lv h hk
  have hmem : lv ∈ s.lvs := List.mem_of_getElem? hk
  have hst := h.tr.sl lv hmem
  have hlen : (s.trail.take lv.start).length = lv.start := by simp; omega
  have htake : ∀ v ∈ s.lvs.take k, ∃ j, j < k ∧ s.lvs[j]? = some v := by
    intro v hv
    obtain ⟨j, h1, h2⟩ := mem_take_iff.1 hv
    exact ⟨j, h1, h2⟩
  have hsplit : ∀ x, x ∈ s.trail ↔ x ∈ s.trail.take lv.start ∨ x ∈ s.trail.drop lv.start := by
    intro x
    conv => lhs; rw [← List.take_append_drop lv.start s.trail]
    exact List.mem_append
  have hdisj : ∀ x y, x ∈ s.trail.take lv.start → y ∈ s.trail.drop lv.start → x ≠ y ∧ x ≠ -y := by
    intro x y hx hy
    have := h.tr.nd
    rw [← List.take_append_drop lv.start s.trail, List.pairwise_append] at this
    exact this.2.2 x hx y hy
  rw [back_eq]
  refine ⟨?_, ?_, ?_, ?_, ?_, ?_, ?_, ?_, ?_⟩
  · intro x hx; exact h.tr.ok x (List.mem_of_mem_take hx)
  · exact h.tr.nd.sublist (List.take_sublist _ _)
  · intro x hx
    have := unvals_val (s.trail.drop lv.start) s h.sz.vals (fun l hl => h.tr.ok l (List.mem_of_mem_drop hl)) x hx
    show (s.unvals (s.trail.drop lv.start)).vals.getD (ix s.vars x) 0 = tval (s.trail.take lv.start) x
    have e : (s.unvals (s.trail.drop lv.start)).val x = (s.unvals (s.trail.drop lv.start)).vals.getD (ix s.vars x) 0 := by
      unfold PS.val; rw [unvals_eq]
    rw [← e, this]
    by_cases a : x ∈ s.trail.drop lv.start ∨ -x ∈ s.trail.drop lv.start
    · rw [if_pos a]
      symm
      refine tval_zero.2 ⟨fun hm => ?_, fun hm => ?_⟩
      · rcases a with a | a
        · exact (hdisj _ _ hm a).1 rfl
        · exact (hdisj _ _ hm a).2 (by omega)
      · rcases a with a | a
        · exact (hdisj _ _ hm a).2 rfl
        · exact (hdisj _ _ hm a).1 rfl
    · rw [if_neg a, h.tr.vl x hx]
      have a1 : x ∉ s.trail.drop lv.start := fun q => a (.inl q)
      have a2 : -x ∉ s.trail.drop lv.start := fun q => a (.inr q)
      exact tval_iff (by rw [hsplit]; simp [a1]) (by rw [hsplit]; simp [a2])
  · intro i x hx
    replace hx : (s.trail.take lv.start)[i]? = some x := hx
    rw [List.getElem?_take] at hx
    by_cases hi : i < lv.start
    · rw [if_pos hi] at hx
      obtain ⟨r, e1, e2⟩ := h.tr.fc i x hx
      have hlev : levAt (s.lvs.take k) i = levAt s.lvs i := by
        unfold levAt
        conv => rhs; rw [← List.take_append_drop k s.lvs]
        rw [List.countP_append]
        have : List.countP (fun v : Lv => decide (v.start ≤ i)) (s.lvs.drop k) = 0 := by
          rw [List.countP_eq_zero]
          intro v hv
          obtain ⟨j, hj⟩ := List.mem_iff_getElem?.1 hv
          rw [List.getElem?_drop] at hj
          have := (hlv _ v hj).2 (by omega)
          simp; omega
        omega
      refine ⟨r, by show s.fct x = _; rw [e1]; show _ = ((i : Int), ((levAt (s.lvs.take k) i : Nat) : Int), r); rw [hlev], ?_⟩
      rcases e2 with ⟨a, v, hv, b⟩ | ⟨a, k', c', q1, q2, q3, q4, q5⟩
      · refine .inl ⟨a, v, ?_, b⟩
        obtain ⟨j, hj⟩ := List.mem_iff_getElem?.1 hv
        refine mem_take_iff.2 ⟨j, ?_, hj⟩
        rcases Nat.lt_or_ge j k with q | q
        · exact q
        · have := (hlv j v hj).2 q; omega
      · refine .inr ⟨fun v hv => a v (List.mem_of_mem_take hv), k', c', q1, q2, q3, q4, fun y hy hne => ?_⟩
        have := q5 y hy hne
        show -y ∈ (s.trail.take lv.start).take i
        rw [List.take_take, Nat.min_eq_left (by omega)]; exact this
    · rw [if_neg hi] at hx; cases hx
  · exact h.tr.st.sublist (List.take_sublist _ _)
  · intro v hv
    obtain ⟨j, h1, h2⟩ := htake v hv
    show v.start < (s.trail.take lv.start).length
    rw [hlen]; exact ((hlv j v h2).1 h1).1
  · show lv.head ≤ (s.trail.take lv.start).length
    rw [hlen]; exact (h.tr.hv lv hmem).1
  · intro v hv
    obtain ⟨j, h1, h2⟩ := htake v hv
    exact ⟨(h.tr.hv v (List.mem_of_getElem? h2)).1, ((hlv j v h2).1 h1).2⟩
  · exact h.tr.hp.sublist (List.take_sublist _ _)

theorem back_inv (h : Inv s) {k : Nat} {lv : Lv} (hkv : s.lvs[k]? = some lv) : Inv (s.back k lv) := by
  have hTr := back_tr h hkv
  have hlv := back_lv h hkv
  have hmem : lv ∈ s.lvs := List.mem_of_getElem? hkv
  have hst := h.tr.sl lv hmem
  have hhd := h.tr.hv lv hmem
  have hkl : k < s.lvs.length := (List.getElem?_eq_some_iff.1 hkv).1
  have hlen : (s.trail.take lv.start).length = lv.start := by simp; omega
  have hls : (s.lvs.take k).length = k := by simp; omega
  have hget : ∀ j, j < k → (s.lvs.take k)[j]? = s.lvs[j]? := fun j hj => by rw [List.getElem?_take, if_pos hj]
  have htk : ∀ k', k' ≤ k → tk (s.back k lv) k' = tk s k' ∧ hk (s.back k lv) k' = hk s k' ∧ tk s k' ≤ lv.start ∧ hk s k' ≤ lv.start := by
    intro k' hk'
    rw [back_eq]
    unfold tk hk
    show (match (s.lvs.take k)[k']? with | some v => v.start | none => (s.trail.take lv.start).length) = _ ∧ (match (s.lvs.take k)[k']? with | some v => v.head | none => lv.head) = _ ∧ _
    rcases Nat.lt_or_eq_of_le hk' with hlt | rfl
    · rw [hget k' hlt]
      have hk2 : k' < s.lvs.length := by omega
      rw [List.getElem?_eq_getElem hk2]
      have := (hlv k' _ (List.getElem?_eq_getElem hk2)).1 hlt
      simp only
      exact ⟨by trivial, by trivial, by omega, by omega⟩
    · rw [List.getElem?_eq_none (by omega), hkv]
      simp only
      exact ⟨hlen, by trivial, Nat.le_refl _, hhd.1⟩
  have htt : ∀ a, a ≤ lv.start → (s.trail.take lv.start).take a = s.trail.take a := fun a ha => by rw [List.take_take, Nat.min_eq_left ha]
  have hlate : ∀ k' i, k' ≤ k → lateFrom s k' i → lateFrom (s.back k lv) k' i := by
    intro k' i hk' hl
    rw [back_eq]
    rcases hl with hl | ⟨j, v, h1, h2, h3⟩
    · exact .inl (List.mem_append.2 (.inl hl))
    · rcases Nat.lt_or_ge j k with q | q
      · exact .inr ⟨j, v, h1, by show (s.lvs.take k)[j]? = _; rw [hget j q]; exact h2, h3⟩
      · refine .inl (List.mem_append.2 (.inr (List.mem_flatMap.2 ⟨v, ?_, h3⟩)))
        refine List.mem_iff_getElem?.2 ⟨j - k, ?_⟩
        rw [List.getElem?_drop, show k + (j - k) = j by omega]; exact h2
  have hcls : (s.back k lv).cls = s.cls := by rw [back_eq]
  have htrail : (s.back k lv).trail = s.trail.take lv.start := rfl
  have hlvs : (s.back k lv).lvs = s.lvs.take k := rfl
  refine ⟨hTr, ?_, ⟨?_, ?_⟩, ?_⟩
  · rw [back_eq]; exact ⟨h.wt.ok, h.wt.ww, h.wt.nd, h.wt.we⟩
  · intro k' hk' i c hc hg
    rw [hlvs, hls] at hk'
    rw [hcls] at hc
    obtain ⟨e1, e2, e3, e4⟩ := htk k' hk'
    rcases h.la.i1 k' (by omega) i c hc hg with q | q
    · exact .inl (hlate k' i hk' q)
    · right
      rw [e1, e2, htrail]
      unfold OKc at *
      rw [htt _ e3, htt _ e4]; exact q
  · intro k' hk' i c hc hg h2
    rw [hlvs, hls] at hk'
    rw [hcls] at hc
    obtain ⟨e1, e2, e3, e4⟩ := htk k' hk'
    rw [e1, htrail] at h2
    have := h.la.i2 k' (by omega) i c hc hg (by unfold Two at *; rw [htt _ e3] at h2; exact h2)
    rw [e1, e2, htrail]
    unfold OKc at *
    rw [htt _ e3, htt _ e4]; exact this
  · have hz := h.sz
    rw [back_eq]
    refine ⟨hz.vars, ?_, hz.wat, hz.fac, ?_, hz.num, ?_, ?_, ?_, hz.count, hz.stale, hz.cls⟩
    · show (s.unvals _).vals.length = _
      rw [unvals_len]; exact hz.vals
    · exact unvals_bit _ s hz.bit
    · intro v hv; exact hz.lv v (List.mem_of_mem_take hv)
    · intro i hi
      rcases List.mem_append.1 hi with q | q
      · exact hz.la i q
      · obtain ⟨v, hv, hi⟩ := List.mem_flatMap.1 q
        exact hz.lv v (List.mem_of_mem_drop hv) i hi
    · have hs := hz.sum
      show (s.late ++ (s.lvs.drop k).flatMap Lv.late).length + ((s.lvs.take k).map (fun v => v.late.length)).sum ≤ s.cls.length
      rw [List.length_append, List.length_flatMap]
      have : (s.lvs.map (fun v => v.late.length)).sum = ((s.lvs.take k).map (fun v => v.late.length)).sum + ((s.lvs.drop k).map (fun v => v.late.length)).sum := by
        conv => lhs; rw [← List.take_append_drop k s.lvs]
        rw [List.map_append, List.sum_append]
      have e : ((s.lvs.drop k).map (fun a => (Lv.late a).length)).sum = ((s.lvs.drop k).map (fun v => v.late.length)).sum := rfl
      omega

theorem back_dec (h : Inv s) {k : Nat} {lv : Lv} (hkv : s.lvs[k]? = some lv) : (s.back k lv).dec = s.dec.take k := by
  have hlv := back_lv h hkv
  have hst := h.tr.sl lv (List.mem_of_getElem? hkv)
  unfold PS.dec
  show (s.lvs.take k).map (fun v => (s.trail.take lv.start).getD v.start 0) = _
  rw [← List.map_take]
  refine List.map_congr_left (fun v hv => ?_)
  obtain ⟨j, h1, h2⟩ := mem_take_iff.1 hv
  have := ((hlv j v h2).1 h1).1
  rw [List.getD_eq_getElem?_getD, List.getD_eq_getElem?_getD, List.getElem?_take, if_pos this]
end
end Go.Proofs.Ytlmbgaconjcaiab
