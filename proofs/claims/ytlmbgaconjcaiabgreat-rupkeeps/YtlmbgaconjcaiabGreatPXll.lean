/- Joined: Plain mathematics: what a trail tells at each of its places. Plain mathematics: a clause is dropped; what was dropped is swept out. Plain mathematics: levels are taken back. Plain mathematics: the law's clauses and decisions beside a propagator's; what two runs tell. -/
import Derived.Test.YtlmbgaconjcaiabGreatPlainR
import Derived.Test.YtlmbgaconjcaiabGreatHa
import Derived.Test.YtlmbgaconjcaiabGreatLa
import Derived.Test.YtlmbgaconjcaiabGreatPlainN
import Derived.Test.YtlmbgaconjcaiabGreatMb
import Derived.Test.YtlmbgaconjcaiabGreatId
import Derived.Test.YtlmbgaconjcaiabGreatKAll
set_option linter.unusedVariables false
set_option linter.unusedSimpArgs false
namespace Go.Proofs.YtlmbgaconjcaiabGreat

/-- How many levels begin ahead of a place. -/
def lvB (lvs : List Lv) (i : Nat) : Nat := lvs.countP (fun v => decide (v.start < i))

theorem lvB_lev (lvs : List Lv) (i : Nat) : lvB lvs (i + 1) = levAt lvs i := by
  unfold lvB levAt
  congr 1
  funext v
  simp [Nat.lt_succ_iff]

theorem lvB_at : ∀ (lvs : List Lv) (j i : Nat) (v : Lv), lvs.Pairwise (fun a b => a.start < b.start) → lvs[j]? = some v → v.start = i → lvB lvs i = j ∧ lvB lvs (i + 1) = j + 1
  | [], j, i, v, _, h, _ => by simp at h
  | a :: r, 0, i, v, hp, h, e => by
    simp at h
    subst h
    subst e
    rw [List.pairwise_cons] at hp
    have h1 : r.countP (fun w => decide (w.start < a.start)) = 0 := by
      rw [List.countP_eq_zero]; intro w hw; have := hp.1 w hw; simp; omega
    have h2 : r.countP (fun w => decide (w.start < a.start + 1)) = 0 := by
      rw [List.countP_eq_zero]; intro w hw; have := hp.1 w hw; simp; omega
    unfold lvB
    rw [List.countP_cons, List.countP_cons, h1, h2]
    simp
  | a :: r, j + 1, i, v, hp, h, e => by
    rw [List.pairwise_cons] at hp
    obtain ⟨h1, h2⟩ := lvB_at r j i v hp.2 (by simpa using h) e
    have ha := hp.1 v (List.mem_of_getElem? (by simpa using h))
    unfold lvB at h1 h2 ⊢
    rw [List.countP_cons, List.countP_cons, h1, h2]
    have e1 : decide (a.start < i) = true := decide_eq_true (by omega)
    have e2 : decide (a.start < i + 1) = true := decide_eq_true (by omega)
    simp [e1, e2]

theorem lvB_same (lvs : List Lv) (i : Nat) (h : ∀ v ∈ lvs, v.start ≠ i) : lvB lvs (i + 1) = lvB lvs i := by
  unfold lvB
  apply List.countP_congr
  intro v hv
  have := h v hv
  simp; omega

theorem lvB_all (lvs : List Lv) (n : Nat) (h : ∀ v ∈ lvs, v.start < n) : lvB lvs n = lvs.length := by
  unfold lvB
  rw [List.countP_eq_length]
  intro v hv
  exact decide_eq_true (h v hv)

section
variable {s : PS}

/-- What is told at a place of the trail. -/
structure At (s : PS) (i : Nat) (x : Int) : Prop where
  who : (s.rsnT x = -1 ∧ lvB s.lvs i < s.dec.length ∧ s.dec[lvB s.lvs i]? = some x ∧ lvB s.lvs (i + 1) = lvB s.lvs i + 1) ∨ ∃ (k : Nat) (c : Cl), s.rsnT x = (k : Int) ∧ s.cls[k]? = some c ∧ c.gone = false ∧ x ∈ c.lits ∧ brokenP (s.trail.take i) (wo c.lits x) = true ∧ lvB s.lvs (i + 1) = lvB s.lvs i
  lev : s.levT x = (lvB s.lvs (i + 1) : Nat) ∧ s.levT (-x) = (lvB s.lvs (i + 1) : Nat)
  val : s.valT x = 1 ∧ s.valT (-x) = -1
  new : hasB (s.trail.take i) x = false ∧ hasB (s.trail.take i) (-x) = false
  lt : Lt s.vars x

theorem at_place (h : Inv s) {i : Nat} {x : Int} (hx : s.trail[i]? = some x) : At s i x := by
  have hm := List.mem_of_getElem? hx
  have hl := h.tr.ok x hm
  have hl2 := hl.neg
  have hi : i < s.trail.length := (List.getElem?_eq_some_iff.1 hx).1
  have hnew : x ∉ s.trail.take i ∧ -x ∉ s.trail.take i := by
    have key : ∀ y ∈ s.trail.take i, y ≠ x ∧ y ≠ -x := by
      intro y hy
      obtain ⟨j, hj, hyj⟩ := mem_take_iff.1 hy
      have hp := List.pairwise_iff_getElem.1 h.tr.nd j i (by omega) hi hj
      obtain ⟨_, e1⟩ := List.getElem?_eq_some_iff.1 hyj
      obtain ⟨_, e2⟩ := List.getElem?_eq_some_iff.1 hx
      rw [e1, e2] at hp
      exact hp
    exact ⟨fun q => (key x q).1 rfl, fun q => (key (-x) q).2 rfl⟩
  have hneg : -x ∉ s.trail := by
    intro q
    obtain ⟨j, hj⟩ := List.mem_iff_getElem?.1 q
    have hjl : j < s.trail.length := (List.getElem?_eq_some_iff.1 hj).1
    obtain ⟨_, e1⟩ := List.getElem?_eq_some_iff.1 hj
    obtain ⟨_, e2⟩ := List.getElem?_eq_some_iff.1 hx
    rcases Nat.lt_trichotomy i j with c | c | c
    · have hp := List.pairwise_iff_getElem.1 h.tr.nd i j hi hjl c
      rw [e1, e2] at hp
      exact hp.2 (by omega)
    · subst c; rw [e1] at e2; have := hl.1; omega
    · have hp := List.pairwise_iff_getElem.1 h.tr.nd j i hjl hi c
      rw [e1, e2] at hp
      exact hp.2 rfl
  have hv1 : s.val x = 1 := by rw [h.tr.vl x hl]; unfold tval; rw [if_pos hm]
  have hv2 : s.val (-x) = -1 := by rw [h.tr.vl _ hl2]; unfold tval; rw [if_neg hneg, if_pos (by simpa using hm)]
  have hT1 : s.valT x = 1 := by unfold PS.valT; rw [if_pos (ltB_true.2 hl), hv1]
  have hT2 : s.valT (-x) = -1 := by unfold PS.valT; rw [if_pos (ltB_true.2 hl2), hv2]
  obtain ⟨r, hf, hR⟩ := h.tr.fc i x hx
  have hf2 : s.fct (-x) = s.fct x := by unfold PS.fct; rw [Int.natAbs_neg]
  have hrs : s.rsnT x = r := by unfold PS.rsnT; rw [hT1, hf]; simp
  have hlv : s.levT x = (levAt s.lvs i : Nat) := by unfold PS.levT; rw [hT1, hf]; simp
  have hlv2 : s.levT (-x) = (levAt s.lvs i : Nat) := by unfold PS.levT; rw [hT2, hf2, hf]; simp
  refine ⟨?_, by rw [lvB_lev]; exact ⟨hlv, hlv2⟩, ⟨hT1, hT2⟩, ⟨hasB_false.2 hnew.1, hasB_false.2 hnew.2⟩, hl⟩
  rcases hR with ⟨hr, v, hv, he⟩ | ⟨hno, k, c, hr, hc, hg, hxc, hbr⟩
  · left
    obtain ⟨j, hj⟩ := List.mem_iff_getElem?.1 hv
    obtain ⟨k1, k2⟩ := lvB_at s.lvs j i v h.tr.st hj he
    have hjl : j < s.lvs.length := (List.getElem?_eq_some_iff.1 hj).1
    refine ⟨by rw [hrs, hr], by rw [k1]; simp [PS.dec]; exact hjl, ?_, by rw [k1, k2]⟩
    rw [k1]
    unfold PS.dec
    rw [List.getElem?_map, hj]
    simp [he, List.getD_eq_getElem?_getD, hx]
  · right
    refine ⟨k, c, by rw [hrs, hr], hc, hg, hxc, ?_, lvB_same _ _ hno⟩
    unfold brokenP
    rw [List.all_eq_true]
    intro y hy
    have : y ∈ c.lits ∧ y ≠ x := by
      unfold wo at hy
      simpa using hy
    exact decide_eq_true (hbr y this.1 this.2)

theorem at_end (h : Inv s) : lvB s.lvs s.trail.length = s.dec.length := by
  rw [lvB_all _ _ h.tr.sl, PS.dec, List.length_map]
end
end Go.Proofs.YtlmbgaconjcaiabGreat

namespace Go.Proofs.YtlmbgaconjcaiabGreat

/-- What is counted: the clauses that are there; those that were dropped since the last sweep are among those that are gone. -/
structure Cnt (s : PS) : Prop where
  n : s.count = (s.cls.countP (fun c => !c.gone) : Nat)
  st : 0 ≤ s.stale ∧ s.stale ≤ (s.cls.countP (fun c => c.gone) : Nat)

theorem countP_set {α : Type} (p : α → Bool) : ∀ (l : List α) (i : Nat) (a b : α), l[i]? = some a → ((l.set i b).countP p : Nat) + (if p a then 1 else 0) = l.countP p + (if p b then 1 else 0)
  | [], i, a, b, h => by simp at h
  | x :: l, 0, a, b, h => by
    simp at h; subst h
    simp only [List.set_cons_zero, List.countP_cons]; omega
  | x :: l, i + 1, a, b, h => by
    simp at h
    have := countP_set p l i a b h
    simp only [List.set_cons_succ, List.countP_cons]; omega

section
variable {s : PS}

theorem set_at {i j : Nat} {c c' d : Cl} (hc : s.cls[i]? = some c) (h : (s.cls.set i d)[j]? = some c') : (j = i ∧ c' = d) ∨ (j ≠ i ∧ s.cls[j]? = some c') := by
  by_cases e : j = i
  · subst e
    rw [List.getElem?_set_self (List.getElem?_eq_some_iff.1 hc).1] at h
    exact .inl ⟨rfl, (Option.some.inj h).symm⟩
  · rw [List.getElem?_set_ne (Ne.symm e)] at h; exact .inr ⟨e, h⟩

theorem dropped_inv (h : Inv s) (hn : Cnt s) {i : Nat} {c : Cl} (hc : s.cls[i]? = some c) (hg : c.gone = false) (hnr : ∀ x ∈ c.lits, s.val x = 1 → (s.fct x).2.2 ≠ (i : Int)) :
    Inv (s.dropped i c) ∧ Cnt (s.dropped i c) := by
  have hil : i < s.cls.length := (List.getElem?_eq_some_iff.1 hc).1
  have c1 := countP_set (fun c : Cl => !c.gone) s.cls i c { c with gone := true, lits := [] } hc
  have c2 := countP_set (fun c : Cl => c.gone) s.cls i c { c with gone := true, lits := [] } hc
  simp only [hg, Bool.not_false, Bool.not_true, if_true, Bool.false_eq_true, if_false] at c1 c2
  have c3 := List.countP_le_length (p := fun c : Cl => !c.gone) (l := s.cls.set i { c with gone := true, lits := [] })
  have c4 := List.countP_le_length (p := fun c : Cl => c.gone) (l := s.cls.set i { c with gone := true, lits := [] })
  simp only [List.length_set] at c3 c4
  have hcount : (s.dropped i c).count = s.count - 1 := rfl
  have hstale : (s.dropped i c).stale = s.stale + 1 := rfl
  have hcnt : Cnt (s.dropped i c) := by
    refine ⟨?_, ?_⟩
    · rw [hcount, hn.n]; show _ = ((List.countP _ (s.cls.set i _) : Nat) : Int); omega
    · rw [hstale]
      have := hn.st
      show 0 ≤ s.stale + 1 ∧ s.stale + 1 ≤ ((List.countP _ (s.cls.set i _) : Nat) : Int); omega
  refine ⟨⟨?_, ?_, ⟨?_, ?_⟩, ?_⟩, hcnt⟩
  · refine ⟨h.tr.ok, h.tr.nd, h.tr.vl, ?_, h.tr.st, h.tr.sl, h.tr.hd, h.tr.hv, h.tr.hp⟩
    intro j x hx
    obtain ⟨r, e, hR⟩ := h.tr.fc j x hx
    refine ⟨r, e, ?_⟩
    rcases hR with ⟨a, b⟩ | ⟨a, k', c', q1, q2, q3, q4, q5⟩
    · exact .inl ⟨a, b⟩
    · refine .inr ⟨a, k', c', q1, ?_, q3, q4, q5⟩
      show (s.cls.set i _)[k']? = some c'
      by_cases ek : k' = i
      · subst ek
        rw [hc] at q2; simp at q2; subst q2
        have hxm := List.mem_of_getElem? hx
        have : s.val x = 1 := by rw [h.tr.vl x (h.tr.ok x hxm)]; exact tval_one.2 hxm
        exact absurd (by rw [e]; exact q1) (hnr x q4 this)
      · rw [List.getElem?_set_ne (Ne.symm ek)]; exact q2
  · refine ⟨?_, ?_, h.wt.nd, ?_⟩
    · intro j c' hj x hx
      rcases set_at hc hj with ⟨_, rfl⟩ | ⟨_, hj⟩
      · simp at hx
      · exact h.wt.ok j c' hj x hx
    · intro j c' hj hg' hw
      rcases set_at hc hj with ⟨_, rfl⟩ | ⟨_, hj⟩
      · simp at hg'
      · exact h.wt.ww j c' hj hg' hw
    · intro j q hq p hp
      obtain ⟨c', h1, h2, h3⟩ := h.wt.we j q hq p hp
      by_cases e : p.1 = i
      · refine ⟨{ c with gone := true, lits := [] }, ?_, h2, fun hg' => by simp at hg'⟩
        show (s.cls.set i _)[p.1]? = _
        rw [e, List.getElem?_set_self hil]
      · refine ⟨c', ?_, h2, h3⟩
        show (s.cls.set i _)[p.1]? = _
        rw [List.getElem?_set_ne (Ne.symm e)]; exact h1
  · intro k hk j c' hj hg'
    rcases set_at hc hj with ⟨_, rfl⟩ | ⟨_, hj⟩
    · simp at hg'
    · exact h.la.i1 k hk j c' hj hg'
  · intro k hk j c' hj hg'
    rcases set_at hc hj with ⟨_, rfl⟩ | ⟨_, hj⟩
    · simp at hg'
    · exact h.la.i2 k hk j c' hj hg'
  · have hz := h.sz
    have e : (s.dropped i c).cls.length = s.cls.length := by simp [PS.dropped]
    refine ⟨hz.vars, hz.vals, hz.wat, hz.fac, hz.bit, hz.num, ?_, ?_, ?_, ?_, ?_, ?_⟩
    · rw [e]; exact hz.lv
    · rw [e]; exact hz.la
    · rw [e]; exact hz.sum
    · rw [e]; have := hcnt.n; have := hz.count; omega
    · rw [e]; have := hcnt.st; refine ⟨this.1, Int.le_trans this.2 ?_⟩; have := c4; show ((List.countP _ (s.cls.set i _) : Nat) : Int) ≤ _; omega
    · rw [e]; exact hz.cls

theorem alive_of {i : Nat} {c : Cl} (hc : s.cls[i]? = some c) (hg : c.gone = false) : s.alive i = true := by unfold PS.alive; rw [hc]; simp [hg]

theorem swept_inv (h : Inv s) (hn : Cnt s) : Inv s.swept ∧ Cnt s.swept := by
  have hcnt : Cnt s.swept := ⟨hn.n, by show (0 : Int) ≤ 0 ∧ _; exact ⟨Int.le_refl _, Int.natCast_nonneg _⟩⟩
  have hlget : ∀ j : Nat, s.swept.lvs[j]? = (s.lvs[j]?).map (fun v : Lv => ({ v with late := v.late.filter s.alive } : Lv)) := fun j => by show (s.lvs.map _)[j]? = _; rw [List.getElem?_map]
  have hmem : ∀ v ∈ s.swept.lvs, ∃ u ∈ s.lvs, v.start = u.start ∧ v.head = u.head ∧ v.late = u.late.filter s.alive := by
    intro v hv
    obtain ⟨u, hu, rfl⟩ := List.mem_map.1 hv
    exact ⟨u, hu, rfl, rfl, rfl⟩
  have hlen : s.swept.lvs.length = s.lvs.length := by simp [PS.swept]
  have htk : ∀ k, tk s.swept k = tk s k := by
    intro k; unfold tk; rw [hlget]
    cases s.lvs[k]? <;> rfl
  have hhk : ∀ k, hk s.swept k = hk s k := by
    intro k; unfold hk; rw [hlget]
    cases s.lvs[k]? <;> rfl
  have hwget : ∀ j : Nat, s.swept.wat[j]? = (s.wat[j]?).map (fun q : List (Nat × Int) => q.filter (fun p => s.alive p.1)) := fun j => by show (s.wat.map _)[j]? = _; rw [List.getElem?_map]
  have hinw : ∀ l (i : Nat) c, s.cls[i]? = some c → c.gone = false → InW s l i → InW s.swept l i := by
    rintro l i c hc hg ⟨q, h1, h2⟩
    refine ⟨q.filter (fun p => s.alive p.1), ?_, ?_⟩
    · show s.swept.wat[ix s.vars l]? = _; rw [hwget, h1]; rfl
    · obtain ⟨p, hp, rfl⟩ := List.mem_map.1 h2
      exact List.mem_map.2 ⟨p, List.mem_filter.2 ⟨hp, alive_of hc hg⟩, rfl⟩
  have hwat : ∀ (j : Nat) q, s.swept.wat[j]? = some q → ∃ q0, s.wat[j]? = some q0 ∧ q = q0.filter (fun p => s.alive p.1) := by
    intro j q hq
    rw [hwget] at hq
    cases e : s.wat[j]? with
    | none => rw [e] at hq; cases hq
    | some q0 => rw [e] at hq; exact ⟨q0, rfl, (Option.some.inj hq).symm⟩
  refine ⟨⟨⟨h.tr.ok, h.tr.nd, h.tr.vl, ?_, ?_, ?_, h.tr.hd, ?_, ?_⟩, ⟨h.wt.ok, ?_, ?_, ?_⟩, ⟨?_, ?_⟩, ?_⟩, hcnt⟩
  · intro i x hx
    obtain ⟨r, e, hR⟩ := h.tr.fc i x hx
    have hlev : levAt s.swept.lvs i = levAt s.lvs i := by
      unfold levAt
      show List.countP _ (s.lvs.map _) = _
      rw [List.countP_map]; rfl
    refine ⟨r, by rw [hlev]; exact e, ?_⟩
    rcases hR with ⟨a, v, hv, b⟩ | ⟨a, b⟩
    · exact .inl ⟨a, _, List.mem_map.2 ⟨v, hv, rfl⟩, b⟩
    · refine .inr ⟨fun v hv => ?_, b⟩
      obtain ⟨u, hu, e1, _⟩ := hmem v hv
      rw [e1]; exact a u hu
  · exact List.pairwise_map.2 h.tr.st
  · intro v hv
    obtain ⟨u, hu, e1, _⟩ := hmem v hv
    rw [e1]; exact h.tr.sl u hu
  · intro v hv
    obtain ⟨u, hu, e1, e2, _⟩ := hmem v hv
    rw [e1, e2]; exact h.tr.hv u hu
  · exact List.pairwise_map.2 h.tr.hp
  · intro i c hc hg hw
    obtain ⟨a1, a2, a3, a4, a5⟩ := h.wt.ww i c hc hg hw
    exact ⟨a1, a2, a3, hinw _ i c hc hg a4, hinw _ i c hc hg a5⟩
  · intro j q hq
    obtain ⟨q0, h0, rfl⟩ := hwat j q hq
    exact (h.wt.nd j q0 h0).sublist (List.filter_sublist.map _)
  · intro j q hq p hp
    obtain ⟨q0, h0, rfl⟩ := hwat j q hq
    exact h.wt.we j q0 h0 p (List.mem_filter.1 hp).1
  · intro k hkk i c hc hg
    rw [hlen] at hkk
    rw [htk, hhk]
    rcases h.la.i1 k hkk i c hc hg with q | q
    · left
      rcases q with q | ⟨j, v, h1, h2, h3⟩
      · exact .inl (List.mem_filter.2 ⟨q, alive_of hc hg⟩)
      · refine .inr ⟨j, { v with late := v.late.filter s.alive }, h1, ?_, List.mem_filter.2 ⟨h3, alive_of hc hg⟩⟩
        rw [hlget, h2]; rfl
    · exact .inr q
  · intro k hkk i c hc hg h2
    rw [hlen] at hkk
    rw [htk] at h2
    rw [htk, hhk]
    exact h.la.i2 k hkk i c hc hg h2
  · have hz := h.sz
    refine ⟨hz.vars, hz.vals, ?_, hz.fac, hz.bit, hz.num, ?_, ?_, ?_, hz.count, ?_, hz.cls⟩
    · show (s.wat.map _).length = _; simp; exact hz.wat
    · intro v hv i hi
      obtain ⟨u, hu, _, _, e⟩ := hmem v hv
      rw [e] at hi
      exact hz.lv u hu i (List.mem_filter.1 hi).1
    · intro i hi; exact hz.la i (List.mem_filter.1 hi).1
    · have hs := hz.sum
      have h1 : (s.late.filter s.alive).length ≤ s.late.length := List.length_filter_le _ _
      have h2 : ∀ l : List Lv, ((l.map (fun v : Lv => ({ v with late := v.late.filter s.alive } : Lv))).map (fun v => v.late.length)).sum ≤ (l.map (fun v => v.late.length)).sum := by
        intro l
        induction l with
        | nil => simp
        | cons v l ih =>
          have := List.length_filter_le s.alive v.late
          simp only [List.map_cons, List.sum_cons]; omega
      have := h2 s.lvs
      show (s.late.filter s.alive).length + ((s.lvs.map _).map _).sum ≤ s.cls.length
      omega
    · show (0 : Int) ≤ 0 ∧ (0 : Int) ≤ _; omega

theorem drop_inv (h : Inv s) (hn : Cnt s) {i : Nat} {c : Cl} (hc : s.cls[i]? = some c) (hg : c.gone = false) (hnr : ∀ x ∈ c.lits, s.val x = 1 → (s.fct x).2.2 ≠ (i : Int)) :
    Inv (s.drop i c) ∧ Cnt (s.drop i c) := by
  have hd := dropped_inv h hn hc hg hnr
  unfold PS.drop
  simp only
  split
  · exact swept_inv hd.1 hd.2
  · exact hd
end
end Go.Proofs.YtlmbgaconjcaiabGreat

namespace Go.Proofs.YtlmbgaconjcaiabGreat

section
variable {s : PS}

theorem unvals_eq : ∀ (ls : List Int) (s : PS), s.unvals ls = { s with vals := (s.unvals ls).vals }
  | [], s => rfl
  | l :: ls, s => by
    have := unvals_eq ls (s.unval l)
    show (s.unval l).unvals ls = _
    rw [this]; rfl

theorem unvals_len : ∀ (ls : List Int) (s : PS), (s.unvals ls).vals.length = s.vals.length
  | [], s => rfl
  | l :: ls, s => by
    show ((s.unval l).unvals ls).vals.length = _
    rw [unvals_len ls]; simp [PS.unval]

theorem unvals_bit : ∀ (ls : List Int) (s : PS), (∀ x ∈ s.vals, -1 ≤ x ∧ x ≤ 1) → ∀ x ∈ (s.unvals ls).vals, -1 ≤ x ∧ x ≤ 1
  | [], s, h => h
  | l :: ls, s, h => by
    refine unvals_bit ls (s.unval l) ?_
    intro x hx
    simp only [PS.unval] at hx
    rcases List.mem_or_eq_of_mem_set hx with hx | hx
    · rcases List.mem_or_eq_of_mem_set hx with hx | hx
      · exact h x hx
      · omega
    · omega

theorem unval_val (hz : s.vals.length = 2 * s.vars + 1) {l x : Int} (hl : Lt s.vars l) (hx : Lt s.vars x) : (s.unval l).val x = if x = l ∨ x = -l then 0 else s.val x := by
  have hl' : Lt s.vars (-l) := by unfold Lt at *; omega
  have inj : ∀ a b : Int, Lt s.vars a → Lt s.vars b → ix s.vars a = ix s.vars b → a = b := by
    intro a b ha hb e
    have h1 := ix_int ha
    have h2 := ix_int hb
    rw [e] at h1; omega
  unfold PS.val PS.unval
  show (((s.vals.set (ix s.vars l) 0).set (ix s.vars (-l)) 0)).getD (ix s.vars x) 0 = _
  rw [List.getD_eq_getElem?_getD, List.getD_eq_getElem?_getD]
  by_cases e2 : x = -l
  · subst e2
    rw [List.getElem?_set_self (by simp; rw [hz]; exact ix_lt hl')]; simp
  · rw [List.getElem?_set_ne (fun e => e2 (inj _ _ hx hl' e.symm))]
    by_cases e1 : x = l
    · subst e1
      rw [List.getElem?_set_self (by rw [hz]; exact ix_lt hl)]; simp
    · rw [List.getElem?_set_ne (fun e => e1 (inj _ _ hx hl e.symm))]
      simp [e1, e2]

theorem unvals_val : ∀ (ls : List Int) (s : PS), s.vals.length = 2 * s.vars + 1 → (∀ l ∈ ls, Lt s.vars l) → ∀ x, Lt s.vars x → (s.unvals ls).val x = if x ∈ ls ∨ -x ∈ ls then 0 else s.val x
  | [], s, _, _, x, _ => by simp [PS.unvals]
  | l :: ls, s, hz, hl, x, hx => by
    have h1 := unvals_val ls (s.unval l) (by simpa [PS.unval] using hz) (fun y hy => hl y (List.mem_cons_of_mem _ hy)) x hx
    show ((s.unval l).unvals ls).val x = _
    rw [h1, unval_val hz (hl l (List.mem_cons_self ..)) hx]
    by_cases a : x ∈ ls ∨ -x ∈ ls
    · rw [if_pos a, if_pos (by rcases a with a | a <;> simp [a])]
    · rw [if_neg a]
      by_cases b : x = l ∨ x = -l
      · rw [if_pos b, if_pos (by rcases b with rfl | rfl <;> simp)]
      · rw [if_neg b, if_neg]
        rintro (c | c)
        · rcases List.mem_cons.1 c with c | c
          · exact b (.inl c)
          · exact a (.inl c)
        · rcases List.mem_cons.1 c with c | c
          · exact b (.inr (by omega))
          · exact a (.inr c)

theorem back_eq (s : PS) (k : Nat) (lv : Lv) : s.back k lv = { s with vals := (s.unvals (s.trail.drop lv.start)).vals, trail := s.trail.take lv.start, head := lv.head, late := s.late ++ (s.lvs.drop k).flatMap Lv.late, lvs := s.lvs.take k } := by
  unfold PS.back; rw [unvals_eq]

theorem tval_iff {t : List Int} {t' : List Int} {x : Int} (h1 : x ∈ t ↔ x ∈ t') (h2 : -x ∈ t ↔ -x ∈ t') : tval t x = tval t' x := by unfold tval; simp only [h1, h2]

theorem back_lv (h : Inv s) {k : Nat} {lv : Lv} (hk : s.lvs[k]? = some lv) : ∀ (j : Nat) (v : Lv), s.lvs[j]? = some v → (j < k → v.start < lv.start ∧ v.head ≤ lv.head) ∧ (k ≤ j → lv.start ≤ v.start) := by
  intro j v hj
  have lj := (List.getElem?_eq_some_iff.1 hj)
  have lk := (List.getElem?_eq_some_iff.1 hk)
  obtain ⟨lj1, lj2⟩ := lj
  obtain ⟨lk1, lk2⟩ := lk
  constructor
  · intro hlt
    have p1 := List.pairwise_iff_getElem.1 h.tr.st j k lj1 lk1 hlt
    have p2 := List.pairwise_iff_getElem.1 h.tr.hp j k lj1 lk1 hlt
    rw [lj2, lk2] at p1 p2
    exact ⟨p1, p2⟩
  · intro hle
    rcases Nat.lt_or_eq_of_le hle with hlt | rfl
    · have p1 := List.pairwise_iff_getElem.1 h.tr.st k j lk1 lj1 hlt
      rw [lj2, lk2] at p1
      omega
    · rw [hj] at hk; simp at hk; subst hk; exact Nat.le_refl _

theorem back_tr (h : Inv s) {k : Nat} {lv : Lv} (hk : s.lvs[k]? = some lv) : Tr (s.back k lv) := by
  have hlv := back_lv h hk
  have hmem : lv ∈ s.lvs := List.mem_of_getElem? hk
  have hst := h.tr.sl lv hmem
  have hlen : (s.trail.take lv.start).length = lv.start := by simp; omega
  have htake : ∀ v ∈ s.lvs.take k, ∃ j, j < k ∧ s.lvs[j]? = some v := by
    intro v hv
    obtain ⟨j, h1, h2⟩ := mem_take_iff.1 hv
    exact ⟨j, h1, h2⟩
  have hsplit : ∀ x, x ∈ s.trail ↔ x ∈ s.trail.take lv.start ∨ x ∈ s.trail.drop lv.start := by
    intro x
    conv => lhs; rw [← List.take_append_drop lv.start s.trail]
    exact List.mem_append
  have hdisj : ∀ x y, x ∈ s.trail.take lv.start → y ∈ s.trail.drop lv.start → x ≠ y ∧ x ≠ -y := by
    intro x y hx hy
    have := h.tr.nd
    rw [← List.take_append_drop lv.start s.trail, List.pairwise_append] at this
    exact this.2.2 x hx y hy
  rw [back_eq]
  refine ⟨?_, ?_, ?_, ?_, ?_, ?_, ?_, ?_, ?_⟩
  · intro x hx; exact h.tr.ok x (List.mem_of_mem_take hx)
  · exact h.tr.nd.sublist (List.take_sublist _ _)
  · intro x hx
    have := unvals_val (s.trail.drop lv.start) s h.sz.vals (fun l hl => h.tr.ok l (List.mem_of_mem_drop hl)) x hx
    show (s.unvals (s.trail.drop lv.start)).vals.getD (ix s.vars x) 0 = tval (s.trail.take lv.start) x
    have e : (s.unvals (s.trail.drop lv.start)).val x = (s.unvals (s.trail.drop lv.start)).vals.getD (ix s.vars x) 0 := by
      unfold PS.val; rw [unvals_eq]
    rw [← e, this]
    by_cases a : x ∈ s.trail.drop lv.start ∨ -x ∈ s.trail.drop lv.start
    · rw [if_pos a]
      symm
      refine tval_zero.2 ⟨fun hm => ?_, fun hm => ?_⟩
      · rcases a with a | a
        · exact (hdisj _ _ hm a).1 rfl
        · exact (hdisj _ _ hm a).2 (by omega)
      · rcases a with a | a
        · exact (hdisj _ _ hm a).2 rfl
        · exact (hdisj _ _ hm a).1 rfl
    · rw [if_neg a, h.tr.vl x hx]
      have a1 : x ∉ s.trail.drop lv.start := fun q => a (.inl q)
      have a2 : -x ∉ s.trail.drop lv.start := fun q => a (.inr q)
      exact tval_iff (by rw [hsplit]; simp [a1]) (by rw [hsplit]; simp [a2])
  · intro i x hx
    replace hx : (s.trail.take lv.start)[i]? = some x := hx
    rw [List.getElem?_take] at hx
    by_cases hi : i < lv.start
    · rw [if_pos hi] at hx
      obtain ⟨r, e1, e2⟩ := h.tr.fc i x hx
      have hlev : levAt (s.lvs.take k) i = levAt s.lvs i := by
        unfold levAt
        conv => rhs; rw [← List.take_append_drop k s.lvs]
        rw [List.countP_append]
        have : List.countP (fun v : Lv => decide (v.start ≤ i)) (s.lvs.drop k) = 0 := by
          rw [List.countP_eq_zero]
          intro v hv
          obtain ⟨j, hj⟩ := List.mem_iff_getElem?.1 hv
          rw [List.getElem?_drop] at hj
          have := (hlv _ v hj).2 (by omega)
          simp; omega
        omega
      refine ⟨r, by show s.fct x = _; rw [e1]; show _ = ((i : Int), ((levAt (s.lvs.take k) i : Nat) : Int), r); rw [hlev], ?_⟩
      rcases e2 with ⟨a, v, hv, b⟩ | ⟨a, k', c', q1, q2, q3, q4, q5⟩
      · refine .inl ⟨a, v, ?_, b⟩
        obtain ⟨j, hj⟩ := List.mem_iff_getElem?.1 hv
        refine mem_take_iff.2 ⟨j, ?_, hj⟩
        rcases Nat.lt_or_ge j k with q | q
        · exact q
        · have := (hlv j v hj).2 q; omega
      · refine .inr ⟨fun v hv => a v (List.mem_of_mem_take hv), k', c', q1, q2, q3, q4, fun y hy hne => ?_⟩
        have := q5 y hy hne
        show -y ∈ (s.trail.take lv.start).take i
        rw [List.take_take, Nat.min_eq_left (by omega)]; exact this
    · rw [if_neg hi] at hx; cases hx
  · exact h.tr.st.sublist (List.take_sublist _ _)
  · intro v hv
    obtain ⟨j, h1, h2⟩ := htake v hv
    show v.start < (s.trail.take lv.start).length
    rw [hlen]; exact ((hlv j v h2).1 h1).1
  · show lv.head ≤ (s.trail.take lv.start).length
    rw [hlen]; exact (h.tr.hv lv hmem).1
  · intro v hv
    obtain ⟨j, h1, h2⟩ := htake v hv
    exact ⟨(h.tr.hv v (List.mem_of_getElem? h2)).1, ((hlv j v h2).1 h1).2⟩
  · exact h.tr.hp.sublist (List.take_sublist _ _)

theorem back_inv (h : Inv s) {k : Nat} {lv : Lv} (hkv : s.lvs[k]? = some lv) : Inv (s.back k lv) := by
  have hTr := back_tr h hkv
  have hlv := back_lv h hkv
  have hmem : lv ∈ s.lvs := List.mem_of_getElem? hkv
  have hst := h.tr.sl lv hmem
  have hhd := h.tr.hv lv hmem
  have hkl : k < s.lvs.length := (List.getElem?_eq_some_iff.1 hkv).1
  have hlen : (s.trail.take lv.start).length = lv.start := by simp; omega
  have hls : (s.lvs.take k).length = k := by simp; omega
  have hget : ∀ j, j < k → (s.lvs.take k)[j]? = s.lvs[j]? := fun j hj => by rw [List.getElem?_take, if_pos hj]
  have htk : ∀ k', k' ≤ k → tk (s.back k lv) k' = tk s k' ∧ hk (s.back k lv) k' = hk s k' ∧ tk s k' ≤ lv.start ∧ hk s k' ≤ lv.start := by
    intro k' hk'
    rw [back_eq]
    unfold tk hk
    show (match (s.lvs.take k)[k']? with | some v => v.start | none => (s.trail.take lv.start).length) = _ ∧ (match (s.lvs.take k)[k']? with | some v => v.head | none => lv.head) = _ ∧ _
    rcases Nat.lt_or_eq_of_le hk' with hlt | rfl
    · rw [hget k' hlt]
      have hk2 : k' < s.lvs.length := by omega
      rw [List.getElem?_eq_getElem hk2]
      have := (hlv k' _ (List.getElem?_eq_getElem hk2)).1 hlt
      simp only
      exact ⟨by trivial, by trivial, by omega, by omega⟩
    · rw [List.getElem?_eq_none (by omega), hkv]
      simp only
      exact ⟨hlen, by trivial, Nat.le_refl _, hhd.1⟩
  have htt : ∀ a, a ≤ lv.start → (s.trail.take lv.start).take a = s.trail.take a := fun a ha => by rw [List.take_take, Nat.min_eq_left ha]
  have hlate : ∀ k' i, k' ≤ k → lateFrom s k' i → lateFrom (s.back k lv) k' i := by
    intro k' i hk' hl
    rw [back_eq]
    rcases hl with hl | ⟨j, v, h1, h2, h3⟩
    · exact .inl (List.mem_append.2 (.inl hl))
    · rcases Nat.lt_or_ge j k with q | q
      · exact .inr ⟨j, v, h1, by show (s.lvs.take k)[j]? = _; rw [hget j q]; exact h2, h3⟩
      · refine .inl (List.mem_append.2 (.inr (List.mem_flatMap.2 ⟨v, ?_, h3⟩)))
        refine List.mem_iff_getElem?.2 ⟨j - k, ?_⟩
        rw [List.getElem?_drop, show k + (j - k) = j by omega]; exact h2
  have hcls : (s.back k lv).cls = s.cls := by rw [back_eq]
  have htrail : (s.back k lv).trail = s.trail.take lv.start := rfl
  have hlvs : (s.back k lv).lvs = s.lvs.take k := rfl
  refine ⟨hTr, ?_, ⟨?_, ?_⟩, ?_⟩
  · rw [back_eq]; exact ⟨h.wt.ok, h.wt.ww, h.wt.nd, h.wt.we⟩
  · intro k' hk' i c hc hg
    rw [hlvs, hls] at hk'
    rw [hcls] at hc
    obtain ⟨e1, e2, e3, e4⟩ := htk k' hk'
    rcases h.la.i1 k' (by omega) i c hc hg with q | q
    · exact .inl (hlate k' i hk' q)
    · right
      rw [e1, e2, htrail]
      unfold OKc at *
      rw [htt _ e3, htt _ e4]; exact q
  · intro k' hk' i c hc hg h2
    rw [hlvs, hls] at hk'
    rw [hcls] at hc
    obtain ⟨e1, e2, e3, e4⟩ := htk k' hk'
    rw [e1, htrail] at h2
    have := h.la.i2 k' (by omega) i c hc hg (by unfold Two at *; rw [htt _ e3] at h2; exact h2)
    rw [e1, e2, htrail]
    unfold OKc at *
    rw [htt _ e3, htt _ e4]; exact this
  · have hz := h.sz
    rw [back_eq]
    refine ⟨hz.vars, ?_, hz.wat, hz.fac, ?_, hz.num, ?_, ?_, ?_, hz.count, hz.stale, hz.cls⟩
    · show (s.unvals _).vals.length = _
      rw [unvals_len]; exact hz.vals
    · exact unvals_bit _ s hz.bit
    · intro v hv; exact hz.lv v (List.mem_of_mem_take hv)
    · intro i hi
      rcases List.mem_append.1 hi with q | q
      · exact hz.la i q
      · obtain ⟨v, hv, hi⟩ := List.mem_flatMap.1 q
        exact hz.lv v (List.mem_of_mem_drop hv) i hi
    · have hs := hz.sum
      show (s.late ++ (s.lvs.drop k).flatMap Lv.late).length + ((s.lvs.take k).map (fun v => v.late.length)).sum ≤ s.cls.length
      rw [List.length_append, List.length_flatMap]
      have : (s.lvs.map (fun v => v.late.length)).sum = ((s.lvs.take k).map (fun v => v.late.length)).sum + ((s.lvs.drop k).map (fun v => v.late.length)).sum := by
        conv => lhs; rw [← List.take_append_drop k s.lvs]
        rw [List.map_append, List.sum_append]
      have e : ((s.lvs.drop k).map (fun a => (Lv.late a).length)).sum = ((s.lvs.drop k).map (fun v => v.late.length)).sum := rfl
      omega

theorem back_dec (h : Inv s) {k : Nat} {lv : Lv} (hkv : s.lvs[k]? = some lv) : (s.back k lv).dec = s.dec.take k := by
  have hlv := back_lv h hkv
  have hst := h.tr.sl lv (List.mem_of_getElem? hkv)
  unfold PS.dec
  show (s.lvs.take k).map (fun v => (s.trail.take lv.start).getD v.start 0) = _
  rw [← List.map_take]
  refine List.map_congr_left (fun v hv => ?_)
  obtain ⟨j, h1, h2⟩ := mem_take_iff.1 hv
  have := ((hlv j v h2).1 h1).1
  rw [List.getD_eq_getElem?_getD, List.getD_eq_getElem?_getD, List.getElem?_take, if_pos this]
end
end Go.Proofs.YtlmbgaconjcaiabGreat

namespace Go.Proofs.YtlmbgaconjcaiabGreat

section
variable {s t : PS}

theorem Cnt.same (h : Cnt s) (hk : t.cls.map (fun c => c.gone) = s.cls.map (fun c => c.gone)) (hc : t.count = s.count) (hs : t.stale = s.stale) : Cnt t := by
  have key : ∀ (p : Bool → Bool), t.cls.countP (fun c => p c.gone) = s.cls.countP (fun c => p c.gone) := by
    intro p
    have e : ∀ l : List Cl, l.countP (fun c => p c.gone) = (l.map (fun c => c.gone)).countP p := by
      intro l; rw [List.countP_map]; rfl
    rw [e, e, hk]
  refine ⟨?_, ?_⟩
  · rw [hc, h.n, key (fun b => !b)]
  · rw [hs, key (fun b => b)]; exact h.st

theorem gone_key (s : PS) : s.cls.map (fun c => c.gone) = (s.cls.map key).map Prod.snd := by
  rw [List.map_map]; rfl

theorem Cnt.frm (h : Cnt s) (hF : Frm s t) : Cnt t := h.same (by rw [gone_key, gone_key, hF.cl]) hF.count hF.stale
theorem Cnt.back (h : Cnt s) (k : Nat) (lv : Lv) : Cnt (s.back k lv) := by rw [back_eq]; exact h.same rfl rfl rfl
theorem Cnt.decide (h : Cnt s) (l : Int) : Cnt (s.decide l) := h.same rfl rfl rfl
theorem Cnt.attach (h : Cnt s) (ls : List Int) : Cnt (s.attach ls) := by
  obtain ⟨h1, _, _, _, h5, h6⟩ := attach_cls s ls
  have e : ∀ (u : PS) (p : Bool → Bool), u.cls.countP (fun c => p c.gone) = ((u.cls.map key).map Prod.snd).countP p := by
    intro u p
    rw [← gone_key, List.countP_map]; rfl
  refine ⟨?_, ?_⟩
  · rw [h5, h.n, e s (fun b => !b), e (s.attach ls) (fun b => !b), h1]; simp
  · rw [h6, e (s.attach ls) (fun b => b), h1]
    have := h.st
    rw [e s (fun b => b)] at this
    simpa using this

/-- The law's clauses, and which are gone, are a propagator's. -/
structure Kys (s : PS) (css : List (List Int)) (gs : List Bool) : Prop where
  gone : s.cls.map (fun c => c.gone) = gs
  len : s.cls.length = css.length
  lits : ∀ (i : Nat) c, s.cls[i]? = some c → c.gone = false → css[i]? = some c.lits

variable {css : List (List Int)} {gs : List Bool}

theorem Kys.glen (h : Kys s css gs) : gs.length = css.length := by rw [← h.gone, List.length_map, h.len]
theorem Kys.same (h : Kys s css gs) (e : t.cls.map key = s.cls.map key) : Kys t css gs := by
  refine ⟨by rw [gone_key, e, ← gone_key, h.gone], by rw [← h.len]; simpa using congrArg List.length e, fun i c hc hg => ?_⟩
  have hk := keys_at (ks := s.cls.map key) e hc
  rw [List.getElem?_map, Option.map_eq_some_iff] at hk
  obtain ⟨c', hc', he⟩ := hk
  simp only [key, Prod.mk.injEq] at he
  rw [← he.1]
  exact h.lits i c' hc' (he.2.trans hg)
theorem Kys.attach (h : Kys s css gs) (ls : List Int) : Kys (s.attach ls) (css ++ [ls]) (gs ++ [false]) := by
  obtain ⟨h1, _⟩ := attach_cls s ls
  refine ⟨by rw [gone_key, h1, List.map_append, ← gone_key, h.gone]; rfl, ?_, fun i c hc hg => ?_⟩
  · have := congrArg List.length h1
    simp at this
    simp [this, h.len]
  · have hk := keys_at h1 hc
    rcases Nat.lt_or_ge i s.cls.length with q | q
    · rw [List.getElem?_append_left (by simpa using q), List.getElem?_map, Option.map_eq_some_iff] at hk
      obtain ⟨c', hc', he⟩ := hk
      simp only [key, Prod.mk.injEq] at he
      rw [List.getElem?_append_left (by rw [← h.len]; exact q), ← he.1]
      exact h.lits i c' hc' (he.2.trans hg)
    · rw [List.getElem?_append_right (by simpa using q)] at hk
      simp at hk
      obtain ⟨e0, e1⟩ : i - s.cls.length = 0 ∧ (ls, false) = (c.lits, c.gone) := by
        cases hh : i - s.cls.length with
        | zero => rw [hh] at hk; simpa using hk
        | succ n => rw [hh] at hk; simp at hk
      simp at e1
      obtain rfl : i = css.length := by rw [← h.len]; omega
      rw [List.getElem?_append_right (Nat.le_refl _)]
      simp [e1.1]
theorem drop_cls (s : PS) (i : Nat) (c : Cl) : (s.drop i c).cls = s.cls.set i { c with gone := true, lits := [] } := by
  unfold PS.drop
  simp only
  split <;> rfl
theorem Kys.drop (h : Kys s css gs) {i : Nat} {c : Cl} (hc : s.cls[i]? = some c) : Kys (s.drop i c) css (gs.set i true) := by
  refine ⟨by rw [drop_cls, List.map_set, h.gone], by rw [drop_cls, List.length_set, h.len], fun j d hd hg => ?_⟩
  rw [drop_cls] at hd
  rcases set_at hc hd with ⟨rfl, rfl⟩ | ⟨hne, hd'⟩
  · simp at hg
  · exact h.lits j d hd' hg

theorem thereL_mem : ∀ (css : List (List Int)) (gs : List Bool) (L : List Int), L ∈ thereL css gs ↔ ∃ i : Nat, css[i]? = some L ∧ gs[i]? = some false
  | [], gs, L => by simp [thereL]
  | c :: cs, [], L => by simp [thereL]
  | c :: cs, g :: gs, L => by
    have ih := thereL_mem cs gs L
    cases g with
    | true =>
      simp only [thereL, if_true]
      rw [ih]
      constructor
      · rintro ⟨i, h1, h2⟩; exact ⟨i + 1, by simpa using h1, by simpa using h2⟩
      · rintro ⟨i, h1, h2⟩
        cases i with
        | zero => simp at h2
        | succ i => exact ⟨i, by simpa using h1, by simpa using h2⟩
    | false =>
      simp only [thereL, Bool.false_eq_true, if_false, List.mem_cons]
      rw [ih]
      constructor
      · rintro (rfl | ⟨i, h1, h2⟩)
        · exact ⟨0, by simp, by simp⟩
        · exact ⟨i + 1, by simpa using h1, by simpa using h2⟩
      · rintro ⟨i, h1, h2⟩
        cases i with
        | zero => left; simpa using h1.symm
        | succ i => exact .inr ⟨i, by simpa using h1, by simpa using h2⟩
theorem thereL_len : ∀ (css : List (List Int)) (gs : List Bool), (thereL css gs).length ≤ css.length
  | [], gs => by simp [thereL]
  | c :: cs, [] => by simp [thereL]
  | c :: cs, g :: gs => by
    have := thereL_len cs gs
    cases g <;> simp [thereL] <;> omega
theorem thereL_none : ∀ (css : List (List Int)), thereL css (List.replicate css.length false) = css
  | [] => rfl
  | c :: cs => by simp [thereL, List.replicate_succ, thereL_none cs]

theorem Kys.at (h : Kys s css gs) {i : Nat} {c : Cl} (hc : s.cls[i]? = some c) : gs[i]? = some c.gone := by
  rw [← h.gone, List.getElem?_map, hc]; rfl
theorem Kys.alv (h : Kys s css gs) : Alv s (thereL css gs) := by
  intro L
  rw [thereL_mem]
  constructor
  · rintro ⟨i, h1, h2⟩
    have hi : i < s.cls.length := by rw [h.len]; exact (List.getElem?_eq_some_iff.1 h1).1
    have hc := List.getElem?_eq_getElem hi
    have hg := h.at hc
    rw [h2] at hg
    simp at hg
    have := h.lits i _ hc hg
    rw [h1] at this
    simp at this
    exact ⟨i, _, hc, hg, this.symm⟩
  · rintro ⟨i, c, hc, hg, rfl⟩
    exact ⟨i, h.lits i c hc hg, by rw [h.at hc, hg]⟩
theorem Kys.new {css : List (List Int)} (h : s.cls.map key = css.map (fun c => (c, false))) : Kys s css (List.replicate css.length false) := by
  refine ⟨by rw [gone_key, h, List.map_map]; rw [List.eq_replicate_iff]; exact ⟨by simp, by simp⟩, by simpa using congrArg List.length h, fun i c hc hg => ?_⟩
  have hk := keys_at h hc
  rw [List.getElem?_map, Option.map_eq_some_iff] at hk
  obtain ⟨L, hL, he⟩ := hk
  simp at he
  rw [hL, he.1]
theorem Cnt.new {css : List (List Int)} (h : s.cls.map key = css.map (fun c => (c, false))) (hc : s.count = css.length) (hs : s.stale = 0) : Cnt s := by
  have hg : ∀ c ∈ s.cls, c.gone = false := by
    intro c hc
    have : key c ∈ s.cls.map key := List.mem_map_of_mem hc
    rw [h] at this
    obtain ⟨d, _, e⟩ := List.mem_map.1 this
    exact (congrArg Prod.snd e).symm
  have hl : s.cls.length = css.length := by simpa using congrArg List.length h
  refine ⟨?_, by rw [hs]; omega⟩
  rw [hc, List.countP_eq_length.2 (fun c hc => by simp [hg c hc]), hl]

/-- A clause that can't be dropped is a reason of the trail. -/
theorem rsn_trail (h : Inv s) {i : Nat} {c : Cl} (hc : s.cls[i]? = some c) (hr : s.rsnB i c.lits = true) : ∃ x ∈ s.trail, s.rsnT x = (i : Int) := by
  unfold PS.rsnB at hr
  rw [List.any_eq_true] at hr
  obtain ⟨x, hx, h1⟩ := hr
  simp only [Bool.and_eq_true, beq_iff_eq] at h1
  have hl := h.wt.ok i c hc x hx
  refine ⟨x, (h.vone hl).1 h1.1, ?_⟩
  have hv : s.valT x = 1 := by unfold PS.valT; rw [if_pos (ltB_true.2 hl), h1.1]
  unfold PS.rsnT
  rw [hv, h1.2]; simp

/-- A literal that is not open is refused. -/
theorem open_no (h : Inv s) (hV : s.vars ≤ 1048576) {l : Int} (ho : openB s.vars s.trail l = false) : ltB s.vars l = false ∨ (Lt s.vars l ∧ s.val l ≠ 0) := by
  cases hb : ltB s.vars l with
  | false => exact .inl rfl
  | true =>
    right
    have hl := ltB_true.1 hb
    refine ⟨hl, fun hv => ?_⟩
    obtain ⟨h1, h2⟩ := (h.vzero hl).1 hv
    have : openB s.vars s.trail l = true := by
      unfold openB
      unfold Lt at hl
      have e1 : litB l 1048576 = true := by unfold litB; simp only [decide_eq_true_eq]; omega
      have e2 : decide (varI l ≤ s.vars) = true := by unfold varI; simp only [decide_eq_true_eq]; split <;> omega
      rw [e1, e2, hasB_false.2 h1, hasB_false.2 h2]; rfl
    rw [this] at ho; cases ho

/-- What a run tells, by what follows. -/
theorem run_tells (h : Inv s) {cs : List (List Int)} (ha : Alv s cs) (hV : s.vars < 100001) {n : Int} (hn : (n = -1 ∧ s.late = [] ∧ s.head = s.trail.length) ∨ Brk s n) :
    (n = -1 ∧ (followsP cs 100001 s.dec).2 = false ∧ (∀ x, x ∈ (followsP cs 100001 s.dec).1 ↔ x ∈ s.trail) ∧ (followsP cs 100001 s.dec).1.length = s.trail.length) ∨ (0 ≤ n ∧ (followsP cs 100001 s.dec).2 = true) := by
  rcases hn with ⟨h1, h2, h3⟩ | hb
  · left
    exact ⟨h1, follows_done h h2 h3 ha hV⟩
  · right
    have k := follows_brk h ha hb (fuel := 100001) hV
    obtain ⟨i, c, rfl, _⟩ := hb
    exact ⟨by omega, k⟩
end
end Go.Proofs.YtlmbgaconjcaiabGreat
