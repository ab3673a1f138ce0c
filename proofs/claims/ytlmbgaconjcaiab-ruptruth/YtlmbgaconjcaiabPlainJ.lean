/- Plain mathematics: a literal's watches are gone through, entry by entry. -/
import Derived.Test.YtlmbgaconjcaiabPlainI
set_option linter.unusedVariables false
set_option linter.unusedSimpArgs false
namespace Go.Proofs.Ytlmbgaconjcaiab

section
variable {s : PS}

def bsI (c : Cl) (l : Int) : Int := if c.w0 = l then c.w1 else c.w0

/-- What an entry of a literal's watches says of its clause. -/
theorem entry_of (h : Inv s) {l : Int} (hl : Lt s.vars l) {q : List (Nat × Int)} (hq : s.wat[ix s.vars l]? = some q) {i : Nat} {hint : Int} (hm : (i, hint) ∈ q) {c : Cl} (hc : s.cls[i]? = some c) (hg : c.gone = false) :
    (l = c.w0 ∨ l = c.w1) ∧ bsI c l ∈ c.lits ∧ bsI c l ≠ l ∧ l ∈ c.lits ∧ hint ∈ c.lits ∧ InW s (bsI c l) i ∧ (c.w0 = l ∧ c.w1 = bsI c l ∨ c.w1 = l ∧ c.w0 = bsI c l) := by
  obtain ⟨c', hc', _, h3⟩ := h.wt.we _ q hq _ hm
  obtain rfl : c' = c := Option.some.inj (hc'.symm.trans hc)
  obtain ⟨h4, h5, h6⟩ := h3 hg
  obtain ⟨a1, a2, a3, a4, a5⟩ := h.wt.ww i c' hc hg h4
  have ok := h.wt.ok i c' hc
  have hl' : l = c'.w0 ∨ l = c'.w1 := by
    rcases h6 with h6 | h6
    · exact .inl (ix_inj hl (ok _ a2) h6)
    · exact .inr (ix_inj hl (ok _ a3) h6)
  unfold bsI
  rcases hl' with e | e
  · rw [if_pos e.symm]; exact ⟨.inl e, a3, by rw [e]; exact Ne.symm a1, by rw [e]; exact a2, h5, a5, .inl ⟨e.symm, rfl⟩⟩
  · rw [if_neg (by rw [e]; exact a1)]; exact ⟨.inr e, a2, by rw [e]; exact a1, by rw [e]; exact a3, h5, a4, .inr ⟨e.symm, rfl⟩⟩

theorem nodup_mid {K R : List (Nat × Int)} {p : Nat × Int} (h : ((K ++ p :: R).map Prod.fst).Nodup) : ((K ++ R).map Prod.fst).Nodup ∧ ∀ x ∈ K ++ R, x.1 ≠ p.1 := by
  rw [List.map_append, List.map_cons, List.nodup_append] at h
  obtain ⟨h1, h2, h3⟩ := h
  rw [List.nodup_cons] at h2
  refine ⟨?_, fun x hx e => ?_⟩
  · rw [List.map_append, List.nodup_append]
    exact ⟨h1, h2.2, fun a ha b hb => h3 a ha b (List.mem_cons_of_mem _ hb)⟩
  · rcases List.mem_append.1 hx with hx | hx
    · exact h3 x.1 (List.mem_map_of_mem hx) p.1 (by simp) e
    · exact h2.1 (by rw [← e]; exact List.mem_map_of_mem hx)

/-- An entry whose clause is gone is taken out. -/
theorem entry_gone (h : Inv s) {j : Nat} {K R : List (Nat × Int)} {i : Nat} {hint : Int} (hq : s.wat[j]? = some (K ++ (i, hint) :: R)) {c : Cl} (hc : s.cls[i]? = some c) (hg : c.gone = true) : Inv (s.setW j (K ++ R)) := by
  have hz := h.sz
  have hj : j < s.wat.length := (List.getElem?_eq_some_iff.1 hq).1
  obtain ⟨n1, n2⟩ := nodup_mid (h.wt.nd j _ hq)
  have hget : ∀ j' q', (s.wat.set j (K ++ R))[j']? = some q' → (j' = j ∧ q' = K ++ R) ∨ (j' ≠ j ∧ s.wat[j']? = some q') := by
    intro j' q' e
    by_cases ej : j' = j
    · subst ej; rw [List.getElem?_set_self hj] at e; cases e; exact .inl ⟨rfl, rfl⟩
    · rw [List.getElem?_set_ne (Ne.symm ej)] at e; exact .inr ⟨ej, e⟩
  have hin : ∀ l i' c', s.cls[i']? = some c' → c'.gone = false → InW s l i' → InW (s.setW j (K ++ R)) l i' := by
    rintro l i' c' hc' hg' ⟨q, e1, e2⟩
    by_cases ej : ix s.vars l = j
    · refine ⟨K ++ R, ?_, ?_⟩
      · show (s.wat.set j (K ++ R))[ix s.vars l]? = _
        rw [ej, List.getElem?_set_self hj]
      · rw [ej, hq] at e1; cases e1
        obtain ⟨p, hp, ep⟩ := List.mem_map.1 e2
        have : p ∈ K ++ R := by
          rcases List.mem_append.1 hp with hp | hp
          · exact List.mem_append.2 (.inl hp)
          · rcases List.mem_cons.1 hp with rfl | hp
            · simp at ep; subst ep
              rw [hc] at hc'; cases hc'; rw [hg] at hg'; cases hg'
            · exact List.mem_append.2 (.inr hp)
        rw [← ep]; exact List.mem_map_of_mem this
    · exact ⟨q, by show (s.wat.set j (K ++ R))[ix s.vars l]? = _; rw [List.getElem?_set_ne (Ne.symm ej)]; exact e1, e2⟩
  refine ⟨h.tr.same rfl rfl rfl rfl rfl rfl (fun k c x _ _ h1 h2 => ⟨c, h1, h2, rfl⟩), ⟨h.wt.ok, ?_, ?_, ?_⟩, ⟨h.la.i1, h.la.i2⟩, ⟨hz.vars, hz.vals, by simp [PS.setW, hz.wat], hz.fac, hz.bit, hz.num, hz.lv, hz.la, hz.sum, hz.count, hz.stale, hz.cls⟩⟩
  · intro i' c' hc' hg' hw
    obtain ⟨a1, a2, a3, a4, a5⟩ := h.wt.ww i' c' hc' hg' hw
    exact ⟨a1, a2, a3, hin _ _ _ hc' hg' a4, hin _ _ _ hc' hg' a5⟩
  · intro j' q' e
    rcases hget j' q' e with ⟨_, rfl⟩ | ⟨_, e⟩
    · exact n1
    · exact h.wt.nd j' q' e
  · intro j' q' e p hp
    rcases hget j' q' e with ⟨rfl, rfl⟩ | ⟨_, e⟩
    · refine h.wt.we j' _ hq p ?_
      rcases List.mem_append.1 hp with hp | hp
      · exact List.mem_append.2 (.inl hp)
      · exact List.mem_append.2 (.inr (List.mem_cons_of_mem _ hp))
    · exact h.wt.we j' q' e p hp

/-- An entry's hint turns. -/
theorem entry_hint (h : Inv s) {j : Nat} {K R : List (Nat × Int)} {i : Nat} {hint o : Int} (hq : s.wat[j]? = some (K ++ (i, hint) :: R)) {c : Cl} (hc : s.cls[i]? = some c) (ho : o ∈ c.lits) : Inv (s.setW j (K ++ (i, o) :: R)) := by
  have hz := h.sz
  have hj : j < s.wat.length := (List.getElem?_eq_some_iff.1 hq).1
  have hmap : (K ++ (i, o) :: R).map Prod.fst = (K ++ (i, hint) :: R).map Prod.fst := by simp
  have hget : ∀ j' q', (s.wat.set j (K ++ (i, o) :: R))[j']? = some q' → (j' = j ∧ q' = K ++ (i, o) :: R) ∨ (j' ≠ j ∧ s.wat[j']? = some q') := by
    intro j' q' e
    by_cases ej : j' = j
    · subst ej; rw [List.getElem?_set_self hj] at e; cases e; exact .inl ⟨rfl, rfl⟩
    · rw [List.getElem?_set_ne (Ne.symm ej)] at e; exact .inr ⟨ej, e⟩
  have hin : ∀ l i', InW s l i' → InW (s.setW j (K ++ (i, o) :: R)) l i' := by
    rintro l i' ⟨q, e1, e2⟩
    by_cases ej : ix s.vars l = j
    · refine ⟨K ++ (i, o) :: R, ?_, ?_⟩
      · show (s.wat.set j _)[ix s.vars l]? = _
        rw [ej, List.getElem?_set_self hj]
      · rw [ej, hq] at e1; cases e1
        rw [hmap]; exact e2
    · exact ⟨q, by show (s.wat.set j _)[ix s.vars l]? = _; rw [List.getElem?_set_ne (Ne.symm ej)]; exact e1, e2⟩
  refine ⟨h.tr.same rfl rfl rfl rfl rfl rfl (fun k c x _ _ h1 h2 => ⟨c, h1, h2, rfl⟩), ⟨h.wt.ok, ?_, ?_, ?_⟩, ⟨h.la.i1, h.la.i2⟩, ⟨hz.vars, hz.vals, by simp [PS.setW, hz.wat], hz.fac, hz.bit, hz.num, hz.lv, hz.la, hz.sum, hz.count, hz.stale, hz.cls⟩⟩
  · intro i' c' hc' hg' hw
    obtain ⟨a1, a2, a3, a4, a5⟩ := h.wt.ww i' c' hc' hg' hw
    exact ⟨a1, a2, a3, hin _ _ a4, hin _ _ a5⟩
  · intro j' q' e
    rcases hget j' q' e with ⟨_, rfl⟩ | ⟨_, e⟩
    · rw [hmap]; exact h.wt.nd j _ hq
    · exact h.wt.nd j' q' e
  · intro j' q' e p hp
    rcases hget j' q' e with ⟨rfl, rfl⟩ | ⟨_, e⟩
    · rcases List.mem_append.1 hp with hp | hp
      · exact h.wt.we j' _ hq p (List.mem_append.2 (.inl hp))
      · rcases List.mem_cons.1 hp with rfl | hp
        · obtain ⟨c', hc', _, h3⟩ := h.wt.we j' _ hq (i, hint) (by simp)
          obtain rfl : c' = c := Option.some.inj (hc'.symm.trans hc)
          exact ⟨c', hc, h.wt.ok i c' hc o ho, fun hg => ⟨(h3 hg).1, ho, (h3 hg).2.2⟩⟩
        · exact h.wt.we j' _ hq p (List.mem_append.2 (.inr (List.mem_cons_of_mem _ hp)))
    · exact h.wt.we j' q' e p hp

/-- A clause that watches a false literal watches another one that is not false. -/
def PS.moved (s : PS) (j : Nat) (q : List (Nat × Int)) (i : Nat) (c : Cl) (k o : Int) : PS := (((s.setW j q).setCl i { c with w0 := k, w1 := o }).watch k i o)

theorem entry_move (h : Inv s) {l : Int} (hl : Lt s.vars l) (hlf : -l ∈ s.trail) {K R : List (Nat × Int)} {i : Nat} {hint : Int} (hq : s.wat[ix s.vars l]? = some (K ++ (i, hint) :: R)) {c : Cl} (hc : s.cls[i]? = some c) (hg : c.gone = false)
    {k : Int} (hk : k ∈ c.lits) (hko : k ≠ bsI c l) (hkv : -k ∉ s.trail) : Inv (s.moved (ix s.vars l) (K ++ R) i c k (bsI c l)) := by
  have hz := h.sz
  obtain ⟨_, b1, b2, b3, b4, b5, b6⟩ := entry_of h hl hq (List.mem_append.2 (.inr (List.mem_cons_self))) hc hg
  have ok := h.wt.ok i c hc
  have hK := ok k hk
  have hO := ok _ b1
  have hkl : k ≠ l := fun e => hkv (e ▸ hlf)
  have hil : i < s.cls.length := (List.getElem?_eq_some_iff.1 hc).1
  have hj : ix s.vars l < s.wat.length := (List.getElem?_eq_some_iff.1 hq).1
  have hjk : ix s.vars k < s.wat.length := by have := ix_lt hK; have := hz.wat; omega
  have jk : ix s.vars k ≠ ix s.vars l := fun e => hkl (ix_inj hK hl e)
  have jo : ix s.vars (bsI c l) ≠ ix s.vars l := fun e => b2 (ix_inj hO hl e)
  have ko : ix s.vars k ≠ ix s.vars (bsI c l) := fun e => hko (ix_inj hK hO e)
  generalize bsI c l = o at *
  obtain ⟨n1, n2⟩ := nodup_mid (h.wt.nd _ _ hq)
  have hwk : c.w0 = l ∧ c.w1 = o ∨ c.w1 = l ∧ c.w0 = o := b6
  obtain ⟨qk, hqk⟩ : ∃ qk, s.wat[ix s.vars k]? = some qk := ⟨_, List.getElem?_eq_getElem hjk⟩
  have hfresh : i ∉ qk.map Prod.fst := by
    intro hm
    obtain ⟨p, hp, ep⟩ := List.mem_map.1 hm
    obtain ⟨c', hc', _, h3⟩ := h.wt.we _ qk hqk p hp
    rw [ep] at hc'
    obtain rfl : c' = c := Option.some.inj (hc'.symm.trans hc)
    rcases (h3 hg).2.2 with e | e <;> rcases hwk with ⟨e1, e2⟩ | ⟨e1, e2⟩
    · rw [e1] at e; exact jk e
    · rw [e2] at e; exact ko e
    · rw [e2] at e; exact ko e
    · rw [e1] at e; exact jk e
  have hwat : (s.moved (ix s.vars l) (K ++ R) i c k o).wat = (s.wat.set (ix s.vars l) (K ++ R)).modify (ix s.vars k) (fun q => q ++ [(i, o)]) := rfl
  have gl : (s.moved (ix s.vars l) (K ++ R) i c k o).wat[ix s.vars l]? = some (K ++ R) := by
    rw [hwat, List.getElem?_modify, List.getElem?_set_self hj]; simp [jk]
  have gk : (s.moved (ix s.vars l) (K ++ R) i c k o).wat[ix s.vars k]? = some (qk ++ [(i, o)]) := by
    rw [hwat, List.getElem?_modify, List.getElem?_set_ne (Ne.symm jk), hqk]; simp
  have gn : ∀ j', j' ≠ ix s.vars l → j' ≠ ix s.vars k → (s.moved (ix s.vars l) (K ++ R) i c k o).wat[j']? = s.wat[j']? := by
    intro j' e1 e2
    rw [hwat, List.getElem?_modify, List.getElem?_set_ne (Ne.symm e1)]; simp [Ne.symm e2]
  have hget : ∀ j' q', (s.moved (ix s.vars l) (K ++ R) i c k o).wat[j']? = some q' → (j' = ix s.vars l ∧ q' = K ++ R) ∨ (j' = ix s.vars k ∧ q' = qk ++ [(i, o)]) ∨ (j' ≠ ix s.vars l ∧ j' ≠ ix s.vars k ∧ s.wat[j']? = some q') := by
    intro j' q' e
    by_cases e1 : j' = ix s.vars l
    · subst e1; rw [gl] at e; cases e; exact .inl ⟨rfl, rfl⟩
    · by_cases e2 : j' = ix s.vars k
      · subst e2; rw [gk] at e; cases e; exact .inr (.inl ⟨rfl, rfl⟩)
      · rw [gn j' e1 e2] at e; exact .inr (.inr ⟨e1, e2, e⟩)
  have gc : (s.moved (ix s.vars l) (K ++ R) i c k o).cls[i]? = some { c with w0 := k, w1 := o } := by
    show (s.cls.set i _)[i]? = _; rw [List.getElem?_set_self hil]
  have gcn : ∀ i', i' ≠ i → (s.moved (ix s.vars l) (K ++ R) i c k o).cls[i']? = s.cls[i']? := by
    intro i' e; show (s.cls.set i _)[i']? = _; rw [List.getElem?_set_ne (Ne.symm e)]
  have hin : ∀ x i', i' ≠ i → InW s x i' → InW (s.moved (ix s.vars l) (K ++ R) i c k o) x i' := by
    rintro x i' hne ⟨q, e1, e2⟩
    by_cases ex : ix s.vars x = ix s.vars l
    · rw [ex, hq] at e1; cases e1
      refine ⟨K ++ R, by show (s.moved _ _ i c k o).wat[ix s.vars x]? = _; rw [ex]; exact gl, ?_⟩
      obtain ⟨p, hp, ep⟩ := List.mem_map.1 e2
      rw [← ep]
      refine List.mem_map_of_mem ?_
      rcases List.mem_append.1 hp with hp | hp
      · exact List.mem_append.2 (.inl hp)
      · rcases List.mem_cons.1 hp with rfl | hp
        · exact absurd ep.symm hne
        · exact List.mem_append.2 (.inr hp)
    · by_cases ey : ix s.vars x = ix s.vars k
      · rw [ey, hqk] at e1; cases e1
        exact ⟨qk ++ [(i, o)], by show (s.moved _ _ i c k o).wat[ix s.vars x]? = _; rw [ey]; exact gk, by rw [List.map_append]; exact List.mem_append.2 (.inl e2)⟩
      · exact ⟨q, by show (s.moved _ _ i c k o).wat[ix s.vars x]? = _; rw [gn _ ex ey]; exact e1, e2⟩
  have okc : ∀ (a b : Nat), OKc c s.trail a b → OKc { c with w0 := k, w1 := o } s.trail a b := by
    rintro a b (⟨x, h1, h2⟩ | ⟨h1, h2, h3⟩)
    · exact .inl ⟨x, h1, h2⟩
    · refine .inr ⟨hO.1, fun e => hkv (List.mem_of_mem_take e), ?_⟩
      rcases hwk with ⟨e1, e2⟩ | ⟨e1, e2⟩
      · rw [e2] at h3; exact h3
      · rw [e2] at h2; exact h2
  refine ⟨h.tr.same rfl rfl rfl rfl rfl rfl (fun k' c' x _ _ h1 h2 => ?_), ⟨?_, ?_, ?_, ?_⟩, ⟨?_, ?_⟩, ⟨hz.vars, hz.vals, by rw [hwat]; simp; exact hz.wat, hz.fac, hz.bit, hz.num, fun v hv x hx => by have := hz.lv v hv x hx; show x < (s.cls.set i _).length; simpa using this, fun x hx => by have := hz.la x hx; show x < (s.cls.set i _).length; simpa using this, by show _ ≤ (s.cls.set i _).length; rw [List.length_set]; exact hz.sum, by show _ ∧ _ ≤ (((s.cls.set i _).length : Nat) : Int); rw [List.length_set]; exact hz.count, by show _ ∧ _ ≤ (((s.cls.set i _).length : Nat) : Int); rw [List.length_set]; exact hz.stale, by show (s.cls.set i _).length ≤ _; rw [List.length_set]; exact hz.cls⟩⟩
  · by_cases e : k' = i
    · subst e; obtain rfl : c' = c := Option.some.inj (h1.symm.trans hc); exact ⟨_, gc, h2, rfl⟩
    · exact ⟨c', by rw [gcn k' e]; exact h1, h2, rfl⟩
  · intro i' c' hc'
    by_cases e : i' = i
    · subst e; rw [gc] at hc'; cases hc'; exact ok
    · rw [gcn i' e] at hc'; exact h.wt.ok i' c' hc'
  · intro i' c' hc' hg' hw
    by_cases e : i' = i
    · subst e; rw [gc] at hc'; cases hc'
      refine ⟨hko, hk, b1, ⟨_, gk, by simp⟩, ?_⟩
      obtain ⟨q, e1, e2⟩ := b5
      exact ⟨q, by show (s.moved _ _ i' c k o).wat[ix s.vars o]? = _; rw [gn _ jo (Ne.symm ko)]; exact e1, e2⟩
    · rw [gcn i' e] at hc'
      obtain ⟨a1, a2, a3, a4, a5⟩ := h.wt.ww i' c' hc' hg' hw
      exact ⟨a1, a2, a3, hin _ _ e a4, hin _ _ e a5⟩
  · intro j' q' e
    rcases hget j' q' e with ⟨_, rfl⟩ | ⟨_, rfl⟩ | ⟨_, _, e⟩
    · exact n1
    · rw [List.map_append, List.nodup_append]
      refine ⟨h.wt.nd _ _ hqk, by simp, fun a ha b hb => ?_⟩
      simp at hb; subst hb
      exact fun e => hfresh (e ▸ ha)
    · exact h.wt.nd j' q' e
  · intro j' q' e p hp
    rcases hget j' q' e with ⟨rfl, rfl⟩ | ⟨rfl, rfl⟩ | ⟨e1, e2, e⟩
    · have hpi := n2 p hp
      rw [gcn _ hpi]
      refine h.wt.we _ _ hq p ?_
      rcases List.mem_append.1 hp with hp | hp
      · exact List.mem_append.2 (.inl hp)
      · exact List.mem_append.2 (.inr (List.mem_cons_of_mem _ hp))
    · rcases List.mem_append.1 hp with hp | hp
      · have hpi : p.1 ≠ i := fun e => hfresh (e ▸ List.mem_map_of_mem hp)
        rw [gcn _ hpi]
        exact h.wt.we _ _ hqk p hp
      · simp at hp; subst hp
        exact ⟨_, gc, hO, fun _ => ⟨hO.1, b1, .inl rfl⟩⟩
    · obtain ⟨c', hc', x1, x2⟩ := h.wt.we j' q' e p hp
      by_cases ei : p.1 = i
      · rw [ei] at hc' ⊢
        obtain rfl : c' = c := Option.some.inj (hc'.symm.trans hc)
        refine ⟨_, gc, x1, fun hg'' => ⟨hO.1, (x2 hg).2.1, .inr ?_⟩⟩
        rcases (x2 hg).2.2 with y | y <;> rcases hwk with ⟨y1, y2⟩ | ⟨y1, y2⟩
        · rw [y1] at y; exact absurd y e1
        · rw [y2] at y; exact y
        · rw [y2] at y; exact y
        · rw [y1] at y; exact absurd y e1
      · exact ⟨c', by rw [gcn _ ei]; exact hc', x1, x2⟩
  · intro k' hk' i' c' hc' hg'
    by_cases e : i' = i
    · subst e; rw [gc] at hc'; cases hc'
      rcases h.la.i1 k' hk' i' c hc hg with h' | h'
      · exact .inl h'
      · exact .inr (okc _ _ h')
    · rw [gcn i' e] at hc'
      exact h.la.i1 k' hk' i' c' hc' hg'
  · intro k' hk' i' c' hc' hg' h2
    by_cases e : i' = i
    · subst e; rw [gc] at hc'; cases hc'
      exact okc _ _ (h.la.i2 k' hk' i' c hc hg h2)
    · rw [gcn i' e] at hc'
      exact h.la.i2 k' hk' i' c' hc' hg' h2

/-- All clauses that watch a literal of the trail as false are true: the head goes on. -/
theorem head_on (h : Inv s) (hlate : s.late = []) {l : Int} (hl : s.trail[s.head]? = some (-l)) {q : List (Nat × Int)} (hq : s.wat[ix s.vars l]? = some q) (hall : ∀ p ∈ q, ∀ c, s.cls[p.1]? = some c → c.gone = false → ∃ x, x ∈ c.lits ∧ x ∈ s.trail) : Inv { s with head := s.head + 1 } := by
  have hz := h.sz
  have hlt : s.head < s.trail.length := (List.getElem?_eq_some_iff.1 hl).1
  have hT : ∀ k, tk ({ s with head := s.head + 1 } : PS) k = tk s k := fun k => rfl
  have hK : ∀ k, k < s.lvs.length → hk ({ s with head := s.head + 1 } : PS) k = hk s k := by
    intro k hk1; unfold hk; simp only; rw [List.getElem?_eq_getElem hk1]
  have hKl : hk ({ s with head := s.head + 1 } : PS) s.lvs.length = s.head + 1 := hk_last _
  have last : ∀ (i : Nat) (c : Cl), s.cls[i]? = some c → c.gone = false → OKc c s.trail s.trail.length (s.head + 1) := by
    intro i c hc hg
    have h1 := h.la.i1 s.lvs.length (Nat.le_refl _) i c hc hg
    rw [tk_last, hk_last] at h1
    rcases h1 with (h1 | ⟨j, v, h1, h2, _⟩) | (h1 | ⟨h1, h2, h3⟩)
    · rw [hlate] at h1; cases h1
    · rw [List.getElem?_eq_none h1] at h2; cases h2
    · exact .inl h1
    · obtain ⟨_, a2, a3, a4, a5⟩ := h.wt.ww i c hc hg h1
      have tr : ∀ x, InW s x i → x = l → ∃ y, y ∈ c.lits ∧ y ∈ s.trail.take s.trail.length := by
        rintro x ⟨q', e1, e2⟩ rfl
        rw [hq] at e1; cases e1
        obtain ⟨p, hp, ep⟩ := List.mem_map.1 e2
        obtain ⟨y, y1, y2⟩ := hall p hp c (by rw [ep]; exact hc) hg
        exact ⟨y, y1, by rw [List.take_length]; exact y2⟩
      have nt : ∀ x, x ≠ l → -x ∉ s.trail.take s.head → -x ∉ s.trail.take (s.head + 1) := by
        intro x hx hn hm
        obtain ⟨i', i1, i2⟩ := mem_take_iff.1 hm
        by_cases e : i' = s.head
        · subst e; rw [hl] at i2; simp at i2; omega
        · exact hn (mem_take_iff.2 ⟨i', by omega, i2⟩)
      by_cases e0 : c.w0 = l
      · exact .inl (tr _ a4 e0)
      · by_cases e1 : c.w1 = l
        · exact .inl (tr _ a5 e1)
        · exact .inr ⟨h1, nt _ e0 h2, nt _ e1 h3⟩
  refine ⟨⟨h.tr.ok, h.tr.nd, h.tr.vl, h.tr.fc, h.tr.st, h.tr.sl, hlt, fun v hv => ⟨(h.tr.hv v hv).1, by have := (h.tr.hv v hv).2; show _ ≤ s.head + 1; omega⟩, h.tr.hp⟩, ⟨h.wt.ok, h.wt.ww, h.wt.nd, h.wt.we⟩, ⟨?_, ?_⟩, ⟨hz.vars, hz.vals, hz.wat, hz.fac, hz.bit, hz.num, hz.lv, hz.la, hz.sum, hz.count, hz.stale, hz.cls⟩⟩
  · intro k hk' i c hc hg
    replace hk' : k ≤ s.lvs.length := hk'
    rcases Nat.lt_or_ge k s.lvs.length with h1 | h1
    · rw [hT, hK k h1]; exact h.la.i1 k hk' i c hc hg
    · obtain rfl : k = s.lvs.length := by omega
      rw [hT, hKl, tk_last]
      exact .inr (last i c hc hg)
  · intro k hk' i c hc hg h2
    replace hk' : k ≤ s.lvs.length := hk'
    rcases Nat.lt_or_ge k s.lvs.length with h1 | h1
    · rw [hT] at h2; rw [hT, hK k h1]; exact h.la.i2 k hk' i c hc hg h2
    · obtain rfl : k = s.lvs.length := by omega
      rw [hT, hKl, tk_last]
      exact last i c hc hg
end

end Go.Proofs.Ytlmbgaconjcaiab
