/- Plain mathematics: what holds of a propagator between its calls; a literal comes to be true. -/
import Derived.Test.YtlmbgaconjcaiabPlainG
set_option linter.unusedVariables false
set_option linter.unusedSimpArgs false
namespace Go.Proofs.Ytlmbgaconjcaiab

/-- A literal's value by what is true. -/
def tval (t : List Int) (x : Int) : Int := if x ∈ t then 1 else if -x ∈ t then -1 else 0

/-- How many levels begin up to a place. -/
def levAt (lvs : List Lv) (i : Nat) : Nat := lvs.countP (fun v => decide (v.start ≤ i))

/-- The trail's length, and the head, that a Back to a level leaves. -/
def tk (s : PS) (k : Nat) : Nat := match s.lvs[k]? with
  | some v => v.start
  | none => s.trail.length
def hk (s : PS) (k : Nat) : Nat := match s.lvs[k]? with
  | some v => v.head
  | none => s.head
/-- A clause is late, behind a Back to a level. -/
def lateFrom (s : PS) (k i : Nat) : Prop := i ∈ s.late ∨ ∃ j v, k ≤ j ∧ s.lvs[j]? = some v ∧ i ∈ v.late
/-- A clause need not be looked at: it is true, or what it watches was not gone through as false. -/
def OKc (c : Cl) (t : List Int) (a b : Nat) : Prop := (∃ x, x ∈ c.lits ∧ x ∈ t.take a) ∨ (c.w1 ≠ 0 ∧ -c.w0 ∉ t.take b ∧ -c.w1 ∉ t.take b)
/-- Two unlike literals of a clause are not false. -/
def Two (c : Cl) (t : List Int) (a : Nat) : Prop := ∃ x y, x ∈ c.lits ∧ y ∈ c.lits ∧ x ≠ y ∧ -x ∉ t.take a ∧ -y ∉ t.take a

/-- Why a literal of the trail is there. -/
def Rsn (s : PS) (i : Nat) (x r : Int) : Prop :=
  (r = -1 ∧ ∃ v ∈ s.lvs, v.start = i) ∨
  ((∀ v ∈ s.lvs, v.start ≠ i) ∧ ∃ (k : Nat) (c : Cl), r = (k : Int) ∧ s.cls[k]? = some c ∧ c.gone = false ∧ x ∈ c.lits ∧ ∀ y ∈ c.lits, y ≠ x → -y ∈ s.trail.take i)

structure Tr (s : PS) : Prop where
  ok : ∀ x ∈ s.trail, Lt s.vars x
  nd : s.trail.Pairwise (fun a b => a ≠ b ∧ a ≠ -b)
  vl : ∀ x, Lt s.vars x → s.val x = tval s.trail x
  fc : ∀ (i : Nat) (x : Int), s.trail[i]? = some x → ∃ r, s.fct x = ((i : Int), ((levAt s.lvs i : Nat) : Int), r) ∧ Rsn s i x r
  st : s.lvs.Pairwise (fun a b => a.start < b.start)
  sl : ∀ v ∈ s.lvs, v.start < s.trail.length
  hd : s.head ≤ s.trail.length
  hv : ∀ v ∈ s.lvs, v.head ≤ v.start ∧ v.head ≤ s.head
  hp : s.lvs.Pairwise (fun a b => a.head ≤ b.head)

def InW (s : PS) (l : Int) (i : Nat) : Prop := ∃ q, s.wat[ix s.vars l]? = some q ∧ i ∈ q.map Prod.fst

structure Wt (s : PS) : Prop where
  ok : ∀ (i : Nat) c, s.cls[i]? = some c → ∀ x ∈ c.lits, Lt s.vars x
  ww : ∀ (i : Nat) c, s.cls[i]? = some c → c.gone = false → c.w1 ≠ 0 → c.w0 ≠ c.w1 ∧ c.w0 ∈ c.lits ∧ c.w1 ∈ c.lits ∧ InW s c.w0 i ∧ InW s c.w1 i
  nd : ∀ (j : Nat) q, s.wat[j]? = some q → (q.map Prod.fst).Nodup
  we : ∀ (j : Nat) q, s.wat[j]? = some q → ∀ p ∈ q, ∃ c, s.cls[p.1]? = some c ∧ Lt s.vars p.2 ∧ (c.gone = false → c.w1 ≠ 0 ∧ p.2 ∈ c.lits ∧ (j = ix s.vars c.w0 ∨ j = ix s.vars c.w1))

structure La (s : PS) : Prop where
  i1 : ∀ k, k ≤ s.lvs.length → ∀ (i : Nat) c, s.cls[i]? = some c → c.gone = false → lateFrom s k i ∨ OKc c s.trail (tk s k) (hk s k)
  i2 : ∀ k, k ≤ s.lvs.length → ∀ (i : Nat) c, s.cls[i]? = some c → c.gone = false → Two c s.trail (tk s k) → OKc c s.trail (tk s k) (hk s k)

structure Sz (s : PS) : Prop where
  vars : s.vars ≤ 1048576
  vals : s.vals.length = 2 * s.vars + 1
  wat : s.wat.length = 2 * s.vars + 1
  fac : s.fac.length = s.vars + 1
  bit : ∀ x ∈ s.vals, -1 ≤ x ∧ x ≤ 1
  num : ∀ p ∈ s.fac, 0 ≤ p.1 ∧ p.1 ≤ 1048576 ∧ 0 ≤ p.2.1 ∧ p.2.1 ≤ 1048576 ∧ -1 ≤ p.2.2 ∧ p.2.2 ≤ 1048576
  lv : ∀ v ∈ s.lvs, ∀ i ∈ v.late, i < s.cls.length
  la : ∀ i ∈ s.late, i < s.cls.length
  sum : s.late.length + (s.lvs.map (fun v => v.late.length)).sum ≤ s.cls.length
  count : 0 ≤ s.count ∧ s.count ≤ s.cls.length
  stale : 0 ≤ s.stale ∧ s.stale ≤ s.cls.length
  cls : s.cls.length ≤ 1048576

structure Inv (s : PS) : Prop where
  tr : Tr s
  wt : Wt s
  la : La s
  sz : Sz s

theorem mem_take_iff {α : Type} {t : List α} {n : Nat} {x : α} : x ∈ t.take n ↔ ∃ i, i < n ∧ t[i]? = some x := by
  rw [List.mem_iff_getElem?]
  constructor
  · rintro ⟨i, hi⟩
    rw [List.getElem?_take] at hi
    split at hi
    · exact ⟨i, by assumption, hi⟩
    · cases hi
  · rintro ⟨i, h1, h2⟩
    exact ⟨i, by rw [List.getElem?_take, if_pos h1]; exact h2⟩

theorem take_mono {α : Type} {t : List α} {a b : Nat} {x : α} (h : x ∈ t.take a) (hab : a ≤ b) : x ∈ t.take b := by
  obtain ⟨i, h1, h2⟩ := mem_take_iff.1 h
  exact mem_take_iff.2 ⟨i, by omega, h2⟩
theorem take_snoc_le {α : Type} (t : List α) (l : α) {a : Nat} (h : a ≤ t.length) : (t ++ [l]).take a = t.take a := by
  rw [List.take_append_of_le_length h]

section
variable {t : List Int}

theorem nd_neg (hn : t.Pairwise (fun a b => a ≠ b ∧ a ≠ -b)) {x : Int} (h0 : x ≠ 0) (hx : x ∈ t) : -x ∉ t := by
  intro hy
  obtain ⟨i, hi⟩ := List.mem_iff_getElem?.1 hx
  obtain ⟨j, hj⟩ := List.mem_iff_getElem?.1 hy
  obtain ⟨hi', ei⟩ := List.getElem?_eq_some_iff.1 hi
  obtain ⟨hj', ej⟩ := List.getElem?_eq_some_iff.1 hj
  rcases Nat.lt_trichotomy i j with h | h | h
  · have := (List.pairwise_iff_getElem.1 hn i j hi' hj' h).2
    rw [ei, ej] at this; omega
  · subst h; rw [ei] at ej; omega
  · have := (List.pairwise_iff_getElem.1 hn j i hj' hi' h).2
    rw [ei, ej] at this; omega
theorem nd_inj (hn : t.Pairwise (fun a b => a ≠ b ∧ a ≠ -b)) {x : Int} {i j : Nat} (hi : t[i]? = some x) (hj : t[j]? = some x) : i = j := by
  obtain ⟨hi', ei⟩ := List.getElem?_eq_some_iff.1 hi
  obtain ⟨hj', ej⟩ := List.getElem?_eq_some_iff.1 hj
  rcases Nat.lt_trichotomy i j with h | h | h
  · have := (List.pairwise_iff_getElem.1 hn i j hi' hj' h).1
    rw [ei, ej] at this; exact absurd rfl this
  · exact h
  · have := (List.pairwise_iff_getElem.1 hn j i hj' hi' h).1
    rw [ei, ej] at this; exact absurd rfl this
theorem tval_one {x : Int} : tval t x = 1 ↔ x ∈ t := by
  unfold tval; split
  · simp [*]
  · split <;> simp [*]
theorem tval_neg (hn : t.Pairwise (fun a b => a ≠ b ∧ a ≠ -b)) {x : Int} (h0 : x ≠ 0) : tval t x < 0 ↔ -x ∈ t := by
  unfold tval; split
  · rename_i h
    have := nd_neg hn h0 h
    simp [this]
  · split <;> simp [*]
theorem tval_zero {x : Int} : tval t x = 0 ↔ x ∉ t ∧ -x ∉ t := by
  unfold tval; split
  · simp [*]
  · split <;> simp [*]
theorem tval_bd (x : Int) : -1 ≤ tval t x ∧ tval t x ≤ 1 := by
  unfold tval; split
  · simp
  · split <;> simp
end

section
variable {s : PS}
theorem Inv.vneg (h : Inv s) {x : Int} (hx : Lt s.vars x) : s.val x < 0 ↔ -x ∈ s.trail := by rw [h.tr.vl x hx]; exact tval_neg h.tr.nd hx.1
theorem Inv.vone (h : Inv s) {x : Int} (hx : Lt s.vars x) : s.val x = 1 ↔ x ∈ s.trail := by rw [h.tr.vl x hx]; exact tval_one
theorem Inv.vzero (h : Inv s) {x : Int} (hx : Lt s.vars x) : s.val x = 0 ↔ x ∉ s.trail ∧ -x ∉ s.trail := by rw [h.tr.vl x hx]; exact tval_zero

theorem tk_last (s : PS) : tk s s.lvs.length = s.trail.length := by unfold tk; rw [List.getElem?_eq_none (Nat.le_refl _)]
theorem hk_last (s : PS) : hk s s.lvs.length = s.head := by unfold hk; rw [List.getElem?_eq_none (Nat.le_refl _)]
theorem Tr.tk_le (h : Tr s) (k : Nat) : tk s k ≤ s.trail.length := by
  unfold tk
  cases e : s.lvs[k]? with
  | none => exact Nat.le_refl _
  | some v => exact Nat.le_of_lt (h.sl v (List.mem_of_getElem? e))
theorem Tr.hk_le (h : Tr s) (k : Nat) : hk s k ≤ tk s k ∧ hk s k ≤ s.head := by
  unfold hk tk
  cases e : s.lvs[k]? with
  | none => exact ⟨h.hd, Nat.le_refl _⟩
  | some v => exact h.hv v (List.mem_of_getElem? e)

theorem levAt_all {lvs : List Lv} {i : Nat} (h : ∀ v ∈ lvs, v.start ≤ i) : levAt lvs i = lvs.length := by
  unfold levAt; rw [List.countP_eq_length]; intro v hv; simpa using h v hv

/-- What a clause's watches ask stays right where more is true. -/
theorem OKc.snoc {c : Cl} {t : List Int} {a b : Nat} (l : Int) (h : OKc c t a b) (hb : b ≤ t.length) : OKc c (t ++ [l]) (a + 1) b := by
  rcases h with ⟨x, h1, h2⟩ | ⟨h1, h2, h3⟩
  · refine .inl ⟨x, h1, ?_⟩
    obtain ⟨i, i1, i2⟩ := mem_take_iff.1 h2
    refine mem_take_iff.2 ⟨i, by omega, ?_⟩
    rw [List.getElem?_append_left (List.getElem?_eq_some_iff.1 i2).1]; exact i2
  · exact .inr ⟨h1, by rw [take_snoc_le _ _ hb]; exact h2, by rw [take_snoc_le _ _ hb]; exact h3⟩

theorem tk_put (s : PS) (l r : Int) {k : Nat} (hk' : k < s.lvs.length) : tk (s.put l r) k = tk s k := by
  unfold tk; simp only [put_lvs]; rw [List.getElem?_eq_getElem hk']
theorem hk_put (s : PS) (l r : Int) (k : Nat) : hk (s.put l r) k = hk s k := rfl

theorem getD_set_self (xs : List Int) (i : Nat) (u : Int) (h : i < xs.length) : (xs.set i u).getD i 0 = u := by
  rw [List.getD_eq_getElem?_getD, List.getElem?_set_self h]; rfl
theorem getD_set_ne (xs : List Int) {i j : Nat} (u : Int) (h : i ≠ j) : (xs.set i u).getD j 0 = xs.getD j 0 := by
  rw [List.getD_eq_getElem?_getD, List.getElem?_set_ne h, List.getD_eq_getElem?_getD]

theorem put_val (hz : Sz s) {l : Int} (r : Int) (hl : Lt s.vars l) (x : Int) (hx : Lt s.vars x) : (s.put l r).val x = if x = l then 1 else if x = -l then -1 else s.val x := by
  have h1 := ix_lt hl
  have h2 := ix_lt hl.neg
  unfold PS.val PS.put
  by_cases e2 : x = -l
  · subst e2
    have : ¬ (-l = l) := by have := hl.1; omega
    rw [if_neg this, if_pos rfl, getD_set_self]
    rw [List.length_set, hz.vals]; exact h2
  · have n2 : ix s.vars (-l) ≠ ix s.vars x := fun e => e2 (ix_inj hx hl.neg e.symm)
    rw [if_neg e2, getD_set_ne _ _ n2]
    by_cases e1 : x = l
    · subst e1; rw [if_pos rfl, getD_set_self]; rw [hz.vals]; exact h1
    · rw [if_neg e1, getD_set_ne _ _ (fun e => e1 (ix_inj hx hl e.symm))]

theorem put_fct (hz : Sz s) {l : Int} (r : Int) (hl : Lt s.vars l) (x : Int) : (s.put l r).fct x = if x.natAbs = l.natAbs then ((s.trail.length : Int), (s.lvs.length : Int), r) else s.fct x := by
  unfold PS.fct PS.put
  by_cases e : x.natAbs = l.natAbs
  · rw [if_pos e, e, List.getD_eq_getElem?_getD, List.getElem?_set_self (by rw [hz.fac]; exact hl.abs.1)]; rfl
  · rw [if_neg e, List.getD_eq_getElem?_getD, List.getElem?_set_ne (Ne.symm e), List.getD_eq_getElem?_getD]

theorem bit_set' {xs : List Int} {i : Nat} {u : Int} (h : ∀ x ∈ xs, -1 ≤ x ∧ x ≤ 1) (hu : -1 ≤ u ∧ u ≤ 1) : ∀ x ∈ xs.set i u, -1 ≤ x ∧ x ≤ 1 := by
  intro x hx
  rcases List.mem_or_eq_of_mem_set hx with h' | rfl
  · exact h x h'
  · exact hu

theorem lvs_len (h : Tr s) : s.lvs.length ≤ s.trail.length := by
  have key : ∀ (l : List Lv) (n : Nat), l.Pairwise (fun a b => a.start < b.start) → (∀ v ∈ l, v.start < n) → l.length ≤ n := by
    intro l
    induction l with
    | nil => intro n _ _; exact Nat.zero_le _
    | cons a r ih =>
      intro n hp hn
      have h1 := ih (n - (a.start + 1)) -- not used
      have : ∀ (q : List Lv) (m : Nat), q.Pairwise (fun a b => a.start < b.start) → (∀ v ∈ q, m ≤ v.start ∧ v.start < n) → q.length + m ≤ n ∨ q = [] := by
        intro q
        induction q with
        | nil => intro m _ _; exact .inr rfl
        | cons b q ih2 =>
          intro m hp hm
          left
          have hb := hm b (by simp)
          rcases ih2 (b.start + 1) (List.pairwise_cons.1 hp).2 (fun v hv => ⟨(List.pairwise_cons.1 hp).1 v hv, (hm v (List.mem_cons_of_mem _ hv)).2⟩) with h | h
          · simp only [List.length_cons]; omega
          · subst h; simp; omega
      rcases this (a :: r) 0 hp (fun v hv => ⟨Nat.zero_le _, hn v hv⟩) with h | h
      · simpa using h
      · cases h
  exact key s.lvs s.trail.length h.st h.sl

theorem trail_len (h : Tr s) : s.trail.length ≤ s.vars := by
  have key : ∀ (V : Nat) (t : List Int), t.Pairwise (fun a b => a ≠ b ∧ a ≠ -b) → (∀ x ∈ t, Lt V x) → t.length ≤ V := by
    intro V
    induction V with
    | zero =>
      intro t _ ht
      cases t with
      | nil => exact Nat.le_refl _
      | cons x r => have := ht x (by simp); unfold Lt at this; omega
    | succ V ih =>
      intro t hp ht
      by_cases hex : ∃ x ∈ t, x.natAbs = V + 1
      · obtain ⟨x, hx, hxa⟩ := hex
        obtain ⟨a, b, rfl⟩ := List.append_of_mem hx
        have hpw := List.pairwise_append.1 hp
        have hpx := List.pairwise_cons.1 hpw.2.1
        have h' := ih (a ++ b) (List.pairwise_append.2 ⟨hpw.1, hpx.2, fun u hu v hv => hpw.2.2 u hu v (List.mem_cons_of_mem _ hv)⟩) (fun y hy => by
          have hy' := ht y (by rcases List.mem_append.1 hy with h | h <;> simp [h])
          have hne : y ≠ x ∧ y ≠ -x := by
            rcases List.mem_append.1 hy with h | h
            · exact hpw.2.2 y h x (by simp)
            · have := hpx.1 y h; exact ⟨fun e => this.1 e.symm, fun e => this.2 (by omega)⟩
          unfold Lt at *; omega)
        simp only [List.length_append, List.length_cons] at h' ⊢; omega
      · have := ih t hp (fun y hy => by
          have hy' := ht y hy
          have : y.natAbs ≠ V + 1 := fun e => hex ⟨y, hy, e⟩
          unfold Lt at *; omega)
        omega
  exact key s.vars s.trail h.nd h.ok

/-- An open literal of a unit clause comes to be true. -/
theorem put_inv (h : Inv s) {l : Int} (hl : Lt s.vars l) (h1 : l ∉ s.trail) (h2 : -l ∉ s.trail) {k : Nat} {c : Cl} (hc : s.cls[k]? = some c) (hg : c.gone = false) (hlc : l ∈ c.lits) (ho : ∀ y ∈ c.lits, y ≠ l → -y ∈ s.trail) : Inv (s.put l k) := by
  have hz := h.sz
  have hk1 : k < s.cls.length := (List.getElem?_eq_some_iff.1 hc).1
  have hlen := trail_len h.tr
  have hlv := lvs_len h.tr
  refine ⟨⟨?_, ?_, ?_, ?_, h.tr.st, ?_, ?_, h.tr.hv, h.tr.hp⟩, ⟨h.wt.ok, h.wt.ww, h.wt.nd, h.wt.we⟩, ⟨?_, ?_⟩, ⟨hz.vars, by simp [PS.put, hz.vals], hz.wat, by simp [PS.put, hz.fac], ?_, ?_, hz.lv, hz.la, hz.sum, hz.count, hz.stale, hz.cls⟩⟩
  · intro x hx
    rcases List.mem_append.1 hx with h' | h'
    · exact h.tr.ok x h'
    · simp at h'; subst h'; exact hl
  · show (s.trail ++ [l]).Pairwise _
    rw [List.pairwise_append]
    refine ⟨h.tr.nd, by simp, fun a ha b hb => ?_⟩
    simp at hb; subst hb
    exact ⟨fun e => h1 (e ▸ ha), fun e => h2 (e ▸ ha)⟩
  · intro x hx
    rw [put_val hz k hl x hx]
    show _ = tval (s.trail ++ [l]) x
    by_cases e1 : x = l
    · subst e1; rw [if_pos rfl]; exact (tval_one.2 (by simp)).symm
    · rw [if_neg e1]
      by_cases e2 : x = -l
      · subst e2
        rw [if_pos rfl]
        unfold tval
        rw [if_neg (by simp; exact ⟨h2, e1⟩), if_pos (by simp)]
      · rw [if_neg e2, h.tr.vl x hx]
        have e3 : ¬ (-x = l) := fun e => e2 (by omega)
        unfold tval
        simp [e1, e3]
  · intro i x hx
    have hx' : (s.trail ++ [l])[i]? = some x := hx
    rcases Nat.lt_or_ge i s.trail.length with hi | hi
    · rw [List.getElem?_append_left hi] at hx'
      obtain ⟨r, e, hR⟩ := h.tr.fc i x hx'
      have hxm := List.mem_of_getElem? hx'
      have hab : x.natAbs ≠ l.natAbs := by
        intro e
        rcases Int.natAbs_eq_natAbs_iff.1 e with e | e
        · exact h1 (e ▸ hxm)
        · exact h2 (e ▸ hxm)
      refine ⟨r, by rw [put_fct hz k hl, if_neg hab, e]; rfl, ?_⟩
      rcases hR with hR | ⟨hR, k', c', e1, e2, e3, e4, e5⟩
      · exact .inl hR
      · refine .inr ⟨hR, k', c', e1, e2, e3, e4, fun y hy hne => ?_⟩
        show -y ∈ (s.trail ++ [l]).take i
        rw [take_snoc_le _ _ (Nat.le_of_lt hi)]; exact e5 y hy hne
    · have hi' : i < s.trail.length + 1 := by have := (List.getElem?_eq_some_iff.1 hx').1; simpa using this
      have hii : i = s.trail.length := by omega
      subst hii
      simp at hx'
      subst hx'
      refine ⟨k, by rw [put_fct hz k hl, if_pos rfl]; rw [show levAt (s.put l k).lvs s.trail.length = s.lvs.length from levAt_all (fun v hv => Nat.le_of_lt (h.tr.sl v hv))], .inr ⟨fun v hv => ?_, k, c, rfl, hc, hg, hlc, fun y hy hne => ?_⟩⟩
      · have := h.tr.sl v hv; omega
      · show -y ∈ (s.trail ++ [l]).take s.trail.length
        rw [take_snoc_le _ _ (Nat.le_refl _), List.take_length]; exact ho y hy hne
  · intro v hv
    have := h.tr.sl v hv
    show v.start < (s.trail ++ [l]).length
    simp; omega
  · show s.head ≤ (s.trail ++ [l]).length
    have := h.tr.hd
    simp; omega
  · intro j hj i c' hc' hg'
    replace hj : j ≤ s.lvs.length := hj
    rcases h.la.i1 j hj i c' hc' hg' with h' | h'
    · exact .inl h'
    · right
      rcases Nat.lt_or_ge j s.lvs.length with hlt | hge
      · rw [tk_put s l k hlt, hk_put]
        have t1 := h.tr.tk_le j
        have t2 := (h.tr.hk_le j).1
        show OKc c' (s.trail ++ [l]) _ _
        unfold OKc at h' ⊢
        rw [take_snoc_le _ _ t1, take_snoc_le _ _ (by omega)]; exact h'
      · have hjj : j = s.lvs.length := by omega
        subst hjj
        rw [tk_last, hk_last] at h'
        have e1 : tk (s.put l k) s.lvs.length = s.trail.length + 1 := by
          have := tk_last (s.put l k); rw [put_lvs, put_trail] at this; simpa using this
        rw [e1, hk_put, hk_last]
        exact h'.snoc l h.tr.hd
  · intro j hj i c' hc' hg' h2'
    replace hj : j ≤ s.lvs.length := hj
    rcases Nat.lt_or_ge j s.lvs.length with hlt | hge
    · rw [tk_put s l k hlt] at h2' ⊢
      rw [hk_put]
      have t1 := h.tr.tk_le j
      have t2 := (h.tr.hk_le j).1
      have h3 : Two c' s.trail (tk s j) := by
        unfold Two at h2' ⊢
        rw [put_trail, take_snoc_le _ _ t1] at h2'; exact h2'
      have h' := h.la.i2 j hj i c' hc' hg' h3
      show OKc c' (s.trail ++ [l]) _ _
      unfold OKc at h' ⊢
      rw [take_snoc_le _ _ t1, take_snoc_le _ _ (by omega)]; exact h'
    · have hjj : j = s.lvs.length := by omega
      subst hjj
      have e1 : tk (s.put l k) s.lvs.length = s.trail.length + 1 := by
        have := tk_last (s.put l k); rw [put_lvs, put_trail] at this; simpa using this
      rw [e1] at h2' ⊢
      rw [hk_put, hk_last]
      have h3 : Two c' s.trail (tk s s.lvs.length) := by
        rw [tk_last]
        obtain ⟨x, y, a1, a2, a3, a4, a5⟩ := h2'
        rw [put_trail, List.take_of_length_le (by simp)] at a4 a5
        rw [List.mem_append, not_or] at a4 a5
        exact ⟨x, y, a1, a2, a3, by rw [List.take_length]; exact a4.1, by rw [List.take_length]; exact a5.1⟩
      have h' := h.la.i2 _ hj i c' hc' hg' h3
      rw [tk_last, hk_last] at h'
      exact h'.snoc l h.tr.hd
  · exact bit_set' (bit_set' hz.bit (by omega)) (by omega)
  · intro p hp
    rcases List.mem_or_eq_of_mem_set hp with h' | rfl
    · exact hz.num p h'
    · have := hz.vars; have := hz.cls; simp only; omega
end

end Go.Proofs.Ytlmbgaconjcaiab
