/- Plain mathematics: what a trail tells at each of its places. -/
import Derived.Test.YtlmbgaconjcaiabPlainR
import Derived.Test.YtlmbgaconjcaiabHa
import Derived.Test.YtlmbgaconjcaiabLa
set_option linter.unusedVariables false
set_option linter.unusedSimpArgs false
namespace Go.Proofs.Ytlmbgaconjcaiab

/-- How many levels begin ahead of a place. -/
def lvB (lvs : List Lv) (i : Nat) : Nat := lvs.countP (fun v => decide (v.start < i))

theorem lvB_lev (lvs : List Lv) (i : Nat) : lvB lvs (i + 1) = levAt lvs i := by
  unfold lvB levAt
  congr 1
  funext v
  simp [Nat.lt_succ_iff]

theorem lvB_at : ∀ (lvs : List Lv) (j i : Nat) (v : Lv), lvs.Pairwise (fun a b => a.start < b.start) → lvs[j]? = some v → v.start = i → lvB lvs i = j ∧ lvB lvs (i + 1) = j + 1
  | [], j, i, v, _, h, _ => by simp at h
  | a :: r, 0, i, v, hp, h, e => by
    simp at h
    subst h
    subst e
    rw [List.pairwise_cons] at hp
    have h1 : r.countP (fun w => decide (w.start < a.start)) = 0 := by
      rw [List.countP_eq_zero]; intro w hw; have := hp.1 w hw; simp; omega
    have h2 : r.countP (fun w => decide (w.start < a.start + 1)) = 0 := by
      rw [List.countP_eq_zero]; intro w hw; have := hp.1 w hw; simp; omega
    unfold lvB
    rw [List.countP_cons, List.countP_cons, h1, h2]
    simp
  | a :: r, j + 1, i, v, hp, h, e => by
    rw [List.pairwise_cons] at hp
    obtain ⟨h1, h2⟩ := lvB_at r j i v hp.2 (by simpa using h) e
    have ha := hp.1 v (List.mem_of_getElem? (by simpa using h))
    unfold lvB at h1 h2 ⊢
    rw [List.countP_cons, List.countP_cons, h1, h2]
    have e1 : decide (a.start < i) = true := decide_eq_true (by omega)
    have e2 : decide (a.start < i + 1) = true := decide_eq_true (by omega)
    simp [e1, e2]

theorem lvB_same (lvs : List Lv) (i : Nat) (h : ∀ v ∈ lvs, v.start ≠ i) : lvB lvs (i + 1) = lvB lvs i := by
  unfold lvB
  apply List.countP_congr
  intro v hv
  have := h v hv
  simp; omega

theorem lvB_all (lvs : List Lv) (n : Nat) (h : ∀ v ∈ lvs, v.start < n) : lvB lvs n = lvs.length := by
  unfold lvB
  rw [List.countP_eq_length]
  intro v hv
  exact decide_eq_true (h v hv)

section
variable {s : PS}

/-- What is told at a place of the trail. -/
structure At (s : PS) (i : Nat) (x : Int) : Prop where
  who : (s.rsnT x = -1 ∧ lvB s.lvs i < s.dec.length ∧ s.dec[lvB s.lvs i]? = some x ∧ lvB s.lvs (i + 1) = lvB s.lvs i + 1) ∨ ∃ (k : Nat) (c : Cl), s.rsnT x = (k : Int) ∧ s.cls[k]? = some c ∧ c.gone = false ∧ x ∈ c.lits ∧ brokenP (s.trail.take i) (wo c.lits x) = true ∧ lvB s.lvs (i + 1) = lvB s.lvs i
  lev : s.levT x = (lvB s.lvs (i + 1) : Nat) ∧ s.levT (-x) = (lvB s.lvs (i + 1) : Nat)
  val : s.valT x = 1 ∧ s.valT (-x) = -1
  new : hasB (s.trail.take i) x = false ∧ hasB (s.trail.take i) (-x) = false
  lt : Lt s.vars x

theorem at_place (h : Inv s) {i : Nat} {x : Int} (hx : s.trail[i]? = some x) : At s i x := by
  have hm := List.mem_of_getElem? hx
  have hl := h.tr.ok x hm
  have hl2 := hl.neg
  have hi : i < s.trail.length := (List.getElem?_eq_some_iff.1 hx).1
  have hnew : x ∉ s.trail.take i ∧ -x ∉ s.trail.take i := by
    have key : ∀ y ∈ s.trail.take i, y ≠ x ∧ y ≠ -x := by
      intro y hy
      obtain ⟨j, hj, hyj⟩ := mem_take_iff.1 hy
      have hp := List.pairwise_iff_getElem.1 h.tr.nd j i (by omega) hi hj
      obtain ⟨_, e1⟩ := List.getElem?_eq_some_iff.1 hyj
      obtain ⟨_, e2⟩ := List.getElem?_eq_some_iff.1 hx
      rw [e1, e2] at hp
      exact hp
    exact ⟨fun q => (key x q).1 rfl, fun q => (key (-x) q).2 rfl⟩
  have hneg : -x ∉ s.trail := by
    intro q
    obtain ⟨j, hj⟩ := List.mem_iff_getElem?.1 q
    have hjl : j < s.trail.length := (List.getElem?_eq_some_iff.1 hj).1
    obtain ⟨_, e1⟩ := List.getElem?_eq_some_iff.1 hj
    obtain ⟨_, e2⟩ := List.getElem?_eq_some_iff.1 hx
    rcases Nat.lt_trichotomy i j with c | c | c
    · have hp := List.pairwise_iff_getElem.1 h.tr.nd i j hi hjl c
      rw [e1, e2] at hp
      exact hp.2 (by omega)
    · subst c; rw [e1] at e2; have := hl.1; omega
    · have hp := List.pairwise_iff_getElem.1 h.tr.nd j i hjl hi c
      rw [e1, e2] at hp
      exact hp.2 rfl
  have hv1 : s.val x = 1 := by rw [h.tr.vl x hl]; unfold tval; rw [if_pos hm]
  have hv2 : s.val (-x) = -1 := by rw [h.tr.vl _ hl2]; unfold tval; rw [if_neg hneg, if_pos (by simpa using hm)]
  have hT1 : s.valT x = 1 := by unfold PS.valT; rw [if_pos (ltB_true.2 hl), hv1]
  have hT2 : s.valT (-x) = -1 := by unfold PS.valT; rw [if_pos (ltB_true.2 hl2), hv2]
  obtain ⟨r, hf, hR⟩ := h.tr.fc i x hx
  have hf2 : s.fct (-x) = s.fct x := by unfold PS.fct; rw [Int.natAbs_neg]
  have hrs : s.rsnT x = r := by unfold PS.rsnT; rw [hT1, hf]; simp
  have hlv : s.levT x = (levAt s.lvs i : Nat) := by unfold PS.levT; rw [hT1, hf]; simp
  have hlv2 : s.levT (-x) = (levAt s.lvs i : Nat) := by unfold PS.levT; rw [hT2, hf2, hf]; simp
  refine ⟨?_, by rw [lvB_lev]; exact ⟨hlv, hlv2⟩, ⟨hT1, hT2⟩, ⟨hasB_false.2 hnew.1, hasB_false.2 hnew.2⟩, hl⟩
  rcases hR with ⟨hr, v, hv, he⟩ | ⟨hno, k, c, hr, hc, hg, hxc, hbr⟩
  · left
    obtain ⟨j, hj⟩ := List.mem_iff_getElem?.1 hv
    obtain ⟨k1, k2⟩ := lvB_at s.lvs j i v h.tr.st hj he
    have hjl : j < s.lvs.length := (List.getElem?_eq_some_iff.1 hj).1
    refine ⟨by rw [hrs, hr], by rw [k1]; simp [PS.dec]; exact hjl, ?_, by rw [k1, k2]⟩
    rw [k1]
    unfold PS.dec
    rw [List.getElem?_map, hj]
    simp [he, List.getD_eq_getElem?_getD, hx]
  · right
    refine ⟨k, c, by rw [hrs, hr], hc, hg, hxc, ?_, lvB_same _ _ hno⟩
    unfold brokenP
    rw [List.all_eq_true]
    intro y hy
    have : y ∈ c.lits ∧ y ≠ x := by
      unfold wo at hy
      simpa using hy
    exact decide_eq_true (hbr y this.1 this.2)

theorem at_end (h : Inv s) : lvB s.lvs s.trail.length = s.dec.length := by
  rw [lvB_all _ _ h.tr.sl, PS.dec, List.length_map]
end
end Go.Proofs.Ytlmbgaconjcaiab
