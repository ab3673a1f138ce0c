/- Trails, as plain lists: where a variable stands, what is false, which lists are trails. -/
import Derived.Test.YtaepanmkofhgoaaPlain3
set_option linter.unusedVariables false
set_option linter.unusedSimpArgs false
namespace Go.Proofs.Ytaepanmkofhgoaa

/-- An assignment. -/
structure As where
  lit : Int
  lev : Int
  rsn : List Int

def a0 : As := ⟨0, 0, []⟩

/-- The assignment at a place. -/
def nth (ts : List As) (i : Nat) : As := ts.getD i a0

theorem nth_eq {ts : List As} {i : Nat} (h : i < ts.length) : nth ts i = ts[i] := by
  unfold nth; rw [List.getD_eq_getElem?_getD, List.getElem?_eq_getElem h]; rfl
theorem nth_take {ts : List As} {i k : Nat} (h : i < k) : nth (ts.take k) i = nth ts i := by
  unfold nth; rw [List.getD_eq_getElem?_getD, List.getD_eq_getElem?_getD, List.getElem?_take_of_lt h]

/-- Where a variable stands, from the head on. -/
def atI (ts : List As) (v : Int) : Int := if ts.findIdx (fun a => varI a.lit == v) < ts.length then (ts.findIdx (fun a => varI a.lit == v) : Nat) else -1

theorem atI_of {ts : List As} {v : Int} {j : Nat} (h : j < ts.length) (h1 : varI (nth ts j).lit = v) (h2 : ∀ i, i < j → varI (nth ts i).lit ≠ v) : atI ts v = j := by
  have e : ts.findIdx (fun a => varI a.lit == v) = j := by
    rw [List.findIdx_eq h]
    refine ⟨by rw [← nth_eq h]; simp [h1], fun i hi => ?_⟩
    have := h2 i hi
    rw [nth_eq (by omega)] at this
    simp [this]
  unfold atI; rw [e, if_pos h]

theorem atI_none {ts : List As} {v : Int} (h : ∀ i, i < ts.length → varI (nth ts i).lit ≠ v) : atI ts v = -1 := by
  unfold atI
  rw [if_neg]
  intro hlt
  have := List.findIdx_getElem (w := hlt)
  apply h _ hlt
  rw [nth_eq hlt]
  simpa using this

theorem atI_cases (ts : List As) (v : Int) : (atI ts v = -1 ∧ ∀ i, i < ts.length → varI (nth ts i).lit ≠ v) ∨ ∃ j, j < ts.length ∧ atI ts v = j ∧ varI (nth ts j).lit = v := by
  by_cases hlt : ts.findIdx (fun a => varI a.lit == v) < ts.length
  · right
    refine ⟨_, hlt, by unfold atI; rw [if_pos hlt], ?_⟩
    have := List.findIdx_getElem (w := hlt)
    rw [nth_eq hlt]
    simpa using this
  · left
    refine ⟨by unfold atI; rw [if_neg hlt], fun i hi => ?_⟩
    intro e
    apply hlt
    rw [List.findIdx_lt_length]
    exact ⟨ts[i], List.getElem_mem hi, by rw [← nth_eq hi]; simp [e]⟩

theorem atI_bd (ts : List As) (v : Int) : -1 ≤ atI ts v ∧ atI ts v < ts.length := by
  rcases atI_cases ts v with ⟨h, _⟩ | ⟨j, h1, h2, _⟩ <;> omega

/-- No two are of one variable. -/
def Dst (ts : List As) : Prop := ∀ i j, i < ts.length → j < ts.length → varI (nth ts i).lit = varI (nth ts j).lit → i = j
/-- All are literals. -/
def Vl (ts : List As) : Prop := ∀ i, i < ts.length → litB (nth ts i).lit 1048576 = true

theorem atI_one {ts : List As} {v : Int} {j : Nat} (hd : Dst ts) (h : j < ts.length) (h1 : varI (nth ts j).lit = v) : atI ts v = j :=
  atI_of h h1 (fun i hi e => by have := hd i j (by omega) h (by rw [e, h1]); omega)

/-- Is a number's negation in a trail? -/
def falB (ts : List As) (l : Int) : Bool := ts.any (fun a => a.lit == -l)

theorem falB_iff {ts : List As} {l : Int} : falB ts l = true ↔ ∃ j, j < ts.length ∧ (nth ts j).lit = -l := by
  unfold falB
  rw [List.any_eq_true]
  constructor
  · rintro ⟨a, ha, h⟩
    obtain ⟨j, hj, rfl⟩ := List.mem_iff_getElem.1 ha
    exact ⟨j, hj, by rw [nth_eq hj]; simpa using h⟩
  · rintro ⟨j, hj, h⟩
    exact ⟨ts[j], List.getElem_mem hj, by rw [← nth_eq hj]; simpa using h⟩

theorem varI_neg (l : Int) : varI (-l) = varI l := by unfold varI; split <;> split <;> omega
theorem varI_same {a b : Int} (h : varI a = varI b) : a = b ∨ a = -b := by unfold varI at h; split at h <;> split at h <;> omega

/-- What is false stands in the trail, at just one place. -/
theorem fal_at {ts : List As} {l : Int} (hd : Dst ts) (h : falB ts l = true) : ∃ j, j < ts.length ∧ (nth ts j).lit = -l ∧ atI ts (varI l) = j := by
  obtain ⟨j, hj, e⟩ := falB_iff.1 h
  exact ⟨j, hj, e, atI_one hd hj (by rw [e, varI_neg])⟩

theorem fal_lit {ts : List As} {l : Int} (hv : Vl ts) (h : falB ts l = true) : litB l 1048576 = true := by
  obtain ⟨j, hj, e⟩ := falB_iff.1 h
  have := hv j hj
  rw [litB_true] at *
  omega

theorem fal_of_at {ts : List As} {l : Int} (hd : Dst ts) (hv : Vl ts) (hl : litB l 1048576 = true) : falB ts l = (decide (0 ≤ atI ts (varI l)) && ((nth ts (atI ts (varI l)).toNat).lit == -l)) := by
  rw [Bool.eq_iff_iff]
  constructor
  · intro h
    obtain ⟨j, hj, e, ha⟩ := fal_at hd h
    rw [ha]; simp [e]
  · intro h
    rcases atI_cases ts (varI l) with ⟨ha, _⟩ | ⟨j, hj, ha, _⟩
    · rw [ha] at h; simp at h
    · rw [ha] at h
      simp at h
      exact falB_iff.2 ⟨j, hj, h⟩

/-- The level ahead of a place. -/
def prevL (ts : List As) (i : Nat) : Int := if i = 0 then 0 else (nth ts (i - 1)).lev
theorem prevL_zero (ts : List As) : prevL ts 0 = 0 := rfl
theorem prevL_succ (ts : List As) (i : Nat) : prevL ts (i + 1) = (nth ts i).lev := by unfold prevL; rw [if_neg (by omega)]; rfl

/-- Is an assignment's reason one, by those ahead? -/
def rsnB (pre : List As) (a : As) : Bool := decide (a.rsn.length ≤ 256) && (hasB a.rsn a.lit && a.rsn.all (fun l => l == a.lit || falB pre l))

/-- May an assignment stand behind others? -/
def okB (pre : List As) (lv : Int) (a : As) : Bool := litB a.lit 1048576 && (decide (atI pre (varI a.lit) = -1) && ((decide (a.lev = lv) && rsnB pre a) || (decide (a.lev = lv + 1) && decide (a.rsn.length = 0))))

/-- The first k are a trail's. -/
def OkTo (ts : List As) (k : Nat) : Prop := ∀ i, i < k → okB (ts.take i) (prevL ts i) (nth ts i) = true

/-- Is it a trail? -/
def mayT (ts : List As) : Bool := decide (ts.length ≤ 4096) && (List.range ts.length).all (fun i => okB (ts.take i) (prevL ts i) (nth ts i))

theorem mayT_iff {ts : List As} (hl : ts.length ≤ 4096) : mayT ts = true ↔ OkTo ts ts.length := by
  unfold mayT OkTo
  simp [hl]

theorem mayT_no {ts : List As} {i : Nat} (h : i < ts.length) (hn : okB (ts.take i) (prevL ts i) (nth ts i) = false) : mayT ts = false := by
  cases e : mayT ts with
  | false => rfl
  | true =>
    unfold mayT at e
    simp at e
    have := e.2 i h
    rw [hn] at this; cases this

theorem OkTo.succ {ts : List As} {k : Nat} (h : OkTo ts k) (hk : okB (ts.take k) (prevL ts k) (nth ts k) = true) : OkTo ts (k + 1) := by
  intro i hi
  by_cases e : i = k
  · subst e; exact hk
  · exact h i (by omega)

theorem OkTo.mono {ts : List As} {k m : Nat} (h : OkTo ts k) (hm : m ≤ k) : OkTo ts m := fun i hi => h i (by omega)

theorem okB_parts {pre : List As} {lv : Int} {a : As} (h : okB pre lv a = true) : litB a.lit 1048576 = true ∧ atI pre (varI a.lit) = -1 ∧ ((a.lev = lv ∧ rsnB pre a = true) ∨ (a.lev = lv + 1 ∧ a.rsn = [])) := by
  unfold okB at h
  simp only [Bool.and_eq_true, Bool.or_eq_true, decide_eq_true_eq] at h
  obtain ⟨h1, h2, h3⟩ := h
  refine ⟨h1, h2, h3.imp id fun h => ⟨h.1, List.length_eq_zero_iff.1 h.2⟩⟩

theorem len_take {ts : List As} {k : Nat} (h : k ≤ ts.length) : (ts.take k).length = k := by simp; omega

theorem OkTo.vl {ts : List As} {k : Nat} (h : OkTo ts k) : Vl (ts.take k) := by
  intro i hi
  have hi' : i < k := by simp at hi; omega
  rw [nth_take hi']
  exact (okB_parts (h i hi')).1

theorem OkTo.dst {ts : List As} {k : Nat} (h : OkTo ts k) (hk : k ≤ ts.length) : Dst (ts.take k) := by
  have key : ∀ i j, i < j → j < k → varI (nth ts i).lit ≠ varI (nth ts j).lit := by
    intro i j hij hj e
    have h2 := (okB_parts (h j hj)).2.1
    rcases atI_cases (ts.take j) (varI (nth ts j).lit) with ⟨_, hn⟩ | ⟨q, hq, ha, _⟩
    · have := hn i (by rw [len_take (by omega)]; exact hij)
      rw [nth_take hij] at this
      exact this e
    · rw [ha] at h2; omega
  intro i j hi hj e
  rw [len_take hk] at hi hj
  rw [nth_take hi, nth_take hj] at e
  rcases Nat.lt_trichotomy i j with hlt | he | hlt
  · exact absurd e (key i j hlt hj)
  · exact he
  · exact absurd e.symm (key j i hlt hi)

/-- A trail, whole: what is known of it. -/
structure Tr (ts : List As) : Prop where
  vl : Vl ts
  dst : Dst ts
  ok : OkTo ts ts.length

theorem Tr.of {ts : List As} (h : OkTo ts ts.length) : Tr ts := by
  have h1 := h.vl
  have h2 := h.dst (Nat.le_refl _)
  rw [List.take_length] at h1 h2
  exact ⟨h1, h2, h⟩

theorem Tr.lev_step {ts : List As} (h : Tr ts) {i : Nat} (hi : i < ts.length) : prevL ts i ≤ (nth ts i).lev ∧ (nth ts i).lev ≤ prevL ts i + 1 := by
  have := (okB_parts (h.ok i hi)).2.2
  omega

theorem Tr.lev_bd {ts : List As} (h : Tr ts) : ∀ i, i < ts.length → 0 ≤ (nth ts i).lev ∧ (nth ts i).lev ≤ i + 1 := by
  intro i
  induction i with
  | zero => intro hi; have := h.lev_step hi; rw [prevL_zero] at this; omega
  | succ i ih => intro hi; have := h.lev_step hi; rw [prevL_succ] at this; have := ih (by omega); omega

theorem Tr.lev_mono {ts : List As} (h : Tr ts) {i : Nat} : ∀ j, i ≤ j → j < ts.length → (nth ts i).lev ≤ (nth ts j).lev := by
  intro j
  induction j with
  | zero => intro h1 h2; have : i = 0 := by omega
            subst this; omega
  | succ j ih =>
    intro h1 h2
    by_cases e : i = j + 1
    · subst e; omega
    · have := ih (by omega) (by omega)
      have := h.lev_step h2
      rw [prevL_succ] at this
      omega

/-- The others of a reason stand ahead, negated. -/
theorem Tr.rsn {ts : List As} (h : Tr ts) {j : Nat} (hj : j < ts.length) {l : Int} (hl : l ∈ (nth ts j).rsn) (hne : l ≠ (nth ts j).lit) : ∃ i, i < j ∧ (nth ts i).lit = -l := by
  rcases (okB_parts (h.ok j hj)).2.2 with ⟨_, hr⟩ | ⟨_, hr⟩
  · unfold rsnB at hr
    simp only [Bool.and_eq_true, List.all_eq_true] at hr
    have := hr.2.2 l hl
    simp [hne] at this
    obtain ⟨i, hi, e⟩ := falB_iff.1 this
    rw [len_take (by omega)] at hi
    rw [nth_take hi] at e
    exact ⟨i, hi, e⟩
  · rw [hr] at hl; cases hl

/-- What is of level 0 has a reason. -/
theorem Tr.zero_rsn {ts : List As} (h : Tr ts) {j : Nat} (hj : j < ts.length) (h0 : (nth ts j).lev = 0) : (nth ts j).rsn ≠ [] := by
  rcases (okB_parts (h.ok j hj)).2.2 with ⟨_, hr⟩ | ⟨hl, hr⟩
  · unfold rsnB at hr
    simp only [Bool.and_eq_true] at hr
    intro e
    rw [e] at hr
    simp [hasB] at hr
  · exfalso
    have : 0 ≤ prevL ts j := by
      cases j with
      | zero => rw [prevL_zero]; omega
      | succ j => rw [prevL_succ]; exact (h.lev_bd j (by omega)).1
    omega

theorem Tr.rsn_len {ts : List As} (h : Tr ts) {j : Nat} (hj : j < ts.length) : (nth ts j).rsn.length ≤ 256 := by
  rcases (okB_parts (h.ok j hj)).2.2 with ⟨_, hr⟩ | ⟨hl, hr⟩
  · unfold rsnB at hr
    simp only [Bool.and_eq_true, decide_eq_true_eq] at hr
    exact hr.1
  · rw [hr]; simp

theorem Tr.rsn_lits {ts : List As} (h : Tr ts) {j : Nat} (hj : j < ts.length) : ∀ l ∈ (nth ts j).rsn, litB l 1048576 = true := by
  intro l hl
  by_cases e : l = (nth ts j).lit
  · rw [e]; exact h.vl j hj
  · obtain ⟨i, hi, e2⟩ := h.rsn hj hl e
    have := h.vl i (by omega)
    rw [litB_true] at *
    omega

/-- The place of what is false, and its level. -/
def pl (ts : List As) (l : Int) : Nat := (atI ts (varI l)).toNat
def levI (ts : List As) (l : Int) : Int := (nth ts (pl ts l)).lev

theorem Tr.pl_of {ts : List As} (h : Tr ts) {l : Int} {j : Nat} (hj : j < ts.length) (e : (nth ts j).lit = -l) : pl ts l = j ∧ atI ts (varI l) = j := by
  have := atI_one (v := varI l) h.dst hj (by rw [e, varI_neg])
  unfold pl; rw [this]; simp

theorem Tr.fal {ts : List As} (h : Tr ts) {l : Int} (hf : falB ts l = true) : pl ts l < ts.length ∧ (nth ts (pl ts l)).lit = -l ∧ atI ts (varI l) = (pl ts l : Nat) := by
  obtain ⟨j, hj, e, ha⟩ := fal_at h.dst hf
  have := (h.pl_of hj e).1
  rw [this]
  exact ⟨hj, e, ha⟩

theorem Tr.levI_bd {ts : List As} (h : Tr ts) {l : Int} (hf : falB ts l = true) : 0 ≤ levI ts l ∧ levI ts l ≤ ts.length := by
  have h1 := h.fal hf
  have := h.lev_bd _ h1.1
  unfold levI
  omega

end Go.Proofs.Ytaepanmkofhgoaa
