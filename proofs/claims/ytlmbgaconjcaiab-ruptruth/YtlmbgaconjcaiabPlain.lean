/- What the first layer's document says of literals, clauses and lists, as plain functions on integers and lists; no program is named here. -/
import Derived.Below
set_option linter.unusedVariables false
set_option linter.unusedSimpArgs false
namespace Go.Proofs.Ytlmbgaconjcaiab

/-- A number is a literal of a variable up to t. -/
def litB (l t : Int) : Bool := decide (l ≠ 0 ∧ -t ≤ l ∧ l ≤ t)

/-- A literal's variable. -/
def varI (l : Int) : Int := if l < 0 then -l else l

/-- A list is a clause of variables up to t. -/
def mayB (c : List Int) (t : Int) : Bool := decide (c.length ≤ 4096) && c.all (fun l => litB l t)

def hasB (c : List Int) (n : Int) : Bool := c.any (fun x => x == n)

def tautB (c : List Int) : Bool := c.any (fun x => hasB c (-x))

/-- All numbers fit 64 bits. -/
def Fit (xs : List Int) : Prop := ∀ x ∈ xs, -9223372036854775808 ≤ x ∧ x ≤ 9223372036854775807

theorem litB_true {l t : Int} : litB l t = true ↔ (l ≠ 0 ∧ -t ≤ l ∧ l ≤ t) := by simp [litB]

theorem all_take_snoc (p : Int → Bool) (xs : List Int) (k : Nat) (h : k < xs.length) (hk : (xs.take k).all p = true) (hp : p xs[k] = true) : (xs.take (k + 1)).all p = true := by
  rw [List.take_succ_eq_append_getElem h, List.all_append, hk]; simp [hp]

theorem all_false_at (p : Int → Bool) (xs : List Int) (k : Nat) (h : k < xs.length) (hp : p xs[k] = false) : xs.all p = false := by
  rw [List.all_eq_false]; exact ⟨xs[k], List.getElem_mem h, by simp [hp]⟩

theorem any_true_at (p : Int → Bool) (xs : List Int) (k : Nat) (h : k < xs.length) (hp : p xs[k] = true) : xs.any p = true := by
  rw [List.any_eq_true]; exact ⟨xs[k], List.getElem_mem h, hp⟩

theorem any_take_snoc (p : Int → Bool) (xs : List Int) (k : Nat) (h : k < xs.length) (hk : (xs.take k).any p = false) (hp : p xs[k] = false) : (xs.take (k + 1)).any p = false := by
  rw [List.take_succ_eq_append_getElem h, List.any_append, hk]; simp [hp]

theorem mayB_of {xs : List Int} {t : Int} (h1 : xs.length ≤ 4096) (h2 : xs.all (fun l => litB l t) = true) : mayB xs t = true := by simp [mayB, h1]; simpa using h2

theorem mayB_no {xs : List Int} {t : Int} (k : Nat) (h : k < xs.length) (hp : litB xs[k] t = false) : mayB xs t = false := by
  unfold mayB; rw [all_false_at _ xs k h hp]; simp

theorem mayB_long {xs : List Int} {t : Int} (h : 4096 < xs.length) : mayB xs t = false := by simp [mayB]; intro h'; omega

theorem mayB_len {xs : List Int} {t : Int} (h : mayB xs t = true) : xs.length ≤ 4096 := by
  unfold mayB at h; rw [Bool.and_eq_true] at h; exact of_decide_eq_true h.1

theorem mayB_lit {xs : List Int} {t : Int} (h : mayB xs t = true) : ∀ x ∈ xs, litB x t = true := by
  unfold mayB at h; rw [Bool.and_eq_true, List.all_eq_true] at h; exact h.2

/-- Numbers up to the greatest variable. -/
def Lits (xs : List Int) : Prop := ∀ x ∈ xs, -1048576 ≤ x ∧ x ≤ 1048576

theorem lits_of {xs : List Int} (h : mayB xs 1048576 = true) : Lits xs := fun x hx => (litB_true.1 (mayB_lit h x hx)).2

theorem all_of_take {p : Int → Bool} {xs : List Int} {k : Nat} (hk : xs.length ≤ k) (h : (xs.take k).all p = true) : xs.all p = true := by
  rwa [List.take_of_length_le hk] at h

theorem any_of_take {p : Int → Bool} {xs : List Int} {k : Nat} (hk : xs.length ≤ k) (h : (xs.take k).any p = false) : xs.any p = false := by
  rwa [List.take_of_length_le hk] at h

/-- Two lists alike up to k. -/
theorem take_eq_snoc {xs ys : List Int} {k : Nat} (h1 : k < xs.length) (h2 : k < ys.length) (h : xs.take k = ys.take k) (he : xs[k] = ys[k]) : xs.take (k + 1) = ys.take (k + 1) := by
  rw [List.take_succ_eq_append_getElem h1, List.take_succ_eq_append_getElem h2, h, he]

def sgn (x : Int) : Int := if x < 0 then -1 else if 0 < x then 1 else 0

/-- A literal's value by a model. -/
def valI (m : List Int) (l : Int) : Int := if litB l 1048576 && decide (varI l ≤ m.length) then sgn (m.getD ((varI l).toNat - 1) 0) * sgn l else 0

/-- A clause's value. -/
def clauseI (m c : List Int) : Int := if c.any (fun l => valI m l == 1) then 1 else if c.any (fun l => valI m l == 0) then 0 else -1

theorem valI_none {m : List Int} {l : Int} (h : litB l 1048576 = false) : valI m l = 0 := by simp [valI, h]
theorem valI_beyond {m : List Int} {l : Int} (h : (m.length : Int) < varI l) : valI m l = 0 := by
  unfold valI; rw [if_neg]; simp; intro _; omega
theorem valI_at {m : List Int} {l : Int} (h : litB l 1048576 = true) (h2 : varI l ≤ m.length) : valI m l = sgn (m.getD ((varI l).toNat - 1) 0) * sgn l := by
  unfold valI; rw [if_pos]; simp [h, h2]

theorem sgn_cases (x : Int) : (x < 0 ∧ sgn x = -1) ∨ (x = 0 ∧ sgn x = 0) ∨ (0 < x ∧ sgn x = 1) := by
  unfold sgn; split
  · left; exact ⟨‹_›, rfl⟩
  · split
    · right; right; exact ⟨‹_›, rfl⟩
    · right; left; exact ⟨by omega, rfl⟩

theorem valI_cases (m : List Int) (l : Int) : valI m l = -1 ∨ valI m l = 0 ∨ valI m l = 1 := by
  unfold valI; split
  · rcases sgn_cases (m.getD ((varI l).toNat - 1) 0) with ⟨_, h⟩ | ⟨_, h⟩ | ⟨_, h⟩ <;> rcases sgn_cases l with ⟨_, g⟩ | ⟨_, g⟩ | ⟨_, g⟩ <;> rw [h, g] <;> decide
  · simp

theorem sgn_same {x l : Int} (h : (decide (0 < x) == decide (0 < l)) = true) (hx : (x == 0) = false) (hl : l ≠ 0) : (1 : Int) = sgn x * sgn l := by
  have hx' : x ≠ 0 := by simpa using hx
  have h' : (0 < x) ↔ (0 < l) := by simpa using h
  rcases sgn_cases x with ⟨_, g⟩ | ⟨_, g⟩ | ⟨_, g⟩ <;> rcases sgn_cases l with ⟨_, f⟩ | ⟨_, f⟩ | ⟨_, f⟩ <;> rw [g, f] <;> first | rfl | omega
theorem sgn_other {x l : Int} (h : (decide (0 < x) == decide (0 < l)) = false) (hx : (x == 0) = false) (hl : l ≠ 0) : (-1 : Int) = sgn x * sgn l := by
  have hx' : x ≠ 0 := by simpa using hx
  have h' : ¬ ((0 < x) ↔ (0 < l)) := by simpa using h
  rcases sgn_cases x with ⟨_, g⟩ | ⟨_, g⟩ | ⟨_, g⟩ <;> rcases sgn_cases l with ⟨_, f⟩ | ⟨_, f⟩ | ⟨_, f⟩ <;> rw [g, f] <;> first | rfl | omega

/-- How two numbers stand. -/
def cmpI (x y : Int) : Int := if x < y then -1 else if y < x then 1 else 0
theorem cmpI_sgn (x : Int) : cmpI x 0 = sgn x := rfl
theorem cmpI_bd (x y : Int) : -1 ≤ cmpI x y ∧ cmpI x y ≤ 1 := by
  unfold cmpI
  split
  · omega
  · split <;> omega
theorem mul_bd {x y : Int} (h : -1 ≤ x ∧ x ≤ 1) (g : -1 ≤ y ∧ y ≤ 1) : -1 ≤ x * y ∧ x * y ≤ 1 := by
  have h' : x = -1 ∨ x = 0 ∨ x = 1 := by omega
  rcases h' with rfl | rfl | rfl <;> simp <;> omega

theorem clauseI_snoc (m c : List Int) (x : Int) : clauseI m (c ++ [x]) = max (clauseI m c) (valI m x) := by
  unfold clauseI
  rw [List.any_append, List.any_append]
  simp only [List.any_cons, List.any_nil, Bool.or_false]
  rcases valI_cases m x with h | h | h <;> rw [h] <;> cases (c.any fun l => valI m l == 1) <;> cases (c.any fun l => valI m l == 0) <;> decide

theorem clauseI_take {m c : List Int} {k : Nat} (h : k < c.length) : clauseI m (c.take (k + 1)) = max (clauseI m (c.take k)) (valI m c[k]) := by
  rw [List.take_succ_eq_append_getElem h, clauseI_snoc]

theorem clauseI_cases (m c : List Int) : clauseI m c = -1 ∨ clauseI m c = 0 ∨ clauseI m c = 1 := by
  unfold clauseI; split
  · simp
  · split <;> simp

theorem clauseI_one {m c : List Int} (h : c.any (fun l => valI m l == 1) = true) : clauseI m c = 1 := by simp only [clauseI, h]; rfl
theorem clauseI_zero {m c : List Int} (h : c.any (fun l => valI m l == 1) = false) (g : c.any (fun l => valI m l == 0) = true) : clauseI m c = 0 := by
  unfold clauseI; rw [h, g]; rfl
theorem clauseI_low {m c : List Int} (h : c.any (fun l => valI m l == 1) = false) (g : c.any (fun l => valI m l == 0) = false) : clauseI m c = -1 := by
  unfold clauseI; rw [h, g]; rfl

theorem any_take_or (p : Int → Bool) (xs : List Int) (k : Nat) (h : k < xs.length) : (xs.take (k + 1)).any p = ((xs.take k).any p || p xs[k]) := by
  rw [List.take_succ_eq_append_getElem h, List.any_append]; simp

/-- Which of two literals stands ahead. -/
def aheadB (a b : Int) : Bool := decide (varI a < varI b ∨ (varI a = varI b ∧ b < a))

/-- How two literals stand to each other. -/
def litCmp (a b : Int) : Int := if varI a = varI b then cmpI b a else cmpI (varI a) (varI b)

/-- A list without a number. -/
def wo (xs : List Int) (n : Int) : List Int := xs.filter (fun x => x != n)

theorem wo_take_hit {xs : List Int} {n : Int} {k : Nat} (h : k < xs.length) (he : (xs[k] != n) = true) : wo (xs.take (k + 1)) n = wo (xs.take k) n ++ [xs[k]] := by
  unfold wo; rw [List.take_succ_eq_append_getElem h, List.filter_append]; simp [List.filter_cons, he]
theorem wo_take_miss {xs : List Int} {n : Int} {k : Nat} (h : k < xs.length) (he : (xs[k] != n) = false) : wo (xs.take (k + 1)) n = wo (xs.take k) n := by
  unfold wo; rw [List.take_succ_eq_append_getElem h, List.filter_append]; simp [List.filter_cons, he]
theorem wo_len (xs : List Int) (n : Int) : (wo xs n).length ≤ xs.length := List.length_filter_le _ _
theorem wo_len_take (xs : List Int) (n : Int) (k : Nat) : (wo (xs.take k) n).length ≤ k := Nat.le_trans (wo_len _ _) (List.length_take_le _ _)

theorem varI_bd {l : Int} (h0 : -1048576 ≤ l) (h1 : l ≤ 1048576) : 0 ≤ varI l ∧ varI l ≤ 1048576 := by unfold varI; split <;> omega

end Go.Proofs.Ytlmbgaconjcaiab
