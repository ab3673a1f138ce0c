/- Joined: What the first layer's document says of literals, clauses and lists, as plain functions on integers and lists; no program is named here. Plain mathematics: a propagator's state, and what its parts do. Plain mathematics: what holds of a propagator between its calls; a literal comes to be true. Plain mathematics: late clauses are settled; watches are gone through. Plain mathematics: a literal's watches are gone through, entry by entry. Plain mathematics: what a run leaves as it was; how great a state's lists are. Plain mathematics: a literal's watches, in place. Plain mathematics: a new propagator; a clause is taken in; a decision. Plain mathematics: a decision; what follows is true. Plain mathematics: a clause is dropped; what was dropped is swept out. Plain mathematics: levels are taken back. -/
import Derived.Below
set_option linter.unusedVariables false
set_option linter.unusedSimpArgs false
namespace Go.Proofs.Ytlmbgaconjcaiaa

/-- A number is a literal of a variable up to t. -/
def litB (l t : Int) : Bool := decide (l ≠ 0 ∧ -t ≤ l ∧ l ≤ t)

/-- A literal's variable. -/
def varI (l : Int) : Int := if l < 0 then -l else l

/-- A list is a clause of variables up to t. -/
def mayB (c : List Int) (t : Int) : Bool := decide (c.length ≤ 4096) && c.all (fun l => litB l t)

def hasB (c : List Int) (n : Int) : Bool := c.any (fun x => x == n)

def tautB (c : List Int) : Bool := c.any (fun x => hasB c (-x))

/-- All numbers fit 64 bits. -/
def Fit (xs : List Int) : Prop := ∀ x ∈ xs, -9223372036854775808 ≤ x ∧ x ≤ 9223372036854775807

theorem litB_true {l t : Int} : litB l t = true ↔ (l ≠ 0 ∧ -t ≤ l ∧ l ≤ t) := by simp [litB]

theorem all_take_snoc (p : Int → Bool) (xs : List Int) (k : Nat) (h : k < xs.length) (hk : (xs.take k).all p = true) (hp : p xs[k] = true) : (xs.take (k + 1)).all p = true := by
  rw [List.take_succ_eq_append_getElem h, List.all_append, hk]; simp [hp]

theorem all_false_at (p : Int → Bool) (xs : List Int) (k : Nat) (h : k < xs.length) (hp : p xs[k] = false) : xs.all p = false := by
  rw [List.all_eq_false]; exact ⟨xs[k], List.getElem_mem h, by simp [hp]⟩

theorem any_true_at (p : Int → Bool) (xs : List Int) (k : Nat) (h : k < xs.length) (hp : p xs[k] = true) : xs.any p = true := by
  rw [List.any_eq_true]; exact ⟨xs[k], List.getElem_mem h, hp⟩

theorem any_take_snoc (p : Int → Bool) (xs : List Int) (k : Nat) (h : k < xs.length) (hk : (xs.take k).any p = false) (hp : p xs[k] = false) : (xs.take (k + 1)).any p = false := by
  rw [List.take_succ_eq_append_getElem h, List.any_append, hk]; simp [hp]

theorem mayB_of {xs : List Int} {t : Int} (h1 : xs.length ≤ 4096) (h2 : xs.all (fun l => litB l t) = true) : mayB xs t = true := by simp [mayB, h1]; simpa using h2

theorem mayB_no {xs : List Int} {t : Int} (k : Nat) (h : k < xs.length) (hp : litB xs[k] t = false) : mayB xs t = false := by
  unfold mayB; rw [all_false_at _ xs k h hp]; simp

theorem mayB_long {xs : List Int} {t : Int} (h : 4096 < xs.length) : mayB xs t = false := by simp [mayB]; intro h'; omega

theorem mayB_len {xs : List Int} {t : Int} (h : mayB xs t = true) : xs.length ≤ 4096 := by
  unfold mayB at h; rw [Bool.and_eq_true] at h; exact of_decide_eq_true h.1

theorem mayB_lit {xs : List Int} {t : Int} (h : mayB xs t = true) : ∀ x ∈ xs, litB x t = true := by
  unfold mayB at h; rw [Bool.and_eq_true, List.all_eq_true] at h; exact h.2

/-- Numbers up to the greatest variable. -/
def Lits (xs : List Int) : Prop := ∀ x ∈ xs, -1048576 ≤ x ∧ x ≤ 1048576

theorem lits_of {xs : List Int} (h : mayB xs 1048576 = true) : Lits xs := fun x hx => (litB_true.1 (mayB_lit h x hx)).2

theorem all_of_take {p : Int → Bool} {xs : List Int} {k : Nat} (hk : xs.length ≤ k) (h : (xs.take k).all p = true) : xs.all p = true := by
  rwa [List.take_of_length_le hk] at h

theorem any_of_take {p : Int → Bool} {xs : List Int} {k : Nat} (hk : xs.length ≤ k) (h : (xs.take k).any p = false) : xs.any p = false := by
  rwa [List.take_of_length_le hk] at h

/-- Two lists alike up to k. -/
theorem take_eq_snoc {xs ys : List Int} {k : Nat} (h1 : k < xs.length) (h2 : k < ys.length) (h : xs.take k = ys.take k) (he : xs[k] = ys[k]) : xs.take (k + 1) = ys.take (k + 1) := by
  rw [List.take_succ_eq_append_getElem h1, List.take_succ_eq_append_getElem h2, h, he]

def sgn (x : Int) : Int := if x < 0 then -1 else if 0 < x then 1 else 0

/-- A literal's value by a model. -/
def valI (m : List Int) (l : Int) : Int := if litB l 1048576 && decide (varI l ≤ m.length) then sgn (m.getD ((varI l).toNat - 1) 0) * sgn l else 0

/-- A clause's value. -/
def clauseI (m c : List Int) : Int := if c.any (fun l => valI m l == 1) then 1 else if c.any (fun l => valI m l == 0) then 0 else -1

theorem valI_none {m : List Int} {l : Int} (h : litB l 1048576 = false) : valI m l = 0 := by simp [valI, h]
theorem valI_beyond {m : List Int} {l : Int} (h : (m.length : Int) < varI l) : valI m l = 0 := by
  unfold valI; rw [if_neg]; simp; intro _; omega
theorem valI_at {m : List Int} {l : Int} (h : litB l 1048576 = true) (h2 : varI l ≤ m.length) : valI m l = sgn (m.getD ((varI l).toNat - 1) 0) * sgn l := by
  unfold valI; rw [if_pos]; simp [h, h2]

theorem sgn_cases (x : Int) : (x < 0 ∧ sgn x = -1) ∨ (x = 0 ∧ sgn x = 0) ∨ (0 < x ∧ sgn x = 1) := by
  unfold sgn; split
  · left; exact ⟨‹_›, rfl⟩
  · split
    · right; right; exact ⟨‹_›, rfl⟩
    · right; left; exact ⟨by omega, rfl⟩

theorem valI_cases (m : List Int) (l : Int) : valI m l = -1 ∨ valI m l = 0 ∨ valI m l = 1 := by
  unfold valI; split
  · rcases sgn_cases (m.getD ((varI l).toNat - 1) 0) with ⟨_, h⟩ | ⟨_, h⟩ | ⟨_, h⟩ <;> rcases sgn_cases l with ⟨_, g⟩ | ⟨_, g⟩ | ⟨_, g⟩ <;> rw [h, g] <;> decide
  · simp

theorem sgn_same {x l : Int} (h : (decide (0 < x) == decide (0 < l)) = true) (hx : (x == 0) = false) (hl : l ≠ 0) : (1 : Int) = sgn x * sgn l := by
  have hx' : x ≠ 0 := by simpa using hx
  have h' : (0 < x) ↔ (0 < l) := by simpa using h
  rcases sgn_cases x with ⟨_, g⟩ | ⟨_, g⟩ | ⟨_, g⟩ <;> rcases sgn_cases l with ⟨_, f⟩ | ⟨_, f⟩ | ⟨_, f⟩ <;> rw [g, f] <;> first | rfl | omega
theorem sgn_other {x l : Int} (h : (decide (0 < x) == decide (0 < l)) = false) (hx : (x == 0) = false) (hl : l ≠ 0) : (-1 : Int) = sgn x * sgn l := by
  have hx' : x ≠ 0 := by simpa using hx
  have h' : ¬ ((0 < x) ↔ (0 < l)) := by simpa using h
  rcases sgn_cases x with ⟨_, g⟩ | ⟨_, g⟩ | ⟨_, g⟩ <;> rcases sgn_cases l with ⟨_, f⟩ | ⟨_, f⟩ | ⟨_, f⟩ <;> rw [g, f] <;> first | rfl | omega

/-- How two numbers stand. -/
def cmpI (x y : Int) : Int := if x < y then -1 else if y < x then 1 else 0
theorem cmpI_sgn (x : Int) : cmpI x 0 = sgn x := rfl
theorem cmpI_bd (x y : Int) : -1 ≤ cmpI x y ∧ cmpI x y ≤ 1 := by
  unfold cmpI
  split
  · omega
  · split <;> omega
theorem mul_bd {x y : Int} (h : -1 ≤ x ∧ x ≤ 1) (g : -1 ≤ y ∧ y ≤ 1) : -1 ≤ x * y ∧ x * y ≤ 1 := by
  have h' : x = -1 ∨ x = 0 ∨ x = 1 := by omega
  rcases h' with rfl | rfl | rfl <;> simp <;> omega

theorem clauseI_snoc (m c : List Int) (x : Int) : clauseI m (c ++ [x]) = max (clauseI m c) (valI m x) := by
  unfold clauseI
  rw [List.any_append, List.any_append]
  simp only [List.any_cons, List.any_nil, Bool.or_false]
  rcases valI_cases m x with h | h | h <;> rw [h] <;> cases (c.any fun l => valI m l == 1) <;> cases (c.any fun l => valI m l == 0) <;> decide

theorem clauseI_take {m c : List Int} {k : Nat} (h : k < c.length) : clauseI m (c.take (k + 1)) = max (clauseI m (c.take k)) (valI m c[k]) := by
  rw [List.take_succ_eq_append_getElem h, clauseI_snoc]

theorem clauseI_cases (m c : List Int) : clauseI m c = -1 ∨ clauseI m c = 0 ∨ clauseI m c = 1 := by
  unfold clauseI; split
  · simp
  · split <;> simp

theorem clauseI_one {m c : List Int} (h : c.any (fun l => valI m l == 1) = true) : clauseI m c = 1 := by simp only [clauseI, h]; rfl
theorem clauseI_zero {m c : List Int} (h : c.any (fun l => valI m l == 1) = false) (g : c.any (fun l => valI m l == 0) = true) : clauseI m c = 0 := by
  unfold clauseI; rw [h, g]; rfl
theorem clauseI_low {m c : List Int} (h : c.any (fun l => valI m l == 1) = false) (g : c.any (fun l => valI m l == 0) = false) : clauseI m c = -1 := by
  unfold clauseI; rw [h, g]; rfl

theorem any_take_or (p : Int → Bool) (xs : List Int) (k : Nat) (h : k < xs.length) : (xs.take (k + 1)).any p = ((xs.take k).any p || p xs[k]) := by
  rw [List.take_succ_eq_append_getElem h, List.any_append]; simp

/-- Which of two literals stands ahead. -/
def aheadB (a b : Int) : Bool := decide (varI a < varI b ∨ (varI a = varI b ∧ b < a))

/-- How two literals stand to each other. -/
def litCmp (a b : Int) : Int := if varI a = varI b then cmpI b a else cmpI (varI a) (varI b)

/-- A list without a number. -/
def wo (xs : List Int) (n : Int) : List Int := xs.filter (fun x => x != n)

theorem wo_take_hit {xs : List Int} {n : Int} {k : Nat} (h : k < xs.length) (he : (xs[k] != n) = true) : wo (xs.take (k + 1)) n = wo (xs.take k) n ++ [xs[k]] := by
  unfold wo; rw [List.take_succ_eq_append_getElem h, List.filter_append]; simp [List.filter_cons, he]
theorem wo_take_miss {xs : List Int} {n : Int} {k : Nat} (h : k < xs.length) (he : (xs[k] != n) = false) : wo (xs.take (k + 1)) n = wo (xs.take k) n := by
  unfold wo; rw [List.take_succ_eq_append_getElem h, List.filter_append]; simp [List.filter_cons, he]
theorem wo_len (xs : List Int) (n : Int) : (wo xs n).length ≤ xs.length := List.length_filter_le _ _
theorem wo_len_take (xs : List Int) (n : Int) (k : Nat) : (wo (xs.take k) n).length ≤ k := Nat.le_trans (wo_len _ _) (List.length_take_le _ _)

theorem varI_bd {l : Int} (h0 : -1048576 ≤ l) (h1 : l ≤ 1048576) : 0 ≤ varI l ∧ varI l ≤ 1048576 := by unfold varI; split <;> omega

end Go.Proofs.Ytlmbgaconjcaiaa

namespace Go.Proofs.Ytlmbgaconjcaiaa

/-- A clause: its literals, the two that it watches, whether it was dropped. -/
structure Cl where
  lits : List Int
  w0 : Int
  w1 : Int
  gone : Bool

/-- A level: its decision's place, the head then, the late clauses that were settled on it. -/
structure Lv where
  start : Nat
  head : Nat
  late : List Nat

/-- A propagator's state. -/
structure PS where
  vars : Nat
  cls : List Cl
  count : Int
  stale : Int
  vals : List Int
  wat : List (List (Nat × Int))
  fac : List (Int × Int × Int)
  trail : List Int
  head : Nat
  lvs : List Lv
  late : List Nat

/-- A literal of one of so many variables. -/
def Lt (V : Nat) (l : Int) : Prop := l ≠ 0 ∧ -(V : Int) ≤ l ∧ l ≤ V

/-- A literal's place in what is by literals. -/
def ix (V : Nat) (l : Int) : Nat := ((V : Int) + l).toNat

theorem ix_lt {V : Nat} {l : Int} (h : Lt V l) : ix V l < 2 * V + 1 := by unfold ix; unfold Lt at h; omega
theorem ix_int {V : Nat} {l : Int} (h : Lt V l) : ((ix V l : Nat) : Int) = V + l := by unfold ix; unfold Lt at h; omega
theorem ix_inj {V : Nat} {l k : Int} (h : Lt V l) (h' : Lt V k) (e : ix V l = ix V k) : l = k := by
  have := ix_int h; have := ix_int h'; omega
theorem Lt.neg {V : Nat} {l : Int} (h : Lt V l) : Lt V (-l) := by unfold Lt at *; omega
theorem Lt.abs {V : Nat} {l : Int} (h : Lt V l) : l.natAbs < V + 1 ∧ 0 < l.natAbs := by unfold Lt at h; omega

def PS.val (s : PS) (l : Int) : Int := s.vals.getD (ix s.vars l) 0
def PS.fct (s : PS) (l : Int) : Int × Int × Int := s.fac.getD l.natAbs (0, 0, 0)

/-- An open literal comes to be true. -/
def PS.put (s : PS) (l : Int) (r : Int) : PS :=
  { s with
    vals := (s.vals.set (ix s.vars l) 1).set (ix s.vars (-l)) (-1)
    fac := s.fac.set l.natAbs (s.trail.length, s.lvs.length, r)
    trail := s.trail ++ [l] }

/-- A clause watches a literal. -/
def PS.watch (s : PS) (l : Int) (i : Nat) (h : Int) : PS :=
  { s with wat := s.wat.modify (ix s.vars l) (fun q => q ++ [(i, h)]) }

def PS.setCl (s : PS) (i : Nat) (c : Cl) : PS := { s with cls := s.cls.set i c }
def PS.setW (s : PS) (j : Nat) (q : List (Nat × Int)) : PS := { s with wat := s.wat.set j q }

def PS.falseFrom (s : PS) (l : Int) : Int := if s.val l < 0 then (s.fct l).1 else s.trail.length

/-- One literal more is looked at, for the two that a Back would open first. -/
def PS.later (s : PS) (p : Int × Int) (l : Int) : Int × Int :=
  if l = p.1 ∨ l = p.2 then p
  else if p.1 = 0 ∨ s.falseFrom p.1 < s.falseFrom l then (l, p.1)
  else if p.2 = 0 ∨ s.falseFrom p.2 < s.falseFrom l then (p.1, l)
  else p
def PS.latest (s : PS) (lits : List Int) : Int × Int := lits.foldl s.later (0, 0)

/-- A clause is taken in. -/
def PS.added (s : PS) (lits : List Int) : PS := { s with cls := s.cls ++ [⟨lits, 0, 0, false⟩], count := s.count + 1 }
def PS.hooked (s : PS) (lits : List Int) (f g : Int) : PS :=
  if g = 0 then s.added lits
  else (((s.added lits).setCl s.cls.length ⟨lits, f, g, false⟩).watch f s.cls.length g).watch g s.cls.length f
def PS.attach (s : PS) (lits : List Int) : PS :=
  let p := s.latest lits
  let t := s.hooked lits p.1 p.2
  if p.2 = 0 ∨ s.val p.2 < 0 then { t with late := t.late ++ [s.cls.length] } else t

/-- What of a late clause's literals is not false: whether there are two; else the one, or 0. -/
def scan (v : Int → Int) : List Int → Int → Bool × Int
  | [], left => (false, left)
  | l :: r, left => if v l < 0 ∨ l = left then scan v r left else if left ≠ 0 then (true, left) else scan v r l

/-- The last level's late clauses are one more. -/
def PS.lateLv (s : PS) (i : Nat) : PS := { s with lvs := s.lvs.modify (s.lvs.length - 1) (fun v => { v with late := v.late ++ [i] }) }

/-- A late clause is settled. -/
def PS.settle (s : PS) (i : Nat) (lits : List Int) : Bool × PS :=
  match scan s.val lits 0 with
  | (true, _) => (true, s)
  | (false, left) =>
    if left = 0 then (false, s)
    else
      let t := if s.val left = 0 then s.put left i else s
      (true, if t.lvs.length = 0 then t else t.lateLv i)

/-- A decision. -/
def PS.leveled (s : PS) : PS := { s with lvs := s.lvs ++ [⟨s.trail.length, s.head, []⟩] }
def PS.decide (s : PS) (l : Int) : PS := s.leveled.put l (-1)

/-- What two literals' values are set back to. -/
def PS.unval (s : PS) (l : Int) : PS := { s with vals := (s.vals.set (ix s.vars l) 0).set (ix s.vars (-l)) 0 }
def PS.unvals (s : PS) (ls : List Int) : PS := ls.foldl PS.unval s

/-- Levels are taken back. -/
def PS.back (s : PS) (k : Nat) (lv : Lv) : PS :=
  { s.unvals (s.trail.drop lv.start) with
    trail := s.trail.take lv.start
    head := lv.head
    late := s.late ++ (s.lvs.drop k).flatMap Lv.late
    lvs := s.lvs.take k }

def PS.alive (s : PS) (i : Nat) : Bool := match s.cls[i]? with
  | some c => !c.gone
  | none => false

/-- What was dropped is taken out of all lists. -/
def PS.swept (s : PS) : PS :=
  { s with
    wat := s.wat.map (fun q => q.filter (fun p => s.alive p.1))
    lvs := s.lvs.map (fun v => { v with late := v.late.filter s.alive })
    late := s.late.filter s.alive
    stale := 0 }

/-- A clause is dropped. -/
def PS.dropped (s : PS) (i : Nat) (c : Cl) : PS :=
  { s with cls := s.cls.set i { c with gone := true, lits := [] }, count := s.count - 1, stale := s.stale + 1 }
def PS.drop (s : PS) (i : Nat) (c : Cl) : PS :=
  let t := s.dropped i c
  if t.count + t.wat.length < t.stale then t.swept else t

/-- A propagator without clauses. -/
def PS.zero (V : Nat) : PS := ⟨V, [], 0, 0, List.replicate (2 * V + 1) 0, List.replicate (2 * V + 1) [], List.replicate (V + 1) (0, 0, 0), [], 0, [], []⟩

section
variable (s : PS)
theorem put_vars (l r : Int) : (s.put l r).vars = s.vars := rfl
theorem put_cls (l r : Int) : (s.put l r).cls = s.cls := rfl
theorem put_wat (l r : Int) : (s.put l r).wat = s.wat := rfl
theorem put_trail (l r : Int) : (s.put l r).trail = s.trail ++ [l] := rfl
theorem put_head (l r : Int) : (s.put l r).head = s.head := rfl
theorem put_lvs (l r : Int) : (s.put l r).lvs = s.lvs := rfl
theorem put_late (l r : Int) : (s.put l r).late = s.late := rfl
theorem watch_vars (l h : Int) (i : Nat) : (s.watch l i h).vars = s.vars := rfl
theorem watch_cls (l h : Int) (i : Nat) : (s.watch l i h).cls = s.cls := rfl
theorem watch_trail (l h : Int) (i : Nat) : (s.watch l i h).trail = s.trail := rfl
theorem watch_head (l h : Int) (i : Nat) : (s.watch l i h).head = s.head := rfl
theorem watch_lvs (l h : Int) (i : Nat) : (s.watch l i h).lvs = s.lvs := rfl
theorem watch_late (l h : Int) (i : Nat) : (s.watch l i h).late = s.late := rfl
theorem watch_vals (l h : Int) (i : Nat) : (s.watch l i h).vals = s.vals := rfl
theorem watch_fac (l h : Int) (i : Nat) : (s.watch l i h).fac = s.fac := rfl
end

end Go.Proofs.Ytlmbgaconjcaiaa

namespace Go.Proofs.Ytlmbgaconjcaiaa

/-- A literal's value by what is true. -/
def tval (t : List Int) (x : Int) : Int := if x ∈ t then 1 else if -x ∈ t then -1 else 0

/-- How many levels begin up to a place. -/
def levAt (lvs : List Lv) (i : Nat) : Nat := lvs.countP (fun v => decide (v.start ≤ i))

/-- The trail's length, and the head, that a Back to a level leaves. -/
def tk (s : PS) (k : Nat) : Nat := match s.lvs[k]? with
  | some v => v.start
  | none => s.trail.length
def hk (s : PS) (k : Nat) : Nat := match s.lvs[k]? with
  | some v => v.head
  | none => s.head
/-- A clause is late, behind a Back to a level. -/
def lateFrom (s : PS) (k i : Nat) : Prop := i ∈ s.late ∨ ∃ j v, k ≤ j ∧ s.lvs[j]? = some v ∧ i ∈ v.late
/-- A clause need not be looked at: it is true, or what it watches was not gone through as false. -/
def OKc (c : Cl) (t : List Int) (a b : Nat) : Prop := (∃ x, x ∈ c.lits ∧ x ∈ t.take a) ∨ (c.w1 ≠ 0 ∧ -c.w0 ∉ t.take b ∧ -c.w1 ∉ t.take b)
/-- Two unlike literals of a clause are not false. -/
def Two (c : Cl) (t : List Int) (a : Nat) : Prop := ∃ x y, x ∈ c.lits ∧ y ∈ c.lits ∧ x ≠ y ∧ -x ∉ t.take a ∧ -y ∉ t.take a

/-- Why a literal of the trail is there. -/
def Rsn (s : PS) (i : Nat) (x r : Int) : Prop :=
  (r = -1 ∧ ∃ v ∈ s.lvs, v.start = i) ∨
  ((∀ v ∈ s.lvs, v.start ≠ i) ∧ ∃ (k : Nat) (c : Cl), r = (k : Int) ∧ s.cls[k]? = some c ∧ c.gone = false ∧ x ∈ c.lits ∧ ∀ y ∈ c.lits, y ≠ x → -y ∈ s.trail.take i)

structure Tr (s : PS) : Prop where
  ok : ∀ x ∈ s.trail, Lt s.vars x
  nd : s.trail.Pairwise (fun a b => a ≠ b ∧ a ≠ -b)
  vl : ∀ x, Lt s.vars x → s.val x = tval s.trail x
  fc : ∀ (i : Nat) (x : Int), s.trail[i]? = some x → ∃ r, s.fct x = ((i : Int), ((levAt s.lvs i : Nat) : Int), r) ∧ Rsn s i x r
  st : s.lvs.Pairwise (fun a b => a.start < b.start)
  sl : ∀ v ∈ s.lvs, v.start < s.trail.length
  hd : s.head ≤ s.trail.length
  hv : ∀ v ∈ s.lvs, v.head ≤ v.start ∧ v.head ≤ s.head
  hp : s.lvs.Pairwise (fun a b => a.head ≤ b.head)

def InW (s : PS) (l : Int) (i : Nat) : Prop := ∃ q, s.wat[ix s.vars l]? = some q ∧ i ∈ q.map Prod.fst

structure Wt (s : PS) : Prop where
  ok : ∀ (i : Nat) c, s.cls[i]? = some c → ∀ x ∈ c.lits, Lt s.vars x
  ww : ∀ (i : Nat) c, s.cls[i]? = some c → c.gone = false → c.w1 ≠ 0 → c.w0 ≠ c.w1 ∧ c.w0 ∈ c.lits ∧ c.w1 ∈ c.lits ∧ InW s c.w0 i ∧ InW s c.w1 i
  nd : ∀ (j : Nat) q, s.wat[j]? = some q → (q.map Prod.fst).Nodup
  we : ∀ (j : Nat) q, s.wat[j]? = some q → ∀ p ∈ q, ∃ c, s.cls[p.1]? = some c ∧ Lt s.vars p.2 ∧ (c.gone = false → c.w1 ≠ 0 ∧ p.2 ∈ c.lits ∧ (j = ix s.vars c.w0 ∨ j = ix s.vars c.w1))

structure La (s : PS) : Prop where
  i1 : ∀ k, k ≤ s.lvs.length → ∀ (i : Nat) c, s.cls[i]? = some c → c.gone = false → lateFrom s k i ∨ OKc c s.trail (tk s k) (hk s k)
  i2 : ∀ k, k ≤ s.lvs.length → ∀ (i : Nat) c, s.cls[i]? = some c → c.gone = false → Two c s.trail (tk s k) → OKc c s.trail (tk s k) (hk s k)

structure Sz (s : PS) : Prop where
  vars : s.vars ≤ 1048576
  vals : s.vals.length = 2 * s.vars + 1
  wat : s.wat.length = 2 * s.vars + 1
  fac : s.fac.length = s.vars + 1
  bit : ∀ x ∈ s.vals, -1 ≤ x ∧ x ≤ 1
  num : ∀ p ∈ s.fac, 0 ≤ p.1 ∧ p.1 ≤ 1048576 ∧ 0 ≤ p.2.1 ∧ p.2.1 ≤ 1048576 ∧ -1 ≤ p.2.2 ∧ p.2.2 ≤ 1048576
  lv : ∀ v ∈ s.lvs, ∀ i ∈ v.late, i < s.cls.length
  la : ∀ i ∈ s.late, i < s.cls.length
  sum : s.late.length + (s.lvs.map (fun v => v.late.length)).sum ≤ s.cls.length
  count : 0 ≤ s.count ∧ s.count ≤ s.cls.length
  stale : 0 ≤ s.stale ∧ s.stale ≤ s.cls.length
  cls : s.cls.length ≤ 1048576

structure Inv (s : PS) : Prop where
  tr : Tr s
  wt : Wt s
  la : La s
  sz : Sz s

theorem mem_take_iff {α : Type} {t : List α} {n : Nat} {x : α} : x ∈ t.take n ↔ ∃ i, i < n ∧ t[i]? = some x := by
  rw [List.mem_iff_getElem?]
  constructor
  · rintro ⟨i, hi⟩
    rw [List.getElem?_take] at hi
    split at hi
    · exact ⟨i, by assumption, hi⟩
    · cases hi
  · rintro ⟨i, h1, h2⟩
    exact ⟨i, by rw [List.getElem?_take, if_pos h1]; exact h2⟩

theorem take_mono {α : Type} {t : List α} {a b : Nat} {x : α} (h : x ∈ t.take a) (hab : a ≤ b) : x ∈ t.take b := by
  obtain ⟨i, h1, h2⟩ := mem_take_iff.1 h
  exact mem_take_iff.2 ⟨i, by omega, h2⟩
theorem take_snoc_le {α : Type} (t : List α) (l : α) {a : Nat} (h : a ≤ t.length) : (t ++ [l]).take a = t.take a := by
  rw [List.take_append_of_le_length h]

section
variable {t : List Int}

theorem nd_neg (hn : t.Pairwise (fun a b => a ≠ b ∧ a ≠ -b)) {x : Int} (h0 : x ≠ 0) (hx : x ∈ t) : -x ∉ t := by
  intro hy
  obtain ⟨i, hi⟩ := List.mem_iff_getElem?.1 hx
  obtain ⟨j, hj⟩ := List.mem_iff_getElem?.1 hy
  obtain ⟨hi', ei⟩ := List.getElem?_eq_some_iff.1 hi
  obtain ⟨hj', ej⟩ := List.getElem?_eq_some_iff.1 hj
  rcases Nat.lt_trichotomy i j with h | h | h
  · have := (List.pairwise_iff_getElem.1 hn i j hi' hj' h).2
    rw [ei, ej] at this; omega
  · subst h; rw [ei] at ej; omega
  · have := (List.pairwise_iff_getElem.1 hn j i hj' hi' h).2
    rw [ei, ej] at this; omega
theorem nd_inj (hn : t.Pairwise (fun a b => a ≠ b ∧ a ≠ -b)) {x : Int} {i j : Nat} (hi : t[i]? = some x) (hj : t[j]? = some x) : i = j := by
  obtain ⟨hi', ei⟩ := List.getElem?_eq_some_iff.1 hi
  obtain ⟨hj', ej⟩ := List.getElem?_eq_some_iff.1 hj
  rcases Nat.lt_trichotomy i j with h | h | h
  · have := (List.pairwise_iff_getElem.1 hn i j hi' hj' h).1
    rw [ei, ej] at this; exact absurd rfl this
  · exact h
  · have := (List.pairwise_iff_getElem.1 hn j i hj' hi' h).1
    rw [ei, ej] at this; exact absurd rfl this
theorem tval_one {x : Int} : tval t x = 1 ↔ x ∈ t := by
  unfold tval; split
  · simp [*]
  · split <;> simp [*]
theorem tval_neg (hn : t.Pairwise (fun a b => a ≠ b ∧ a ≠ -b)) {x : Int} (h0 : x ≠ 0) : tval t x < 0 ↔ -x ∈ t := by
  unfold tval; split
  · rename_i h
    have := nd_neg hn h0 h
    simp [this]
  · split <;> simp [*]
theorem tval_zero {x : Int} : tval t x = 0 ↔ x ∉ t ∧ -x ∉ t := by
  unfold tval; split
  · simp [*]
  · split <;> simp [*]
theorem tval_bd (x : Int) : -1 ≤ tval t x ∧ tval t x ≤ 1 := by
  unfold tval; split
  · simp
  · split <;> simp
end

section
variable {s : PS}
theorem Inv.vneg (h : Inv s) {x : Int} (hx : Lt s.vars x) : s.val x < 0 ↔ -x ∈ s.trail := by rw [h.tr.vl x hx]; exact tval_neg h.tr.nd hx.1
theorem Inv.vone (h : Inv s) {x : Int} (hx : Lt s.vars x) : s.val x = 1 ↔ x ∈ s.trail := by rw [h.tr.vl x hx]; exact tval_one
theorem Inv.vzero (h : Inv s) {x : Int} (hx : Lt s.vars x) : s.val x = 0 ↔ x ∉ s.trail ∧ -x ∉ s.trail := by rw [h.tr.vl x hx]; exact tval_zero

theorem tk_last (s : PS) : tk s s.lvs.length = s.trail.length := by unfold tk; rw [List.getElem?_eq_none (Nat.le_refl _)]
theorem hk_last (s : PS) : hk s s.lvs.length = s.head := by unfold hk; rw [List.getElem?_eq_none (Nat.le_refl _)]
theorem Tr.tk_le (h : Tr s) (k : Nat) : tk s k ≤ s.trail.length := by
  unfold tk
  cases e : s.lvs[k]? with
  | none => exact Nat.le_refl _
  | some v => exact Nat.le_of_lt (h.sl v (List.mem_of_getElem? e))
theorem Tr.hk_le (h : Tr s) (k : Nat) : hk s k ≤ tk s k ∧ hk s k ≤ s.head := by
  unfold hk tk
  cases e : s.lvs[k]? with
  | none => exact ⟨h.hd, Nat.le_refl _⟩
  | some v => exact h.hv v (List.mem_of_getElem? e)

theorem levAt_all {lvs : List Lv} {i : Nat} (h : ∀ v ∈ lvs, v.start ≤ i) : levAt lvs i = lvs.length := by
  unfold levAt; rw [List.countP_eq_length]; intro v hv; simpa using h v hv

/-- What a clause's watches ask stays right where more is true. -/
theorem OKc.snoc {c : Cl} {t : List Int} {a b : Nat} (l : Int) (h : OKc c t a b) (hb : b ≤ t.length) : OKc c (t ++ [l]) (a + 1) b := by
  rcases h with ⟨x, h1, h2⟩ | ⟨h1, h2, h3⟩
  · refine .inl ⟨x, h1, ?_⟩
    obtain ⟨i, i1, i2⟩ := mem_take_iff.1 h2
    refine mem_take_iff.2 ⟨i, by omega, ?_⟩
    rw [List.getElem?_append_left (List.getElem?_eq_some_iff.1 i2).1]; exact i2
  · exact .inr ⟨h1, by rw [take_snoc_le _ _ hb]; exact h2, by rw [take_snoc_le _ _ hb]; exact h3⟩

theorem tk_put (s : PS) (l r : Int) {k : Nat} (hk' : k < s.lvs.length) : tk (s.put l r) k = tk s k := by
  unfold tk; simp only [put_lvs]; rw [List.getElem?_eq_getElem hk']
theorem hk_put (s : PS) (l r : Int) (k : Nat) : hk (s.put l r) k = hk s k := rfl

theorem getD_set_self (xs : List Int) (i : Nat) (u : Int) (h : i < xs.length) : (xs.set i u).getD i 0 = u := by
  rw [List.getD_eq_getElem?_getD, List.getElem?_set_self h]; rfl
theorem getD_set_ne (xs : List Int) {i j : Nat} (u : Int) (h : i ≠ j) : (xs.set i u).getD j 0 = xs.getD j 0 := by
  rw [List.getD_eq_getElem?_getD, List.getElem?_set_ne h, List.getD_eq_getElem?_getD]

theorem put_val (hz : Sz s) {l : Int} (r : Int) (hl : Lt s.vars l) (x : Int) (hx : Lt s.vars x) : (s.put l r).val x = if x = l then 1 else if x = -l then -1 else s.val x := by
  have h1 := ix_lt hl
  have h2 := ix_lt hl.neg
  unfold PS.val PS.put
  by_cases e2 : x = -l
  · subst e2
    have : ¬ (-l = l) := by have := hl.1; omega
    rw [if_neg this, if_pos rfl, getD_set_self]
    rw [List.length_set, hz.vals]; exact h2
  · have n2 : ix s.vars (-l) ≠ ix s.vars x := fun e => e2 (ix_inj hx hl.neg e.symm)
    rw [if_neg e2, getD_set_ne _ _ n2]
    by_cases e1 : x = l
    · subst e1; rw [if_pos rfl, getD_set_self]; rw [hz.vals]; exact h1
    · rw [if_neg e1, getD_set_ne _ _ (fun e => e1 (ix_inj hx hl e.symm))]

theorem put_fct (hz : Sz s) {l : Int} (r : Int) (hl : Lt s.vars l) (x : Int) : (s.put l r).fct x = if x.natAbs = l.natAbs then ((s.trail.length : Int), (s.lvs.length : Int), r) else s.fct x := by
  unfold PS.fct PS.put
  by_cases e : x.natAbs = l.natAbs
  · rw [if_pos e, e, List.getD_eq_getElem?_getD, List.getElem?_set_self (by rw [hz.fac]; exact hl.abs.1)]; rfl
  · rw [if_neg e, List.getD_eq_getElem?_getD, List.getElem?_set_ne (Ne.symm e), List.getD_eq_getElem?_getD]

theorem bit_set' {xs : List Int} {i : Nat} {u : Int} (h : ∀ x ∈ xs, -1 ≤ x ∧ x ≤ 1) (hu : -1 ≤ u ∧ u ≤ 1) : ∀ x ∈ xs.set i u, -1 ≤ x ∧ x ≤ 1 := by
  intro x hx
  rcases List.mem_or_eq_of_mem_set hx with h' | rfl
  · exact h x h'
  · exact hu

theorem lvs_len (h : Tr s) : s.lvs.length ≤ s.trail.length := by
  have key : ∀ (l : List Lv) (n : Nat), l.Pairwise (fun a b => a.start < b.start) → (∀ v ∈ l, v.start < n) → l.length ≤ n := by
    intro l
    induction l with
    | nil => intro n _ _; exact Nat.zero_le _
    | cons a r ih =>
      intro n hp hn
      have h1 := ih (n - (a.start + 1)) -- not used
      have : ∀ (q : List Lv) (m : Nat), q.Pairwise (fun a b => a.start < b.start) → (∀ v ∈ q, m ≤ v.start ∧ v.start < n) → q.length + m ≤ n ∨ q = [] := by
        intro q
        induction q with
        | nil => intro m _ _; exact .inr rfl
        | cons b q ih2 =>
          intro m hp hm
          left
          have hb := hm b (by simp)
          rcases ih2 (b.start + 1) (List.pairwise_cons.1 hp).2 (fun v hv => ⟨(List.pairwise_cons.1 hp).1 v hv, (hm v (List.mem_cons_of_mem _ hv)).2⟩) with h | h
          · simp only [List.length_cons]; omega
          · subst h; simp; omega
      rcases this (a :: r) 0 hp (fun v hv => ⟨Nat.zero_le _, hn v hv⟩) with h | h
      · simpa using h
      · cases h
  exact key s.lvs s.trail.length h.st h.sl

theorem trail_len (h : Tr s) : s.trail.length ≤ s.vars := by
  have key : ∀ (V : Nat) (t : List Int), t.Pairwise (fun a b => a ≠ b ∧ a ≠ -b) → (∀ x ∈ t, Lt V x) → t.length ≤ V := by
    intro V
    induction V with
    | zero =>
      intro t _ ht
      cases t with
      | nil => exact Nat.le_refl _
      | cons x r => have := ht x (by simp); unfold Lt at this; omega
    | succ V ih =>
      intro t hp ht
      by_cases hex : ∃ x ∈ t, x.natAbs = V + 1
      · obtain ⟨x, hx, hxa⟩ := hex
        obtain ⟨a, b, rfl⟩ := List.append_of_mem hx
        have hpw := List.pairwise_append.1 hp
        have hpx := List.pairwise_cons.1 hpw.2.1
        have h' := ih (a ++ b) (List.pairwise_append.2 ⟨hpw.1, hpx.2, fun u hu v hv => hpw.2.2 u hu v (List.mem_cons_of_mem _ hv)⟩) (fun y hy => by
          have hy' := ht y (by rcases List.mem_append.1 hy with h | h <;> simp [h])
          have hne : y ≠ x ∧ y ≠ -x := by
            rcases List.mem_append.1 hy with h | h
            · exact hpw.2.2 y h x (by simp)
            · have := hpx.1 y h; exact ⟨fun e => this.1 e.symm, fun e => this.2 (by omega)⟩
          unfold Lt at *; omega)
        simp only [List.length_append, List.length_cons] at h' ⊢; omega
      · have := ih t hp (fun y hy => by
          have hy' := ht y hy
          have : y.natAbs ≠ V + 1 := fun e => hex ⟨y, hy, e⟩
          unfold Lt at *; omega)
        omega
  exact key s.vars s.trail h.nd h.ok

/-- An open literal of a unit clause comes to be true. -/
theorem put_inv (h : Inv s) {l : Int} (hl : Lt s.vars l) (h1 : l ∉ s.trail) (h2 : -l ∉ s.trail) {k : Nat} {c : Cl} (hc : s.cls[k]? = some c) (hg : c.gone = false) (hlc : l ∈ c.lits) (ho : ∀ y ∈ c.lits, y ≠ l → -y ∈ s.trail) : Inv (s.put l k) := by
  have hz := h.sz
  have hk1 : k < s.cls.length := (List.getElem?_eq_some_iff.1 hc).1
  have hlen := trail_len h.tr
  have hlv := lvs_len h.tr
  refine ⟨⟨?_, ?_, ?_, ?_, h.tr.st, ?_, ?_, h.tr.hv, h.tr.hp⟩, ⟨h.wt.ok, h.wt.ww, h.wt.nd, h.wt.we⟩, ⟨?_, ?_⟩, ⟨hz.vars, by simp [PS.put, hz.vals], hz.wat, by simp [PS.put, hz.fac], ?_, ?_, hz.lv, hz.la, hz.sum, hz.count, hz.stale, hz.cls⟩⟩
  · intro x hx
    rcases List.mem_append.1 hx with h' | h'
    · exact h.tr.ok x h'
    · simp at h'; subst h'; exact hl
  · show (s.trail ++ [l]).Pairwise _
    rw [List.pairwise_append]
    refine ⟨h.tr.nd, by simp, fun a ha b hb => ?_⟩
    simp at hb; subst hb
    exact ⟨fun e => h1 (e ▸ ha), fun e => h2 (e ▸ ha)⟩
  · intro x hx
    rw [put_val hz k hl x hx]
    show _ = tval (s.trail ++ [l]) x
    by_cases e1 : x = l
    · subst e1; rw [if_pos rfl]; exact (tval_one.2 (by simp)).symm
    · rw [if_neg e1]
      by_cases e2 : x = -l
      · subst e2
        rw [if_pos rfl]
        unfold tval
        rw [if_neg (by simp; exact ⟨h2, e1⟩), if_pos (by simp)]
      · rw [if_neg e2, h.tr.vl x hx]
        have e3 : ¬ (-x = l) := fun e => e2 (by omega)
        unfold tval
        simp [e1, e3]
  · intro i x hx
    have hx' : (s.trail ++ [l])[i]? = some x := hx
    rcases Nat.lt_or_ge i s.trail.length with hi | hi
    · rw [List.getElem?_append_left hi] at hx'
      obtain ⟨r, e, hR⟩ := h.tr.fc i x hx'
      have hxm := List.mem_of_getElem? hx'
      have hab : x.natAbs ≠ l.natAbs := by
        intro e
        rcases Int.natAbs_eq_natAbs_iff.1 e with e | e
        · exact h1 (e ▸ hxm)
        · exact h2 (e ▸ hxm)
      refine ⟨r, by rw [put_fct hz k hl, if_neg hab, e]; rfl, ?_⟩
      rcases hR with hR | ⟨hR, k', c', e1, e2, e3, e4, e5⟩
      · exact .inl hR
      · refine .inr ⟨hR, k', c', e1, e2, e3, e4, fun y hy hne => ?_⟩
        show -y ∈ (s.trail ++ [l]).take i
        rw [take_snoc_le _ _ (Nat.le_of_lt hi)]; exact e5 y hy hne
    · have hi' : i < s.trail.length + 1 := by have := (List.getElem?_eq_some_iff.1 hx').1; simpa using this
      have hii : i = s.trail.length := by omega
      subst hii
      simp at hx'
      subst hx'
      refine ⟨k, by rw [put_fct hz k hl, if_pos rfl]; rw [show levAt (s.put l k).lvs s.trail.length = s.lvs.length from levAt_all (fun v hv => Nat.le_of_lt (h.tr.sl v hv))], .inr ⟨fun v hv => ?_, k, c, rfl, hc, hg, hlc, fun y hy hne => ?_⟩⟩
      · have := h.tr.sl v hv; omega
      · show -y ∈ (s.trail ++ [l]).take s.trail.length
        rw [take_snoc_le _ _ (Nat.le_refl _), List.take_length]; exact ho y hy hne
  · intro v hv
    have := h.tr.sl v hv
    show v.start < (s.trail ++ [l]).length
    simp; omega
  · show s.head ≤ (s.trail ++ [l]).length
    have := h.tr.hd
    simp; omega
  · intro j hj i c' hc' hg'
    replace hj : j ≤ s.lvs.length := hj
    rcases h.la.i1 j hj i c' hc' hg' with h' | h'
    · exact .inl h'
    · right
      rcases Nat.lt_or_ge j s.lvs.length with hlt | hge
      · rw [tk_put s l k hlt, hk_put]
        have t1 := h.tr.tk_le j
        have t2 := (h.tr.hk_le j).1
        show OKc c' (s.trail ++ [l]) _ _
        unfold OKc at h' ⊢
        rw [take_snoc_le _ _ t1, take_snoc_le _ _ (by omega)]; exact h'
      · have hjj : j = s.lvs.length := by omega
        subst hjj
        rw [tk_last, hk_last] at h'
        have e1 : tk (s.put l k) s.lvs.length = s.trail.length + 1 := by
          have := tk_last (s.put l k); rw [put_lvs, put_trail] at this; simpa using this
        rw [e1, hk_put, hk_last]
        exact h'.snoc l h.tr.hd
  · intro j hj i c' hc' hg' h2'
    replace hj : j ≤ s.lvs.length := hj
    rcases Nat.lt_or_ge j s.lvs.length with hlt | hge
    · rw [tk_put s l k hlt] at h2' ⊢
      rw [hk_put]
      have t1 := h.tr.tk_le j
      have t2 := (h.tr.hk_le j).1
      have h3 : Two c' s.trail (tk s j) := by
        unfold Two at h2' ⊢
        rw [put_trail, take_snoc_le _ _ t1] at h2'; exact h2'
      have h' := h.la.i2 j hj i c' hc' hg' h3
      show OKc c' (s.trail ++ [l]) _ _
      unfold OKc at h' ⊢
      rw [take_snoc_le _ _ t1, take_snoc_le _ _ (by omega)]; exact h'
    · have hjj : j = s.lvs.length := by omega
      subst hjj
      have e1 : tk (s.put l k) s.lvs.length = s.trail.length + 1 := by
        have := tk_last (s.put l k); rw [put_lvs, put_trail] at this; simpa using this
      rw [e1] at h2' ⊢
      rw [hk_put, hk_last]
      have h3 : Two c' s.trail (tk s s.lvs.length) := by
        rw [tk_last]
        obtain ⟨x, y, a1, a2, a3, a4, a5⟩ := h2'
        rw [put_trail, List.take_of_length_le (by simp)] at a4 a5
        rw [List.mem_append, not_or] at a4 a5
        exact ⟨x, y, a1, a2, a3, by rw [List.take_length]; exact a4.1, by rw [List.take_length]; exact a5.1⟩
      have h' := h.la.i2 _ hj i c' hc' hg' h3
      rw [tk_last, hk_last] at h'
      exact h'.snoc l h.tr.hd
  · exact bit_set' (bit_set' hz.bit (by omega)) (by omega)
  · intro p hp
    rcases List.mem_or_eq_of_mem_set hp with h' | rfl
    · exact hz.num p h'
    · have := hz.vars; have := hz.cls; simp only; omega
end

end Go.Proofs.Ytlmbgaconjcaiaa

namespace Go.Proofs.Ytlmbgaconjcaiaa

/-- A level's place and head. -/
def sh (v : Lv) : Nat × Nat := (v.start, v.head)

section
variable {s s' : PS}

theorem sh_get {a b : List Lv} (h : b.map sh = a.map sh) {k : Nat} {v : Lv} (hv : b[k]? = some v) : ∃ u, a[k]? = some u ∧ u.start = v.start ∧ u.head = v.head := by
  have h1 : (b.map sh)[k]? = some (sh v) := by rw [List.getElem?_map, hv]; rfl
  rw [h, List.getElem?_map] at h1
  obtain ⟨u, hu, e⟩ := Option.map_eq_some_iff.1 h1
  simp only [sh, Prod.mk.injEq] at e
  exact ⟨u, hu, e.1, e.2⟩
theorem sh_len {a b : List Lv} (h : b.map sh = a.map sh) : b.length = a.length := by simpa using congrArg List.length h

theorem levAt_sh {a b : List Lv} (h : b.map sh = a.map sh) (i : Nat) : levAt b i = levAt a i := by
  have e : ∀ l : List Lv, levAt l i = (l.map sh).countP (fun p => decide (p.1 ≤ i)) := by
    intro l; unfold levAt; rw [List.countP_map]; rfl
  rw [e, e, h]

theorem tk_sh (ht : s'.trail = s.trail) (h : s'.lvs.map sh = s.lvs.map sh) (k : Nat) : tk s' k = tk s k := by
  unfold tk
  cases e : s'.lvs[k]? with
  | none =>
    have : s.lvs[k]? = none := by rw [List.getElem?_eq_none_iff] at e ⊢; rw [← sh_len h]; exact e
    rw [this]; simp only; rw [ht]
  | some v =>
    obtain ⟨u, hu, h1, _⟩ := sh_get h e
    rw [hu]; exact h1.symm
theorem hk_sh (ht : s'.head = s.head) (h : s'.lvs.map sh = s.lvs.map sh) (k : Nat) : hk s' k = hk s k := by
  unfold hk
  cases e : s'.lvs[k]? with
  | none =>
    have : s.lvs[k]? = none := by rw [List.getElem?_eq_none_iff] at e ⊢; rw [← sh_len h]; exact e
    rw [this]; simp only; rw [ht]
  | some v =>
    obtain ⟨u, hu, _, h1⟩ := sh_get h e
    rw [hu]; exact h1.symm

/-- The trail's part stays where the trail, the values and the levels' places do. -/
theorem Tr.same (h : Tr s) (h1 : s'.vars = s.vars) (h2 : s'.trail = s.trail) (h3 : s'.vals = s.vals) (h4 : s'.fac = s.fac) (h5 : s'.head = s.head) (h6 : s'.lvs.map sh = s.lvs.map sh)
    (hc : ∀ (k : Nat) c x, x ∈ s.trail → (s.fct x).2.2 = (k : Int) → s.cls[k]? = some c → c.gone = false → ∃ c', s'.cls[k]? = some c' ∧ c'.gone = false ∧ c'.lits = c.lits) : Tr s' := by
  have hm : ∀ v ∈ s'.lvs, ∃ u ∈ s.lvs, u.start = v.start ∧ u.head = v.head := by
    intro v hv
    obtain ⟨k, hk⟩ := List.mem_iff_getElem?.1 hv
    obtain ⟨u, hu, e⟩ := sh_get h6 hk
    exact ⟨u, List.mem_of_getElem? hu, e⟩
  have hm' : ∀ v ∈ s.lvs, ∃ u ∈ s'.lvs, u.start = v.start ∧ u.head = v.head := by
    intro v hv
    obtain ⟨k, hk⟩ := List.mem_iff_getElem?.1 hv
    obtain ⟨u, hu, e⟩ := sh_get h6.symm hk
    exact ⟨u, List.mem_of_getElem? hu, e⟩
  refine ⟨by rw [h1, h2]; exact h.ok, by rw [h2]; exact h.nd, ?_, ?_, ?_, ?_, by rw [h5, h2]; exact h.hd, ?_, ?_⟩
  · intro x hx
    rw [h1] at hx
    have := h.vl x hx
    unfold PS.val at this ⊢
    rw [h1, h2, h3]; exact this
  · intro i x hx
    rw [h2] at hx
    obtain ⟨r, e, hR⟩ := h.fc i x hx
    have e' : s'.fct x = s.fct x := by unfold PS.fct; rw [h4]
    refine ⟨r, by rw [e', e, levAt_sh h6], ?_⟩
    rcases hR with ⟨a, v, hv, b⟩ | ⟨a, k, c, b1, b2, b3, b4, b5⟩
    · obtain ⟨u, hu, e1, _⟩ := hm' v hv
      exact .inl ⟨a, u, hu, e1.trans b⟩
    · obtain ⟨c', c1, c2, c3⟩ := hc k c x (List.mem_of_getElem? hx) (by rw [e]; exact b1) b2 b3
      refine .inr ⟨fun v hv => ?_, k, c', b1, c1, c2, by rw [c3]; exact b4, by rw [c3, h2]; exact b5⟩
      obtain ⟨u, hu, e1, _⟩ := hm v hv
      rw [← e1]; exact a u hu
  · have e : ∀ l : List Lv, l.Pairwise (fun a b => a.start < b.start) ↔ (l.map sh).Pairwise (fun a b => a.1 < b.1) := fun l => by rw [List.pairwise_map]; rfl
    rw [e, h6, ← e]; exact h.st
  · intro v hv
    obtain ⟨u, hu, e1, _⟩ := hm v hv
    rw [← e1, h2]; exact h.sl u hu
  · intro v hv
    obtain ⟨u, hu, e1, e2⟩ := hm v hv
    rw [← e1, ← e2, h5]; exact h.hv u hu
  · have e : ∀ l : List Lv, l.Pairwise (fun a b => a.head ≤ b.head) ↔ (l.map sh).Pairwise (fun a b => a.2 ≤ b.2) := fun l => by rw [List.pairwise_map]; rfl
    rw [e, h6, ← e]; exact h.hp

/-- The last late clause is no longer one. -/
theorem late_drop (h : Inv s) {pre : List Nat} {i : Nat} {c : Cl} (hs : s.late = pre ++ [i]) (hc : s.cls[i]? = some c)
    (hok : c.gone = false → ∀ k, k ≤ s.lvs.length → (∃ j v, k ≤ j ∧ s.lvs[j]? = some v ∧ i ∈ v.late) ∨ OKc c s.trail (tk s k) (hk s k)) : Inv { s with late := pre } := by
  have hz := h.sz
  refine ⟨h.tr.same rfl rfl rfl rfl rfl rfl (fun k c x _ _ h1 h2 => ⟨c, h1, h2, rfl⟩), ⟨h.wt.ok, h.wt.ww, h.wt.nd, h.wt.we⟩, ⟨?_, h.la.i2⟩, ⟨hz.vars, hz.vals, hz.wat, hz.fac, hz.bit, hz.num, hz.lv, ?_, ?_, hz.count, hz.stale, hz.cls⟩⟩
  · intro k hk1 i' c' hc' hg'
    rcases h.la.i1 k hk1 i' c' hc' hg' with (h' | h') | h'
    · rw [hs] at h'
      rcases List.mem_append.1 h' with h' | h'
      · exact .inl (.inl h')
      · simp at h'; subst h'
        have e : c' = c := by rw [hc] at hc'; exact (Option.some.inj hc').symm
        subst e
        rcases hok hg' k hk1 with h'' | h''
        · exact .inl (.inr h'')
        · exact .inr h''
    · exact .inl (.inr h')
    · exact .inr h'
  · intro j hj; exact hz.la j (by rw [hs]; simp [hj])
  · have := hz.sum; rw [hs] at this; simp only [List.length_append, List.length_singleton] at this; simp only; omega

theorem modify_sh (l : List Lv) (k : Nat) (f : Lv → Lv) (hf : ∀ v, sh (f v) = sh v) : (l.modify k f).map sh = l.map sh := by
  apply List.ext_getElem?
  intro i
  rw [List.getElem?_map, List.getElem?_map, List.getElem?_modify]
  cases l[i]? with
  | none => rfl
  | some v => by_cases e : k = i <;> simp [e, hf]

theorem sum_modify : ∀ (l : List Lv) (k : Nat) (i : Nat), k < l.length → ((l.modify k (fun v => { v with late := v.late ++ [i] })).map (fun v => v.late.length)).sum = (l.map (fun v => v.late.length)).sum + 1
  | [], k, i, h => by simp at h
  | v :: r, 0, i, h => by simp; omega
  | v :: r, k + 1, i, h => by
    have := sum_modify r k i (by simpa using h)
    simp only [List.modify_succ_cons, List.map_cons, List.sum_cons, this]; omega

/-- The last late clause was settled on the last level. -/
theorem late_move (h : Inv s) {pre : List Nat} {i : Nat} {c : Cl} (hs : s.late = pre ++ [i]) (hc : s.cls[i]? = some c) (hn : s.lvs.length ≠ 0) (htrue : ∃ x, x ∈ c.lits ∧ x ∈ s.trail) : Inv { s.lateLv i with late := pre } := by
  have hz := h.sz
  have hil : i < s.cls.length := (List.getElem?_eq_some_iff.1 hc).1
  have hsh : (s.lateLv i).lvs.map sh = s.lvs.map sh := modify_sh _ _ _ (fun v => rfl)
  have hsh' : ({ s.lateLv i with late := pre } : PS).lvs.map sh = s.lvs.map sh := hsh
  have hlen : (s.lateLv i).lvs.length = s.lvs.length := by simp [PS.lateLv]
  have hT : ∀ k, tk ({ s.lateLv i with late := pre } : PS) k = tk s k := fun k => tk_sh (s' := { s.lateLv i with late := pre }) (s := s) rfl hsh' k
  have hK : ∀ k, hk ({ s.lateLv i with late := pre } : PS) k = hk s k := fun k => hk_sh (s' := { s.lateLv i with late := pre }) (s := s) rfl hsh' k
  have old : ∀ (j : Nat) (v : Lv), s.lvs[j]? = some v → ∃ u : Lv, (s.lateLv i).lvs[j]? = some u ∧ ∀ x ∈ v.late, x ∈ u.late := by
    intro j v hv
    refine ⟨_, by unfold PS.lateLv; rw [List.getElem?_modify, hv]; rfl, ?_⟩
    intro x hx; split <;> simp [hx]
  have new : ∃ u : Lv, (s.lateLv i).lvs[s.lvs.length - 1]? = some u ∧ i ∈ u.late := by
    refine ⟨_, by unfold PS.lateLv; rw [List.getElem?_modify, List.getElem?_eq_getElem (by omega)]; rfl, ?_⟩
    simp
  refine ⟨h.tr.same rfl rfl rfl rfl rfl hsh (fun k c x _ _ h1 h2 => ⟨c, h1, h2, rfl⟩), ⟨h.wt.ok, h.wt.ww, h.wt.nd, h.wt.we⟩, ⟨?_, ?_⟩, ⟨hz.vars, hz.vals, hz.wat, hz.fac, hz.bit, hz.num, ?_, ?_, ?_, hz.count, hz.stale, hz.cls⟩⟩
  · intro k hk1 i' c' hc' hg'
    rw [hT, hK]
    replace hk1 : k ≤ s.lvs.length := by rw [← hlen]; exact hk1
    by_cases ei : i' = i
    · subst ei
      rcases Nat.lt_or_ge k s.lvs.length with hlt | hge
      · obtain ⟨u, hu, hi⟩ := new
        exact .inl (.inr ⟨s.lvs.length - 1, u, by omega, hu, hi⟩)
      · right
        have : k = s.lvs.length := by omega
        subst this
        rw [tk_last]
        have e : c' = c := Option.some.inj ((show s.cls[i']? = some c' from hc').symm.trans hc)
        subst e
        obtain ⟨x, hx1, hx2⟩ := htrue
        exact .inl ⟨x, hx1, by show x ∈ s.trail.take s.trail.length; rw [List.take_length]; exact hx2⟩
    · rcases h.la.i1 k hk1 i' c' hc' hg' with (h' | ⟨j, v, hj1, hj2, hj3⟩) | h'
      · rw [hs] at h'
        rcases List.mem_append.1 h' with h' | h'
        · exact .inl (.inl h')
        · simp at h'; exact absurd h' ei
      · obtain ⟨u, hu, hx⟩ := old j v hj2
        exact .inl (.inr ⟨j, u, hj1, hu, hx _ hj3⟩)
      · exact .inr h'
  · intro k hk1 i' c' hc' hg' h2
    rw [hT] at h2 ⊢
    rw [hK]
    exact h.la.i2 k (by rw [← hlen]; exact hk1) i' c' hc' hg' h2
  · intro v hv x hx
    obtain ⟨j, hj⟩ := List.mem_iff_getElem?.1 hv
    have hj' : (s.lvs.modify (s.lvs.length - 1) (fun v => { v with late := v.late ++ [i] }))[j]? = some v := hj
    rw [List.getElem?_modify] at hj'
    obtain ⟨u, hu, e⟩ := Option.map_eq_some_iff.1 hj'
    have hum := List.mem_of_getElem? hu
    subst e
    split at hx
    · simp at hx
      rcases hx with hx | rfl
      · exact hz.lv u hum x hx
      · exact hil
    · exact hz.lv u hum x hx
  · intro j hj; exact hz.la j (by rw [hs]; simp [hj])
  · have := hz.sum
    rw [hs] at this
    simp only [List.length_append, List.length_singleton] at this
    show pre.length + ((s.lvs.modify (s.lvs.length - 1) _).map _).sum ≤ s.cls.length
    rw [sum_modify _ _ _ (by omega)]; omega

theorem scan_false (v : Int → Int) : ∀ (ls : List Int) (left r : Int), (∀ x ∈ ls, x ≠ 0) → scan v ls left = (false, r) → (∀ x ∈ ls, x = r ∨ v x < 0) ∧ (r = left ∨ r ∈ ls ∧ ¬ v r < 0) ∧ (left ≠ 0 → r = left)
  | [], left, r, _, h => by simp [scan] at h; subst h; simp
  | l :: ls, left, r, h0, h => by
    unfold scan at h
    have h0' : ∀ x ∈ ls, x ≠ 0 := fun x hx => h0 x (List.mem_cons_of_mem _ hx)
    split at h
    · rename_i hc
      obtain ⟨a, b, c⟩ := scan_false v ls left r h0' h
      refine ⟨fun x hx => ?_, ?_, c⟩
      · rcases List.mem_cons.1 hx with rfl | hx
        · rcases hc with hc | hc
          · exact .inr hc
          · subst hc; exact .inl (c (h0 x (by simp))).symm
        · exact a x hx
      · rcases b with b | b
        · exact .inl b
        · exact .inr ⟨List.mem_cons_of_mem _ b.1, b.2⟩
    · rename_i hc
      split at h
      · simp at h
      · rename_i hl
        obtain ⟨a, b, c⟩ := scan_false v ls l r h0' h
        have hr : r = l := c (h0 l (by simp))
        subst hr
        refine ⟨fun x hx => ?_, .inr ⟨by simp, fun e => hc (.inl e)⟩, fun e => absurd e hl⟩
        rcases List.mem_cons.1 hx with rfl | hx
        · exact .inl rfl
        · exact a x hx
theorem scan_true (v : Int → Int) : ∀ (ls : List Int) (left r : Int), (∀ x ∈ ls, x ≠ 0) → scan v ls left = (true, r) → ∃ y ∈ ls, ¬ v y < 0 ∧ ((left ≠ 0 ∧ y ≠ left) ∨ ∃ x ∈ ls, x ≠ y ∧ ¬ v x < 0)
  | [], left, r, _, h => by simp [scan] at h
  | l :: ls, left, r, h0, h => by
    unfold scan at h
    have h0' : ∀ x ∈ ls, x ≠ 0 := fun x hx => h0 x (List.mem_cons_of_mem _ hx)
    split at h
    · obtain ⟨y, a, b, c⟩ := scan_true v ls left r h0' h
      refine ⟨y, List.mem_cons_of_mem _ a, b, ?_⟩
      rcases c with c | ⟨x, c1, c2⟩
      · exact .inl c
      · exact .inr ⟨x, List.mem_cons_of_mem _ c1, c2⟩
    · rename_i hc
      have hnl : ¬ v l < 0 := fun e => hc (.inl e)
      split at h
      · rename_i hl
        exact ⟨l, by simp, hnl, .inl ⟨hl, fun e => hc (.inr e)⟩⟩
      · rename_i hl
        obtain ⟨y, a, b, c⟩ := scan_true v ls l r h0' h
        refine ⟨y, List.mem_cons_of_mem _ a, b, .inr ?_⟩
        rcases c with c | ⟨x, c1, c2⟩
        · exact ⟨l, by simp, Ne.symm c.2, hnl⟩
        · exact ⟨x, List.mem_cons_of_mem _ c1, c2⟩

/-- A late clause that is alive is settled. -/
theorem settle_yes (h : Inv s) {pre : List Nat} {i : Nat} {c : Cl} (hs : s.late = pre ++ [i]) (hc : s.cls[i]? = some c) (hg : c.gone = false) (he : (s.settle i c.lits).1 = true) : Inv { (s.settle i c.lits).2 with late := pre } := by
  have hok := h.wt.ok i c hc
  have h0 : ∀ x ∈ c.lits, x ≠ 0 := fun x hx => (hok x hx).1
  unfold PS.settle at he ⊢
  cases e : scan s.val c.lits 0 with
  | mk b left =>
    cases b with
    | true =>
      rw [e] at he
      simp only
      obtain ⟨y, a1, a2, a3⟩ := scan_true s.val c.lits 0 left h0 e
      rcases a3 with ⟨a3, _⟩ | ⟨x, a3, a4, a5⟩
      · exact absurd rfl a3
      refine late_drop h hs hc (fun _ k hk1 => .inr (h.la.i2 k hk1 i c hc hg ⟨x, y, a3, a1, a4, fun hm => a5 ((h.vneg (hok x a3)).2 (List.mem_of_mem_take hm)), fun hm => a2 ((h.vneg (hok y a1)).2 (List.mem_of_mem_take hm))⟩))
    | false =>
      rw [e] at he
      simp only at he ⊢
      obtain ⟨b1, b2, _⟩ := scan_false s.val c.lits 0 left h0 e
      by_cases hl : left = 0
      · rw [if_pos hl] at he; cases he
      · rw [if_neg hl]
        obtain ⟨b3, b4⟩ := b2.resolve_left hl
        have hL := hok left b3
        have hno : ∀ y ∈ c.lits, y ≠ left → -y ∈ s.trail := fun y hy hne => (h.vneg (hok y hy)).1 ((b1 y hy).resolve_left hne)
        have key : ∀ t : PS, Inv t → t.late = pre ++ [i] → t.cls = s.cls → left ∈ t.trail → Inv { (if t.lvs.length = 0 then t else t.lateLv i) with late := pre } := by
          intro t ht h1 h2 h3
          have hc' : t.cls[i]? = some c := by rw [h2]; exact hc
          by_cases hn : t.lvs.length = 0
          · rw [if_pos hn]
            refine late_drop ht h1 hc' (fun _ k hk1 => .inr ?_)
            have : k = t.lvs.length := by omega
            subst this
            rw [tk_last]
            exact .inl ⟨left, b3, by rw [List.take_length]; exact h3⟩
          · rw [if_neg hn]
            exact late_move ht h1 hc' hn ⟨left, b3, h3⟩
        by_cases hv : s.val left = 0
        · rw [if_pos hv]
          obtain ⟨n1, n2⟩ := (h.vzero hL).1 hv
          exact key _ (put_inv h hL n1 n2 hc hg b3 hno) hs rfl (by simp [PS.put])
        · rw [if_neg hv]
          have hin : left ∈ s.trail := by
            have := (tval_bd (t := s.trail) left)
            have e' := h.tr.vl left hL
            refine (h.vone hL).1 ?_
            omega
          exact key _ h hs rfl hin

/-- A late clause that is not settled is broken. -/
theorem settle_no (h : Inv s) {i : Nat} {c : Cl} (hc : s.cls[i]? = some c) (he : (s.settle i c.lits).1 = false) : (s.settle i c.lits).2 = s ∧ ∀ x ∈ c.lits, -x ∈ s.trail := by
  have hok := h.wt.ok i c hc
  have h0 : ∀ x ∈ c.lits, x ≠ 0 := fun x hx => (hok x hx).1
  unfold PS.settle at he ⊢
  cases e : scan s.val c.lits 0 with
  | mk b left =>
    rw [e] at he
    cases b with
    | true => simp at he
    | false =>
      simp only at he ⊢
      obtain ⟨b1, b2, _⟩ := scan_false s.val c.lits 0 left h0 e
      by_cases hl : left = 0
      · rw [if_pos hl]
        refine ⟨rfl, fun x hx => (h.vneg (hok x hx)).1 ((b1 x hx).resolve_left (fun e => h0 x hx (e.trans hl)))⟩
      · rw [if_neg hl] at he; simp at he
end

end Go.Proofs.Ytlmbgaconjcaiaa

namespace Go.Proofs.Ytlmbgaconjcaiaa

section
variable {s : PS}

def bsI (c : Cl) (l : Int) : Int := if c.w0 = l then c.w1 else c.w0

/-- What an entry of a literal's watches says of its clause. -/
theorem entry_of (h : Inv s) {l : Int} (hl : Lt s.vars l) {q : List (Nat × Int)} (hq : s.wat[ix s.vars l]? = some q) {i : Nat} {hint : Int} (hm : (i, hint) ∈ q) {c : Cl} (hc : s.cls[i]? = some c) (hg : c.gone = false) :
    (l = c.w0 ∨ l = c.w1) ∧ bsI c l ∈ c.lits ∧ bsI c l ≠ l ∧ l ∈ c.lits ∧ hint ∈ c.lits ∧ InW s (bsI c l) i ∧ (c.w0 = l ∧ c.w1 = bsI c l ∨ c.w1 = l ∧ c.w0 = bsI c l) := by
  obtain ⟨c', hc', _, h3⟩ := h.wt.we _ q hq _ hm
  obtain rfl : c' = c := Option.some.inj (hc'.symm.trans hc)
  obtain ⟨h4, h5, h6⟩ := h3 hg
  obtain ⟨a1, a2, a3, a4, a5⟩ := h.wt.ww i c' hc hg h4
  have ok := h.wt.ok i c' hc
  have hl' : l = c'.w0 ∨ l = c'.w1 := by
    rcases h6 with h6 | h6
    · exact .inl (ix_inj hl (ok _ a2) h6)
    · exact .inr (ix_inj hl (ok _ a3) h6)
  unfold bsI
  rcases hl' with e | e
  · rw [if_pos e.symm]; exact ⟨.inl e, a3, by rw [e]; exact Ne.symm a1, by rw [e]; exact a2, h5, a5, .inl ⟨e.symm, rfl⟩⟩
  · rw [if_neg (by rw [e]; exact a1)]; exact ⟨.inr e, a2, by rw [e]; exact a1, by rw [e]; exact a3, h5, a4, .inr ⟨e.symm, rfl⟩⟩

theorem nodup_mid {K R : List (Nat × Int)} {p : Nat × Int} (h : ((K ++ p :: R).map Prod.fst).Nodup) : ((K ++ R).map Prod.fst).Nodup ∧ ∀ x ∈ K ++ R, x.1 ≠ p.1 := by
  rw [List.map_append, List.map_cons, List.nodup_append] at h
  obtain ⟨h1, h2, h3⟩ := h
  rw [List.nodup_cons] at h2
  refine ⟨?_, fun x hx e => ?_⟩
  · rw [List.map_append, List.nodup_append]
    exact ⟨h1, h2.2, fun a ha b hb => h3 a ha b (List.mem_cons_of_mem _ hb)⟩
  · rcases List.mem_append.1 hx with hx | hx
    · exact h3 x.1 (List.mem_map_of_mem hx) p.1 (by simp) e
    · exact h2.1 (by rw [← e]; exact List.mem_map_of_mem hx)

/-- An entry whose clause is gone is taken out. -/
theorem entry_gone (h : Inv s) {j : Nat} {K R : List (Nat × Int)} {i : Nat} {hint : Int} (hq : s.wat[j]? = some (K ++ (i, hint) :: R)) {c : Cl} (hc : s.cls[i]? = some c) (hg : c.gone = true) : Inv (s.setW j (K ++ R)) := by
  have hz := h.sz
  have hj : j < s.wat.length := (List.getElem?_eq_some_iff.1 hq).1
  obtain ⟨n1, n2⟩ := nodup_mid (h.wt.nd j _ hq)
  have hget : ∀ j' q', (s.wat.set j (K ++ R))[j']? = some q' → (j' = j ∧ q' = K ++ R) ∨ (j' ≠ j ∧ s.wat[j']? = some q') := by
    intro j' q' e
    by_cases ej : j' = j
    · subst ej; rw [List.getElem?_set_self hj] at e; cases e; exact .inl ⟨rfl, rfl⟩
    · rw [List.getElem?_set_ne (Ne.symm ej)] at e; exact .inr ⟨ej, e⟩
  have hin : ∀ l i' c', s.cls[i']? = some c' → c'.gone = false → InW s l i' → InW (s.setW j (K ++ R)) l i' := by
    rintro l i' c' hc' hg' ⟨q, e1, e2⟩
    by_cases ej : ix s.vars l = j
    · refine ⟨K ++ R, ?_, ?_⟩
      · show (s.wat.set j (K ++ R))[ix s.vars l]? = _
        rw [ej, List.getElem?_set_self hj]
      · rw [ej, hq] at e1; cases e1
        obtain ⟨p, hp, ep⟩ := List.mem_map.1 e2
        have : p ∈ K ++ R := by
          rcases List.mem_append.1 hp with hp | hp
          · exact List.mem_append.2 (.inl hp)
          · rcases List.mem_cons.1 hp with rfl | hp
            · simp at ep; subst ep
              rw [hc] at hc'; cases hc'; rw [hg] at hg'; cases hg'
            · exact List.mem_append.2 (.inr hp)
        rw [← ep]; exact List.mem_map_of_mem this
    · exact ⟨q, by show (s.wat.set j (K ++ R))[ix s.vars l]? = _; rw [List.getElem?_set_ne (Ne.symm ej)]; exact e1, e2⟩
  refine ⟨h.tr.same rfl rfl rfl rfl rfl rfl (fun k c x _ _ h1 h2 => ⟨c, h1, h2, rfl⟩), ⟨h.wt.ok, ?_, ?_, ?_⟩, ⟨h.la.i1, h.la.i2⟩, ⟨hz.vars, hz.vals, by simp [PS.setW, hz.wat], hz.fac, hz.bit, hz.num, hz.lv, hz.la, hz.sum, hz.count, hz.stale, hz.cls⟩⟩
  · intro i' c' hc' hg' hw
    obtain ⟨a1, a2, a3, a4, a5⟩ := h.wt.ww i' c' hc' hg' hw
    exact ⟨a1, a2, a3, hin _ _ _ hc' hg' a4, hin _ _ _ hc' hg' a5⟩
  · intro j' q' e
    rcases hget j' q' e with ⟨_, rfl⟩ | ⟨_, e⟩
    · exact n1
    · exact h.wt.nd j' q' e
  · intro j' q' e p hp
    rcases hget j' q' e with ⟨rfl, rfl⟩ | ⟨_, e⟩
    · refine h.wt.we j' _ hq p ?_
      rcases List.mem_append.1 hp with hp | hp
      · exact List.mem_append.2 (.inl hp)
      · exact List.mem_append.2 (.inr (List.mem_cons_of_mem _ hp))
    · exact h.wt.we j' q' e p hp

/-- An entry's hint turns. -/
theorem entry_hint (h : Inv s) {j : Nat} {K R : List (Nat × Int)} {i : Nat} {hint o : Int} (hq : s.wat[j]? = some (K ++ (i, hint) :: R)) {c : Cl} (hc : s.cls[i]? = some c) (ho : o ∈ c.lits) : Inv (s.setW j (K ++ (i, o) :: R)) := by
  have hz := h.sz
  have hj : j < s.wat.length := (List.getElem?_eq_some_iff.1 hq).1
  have hmap : (K ++ (i, o) :: R).map Prod.fst = (K ++ (i, hint) :: R).map Prod.fst := by simp
  have hget : ∀ j' q', (s.wat.set j (K ++ (i, o) :: R))[j']? = some q' → (j' = j ∧ q' = K ++ (i, o) :: R) ∨ (j' ≠ j ∧ s.wat[j']? = some q') := by
    intro j' q' e
    by_cases ej : j' = j
    · subst ej; rw [List.getElem?_set_self hj] at e; cases e; exact .inl ⟨rfl, rfl⟩
    · rw [List.getElem?_set_ne (Ne.symm ej)] at e; exact .inr ⟨ej, e⟩
  have hin : ∀ l i', InW s l i' → InW (s.setW j (K ++ (i, o) :: R)) l i' := by
    rintro l i' ⟨q, e1, e2⟩
    by_cases ej : ix s.vars l = j
    · refine ⟨K ++ (i, o) :: R, ?_, ?_⟩
      · show (s.wat.set j _)[ix s.vars l]? = _
        rw [ej, List.getElem?_set_self hj]
      · rw [ej, hq] at e1; cases e1
        rw [hmap]; exact e2
    · exact ⟨q, by show (s.wat.set j _)[ix s.vars l]? = _; rw [List.getElem?_set_ne (Ne.symm ej)]; exact e1, e2⟩
  refine ⟨h.tr.same rfl rfl rfl rfl rfl rfl (fun k c x _ _ h1 h2 => ⟨c, h1, h2, rfl⟩), ⟨h.wt.ok, ?_, ?_, ?_⟩, ⟨h.la.i1, h.la.i2⟩, ⟨hz.vars, hz.vals, by simp [PS.setW, hz.wat], hz.fac, hz.bit, hz.num, hz.lv, hz.la, hz.sum, hz.count, hz.stale, hz.cls⟩⟩
  · intro i' c' hc' hg' hw
    obtain ⟨a1, a2, a3, a4, a5⟩ := h.wt.ww i' c' hc' hg' hw
    exact ⟨a1, a2, a3, hin _ _ a4, hin _ _ a5⟩
  · intro j' q' e
    rcases hget j' q' e with ⟨_, rfl⟩ | ⟨_, e⟩
    · rw [hmap]; exact h.wt.nd j _ hq
    · exact h.wt.nd j' q' e
  · intro j' q' e p hp
    rcases hget j' q' e with ⟨rfl, rfl⟩ | ⟨_, e⟩
    · rcases List.mem_append.1 hp with hp | hp
      · exact h.wt.we j' _ hq p (List.mem_append.2 (.inl hp))
      · rcases List.mem_cons.1 hp with rfl | hp
        · obtain ⟨c', hc', _, h3⟩ := h.wt.we j' _ hq (i, hint) (by simp)
          obtain rfl : c' = c := Option.some.inj (hc'.symm.trans hc)
          exact ⟨c', hc, h.wt.ok i c' hc o ho, fun hg => ⟨(h3 hg).1, ho, (h3 hg).2.2⟩⟩
        · exact h.wt.we j' _ hq p (List.mem_append.2 (.inr (List.mem_cons_of_mem _ hp)))
    · exact h.wt.we j' q' e p hp

/-- A clause that watches a false literal watches another one that is not false. -/
def PS.moved (s : PS) (j : Nat) (q : List (Nat × Int)) (i : Nat) (c : Cl) (k o : Int) : PS := (((s.setW j q).setCl i { c with w0 := k, w1 := o }).watch k i o)

theorem entry_move (h : Inv s) {l : Int} (hl : Lt s.vars l) (hlf : -l ∈ s.trail) {K R : List (Nat × Int)} {i : Nat} {hint : Int} (hq : s.wat[ix s.vars l]? = some (K ++ (i, hint) :: R)) {c : Cl} (hc : s.cls[i]? = some c) (hg : c.gone = false)
    {k : Int} (hk : k ∈ c.lits) (hko : k ≠ bsI c l) (hkv : -k ∉ s.trail) : Inv (s.moved (ix s.vars l) (K ++ R) i c k (bsI c l)) := by
  have hz := h.sz
  obtain ⟨_, b1, b2, b3, b4, b5, b6⟩ := entry_of h hl hq (List.mem_append.2 (.inr (List.mem_cons_self))) hc hg
  have ok := h.wt.ok i c hc
  have hK := ok k hk
  have hO := ok _ b1
  have hkl : k ≠ l := fun e => hkv (e ▸ hlf)
  have hil : i < s.cls.length := (List.getElem?_eq_some_iff.1 hc).1
  have hj : ix s.vars l < s.wat.length := (List.getElem?_eq_some_iff.1 hq).1
  have hjk : ix s.vars k < s.wat.length := by have := ix_lt hK; have := hz.wat; omega
  have jk : ix s.vars k ≠ ix s.vars l := fun e => hkl (ix_inj hK hl e)
  have jo : ix s.vars (bsI c l) ≠ ix s.vars l := fun e => b2 (ix_inj hO hl e)
  have ko : ix s.vars k ≠ ix s.vars (bsI c l) := fun e => hko (ix_inj hK hO e)
  generalize bsI c l = o at *
  obtain ⟨n1, n2⟩ := nodup_mid (h.wt.nd _ _ hq)
  have hwk : c.w0 = l ∧ c.w1 = o ∨ c.w1 = l ∧ c.w0 = o := b6
  obtain ⟨qk, hqk⟩ : ∃ qk, s.wat[ix s.vars k]? = some qk := ⟨_, List.getElem?_eq_getElem hjk⟩
  have hfresh : i ∉ qk.map Prod.fst := by
    intro hm
    obtain ⟨p, hp, ep⟩ := List.mem_map.1 hm
    obtain ⟨c', hc', _, h3⟩ := h.wt.we _ qk hqk p hp
    rw [ep] at hc'
    obtain rfl : c' = c := Option.some.inj (hc'.symm.trans hc)
    rcases (h3 hg).2.2 with e | e <;> rcases hwk with ⟨e1, e2⟩ | ⟨e1, e2⟩
    · rw [e1] at e; exact jk e
    · rw [e2] at e; exact ko e
    · rw [e2] at e; exact ko e
    · rw [e1] at e; exact jk e
  have hwat : (s.moved (ix s.vars l) (K ++ R) i c k o).wat = (s.wat.set (ix s.vars l) (K ++ R)).modify (ix s.vars k) (fun q => q ++ [(i, o)]) := rfl
  have gl : (s.moved (ix s.vars l) (K ++ R) i c k o).wat[ix s.vars l]? = some (K ++ R) := by
    rw [hwat, List.getElem?_modify, List.getElem?_set_self hj]; simp [jk]
  have gk : (s.moved (ix s.vars l) (K ++ R) i c k o).wat[ix s.vars k]? = some (qk ++ [(i, o)]) := by
    rw [hwat, List.getElem?_modify, List.getElem?_set_ne (Ne.symm jk), hqk]; simp
  have gn : ∀ j', j' ≠ ix s.vars l → j' ≠ ix s.vars k → (s.moved (ix s.vars l) (K ++ R) i c k o).wat[j']? = s.wat[j']? := by
    intro j' e1 e2
    rw [hwat, List.getElem?_modify, List.getElem?_set_ne (Ne.symm e1)]; simp [Ne.symm e2]
  have hget : ∀ j' q', (s.moved (ix s.vars l) (K ++ R) i c k o).wat[j']? = some q' → (j' = ix s.vars l ∧ q' = K ++ R) ∨ (j' = ix s.vars k ∧ q' = qk ++ [(i, o)]) ∨ (j' ≠ ix s.vars l ∧ j' ≠ ix s.vars k ∧ s.wat[j']? = some q') := by
    intro j' q' e
    by_cases e1 : j' = ix s.vars l
    · subst e1; rw [gl] at e; cases e; exact .inl ⟨rfl, rfl⟩
    · by_cases e2 : j' = ix s.vars k
      · subst e2; rw [gk] at e; cases e; exact .inr (.inl ⟨rfl, rfl⟩)
      · rw [gn j' e1 e2] at e; exact .inr (.inr ⟨e1, e2, e⟩)
  have gc : (s.moved (ix s.vars l) (K ++ R) i c k o).cls[i]? = some { c with w0 := k, w1 := o } := by
    show (s.cls.set i _)[i]? = _; rw [List.getElem?_set_self hil]
  have gcn : ∀ i', i' ≠ i → (s.moved (ix s.vars l) (K ++ R) i c k o).cls[i']? = s.cls[i']? := by
    intro i' e; show (s.cls.set i _)[i']? = _; rw [List.getElem?_set_ne (Ne.symm e)]
  have hin : ∀ x i', i' ≠ i → InW s x i' → InW (s.moved (ix s.vars l) (K ++ R) i c k o) x i' := by
    rintro x i' hne ⟨q, e1, e2⟩
    by_cases ex : ix s.vars x = ix s.vars l
    · rw [ex, hq] at e1; cases e1
      refine ⟨K ++ R, by show (s.moved _ _ i c k o).wat[ix s.vars x]? = _; rw [ex]; exact gl, ?_⟩
      obtain ⟨p, hp, ep⟩ := List.mem_map.1 e2
      rw [← ep]
      refine List.mem_map_of_mem ?_
      rcases List.mem_append.1 hp with hp | hp
      · exact List.mem_append.2 (.inl hp)
      · rcases List.mem_cons.1 hp with rfl | hp
        · exact absurd ep.symm hne
        · exact List.mem_append.2 (.inr hp)
    · by_cases ey : ix s.vars x = ix s.vars k
      · rw [ey, hqk] at e1; cases e1
        exact ⟨qk ++ [(i, o)], by show (s.moved _ _ i c k o).wat[ix s.vars x]? = _; rw [ey]; exact gk, by rw [List.map_append]; exact List.mem_append.2 (.inl e2)⟩
      · exact ⟨q, by show (s.moved _ _ i c k o).wat[ix s.vars x]? = _; rw [gn _ ex ey]; exact e1, e2⟩
  have okc : ∀ (a b : Nat), OKc c s.trail a b → OKc { c with w0 := k, w1 := o } s.trail a b := by
    rintro a b (⟨x, h1, h2⟩ | ⟨h1, h2, h3⟩)
    · exact .inl ⟨x, h1, h2⟩
    · refine .inr ⟨hO.1, fun e => hkv (List.mem_of_mem_take e), ?_⟩
      rcases hwk with ⟨e1, e2⟩ | ⟨e1, e2⟩
      · rw [e2] at h3; exact h3
      · rw [e2] at h2; exact h2
  refine ⟨h.tr.same rfl rfl rfl rfl rfl rfl (fun k' c' x _ _ h1 h2 => ?_), ⟨?_, ?_, ?_, ?_⟩, ⟨?_, ?_⟩, ⟨hz.vars, hz.vals, by rw [hwat]; simp; exact hz.wat, hz.fac, hz.bit, hz.num, fun v hv x hx => by have := hz.lv v hv x hx; show x < (s.cls.set i _).length; simpa using this, fun x hx => by have := hz.la x hx; show x < (s.cls.set i _).length; simpa using this, by show _ ≤ (s.cls.set i _).length; rw [List.length_set]; exact hz.sum, by show _ ∧ _ ≤ (((s.cls.set i _).length : Nat) : Int); rw [List.length_set]; exact hz.count, by show _ ∧ _ ≤ (((s.cls.set i _).length : Nat) : Int); rw [List.length_set]; exact hz.stale, by show (s.cls.set i _).length ≤ _; rw [List.length_set]; exact hz.cls⟩⟩
  · by_cases e : k' = i
    · subst e; obtain rfl : c' = c := Option.some.inj (h1.symm.trans hc); exact ⟨_, gc, h2, rfl⟩
    · exact ⟨c', by rw [gcn k' e]; exact h1, h2, rfl⟩
  · intro i' c' hc'
    by_cases e : i' = i
    · subst e; rw [gc] at hc'; cases hc'; exact ok
    · rw [gcn i' e] at hc'; exact h.wt.ok i' c' hc'
  · intro i' c' hc' hg' hw
    by_cases e : i' = i
    · subst e; rw [gc] at hc'; cases hc'
      refine ⟨hko, hk, b1, ⟨_, gk, by simp⟩, ?_⟩
      obtain ⟨q, e1, e2⟩ := b5
      exact ⟨q, by show (s.moved _ _ i' c k o).wat[ix s.vars o]? = _; rw [gn _ jo (Ne.symm ko)]; exact e1, e2⟩
    · rw [gcn i' e] at hc'
      obtain ⟨a1, a2, a3, a4, a5⟩ := h.wt.ww i' c' hc' hg' hw
      exact ⟨a1, a2, a3, hin _ _ e a4, hin _ _ e a5⟩
  · intro j' q' e
    rcases hget j' q' e with ⟨_, rfl⟩ | ⟨_, rfl⟩ | ⟨_, _, e⟩
    · exact n1
    · rw [List.map_append, List.nodup_append]
      refine ⟨h.wt.nd _ _ hqk, by simp, fun a ha b hb => ?_⟩
      simp at hb; subst hb
      exact fun e => hfresh (e ▸ ha)
    · exact h.wt.nd j' q' e
  · intro j' q' e p hp
    rcases hget j' q' e with ⟨rfl, rfl⟩ | ⟨rfl, rfl⟩ | ⟨e1, e2, e⟩
    · have hpi := n2 p hp
      rw [gcn _ hpi]
      refine h.wt.we _ _ hq p ?_
      rcases List.mem_append.1 hp with hp | hp
      · exact List.mem_append.2 (.inl hp)
      · exact List.mem_append.2 (.inr (List.mem_cons_of_mem _ hp))
    · rcases List.mem_append.1 hp with hp | hp
      · have hpi : p.1 ≠ i := fun e => hfresh (e ▸ List.mem_map_of_mem hp)
        rw [gcn _ hpi]
        exact h.wt.we _ _ hqk p hp
      · simp at hp; subst hp
        exact ⟨_, gc, hO, fun _ => ⟨hO.1, b1, .inl rfl⟩⟩
    · obtain ⟨c', hc', x1, x2⟩ := h.wt.we j' q' e p hp
      by_cases ei : p.1 = i
      · rw [ei] at hc' ⊢
        obtain rfl : c' = c := Option.some.inj (hc'.symm.trans hc)
        refine ⟨_, gc, x1, fun hg'' => ⟨hO.1, (x2 hg).2.1, .inr ?_⟩⟩
        rcases (x2 hg).2.2 with y | y <;> rcases hwk with ⟨y1, y2⟩ | ⟨y1, y2⟩
        · rw [y1] at y; exact absurd y e1
        · rw [y2] at y; exact y
        · rw [y2] at y; exact y
        · rw [y1] at y; exact absurd y e1
      · exact ⟨c', by rw [gcn _ ei]; exact hc', x1, x2⟩
  · intro k' hk' i' c' hc' hg'
    by_cases e : i' = i
    · subst e; rw [gc] at hc'; cases hc'
      rcases h.la.i1 k' hk' i' c hc hg with h' | h'
      · exact .inl h'
      · exact .inr (okc _ _ h')
    · rw [gcn i' e] at hc'
      exact h.la.i1 k' hk' i' c' hc' hg'
  · intro k' hk' i' c' hc' hg' h2
    by_cases e : i' = i
    · subst e; rw [gc] at hc'; cases hc'
      exact okc _ _ (h.la.i2 k' hk' i' c hc hg h2)
    · rw [gcn i' e] at hc'
      exact h.la.i2 k' hk' i' c' hc' hg' h2

/-- All clauses that watch a literal of the trail as false are true: the head goes on. -/
theorem head_on (h : Inv s) (hlate : s.late = []) {l : Int} (hl : s.trail[s.head]? = some (-l)) {q : List (Nat × Int)} (hq : s.wat[ix s.vars l]? = some q) (hall : ∀ p ∈ q, ∀ c, s.cls[p.1]? = some c → c.gone = false → ∃ x, x ∈ c.lits ∧ x ∈ s.trail) : Inv { s with head := s.head + 1 } := by
  have hz := h.sz
  have hlt : s.head < s.trail.length := (List.getElem?_eq_some_iff.1 hl).1
  have hT : ∀ k, tk ({ s with head := s.head + 1 } : PS) k = tk s k := fun k => rfl
  have hK : ∀ k, k < s.lvs.length → hk ({ s with head := s.head + 1 } : PS) k = hk s k := by
    intro k hk1; unfold hk; simp only; rw [List.getElem?_eq_getElem hk1]
  have hKl : hk ({ s with head := s.head + 1 } : PS) s.lvs.length = s.head + 1 := hk_last _
  have last : ∀ (i : Nat) (c : Cl), s.cls[i]? = some c → c.gone = false → OKc c s.trail s.trail.length (s.head + 1) := by
    intro i c hc hg
    have h1 := h.la.i1 s.lvs.length (Nat.le_refl _) i c hc hg
    rw [tk_last, hk_last] at h1
    rcases h1 with (h1 | ⟨j, v, h1, h2, _⟩) | (h1 | ⟨h1, h2, h3⟩)
    · rw [hlate] at h1; cases h1
    · rw [List.getElem?_eq_none h1] at h2; cases h2
    · exact .inl h1
    · obtain ⟨_, a2, a3, a4, a5⟩ := h.wt.ww i c hc hg h1
      have tr : ∀ x, InW s x i → x = l → ∃ y, y ∈ c.lits ∧ y ∈ s.trail.take s.trail.length := by
        rintro x ⟨q', e1, e2⟩ rfl
        rw [hq] at e1; cases e1
        obtain ⟨p, hp, ep⟩ := List.mem_map.1 e2
        obtain ⟨y, y1, y2⟩ := hall p hp c (by rw [ep]; exact hc) hg
        exact ⟨y, y1, by rw [List.take_length]; exact y2⟩
      have nt : ∀ x, x ≠ l → -x ∉ s.trail.take s.head → -x ∉ s.trail.take (s.head + 1) := by
        intro x hx hn hm
        obtain ⟨i', i1, i2⟩ := mem_take_iff.1 hm
        by_cases e : i' = s.head
        · subst e; rw [hl] at i2; simp at i2; omega
        · exact hn (mem_take_iff.2 ⟨i', by omega, i2⟩)
      by_cases e0 : c.w0 = l
      · exact .inl (tr _ a4 e0)
      · by_cases e1 : c.w1 = l
        · exact .inl (tr _ a5 e1)
        · exact .inr ⟨h1, nt _ e0 h2, nt _ e1 h3⟩
  refine ⟨⟨h.tr.ok, h.tr.nd, h.tr.vl, h.tr.fc, h.tr.st, h.tr.sl, hlt, fun v hv => ⟨(h.tr.hv v hv).1, by have := (h.tr.hv v hv).2; show _ ≤ s.head + 1; omega⟩, h.tr.hp⟩, ⟨h.wt.ok, h.wt.ww, h.wt.nd, h.wt.we⟩, ⟨?_, ?_⟩, ⟨hz.vars, hz.vals, hz.wat, hz.fac, hz.bit, hz.num, hz.lv, hz.la, hz.sum, hz.count, hz.stale, hz.cls⟩⟩
  · intro k hk' i c hc hg
    replace hk' : k ≤ s.lvs.length := hk'
    rcases Nat.lt_or_ge k s.lvs.length with h1 | h1
    · rw [hT, hK k h1]; exact h.la.i1 k hk' i c hc hg
    · obtain rfl : k = s.lvs.length := by omega
      rw [hT, hKl, tk_last]
      exact .inr (last i c hc hg)
  · intro k hk' i c hc hg h2
    replace hk' : k ≤ s.lvs.length := hk'
    rcases Nat.lt_or_ge k s.lvs.length with h1 | h1
    · rw [hT] at h2; rw [hT, hK k h1]; exact h.la.i2 k hk' i c hc hg h2
    · obtain rfl : k = s.lvs.length := by omega
      rw [hT, hKl, tk_last]
      exact last i c hc hg
end

end Go.Proofs.Ytlmbgaconjcaiaa

namespace Go.Proofs.Ytlmbgaconjcaiaa

def key (c : Cl) : List Int × Bool := (c.lits, c.gone)

/-- The clauses and the decisions stay; the trail grows. -/
structure Frm (s s' : PS) : Prop where
  vars : s'.vars = s.vars
  cl : s'.cls.map key = s.cls.map key
  count : s'.count = s.count
  stale : s'.stale = s.stale
  lv : s'.lvs.map sh = s.lvs.map sh
  tr : ∃ m, s'.trail = s.trail ++ m

theorem Frm.refl (s : PS) : Frm s s := ⟨rfl, rfl, rfl, rfl, rfl, [], by simp⟩
theorem Frm.trans {a b c : PS} (h : Frm a b) (k : Frm b c) : Frm a c := by
  obtain ⟨m, hm⟩ := h.tr
  obtain ⟨n, hn⟩ := k.tr
  exact ⟨k.vars.trans h.vars, k.cl.trans h.cl, k.count.trans h.count, k.stale.trans h.stale, k.lv.trans h.lv, m ++ n, by rw [hn, hm, List.append_assoc]⟩

theorem Frm.len {s s' : PS} (h : Frm s s') : s'.cls.length = s.cls.length := by simpa using congrArg List.length h.cl
theorem Frm.lits {s s' : PS} (h : Frm s s') (hl : ∀ c ∈ s.cls, c.lits.length ≤ 10000) : ∀ c ∈ s'.cls, c.lits.length ≤ 10000 := by
  intro c hc
  have : key c ∈ s.cls.map key := by rw [← h.cl]; exact List.mem_map_of_mem hc
  obtain ⟨c', hc', e⟩ := List.mem_map.1 this
  simp only [key, Prod.mk.injEq] at e
  rw [← e.1]; exact hl c' hc'

theorem nodup_len : ∀ (n : Nat) (l : List Nat), l.Nodup → (∀ x ∈ l, x < n) → l.length ≤ n
  | 0, l, _, h => by
    cases l with
    | nil => exact Nat.le_refl _
    | cons x r => have := h x (by simp); omega
  | n + 1, l, hn, h => by
    by_cases hm : n ∈ l
    · obtain ⟨a, b, rfl⟩ := List.append_of_mem hm
      rw [List.nodup_append, List.nodup_cons] at hn
      obtain ⟨h1, ⟨h2, h3⟩, h4⟩ := hn
      have := nodup_len n (a ++ b) (by rw [List.nodup_append]; exact ⟨h1, h3, fun x hx y hy => h4 x hx y (List.mem_cons_of_mem _ hy)⟩) (fun x hx => by
        have hlt := h x (by rcases List.mem_append.1 hx with h | h <;> simp [h])
        have : x ≠ n := by
          rcases List.mem_append.1 hx with hx | hx
          · exact h4 x hx n (by simp)
          · rintro rfl; exact h2 hx
        omega)
      simp only [List.length_append, List.length_cons] at this ⊢; omega
    · have := nodup_len n l hn (fun x hx => by
        have := h x hx
        have : x ≠ n := by rintro rfl; exact hm hx
        omega)
      omega

theorem le_sum : ∀ (l : List Lv) (v : Lv), v ∈ l → v.late.length ≤ (l.map (fun v => v.late.length)).sum
  | [], v, h => by cases h
  | a :: r, v, h => by
    simp only [List.map_cons, List.sum_cons]
    rcases List.mem_cons.1 h with rfl | h
    · omega
    · have := le_sum r v h; omega

section
variable {s : PS}
theorem Inv.widx (h : Inv s) {j : Nat} {q : List (Nat × Int)} (hq : s.wat[j]? = some q) : ∀ p ∈ q, p.1 < s.cls.length := by
  intro p hp
  obtain ⟨c, hc, _⟩ := h.wt.we j q hq p hp
  exact (List.getElem?_eq_some_iff.1 hc).1
theorem Inv.wlen (h : Inv s) {j : Nat} {q : List (Nat × Int)} (hq : s.wat[j]? = some q) : q.length ≤ s.cls.length := by
  have := nodup_len s.cls.length (q.map Prod.fst) (h.wt.nd j q hq) (fun x hx => by
    obtain ⟨p, hp, rfl⟩ := List.mem_map.1 hx
    exact h.widx hq p hp)
  simpa using this

theorem put_frm (l r : Int) : Frm s (s.put l r) := ⟨rfl, rfl, rfl, rfl, rfl, [l], rfl⟩
theorem settle_frm (i : Nat) (ls : List Int) (late : List Nat) : Frm s { (s.settle i ls).2 with late := late } := by
  unfold PS.settle
  have e0 : Frm s { s with late := late } := ⟨rfl, rfl, rfl, rfl, rfl, [], by simp⟩
  split
  · exact e0
  · split
    · exact e0
    · simp only
      have e : ∀ t : PS, Frm s t → Frm s { (if t.lvs.length = 0 then t else t.lateLv i) with late := late } := by
        intro t ht
        split
        · exact ⟨ht.vars, ht.cl, ht.count, ht.stale, ht.lv, ht.tr⟩
        · exact ⟨ht.vars, ht.cl, ht.count, ht.stale, (show (t.lateLv i).lvs.map sh = t.lvs.map sh from modify_sh t.lvs _ _ (fun v => rfl)).trans ht.lv, ht.tr⟩
      split
      · exact e _ (put_frm _ _)
      · exact e _ (Frm.refl s)
theorem settle_late (i : Nat) (ls : List Int) : (s.settle i ls).2.late = s.late ∧ (s.settle i ls).2.cls = s.cls := by
  unfold PS.settle
  split
  · exact ⟨rfl, rfl⟩
  · split
    · exact ⟨rfl, rfl⟩
    · simp only
      split <;> split <;> exact ⟨rfl, rfl⟩

theorem late_pop (s : PS) (h : s.late ≠ []) : ∃ pre i, s.late = pre ++ [i] := ⟨_, _, (List.dropLast_concat_getLast h).symm⟩
end

/-- A clause of a state is broken. -/
def Brk (s : PS) (n : Int) : Prop := ∃ (i : Nat) (c : Cl), n = (i : Int) ∧ s.cls[i]? = some c ∧ c.gone = false ∧ ∀ x ∈ c.lits, -x ∈ s.trail

end Go.Proofs.Ytlmbgaconjcaiaa

namespace Go.Proofs.Ytlmbgaconjcaiaa

section
variable {s : PS}
theorem setW_setW (s : PS) (j : Nat) (a b : List (Nat × Int)) : (s.setW j a).setW j b = s.setW j b := by
  unfold PS.setW; simp
theorem setW_self {j : Nat} {q : List (Nat × Int)} (h : s.wat[j]? = some q) : s.setW j q = s := by
  obtain ⟨hi, e⟩ := List.getElem?_eq_some_iff.1 h
  have : s.wat.set j q = s.wat := by rw [← e]; exact List.set_getElem_self hi
  unfold PS.setW; rw [this]
theorem setW_get {j : Nat} {q : List (Nat × Int)} (h : j < s.wat.length) : (s.setW j q).wat[j]? = some q := by
  unfold PS.setW; rw [List.getElem?_set_self h]
theorem setW_put (s : PS) (j : Nat) (a : List (Nat × Int)) (l r : Int) : (s.setW j a).put l r = (s.put l r).setW j a := rfl
theorem modify_set_comm {α : Type} (l : List α) (i j : Nat) (f : α → α) (a : α) (h : i ≠ j) : (l.set j a).modify i f = (l.modify i f).set j a := by
  apply List.ext_getElem?
  intro k
  rw [List.getElem?_modify, List.getElem?_set, List.getElem?_set, List.length_modify, List.getElem?_modify]
  by_cases e : j = k
  · subst e; simp [h]
  · simp [e]
theorem setW_moved (s : PS) (j : Nat) (a b : List (Nat × Int)) (i : Nat) (c : Cl) (k o : Int) (h : ix s.vars k ≠ j) : ((s.setW j a).setCl i { c with w0 := k, w1 := o }).watch k i o = (s.moved j b i c k o).setW j a := by
  unfold PS.moved PS.watch PS.setCl PS.setW
  simp only
  rw [modify_set_comm _ _ _ _ _ h, modify_set_comm _ _ _ _ _ h]
  simp

theorem raw_set {K R : List (Nat × Int)} {p : Nat × Int} (h : K.length < R.length) : (K ++ R.drop K.length).set K.length p = (K ++ [p]) ++ R.drop (K.length + 1) := by
  rw [List.set_append_right _ _ (Nat.le_refl _), Nat.sub_self, List.append_assoc]
  congr 1
  rw [List.drop_eq_getElem_cons h]
  rfl
theorem raw_get {K R : List (Nat × Int)} {k : Nat} (h : K.length ≤ k) : (K ++ R.drop K.length)[k]? = R[k]? := by
  rw [List.getElem?_append_right h, List.getElem?_drop]; congr 1; omega
theorem raw_len {K R : List (Nat × Int)} (h : K.length ≤ R.length) : (K ++ R.drop K.length).length = R.length := by
  simp; omega

theorem first_hit (p : Int → Bool) : ∀ ls : List Int, (∀ x ∈ ls, p x = false) ∨ ∃ t, ∃ h : t < ls.length, p ls[t] = true ∧ ∀ x ∈ ls.take t, p x = false
  | [] => .inl (by simp)
  | a :: r => by
    cases ha : p a with
    | true => exact .inr ⟨0, by simp, ha, by simp⟩
    | false =>
      rcases first_hit p r with h | ⟨t, h, h1, h2⟩
      · exact .inl (fun x hx => by rcases List.mem_cons.1 hx with rfl | hx; exact ha; exact h x hx)
      · refine .inr ⟨t + 1, by simpa using h, by simpa using h1, fun x hx => ?_⟩
        rw [List.take_succ_cons] at hx
        rcases List.mem_cons.1 hx with rfl | hx
        · exact ha
        · exact h2 x hx
end

/-- How the watches of a literal are gone through: the literals whose clauses stay, and are true. -/
def Tru (s : PS) (K : List (Nat × Int)) : Prop := ∀ p ∈ K, ∀ c, s.cls[p.1]? = some c → c.gone = false → ∃ x, x ∈ c.lits ∧ x ∈ s.trail

theorem Tru.put {s : PS} {K : List (Nat × Int)} (h : Tru s K) (l r : Int) : Tru (s.put l r) K := by
  intro p hp c hc hg
  obtain ⟨x, h1, h2⟩ := h p hp c hc hg
  exact ⟨x, h1, by rw [put_trail]; exact List.mem_append.2 (.inl h2)⟩
theorem Tru.moved {s : PS} {K : List (Nat × Int)} (h : Tru s K) {j : Nat} {q : List (Nat × Int)} {i : Nat} {c : Cl} {k o : Int} (hc : s.cls[i]? = some c) : Tru (s.moved j q i c k o) K := by
  intro p hp c' hc' hg
  have hc'' : (s.cls.set i { c with w0 := k, w1 := o })[p.1]? = some c' := hc'
  by_cases e : p.1 = i
  · rw [e, List.getElem?_set_self (List.getElem?_eq_some_iff.1 hc).1] at hc''
    cases hc''
    exact h p hp c (by rw [e]; exact hc) hg
  · rw [List.getElem?_set_ne (Ne.symm e)] at hc''
    exact h p hp c' hc'' hg
theorem Tru.snoc {s : PS} {K : List (Nat × Int)} (h : Tru s K) {p : Nat × Int} (hp : ∀ c, s.cls[p.1]? = some c → c.gone = false → ∃ x, x ∈ c.lits ∧ x ∈ s.trail) : Tru s (K ++ [p]) := by
  intro q hq
  rcases List.mem_append.1 hq with hq | hq
  · exact h q hq
  · simp at hq; subst hq; exact hp

theorem moved_frm {s : PS} {j : Nat} {q : List (Nat × Int)} {i : Nat} {c : Cl} {k o : Int} (hc : s.cls[i]? = some c) : Frm s (s.moved j q i c k o) := by
  refine ⟨rfl, ?_, rfl, rfl, rfl, [], by simp [PS.moved, PS.watch, PS.setCl, PS.setW]⟩
  show (s.cls.set i { c with w0 := k, w1 := o }).map key = s.cls.map key
  rw [List.map_set]
  obtain ⟨hi, e⟩ := List.getElem?_eq_some_iff.1 hc
  have : (s.cls.map key).set i (key { c with w0 := k, w1 := o }) = s.cls.map key := by
    have h2 : key { c with w0 := k, w1 := o } = (s.cls.map key)[i]'(by simpa using hi) := by simp [key, e]
    rw [h2]; exact List.set_getElem_self _
  exact this
theorem setW_frm (s : PS) (j : Nat) (q : List (Nat × Int)) : Frm s (s.setW j q) := ⟨rfl, rfl, rfl, rfl, rfl, [], by simp [PS.setW]⟩

end Go.Proofs.Ytlmbgaconjcaiaa

namespace Go.Proofs.Ytlmbgaconjcaiaa

theorem zero_inv (V : Nat) (h : V ≤ 1048576) : Inv (PS.zero V) := by
  have hrep : ∀ {α : Type} (n : Nat) (a : α) (i : Nat) (x : α), (List.replicate n a)[i]? = some x → x = a := by
    intro α n a i x hx
    exact List.eq_of_mem_replicate (List.mem_of_getElem? hx)
  have e1 : (PS.zero V).trail = [] := rfl
  have e2 : (PS.zero V).lvs = [] := rfl
  have e3 : (PS.zero V).cls = [] := rfl
  have e4 : (PS.zero V).late = [] := rfl
  refine ⟨⟨(by rw [e1]; simp), (by rw [e1]; exact List.Pairwise.nil), ?_, (by rw [e1]; simp), (by rw [e2]; exact List.Pairwise.nil), (by rw [e2]; simp), Nat.le_refl _, (by rw [e2]; simp), (by rw [e2]; exact List.Pairwise.nil)⟩, ⟨(by rw [e3]; simp), (by rw [e3]; simp), ?_, ?_⟩, ⟨(by rw [e3]; simp), (by rw [e3]; simp)⟩, ⟨h, (by simp [PS.zero]), (by simp [PS.zero]), (by simp [PS.zero]), ?_, ?_, (by rw [e2]; simp), (by rw [e4]; simp), (by simp [PS.zero]), (by simp [PS.zero]), (by simp [PS.zero]), (by simp [PS.zero])⟩⟩
  · intro x hx
    unfold PS.val tval
    simp [PS.zero, List.getD_eq_getElem?_getD, List.getElem?_replicate]
    split <;> rfl
  · intro j q hq
    rw [hrep _ _ _ _ hq]; simp
  · intro j q hq p hp
    rw [hrep _ _ _ _ hq] at hp; cases hp
  · intro x hx
    rw [List.eq_of_mem_replicate hx]; omega
  · intro p hp
    rw [List.eq_of_mem_replicate hp]; simp

section
variable {s : PS}

theorem Inv.falseFrom (h : Inv s) {x : Int} (hx : Lt s.vars x) {a : Nat} (ha : a ≤ s.trail.length) (hf : (a : Int) ≤ s.falseFrom x) : -x ∉ s.trail.take a := by
  intro hm
  obtain ⟨i, i1, i2⟩ := mem_take_iff.1 hm
  obtain ⟨r, e, _⟩ := h.tr.fc i _ i2
  have hn : s.val x < 0 := (h.vneg hx).2 (List.mem_of_getElem? i2)
  have e2 : s.fct x = s.fct (-x) := by unfold PS.fct; rw [Int.natAbs_neg]
  unfold PS.falseFrom at hf
  rw [if_pos hn, e2, e] at hf
  simp only at hf; omega
theorem Inv.falseGe (h : Inv s) {x : Int} (hx : Lt s.vars x) {a : Nat} (ha : a ≤ s.trail.length) (hf : -x ∉ s.trail.take a) : (a : Int) ≤ s.falseFrom x := by
  unfold PS.falseFrom
  split
  · rename_i hn
    obtain ⟨i, i2⟩ := List.mem_iff_getElem?.1 ((h.vneg hx).1 hn)
    obtain ⟨r, e, _⟩ := h.tr.fc i _ i2
    have e2 : s.fct x = s.fct (-x) := by unfold PS.fct; rw [Int.natAbs_neg]
    rw [e2, e]
    have : ¬ i < a := fun hl => hf (mem_take_iff.2 ⟨i, hl, i2⟩)
    simp only; omega
  · omega

/-- What the two that are picked are: unlike literals, none of the others later. -/
structure Pick (s : PS) (ls : List Int) (p : Int × Int) : Prop where
  z : p.1 = 0 → p.2 = 0 ∧ ls = []
  a : p.1 ≠ 0 → p.1 ∈ ls
  b : p.2 ≠ 0 → p.2 ∈ ls ∧ p.1 ≠ p.2 ∧ s.falseFrom p.2 ≤ s.falseFrom p.1 ∧ ∀ x ∈ ls, x = p.1 ∨ x = p.2 ∨ s.falseFrom x ≤ s.falseFrom p.2
  c : p.2 = 0 → ∀ x ∈ ls, x = p.1

theorem pick_snoc {ls : List Int} {p : Int × Int} {l : Int} (h : Pick s ls p) (hl : l ≠ 0) : Pick s (ls ++ [l]) (s.later p l) := by
  obtain ⟨p1, p2⟩ := p
  unfold PS.later
  simp only
  split
  · rename_i hA
    have hp1 : p1 ≠ 0 := by
      intro e
      have h2 := (h.z e).1
      simp only at h2
      rcases hA with hA | hA
      · exact hl (hA.trans e)
      · exact hl (hA.trans h2)
    refine ⟨fun e => absurd e hp1, fun _ => List.mem_append.2 (.inl (h.a hp1)), fun e => ?_, fun e x hx => ?_⟩
    · obtain ⟨b1, b2, b3, b4⟩ := h.b e
      refine ⟨List.mem_append.2 (.inl b1), b2, b3, fun x hx => ?_⟩
      rcases List.mem_append.1 hx with hx | hx
      · exact b4 x hx
      · simp at hx; subst hx
        rcases hA with hA | hA
        · exact .inl hA
        · exact .inr (.inl hA)
    · rcases List.mem_append.1 hx with hx | hx
      · exact h.c e x hx
      · simp at hx; subst hx
        rcases hA with hA | hA
        · exact hA
        · simp only at e; exact absurd (hA.trans e) hl
  · rename_i hA
    have hA1 : l ≠ p1 := fun e => hA (.inl e)
    have hA2 : l ≠ p2 := fun e => hA (.inr e)
    split
    · rename_i hB
      refine ⟨fun e => absurd e hl, fun _ => by simp, fun e => ?_, fun e x hx => ?_⟩
      · simp only at e
        have hf : s.falseFrom p1 < s.falseFrom l := hB.resolve_left e
        refine ⟨List.mem_append.2 (.inl (h.a e)), hA1, Int.le_of_lt hf, fun x hx => ?_⟩
        rcases List.mem_append.1 hx with hx | hx
        · by_cases e2 : p2 = 0
          · exact .inr (.inl (h.c e2 x hx))
          · obtain ⟨b1, b2, b3, b4⟩ := h.b e2
            rcases b4 x hx with h' | h' | h'
            · exact .inr (.inl h')
            · right; right; rw [h']; exact b3
            · right; right; simp only at b3 h' ⊢; omega
        · simp at hx; exact .inl hx
      · simp only at e
        rcases List.mem_append.1 hx with hx | hx
        · rw [(h.z e).2] at hx; cases hx
        · simpa using hx
    · rename_i hB
      have hp1 : p1 ≠ 0 := fun e => hB (.inl e)
      have hf1 : s.falseFrom l ≤ s.falseFrom p1 := by
        have : ¬ s.falseFrom p1 < s.falseFrom l := fun e => hB (.inr e)
        omega
      split
      · rename_i hC
        refine ⟨fun e => absurd e hp1, fun _ => List.mem_append.2 (.inl (h.a hp1)), fun e => ⟨by simp, Ne.symm hA1, hf1, fun x hx => ?_⟩, fun e => absurd e hl⟩
        rcases List.mem_append.1 hx with hx | hx
        · by_cases e2 : p2 = 0
          · exact .inl (h.c e2 x hx)
          · obtain ⟨b1, b2, b3, b4⟩ := h.b e2
            have hf := hC.resolve_left e2
            rcases b4 x hx with h' | h' | h'
            · exact .inl h'
            · right; right; rw [h']; simp only; omega
            · right; right; simp only at h' ⊢; omega
        · simp at hx; exact .inr (.inl hx)
      · rename_i hC
        have hp2 : p2 ≠ 0 := fun e => hC (.inl e)
        have hf2 : s.falseFrom l ≤ s.falseFrom p2 := by
          have : ¬ s.falseFrom p2 < s.falseFrom l := fun e => hC (.inr e)
          omega
        obtain ⟨b1, b2, b3, b4⟩ := h.b hp2
        refine ⟨fun e => absurd e hp1, fun _ => List.mem_append.2 (.inl (h.a hp1)), fun _ => ⟨List.mem_append.2 (.inl b1), b2, b3, fun x hx => ?_⟩, fun e => absurd e hp2⟩
        rcases List.mem_append.1 hx with hx | hx
        · exact b4 x hx
        · simp at hx; subst hx; exact .inr (.inr hf2)

theorem pick_fold (s : PS) : ∀ (ms ls : List Int) (p : Int × Int), (∀ x ∈ ms, x ≠ 0) → Pick s ls p → Pick s (ls ++ ms) (ms.foldl s.later p)
  | [], ls, p, _, h => by simpa using h
  | m :: ms, ls, p, h0, h => by
    have := pick_fold s ms (ls ++ [m]) (s.later p m) (fun x hx => h0 x (List.mem_cons_of_mem _ hx)) (pick_snoc h (h0 m (by simp)))
    simpa using this
theorem pick_latest (s : PS) (ls : List Int) (h0 : ∀ x ∈ ls, x ≠ 0) : Pick s ls (s.latest ls) := by
  have := pick_fold s ls [] (0, 0) h0 ⟨fun _ => ⟨rfl, rfl⟩, fun h => absurd rfl h, fun h => absurd rfl h, fun _ x hx => by cases hx⟩
  simpa [PS.latest] using this

/-- A clause that is taken in: what it watches is open whenever two of its literals are. -/
theorem attach_new (h : Inv s) {ls : List Int} (hl : ∀ x ∈ ls, Lt s.vars x) {f g : Int} (hp : Pick s ls (f, g)) {a b : Nat} (ha : a ≤ s.trail.length) (hb : b ≤ a) (h2 : Two ⟨ls, f, g, false⟩ s.trail a) : OKc ⟨ls, f, g, false⟩ s.trail a b := by
  obtain ⟨x, y, x1, y1, hne, x2, y2⟩ := h2
  simp only at x1 y1
  have fx := h.falseGe (hl x x1) ha x2
  have fy := h.falseGe (hl y y1) ha y2
  have hg : g ≠ 0 := by
    intro e
    exact hne ((hp.c e x x1).trans (hp.c e y y1).symm)
  obtain ⟨b1, b2, b3, b4⟩ := hp.b hg
  simp only at b1 b2 b3 b4
  have hf0 : f ≠ 0 := fun e => hg (hp.z e).1
  have hfm := hp.a hf0
  have hg2 : (a : Int) ≤ s.falseFrom g := by
    rcases b4 x x1 with e | e | e
    · rcases b4 y y1 with e' | e' | e'
      · exact absurd (e.trans e'.symm) hne
      · rw [← e']; exact fy
      · omega
    · rw [← e]; exact fx
    · omega
  have hf2 : (a : Int) ≤ s.falseFrom f := by omega
  exact .inr ⟨hg, fun hm => h.falseFrom (hl f hfm) ha hf2 (take_mono hm hb), fun hm => h.falseFrom (hl g b1) ha hg2 (take_mono hm hb)⟩

theorem modify_get {α : Type} {l : List α} {i j : Nat} {f : α → α} {q : α} (h : (l.modify i f)[j]? = some q) : ∃ u, l[j]? = some u ∧ q = if i = j then f u else u := by
  rw [List.getElem?_modify] at h
  obtain ⟨u, hu, e⟩ := Option.map_eq_some_iff.1 h
  exact ⟨u, hu, e.symm⟩

/-- What a clause that is taken in leaves of the rest. -/
structure Hkd (s t : PS) (ls : List Int) (f g : Int) : Prop where
  vars : t.vars = s.vars
  trail : t.trail = s.trail
  vals : t.vals = s.vals
  fac : t.fac = s.fac
  head : t.head = s.head
  lvs : t.lvs = s.lvs
  late : t.late = s.late
  cls : t.cls = s.cls ++ [⟨ls, f, g, false⟩]
  count : t.count = s.count + 1
  stale : t.stale = s.stale

theorem hooked_zero (ls : List Int) (f : Int) : Hkd s (s.hooked ls f 0) ls 0 0 := by
  unfold PS.hooked; rw [if_pos rfl]; exact ⟨rfl, rfl, rfl, rfl, rfl, rfl, rfl, rfl, rfl, rfl⟩
theorem hooked_two (ls : List Int) {f g : Int} (hg : g ≠ 0) : Hkd s (s.hooked ls f g) ls f g ∧ (s.hooked ls f g).wat = (s.wat.modify (ix s.vars f) (fun q => q ++ [(s.cls.length, g)])).modify (ix s.vars g) (fun q => q ++ [(s.cls.length, f)]) := by
  unfold PS.hooked; rw [if_neg hg]
  refine ⟨⟨rfl, rfl, rfl, rfl, rfl, rfl, rfl, ?_, rfl, rfl⟩, rfl⟩
  show (s.cls ++ [(⟨ls, 0, 0, false⟩ : Cl)]).set s.cls.length _ = _
  rw [List.set_append_right _ _ (Nat.le_refl _), Nat.sub_self]; rfl
/-- The watches when a clause was taken in. -/
def Wsn (s t : PS) (ls : List Int) (f g : Int) : Prop :=
  (g = 0 ∧ t.wat = s.wat) ∨ (g ≠ 0 ∧ f ≠ g ∧ f ∈ ls ∧ g ∈ ls ∧ t.wat = (s.wat.modify (ix s.vars f) (fun q => q ++ [(s.cls.length, g)])).modify (ix s.vars g) (fun q => q ++ [(s.cls.length, f)]))

theorem Wsn.get {t : PS} {ls : List Int} {f g : Int} (h : Wsn s t ls f g) (hl : ∀ x ∈ ls, Lt s.vars x) {j : Nat} {q' : List (Nat × Int)} (hq : t.wat[j]? = some q') :
    ∃ q, s.wat[j]? = some q ∧ (q' = q ∨ (g ≠ 0 ∧ f ∈ ls ∧ g ∈ ls ∧ ((j = ix s.vars f ∧ q' = q ++ [(s.cls.length, g)]) ∨ (j = ix s.vars g ∧ q' = q ++ [(s.cls.length, f)])))) := by
  rcases h with ⟨_, e⟩ | ⟨h1, h2, h3, h4, e⟩
  · rw [e] at hq; exact ⟨q', hq, .inl rfl⟩
  · rw [e] at hq
    have hne : ix s.vars f ≠ ix s.vars g := fun e => h2 (ix_inj (hl f h3) (hl g h4) e)
    obtain ⟨u, hu, eu⟩ := modify_get hq
    obtain ⟨q, hq2, e2⟩ := modify_get hu
    refine ⟨q, hq2, ?_⟩
    by_cases e3 : ix s.vars g = j
    · have e4 : ix s.vars f ≠ j := fun e => hne (e.trans e3.symm)
      rw [if_pos e3] at eu
      rw [if_neg e4] at e2
      exact .inr ⟨h1, h3, h4, .inr ⟨e3.symm, by rw [eu, e2]⟩⟩
    · rw [if_neg e3] at eu
      by_cases e4 : ix s.vars f = j
      · rw [if_pos e4] at e2
        exact .inr ⟨h1, h3, h4, .inl ⟨e4.symm, by rw [eu, e2]⟩⟩
      · rw [if_neg e4] at e2
        exact .inl (by rw [eu, e2])
theorem Wsn.has {t : PS} {ls : List Int} {f g : Int} (h : Wsn s t ls f g) {j : Nat} {q : List (Nat × Int)} (hq : s.wat[j]? = some q) : ∃ q', t.wat[j]? = some q' ∧ (∀ i ∈ q.map Prod.fst, i ∈ q'.map Prod.fst) ∧ (g ≠ 0 → (j = ix s.vars f ∨ j = ix s.vars g) → s.cls.length ∈ q'.map Prod.fst) := by
  rcases h with ⟨h0, e⟩ | ⟨h1, h2, h3, h4, e⟩
  · exact ⟨q, by rw [e]; exact hq, fun i hi => hi, fun h => absurd h0 h⟩
  · rw [e, List.getElem?_modify, List.getElem?_modify, hq]
    refine ⟨_, rfl, fun i hi => ?_, fun _ hj => ?_⟩
    · split <;> split <;> simp_all
    · rcases hj with hj | hj <;> subst hj <;> simp <;> (try split) <;> (try simp_all) <;> (try exact ⟨g, .inr (.inl rfl)⟩)

theorem attach_core (h : Inv s) {t : PS} {ls : List Int} {f g : Int} (hk : Hkd s t ls f g) (hw : Wsn s t ls f g) (hl : ∀ x ∈ ls, Lt s.vars x) (hn : s.cls.length < 1048576) {late : List Nat}
    (hlate : late = s.late ++ [s.cls.length] ∨ (g ≠ 0 ∧ -f ∉ s.trail ∧ -g ∉ s.trail ∧ late = s.late)) (h2 : ∀ a b, a ≤ s.trail.length → b ≤ a → Two ⟨ls, f, g, false⟩ s.trail a → OKc ⟨ls, f, g, false⟩ s.trail a b) : Inv { t with late := late } := by
  have hz := h.sz
  have gc : ∀ (i : Nat) (c : Cl), t.cls[i]? = some c → (i < s.cls.length ∧ s.cls[i]? = some c) ∨ (i = s.cls.length ∧ c = ⟨ls, f, g, false⟩) := by
    intro i c hc
    rw [hk.cls] at hc
    rcases Nat.lt_or_ge i s.cls.length with hi | hi
    · rw [List.getElem?_append_left hi] at hc; exact .inl ⟨hi, hc⟩
    · rw [List.getElem?_append_right hi] at hc
      have : i - s.cls.length = 0 := by
        have := (List.getElem?_eq_some_iff.1 hc).1; simp at this; omega
      rw [this] at hc; simp at hc
      exact .inr ⟨by omega, hc.symm⟩
  have go : ∀ (i : Nat) (c : Cl), s.cls[i]? = some c → t.cls[i]? = some c := by
    intro i c hc; rw [hk.cls, List.getElem?_append_left (List.getElem?_eq_some_iff.1 hc).1]; exact hc
  have gn : t.cls[s.cls.length]? = some ⟨ls, f, g, false⟩ := by rw [hk.cls]; simp
  have hsh : ({ t with late := late } : PS).lvs.map sh = s.lvs.map sh := by show t.lvs.map sh = _; rw [hk.lvs]
  have hT : ∀ k, tk ({ t with late := late } : PS) k = tk s k := fun k => tk_sh (s' := { t with late := late }) (s := s) hk.trail hsh k
  have hK : ∀ k, Ytlmbgaconjcaiaa.hk ({ t with late := late } : PS) k = Ytlmbgaconjcaiaa.hk s k := fun k => hk_sh (s' := { t with late := late }) (s := s) hk.head hsh k
  have lf : ∀ k i, lateFrom s k i → lateFrom { t with late := late } k i := by
    rintro k i (h' | h')
    · left
      rcases hlate with e | ⟨_, _, _, e⟩
      · show i ∈ late; rw [e]; exact List.mem_append.2 (.inl h')
      · show i ∈ late; rw [e]; exact h'
    · right; show ∃ j v, k ≤ j ∧ t.lvs[j]? = some v ∧ i ∈ v.late; rw [hk.lvs]; exact h'
  have hlen : t.cls.length = s.cls.length + 1 := by rw [hk.cls]; simp
  have hin : ∀ l i, InW s l i → InW { t with late := late } l i := by
    rintro l i ⟨q, e1, e2⟩
    obtain ⟨q', a1, a2, _⟩ := hw.has e1
    exact ⟨q', by show t.wat[ix t.vars l]? = _; rw [hk.vars]; exact a1, a2 i e2⟩
  refine ⟨h.tr.same (s' := { t with late := late }) hk.vars hk.trail hk.vals hk.fac hk.head hsh (fun k c x _ _ h1 h2 => ⟨c, go k c h1, h2, rfl⟩), ⟨?_, ?_, ?_, ?_⟩, ⟨?_, ?_⟩, ⟨by show t.vars ≤ _; rw [hk.vars]; exact hz.vars, by show t.vals.length = 2 * t.vars + 1; rw [hk.vals, hk.vars]; exact hz.vals, ?_, by show t.fac.length = t.vars + 1; rw [hk.fac, hk.vars]; exact hz.fac, by show ∀ x ∈ t.vals, _; rw [hk.vals]; exact hz.bit, by show ∀ p ∈ t.fac, _; rw [hk.fac]; exact hz.num, ?_, ?_, ?_, ?_, ?_, by show t.cls.length ≤ _; omega⟩⟩
  · intro i c hc x hx
    show Lt t.vars x
    rw [hk.vars]
    rcases gc i c hc with ⟨_, hc⟩ | ⟨_, rfl⟩
    · exact h.wt.ok i c hc x hx
    · exact hl x hx
  · intro i c hc hg hw1
    rcases gc i c hc with ⟨_, hc⟩ | ⟨rfl, rfl⟩
    · obtain ⟨a1, a2, a3, a4, a5⟩ := h.wt.ww i c hc hg hw1
      exact ⟨a1, a2, a3, hin _ _ a4, hin _ _ a5⟩
    · simp only at hw1 ⊢
      have hw' := hw
      rcases hw' with ⟨e, _⟩ | ⟨_, n1, n2, n3, _⟩
      · exact absurd e hw1
      · have mk : ∀ x, (x = f ∨ x = g) → InW { t with late := late } x s.cls.length := by
          intro x hx
          have hxl : Lt s.vars x := by rcases hx with rfl | rfl; exact hl _ n2; exact hl _ n3
          obtain ⟨q, hq⟩ : ∃ q, s.wat[ix s.vars x]? = some q := ⟨_, List.getElem?_eq_getElem (by rw [hz.wat]; exact ix_lt hxl)⟩
          obtain ⟨q', a1, _, a3⟩ := hw.has hq
          exact ⟨q', by show t.wat[ix t.vars x]? = _; rw [hk.vars]; exact a1, a3 hw1 (by rcases hx with rfl | rfl; exact .inl rfl; exact .inr rfl)⟩
        exact ⟨n1, n2, n3, mk f (.inl rfl), mk g (.inr rfl)⟩
  · intro j q' hq'
    obtain ⟨q, hq, hc⟩ := hw.get hl hq'
    have hnd := h.wt.nd j q hq
    have hnew : s.cls.length ∉ q.map Prod.fst := by
      intro hm
      obtain ⟨p, hp, ep⟩ := List.mem_map.1 hm
      obtain ⟨c, hc, _⟩ := h.wt.we j q hq p hp
      have := (List.getElem?_eq_some_iff.1 hc).1
      omega
    have key : ∀ x : Int, ((q ++ [(s.cls.length, x)]).map Prod.fst).Nodup := by
      intro x
      rw [List.map_append, List.nodup_append]
      refine ⟨hnd, by simp, fun a ha b hb => ?_⟩
      simp at hb; subst hb
      exact fun e => hnew (e ▸ ha)
    rcases hc with rfl | ⟨_, _, _, ⟨_, rfl⟩ | ⟨_, rfl⟩⟩
    · exact hnd
    · exact key _
    · exact key _
  · intro j q' hq' p hp
    obtain ⟨q, hq, hc⟩ := hw.get hl hq'
    show ∃ c, t.cls[p.1]? = some c ∧ Lt t.vars p.2 ∧ (c.gone = false → c.w1 ≠ 0 ∧ p.2 ∈ c.lits ∧ (j = ix t.vars c.w0 ∨ j = ix t.vars c.w1))
    rw [hk.vars]
    have old : p ∈ q → ∃ c, t.cls[p.1]? = some c ∧ Lt s.vars p.2 ∧ (c.gone = false → c.w1 ≠ 0 ∧ p.2 ∈ c.lits ∧ (j = ix s.vars c.w0 ∨ j = ix s.vars c.w1)) := by
      intro hp
      obtain ⟨c, hc, a1, a2⟩ := h.wt.we j q hq p hp
      exact ⟨c, go _ _ hc, a1, a2⟩
    rcases hc with rfl | ⟨g0, fm, gm, ⟨ej, rfl⟩ | ⟨ej, rfl⟩⟩
    · exact old hp
    · rcases List.mem_append.1 hp with hp | hp
      · exact old hp
      · simp at hp; subst hp; exact ⟨_, gn, hl g gm, fun _ => ⟨g0, gm, .inl ej⟩⟩
    · rcases List.mem_append.1 hp with hp | hp
      · exact old hp
      · simp at hp; subst hp; exact ⟨_, gn, hl f fm, fun _ => ⟨g0, fm, .inr ej⟩⟩
  · intro k hk1 i c hc hg
    rw [hT, hK]
    replace hk1 : k ≤ s.lvs.length := by rw [← hk.lvs]; exact hk1
    show lateFrom _ k i ∨ OKc c t.trail _ _
    rw [hk.trail]
    rcases gc i c hc with ⟨_, hc⟩ | ⟨rfl, rfl⟩
    · rcases h.la.i1 k hk1 i c hc hg with h' | h'
      · exact .inl (lf k i h')
      · exact .inr h'
    · rcases hlate with e | ⟨g0, n1, n2, _⟩
      · left; left; show _ ∈ late; rw [e]; simp
      · right; right
        exact ⟨g0, fun hm => n1 (List.mem_of_mem_take hm), fun hm => n2 (List.mem_of_mem_take hm)⟩
  · intro k hk1 i c hc hg h2'
    rw [hT] at h2' ⊢
    rw [hK]
    replace hk1 : k ≤ s.lvs.length := by rw [← hk.lvs]; exact hk1
    have h2'' : Two c s.trail (tk s k) := by rw [← hk.trail]; exact h2'
    show OKc c t.trail _ _
    rw [hk.trail]
    rcases gc i c hc with ⟨_, hc⟩ | ⟨rfl, rfl⟩
    · exact h.la.i2 k hk1 i c hc hg h2''
    · exact h2 _ _ (h.tr.tk_le k) (h.tr.hk_le k).1 h2''
  · show t.wat.length = 2 * t.vars + 1
    rw [hk.vars]
    rcases hw with ⟨_, e⟩ | ⟨_, _, _, _, e⟩
    · rw [e]; exact hz.wat
    · rw [e]; simp [hz.wat]
  · intro v hv i hi
    have := hz.lv v (by rw [← hk.lvs]; exact hv) i hi
    show i < t.cls.length; omega
  · intro i hi
    show i < t.cls.length
    rw [hlen]
    rcases hlate with e | ⟨_, _, _, e⟩
    · replace hi : i ∈ s.late ++ [s.cls.length] := by rw [← e]; exact hi
      rcases List.mem_append.1 hi with hi | hi
      · have := hz.la i hi; omega
      · simp at hi; omega
    · replace hi : i ∈ s.late := by rw [← e]; exact hi
      have := hz.la i hi; omega
  · show late.length + (t.lvs.map _).sum ≤ t.cls.length
    rw [hk.lvs, hlen]
    have := hz.sum
    rcases hlate with e | ⟨_, _, _, e⟩
    · rw [e]; simp only [List.length_append, List.length_singleton]; omega
    · rw [e]; omega
  · show 0 ≤ t.count ∧ t.count ≤ ((t.cls.length : Nat) : Int)
    rw [hk.count, hlen]; have := hz.count; omega
  · show 0 ≤ t.stale ∧ t.stale ≤ ((t.cls.length : Nat) : Int)
    rw [hk.stale, hlen]; have := hz.stale; omega

/-- A clause is taken in. -/
theorem attach_inv (h : Inv s) {ls : List Int} (hl : ∀ x ∈ ls, Lt s.vars x) (hn : s.cls.length < 1048576) : Inv (s.attach ls) := by
  have hp := pick_latest s ls (fun x hx => (hl x hx).1)
  unfold PS.attach
  simp only
  generalize s.latest ls = p at *
  obtain ⟨f, g⟩ := p
  simp only
  by_cases hg : g = 0
  · subst hg
    rw [if_pos (.inl rfl)]
    have hk := hooked_zero (s := s) ls f
    have e : ({ s.hooked ls f 0 with late := (s.hooked ls f 0).late ++ [s.cls.length] } : PS) = { s.hooked ls f 0 with late := s.late ++ [s.cls.length] } := by rw [hk.late]
    rw [e]
    refine attach_core h hk (.inl ⟨rfl, ?_⟩) hl hn (.inl rfl) (fun a b _ _ ⟨x, y, x1, y1, hne, _⟩ => ?_)
    · unfold PS.hooked; rw [if_pos rfl]; rfl
    · exact absurd ((hp.c rfl x x1).trans (hp.c rfl y y1).symm) hne
  · obtain ⟨hk, hw⟩ := hooked_two (s := s) ls (f := f) hg
    obtain ⟨b1, b2, b3, b4⟩ := hp.b hg
    simp only at b1 b2 b3 b4
    have hf0 : f ≠ 0 := fun e => hg (hp.z e).1
    have hfm := hp.a hf0
    have hW : Wsn s (s.hooked ls f g) ls f g := .inr ⟨hg, b2, hfm, b1, hw⟩
    have h2 : ∀ a b, a ≤ s.trail.length → b ≤ a → Two ⟨ls, f, g, false⟩ s.trail a → OKc ⟨ls, f, g, false⟩ s.trail a b := fun a b ha hb ht => attach_new h hl hp ha hb ht
    by_cases hv : s.val g < 0
    · rw [if_pos (.inr hv)]
      have e : ({ s.hooked ls f g with late := (s.hooked ls f g).late ++ [s.cls.length] } : PS) = { s.hooked ls f g with late := s.late ++ [s.cls.length] } := by rw [hk.late]
      rw [e]
      exact attach_core h hk hW hl hn (.inl rfl) h2
    · rw [if_neg (by rintro (e | e); exact hg e; exact hv e)]
      have hng : -g ∉ s.trail := fun hm => hv ((h.vneg (hl g b1)).2 hm)
      have hnf : -f ∉ s.trail := by
        have e1 : s.falseFrom g = s.trail.length := by unfold PS.falseFrom; rw [if_neg hv]
        have := h.falseFrom (hl f hfm) (a := s.trail.length) (Nat.le_refl _) (by omega)
        rwa [List.take_length] at this
      have e : s.hooked ls f g = { s.hooked ls f g with late := s.late } := by rw [← hk.late]
      rw [e]
      exact attach_core h hk hW hl hn (.inr ⟨hg, hnf, hng, rfl⟩) h2

theorem attach_cls (s : PS) (ls : List Int) : (s.attach ls).cls.map key = s.cls.map key ++ [(ls, false)] ∧ (s.attach ls).vars = s.vars ∧ (s.attach ls).trail = s.trail ∧ (s.attach ls).lvs = s.lvs ∧ (s.attach ls).count = s.count + 1 ∧ (s.attach ls).stale = s.stale := by
  unfold PS.attach
  simp only
  generalize s.latest ls = p at *
  obtain ⟨f, g⟩ := p
  simp only
  have hk : ∃ f' g', Hkd s (s.hooked ls f g) ls f' g' := by
    by_cases hg : g = 0
    · subst hg; exact ⟨0, 0, hooked_zero ls f⟩
    · exact ⟨f, g, (hooked_two ls hg).1⟩
  obtain ⟨f', g', hk⟩ := hk
  split <;> exact ⟨by show (s.hooked ls f g).cls.map key = _; rw [hk.cls]; simp [key], hk.vars, hk.trail, hk.lvs, hk.count, hk.stale⟩
end

end Go.Proofs.Ytlmbgaconjcaiaa

namespace Go.Proofs.Ytlmbgaconjcaiaa

section
variable {s : PS}

theorem decide_tr (h : Inv s) {l : Int} (hl : Lt s.vars l) (h1 : l ∉ s.trail) (h2 : -l ∉ s.trail) : Tr (s.decide l) := by
  have hz := h.sz
  have hz' : Sz s := hz
  have hval : ∀ x, Lt s.vars x → (s.decide l).val x = if x = l then 1 else if x = -l then -1 else s.val x := by
    intro x hx
    exact put_val (s := s.leveled) ⟨hz.vars, hz.vals, hz.wat, hz.fac, hz.bit, hz.num, fun v hv => by
      rcases List.mem_append.1 hv with hv | hv
      · exact hz.lv v hv
      · simp at hv; subst hv; simp, hz.la, by show s.late.length + ((s.lvs ++ [_]).map _).sum ≤ _; simp; exact hz.sum, hz.count, hz.stale, hz.cls⟩ (-1) hl x hx
  have hfct : ∀ x, (s.decide l).fct x = if x.natAbs = l.natAbs then ((s.trail.length : Int), ((s.lvs.length + 1 : Nat) : Int), -1) else s.fct x := by
    intro x
    unfold PS.decide PS.fct PS.put
    show (s.fac.set l.natAbs ((s.trail.length : Int), ((s.leveled.lvs.length : Nat) : Int), -1)).getD x.natAbs (0, 0, 0) = _
    have e : s.leveled.lvs.length = s.lvs.length + 1 := by simp [PS.leveled]
    rw [e]
    by_cases e : x.natAbs = l.natAbs
    · rw [if_pos e, e, List.getD_eq_getElem?_getD, List.getElem?_set_self (by rw [hz.fac]; exact hl.abs.1)]; rfl
    · rw [if_neg e, List.getD_eq_getElem?_getD, List.getElem?_set_ne (Ne.symm e), List.getD_eq_getElem?_getD]
  have htr : (s.decide l).trail = s.trail ++ [l] := rfl
  have hlv : (s.decide l).lvs = s.lvs ++ [⟨s.trail.length, s.head, []⟩] := rfl
  refine ⟨?_, ?_, ?_, ?_, ?_, ?_, ?_, ?_, ?_⟩
  · rw [htr]; intro x hx
    rcases List.mem_append.1 hx with h' | h'
    · exact h.tr.ok x h'
    · simp at h'; subst h'; exact hl
  · rw [htr, List.pairwise_append]
    refine ⟨h.tr.nd, by simp, fun a ha b hb => ?_⟩
    simp at hb; subst hb
    exact ⟨fun e => h1 (e ▸ ha), fun e => h2 (e ▸ ha)⟩
  · intro x hx
    rw [hval x hx, htr]
    by_cases e1 : x = l
    · subst e1; rw [if_pos rfl]; exact (tval_one.2 (by simp)).symm
    · rw [if_neg e1]
      by_cases e2 : x = -l
      · subst e2
        rw [if_pos rfl]
        unfold tval
        rw [if_neg (by simp; exact ⟨h2, e1⟩), if_pos (by simp)]
      · rw [if_neg e2, h.tr.vl x hx]
        have e3 : ¬ (-x = l) := fun e => e2 (by omega)
        unfold tval
        simp [e1, e3]
  · intro i x hx
    rw [htr] at hx
    rcases Nat.lt_or_ge i s.trail.length with hi | hi
    · rw [List.getElem?_append_left hi] at hx
      obtain ⟨r, e, hR⟩ := h.tr.fc i x hx
      have hxm := List.mem_of_getElem? hx
      have hab : x.natAbs ≠ l.natAbs := by
        intro e
        rcases Int.natAbs_eq_natAbs_iff.1 e with e | e
        · exact h1 (e ▸ hxm)
        · exact h2 (e ▸ hxm)
      have hlev : levAt (s.decide l).lvs i = levAt s.lvs i := by
        rw [hlv]; unfold levAt
        rw [List.countP_append]
        simp; omega
      refine ⟨r, by rw [hfct, if_neg hab, e, hlev], ?_⟩
      rcases hR with ⟨a, v, hv, b⟩ | ⟨a, k', c', e1, e2, e3, e4, e5⟩
      · exact .inl ⟨a, v, by rw [hlv]; exact List.mem_append.2 (.inl hv), b⟩
      · refine .inr ⟨fun v hv => ?_, k', c', e1, e2, e3, e4, fun y hy hne => ?_⟩
        · rw [hlv] at hv
          rcases List.mem_append.1 hv with hv | hv
          · exact a v hv
          · simp at hv; subst hv; simp; omega
        · rw [htr, take_snoc_le _ _ (Nat.le_of_lt hi)]; exact e5 y hy hne
    · have hi' : i < s.trail.length + 1 := by have := (List.getElem?_eq_some_iff.1 hx).1; simpa using this
      have hii : i = s.trail.length := by omega
      subst hii
      simp at hx
      subst hx
      have hlev : levAt (s.decide l).lvs s.trail.length = s.lvs.length + 1 := by
        rw [levAt_all]
        · rw [hlv]; simp
        · intro v hv
          rw [hlv] at hv
          rcases List.mem_append.1 hv with hv | hv
          · exact Nat.le_of_lt (h.tr.sl v hv)
          · simp at hv; subst hv; exact Nat.le_refl _
      refine ⟨-1, by rw [hfct, if_pos rfl, hlev], .inl ⟨rfl, ⟨s.trail.length, s.head, []⟩, by rw [hlv]; simp, rfl⟩⟩
  · rw [hlv, List.pairwise_append]
    refine ⟨h.tr.st, by simp, fun a ha b hb => ?_⟩
    simp at hb; subst hb; exact h.tr.sl a ha
  · intro v hv
    rw [hlv] at hv
    rw [htr]
    rcases List.mem_append.1 hv with hv | hv
    · have := h.tr.sl v hv; simp; omega
    · simp at hv; subst hv; simp
  · rw [htr]; have := h.tr.hd; show s.head ≤ _; simp; omega
  · intro v hv
    rw [hlv] at hv
    rcases List.mem_append.1 hv with hv | hv
    · exact h.tr.hv v hv
    · simp at hv; subst hv; exact ⟨h.tr.hd, Nat.le_refl _⟩
  · rw [hlv, List.pairwise_append]
    refine ⟨h.tr.hp, by simp, fun a ha b hb => ?_⟩
    simp at hb; subst hb; exact (h.tr.hv a ha).2

theorem decide_inv (h : Inv s) {l : Int} (hl : Lt s.vars l) (h1 : l ∉ s.trail) (h2 : -l ∉ s.trail) : Inv (s.decide l) := by
  have hz := h.sz
  have hTr := decide_tr h hl h1 h2
  have hlen := trail_len hTr
  have hlvl := lvs_len h.tr
  have htr : (s.decide l).trail = s.trail ++ [l] := rfl
  have hlv : (s.decide l).lvs = s.lvs ++ [⟨s.trail.length, s.head, []⟩] := rfl
  have hvars : (s.decide l).vars = s.vars := rfl
  rw [htr, hvars] at hlen
  simp only [List.length_append, List.length_singleton] at hlen
  have hT0 : ∀ k, k < s.lvs.length → tk (s.decide l) k = tk s k ∧ Ytlmbgaconjcaiaa.hk (s.decide l) k = Ytlmbgaconjcaiaa.hk s k := by
    intro k hk'
    unfold tk Ytlmbgaconjcaiaa.hk
    rw [hlv, List.getElem?_append_left hk', List.getElem?_eq_getElem hk']
    exact ⟨rfl, rfl⟩
  have hT1 : tk (s.decide l) s.lvs.length = s.trail.length ∧ Ytlmbgaconjcaiaa.hk (s.decide l) s.lvs.length = s.head := by
    unfold tk Ytlmbgaconjcaiaa.hk
    rw [hlv]; simp
  have hT2 : tk (s.decide l) (s.lvs.length + 1) = s.trail.length + 1 ∧ Ytlmbgaconjcaiaa.hk (s.decide l) (s.lvs.length + 1) = s.head := by
    unfold tk Ytlmbgaconjcaiaa.hk
    rw [hlv, List.getElem?_eq_none (by simp)]
    exact ⟨by rw [htr]; simp, rfl⟩
  have lf : ∀ k i, k ≤ s.lvs.length → lateFrom s k i → lateFrom (s.decide l) k i := by
    rintro k i _ (h' | ⟨j, v, a1, a2, a3⟩)
    · exact .inl h'
    · exact .inr ⟨j, v, a1, by rw [hlv, List.getElem?_append_left (List.getElem?_eq_some_iff.1 a2).1]; exact a2, a3⟩
  have okt : ∀ (c : Cl) (a b : Nat), a ≤ s.trail.length → b ≤ a → (OKc c (s.trail ++ [l]) a b ↔ OKc c s.trail a b) := by
    intro c a b ha hb
    unfold OKc; rw [take_snoc_le _ _ ha, take_snoc_le _ _ (by omega)]
  refine ⟨hTr, ⟨h.wt.ok, h.wt.ww, h.wt.nd, h.wt.we⟩, ⟨?_, ?_⟩, ⟨hz.vars, by simp [PS.decide, PS.put, PS.leveled, hz.vals], hz.wat, by simp [PS.decide, PS.put, PS.leveled, hz.fac], ?_, ?_, ?_, hz.la, ?_, hz.count, hz.stale, hz.cls⟩⟩
  · intro k hk' i c hc hg
    rw [hlv] at hk'
    simp only [List.length_append, List.length_singleton] at hk'
    rcases Nat.lt_or_ge k s.lvs.length with h3 | h3
    · rw [(hT0 k h3).1, (hT0 k h3).2, htr]
      rcases h.la.i1 k (by omega) i c hc hg with h' | h'
      · exact .inl (lf k i (by omega) h')
      · exact .inr ((okt c _ _ (h.tr.tk_le k) (h.tr.hk_le k).1).2 h')
    · have h4 := h.la.i1 s.lvs.length (Nat.le_refl _) i c hc hg
      rw [tk_last, hk_last] at h4
      rcases Nat.lt_or_ge s.lvs.length k with h5 | h5
      · obtain rfl : k = s.lvs.length + 1 := by omega
        rw [hT2.1, hT2.2, htr]
        rcases h4 with (h' | ⟨j, v, a1, a2, _⟩) | h'
        · exact .inl (.inl h')
        · rw [List.getElem?_eq_none a1] at a2; cases a2
        · exact .inr (h'.snoc l h.tr.hd)
      · obtain rfl : k = s.lvs.length := by omega
        rw [hT1.1, hT1.2, htr]
        rcases h4 with h' | h'
        · exact .inl (lf _ i (Nat.le_refl _) h')
        · exact .inr ((okt c _ _ (Nat.le_refl _) h.tr.hd).2 h')
  · intro k hk' i c hc hg h2'
    rw [hlv] at hk'
    simp only [List.length_append, List.length_singleton] at hk'
    rcases Nat.lt_or_ge k s.lvs.length with h3 | h3
    · rw [(hT0 k h3).1] at h2' ⊢
      rw [(hT0 k h3).2]
      have : Two c s.trail (tk s k) := by
        unfold Two at h2' ⊢
        rw [htr, take_snoc_le _ _ (h.tr.tk_le k)] at h2'; exact h2'
      exact (okt c _ _ (h.tr.tk_le k) (h.tr.hk_le k).1).2 (h.la.i2 k (by omega) i c hc hg this)
    · rcases Nat.lt_or_ge s.lvs.length k with h5 | h5
      · obtain rfl : k = s.lvs.length + 1 := by omega
        rw [hT2.1] at h2' ⊢
        rw [hT2.2, htr]
        have h3 : Two c s.trail (tk s s.lvs.length) := by
          rw [tk_last]
          obtain ⟨x, y, a1, a2, a3, a4, a5⟩ := h2'
          rw [htr, List.take_of_length_le (by simp)] at a4 a5
          rw [List.mem_append, not_or] at a4 a5
          exact ⟨x, y, a1, a2, a3, by rw [List.take_length]; exact a4.1, by rw [List.take_length]; exact a5.1⟩
        have h' := h.la.i2 _ (Nat.le_refl _) i c hc hg h3
        rw [tk_last, hk_last] at h'
        exact h'.snoc l h.tr.hd
      · obtain rfl : k = s.lvs.length := by omega
        rw [hT1.1] at h2' ⊢
        rw [hT1.2, htr]
        have : Two c s.trail (tk s s.lvs.length) := by
          rw [tk_last]
          unfold Two at h2' ⊢
          rw [htr, take_snoc_le _ _ (Nat.le_refl _)] at h2'; exact h2'
        have h' := h.la.i2 _ (Nat.le_refl _) i c hc hg this
        rw [tk_last, hk_last] at h'
        exact (okt c _ _ (Nat.le_refl _) h.tr.hd).2 h'
  · exact bit_set' (bit_set' hz.bit (by omega)) (by omega)
  · intro p hp
    rcases List.mem_or_eq_of_mem_set hp with h' | rfl
    · exact hz.num p h'
    · have := hz.vars
      have e : s.leveled.trail.length = s.trail.length := rfl
      have e2 : s.leveled.lvs.length = s.lvs.length + 1 := by simp [PS.leveled]
      simp only [e, e2]; omega
  · intro v hv i hi
    rw [hlv] at hv
    rcases List.mem_append.1 hv with hv | hv
    · exact hz.lv v hv i hi
    · simp at hv; subst hv; simp at hi
  · show s.late.length + ((s.lvs ++ [_]).map _).sum ≤ _
    simp; exact hz.sum

/-- The decisions. -/
def PS.dec (s : PS) : List Int := s.lvs.map (fun v => s.trail.getD v.start 0)

theorem dec_decide (h : Inv s) (l : Int) : (s.decide l).dec = s.dec ++ [l] := by
  unfold PS.dec
  show (s.lvs ++ [_]).map (fun v : Lv => (s.trail ++ [l]).getD v.start 0) = _
  rw [List.map_append]
  congr 1
  · refine List.map_congr_left (fun v hv => ?_)
    have := h.tr.sl v hv
    rw [List.getD_eq_getElem?_getD, List.getElem?_append_left this, List.getD_eq_getElem?_getD]
  · simp
theorem Frm.dec {s' : PS} (h : Inv s) (hf : Frm s s') : s'.dec = s.dec := by
  obtain ⟨m, hm⟩ := hf.tr
  have e : ∀ t : List Int, ∀ l : List Lv, l.map (fun v => t.getD v.start 0) = (l.map sh).map (fun p => t.getD p.1 0) := by
    intro t l; rw [List.map_map]; rfl
  unfold PS.dec
  rw [e, e, hf.lv, ← e, ← e]
  refine List.map_congr_left (fun v hv => ?_)
  have := h.tr.sl v hv
  rw [hm, List.getD_eq_getElem?_getD, List.getElem?_append_left this, List.getD_eq_getElem?_getD]

/-- Whoever makes the clauses and the decisions true makes the trail true. -/
theorem sound_trail (h : Inv s) (v : Int → Int) (hneg : ∀ x, v (-x) = - v x) (hc : ∀ (i : Nat) c, s.cls[i]? = some c → c.gone = false → ∃ x ∈ c.lits, v x = 1) (hd : ∀ l ∈ s.dec, v l = 1) : ∀ x ∈ s.trail, v x = 1 := by
  have key : ∀ (n i : Nat) (x : Int), i < n → s.trail[i]? = some x → v x = 1 := by
    intro n
    induction n with
    | zero => intro i x hi; omega
    | succ n ih =>
      intro i x hi hx
      obtain ⟨r, _, hR⟩ := h.tr.fc i x hx
      rcases hR with ⟨_, u, hu, e⟩ | ⟨_, k, c, _, e2, e3, e4, e5⟩
      · refine hd x ?_
        unfold PS.dec
        refine List.mem_map.2 ⟨u, hu, ?_⟩
        rw [e, List.getD_eq_getElem?_getD, hx]; rfl
      · obtain ⟨y, y1, y2⟩ := hc k c e2 e3
        by_cases e : y = x
        · rw [← e]; exact y2
        · obtain ⟨j, j1, j2⟩ := mem_take_iff.1 (e5 y y1 e)
          have := ih j (-y) (by omega) j2
          rw [hneg, y2] at this; omega
  intro x hx
  obtain ⟨i, hi⟩ := List.mem_iff_getElem?.1 hx
  exact key (i + 1) i x (by omega) hi

/-- A broken clause is true of no one. -/
theorem sound_broken (h : Inv s) (v : Int → Int) (hneg : ∀ x, v (-x) = - v x) (hc : ∀ (i : Nat) c, s.cls[i]? = some c → c.gone = false → ∃ x ∈ c.lits, v x = 1) (hd : ∀ l ∈ s.dec, v l = 1) {n : Int} (hb : Brk s n) : False := by
  obtain ⟨i, c, _, e1, e2, e3⟩ := hb
  obtain ⟨x, x1, x2⟩ := hc i c e1 e2
  have := sound_trail h v hneg hc hd _ (e3 x x1)
  rw [hneg, x2] at this; omega
end

end Go.Proofs.Ytlmbgaconjcaiaa

namespace Go.Proofs.Ytlmbgaconjcaiaa

/-- What is counted: the clauses that are there; those that were dropped since the last sweep are among those that are gone. -/
structure Cnt (s : PS) : Prop where
  n : s.count = (s.cls.countP (fun c => !c.gone) : Nat)
  st : 0 ≤ s.stale ∧ s.stale ≤ (s.cls.countP (fun c => c.gone) : Nat)

theorem countP_set {α : Type} (p : α → Bool) : ∀ (l : List α) (i : Nat) (a b : α), l[i]? = some a → ((l.set i b).countP p : Nat) + (if p a then 1 else 0) = l.countP p + (if p b then 1 else 0)
  | [], i, a, b, h => by simp at h
  | x :: l, 0, a, b, h => by
    simp at h; subst h
    simp only [List.set_cons_zero, List.countP_cons]; omega
  | x :: l, i + 1, a, b, h => by
    simp at h
    have := countP_set p l i a b h
    simp only [List.set_cons_succ, List.countP_cons]; omega

section
variable {s : PS}

theorem set_at {i j : Nat} {c c' d : Cl} (hc : s.cls[i]? = some c) (h : (s.cls.set i d)[j]? = some c') : (j = i ∧ c' = d) ∨ (j ≠ i ∧ s.cls[j]? = some c') := by
  by_cases e : j = i
  · subst e
    rw [List.getElem?_set_self (List.getElem?_eq_some_iff.1 hc).1] at h
    exact .inl ⟨rfl, (Option.some.inj h).symm⟩
  · rw [List.getElem?_set_ne (Ne.symm e)] at h; exact .inr ⟨e, h⟩

theorem dropped_inv (h : Inv s) (hn : Cnt s) {i : Nat} {c : Cl} (hc : s.cls[i]? = some c) (hg : c.gone = false) (hnr : ∀ x ∈ c.lits, s.val x = 1 → (s.fct x).2.2 ≠ (i : Int)) :
    Inv (s.dropped i c) ∧ Cnt (s.dropped i c) := by
  have hil : i < s.cls.length := (List.getElem?_eq_some_iff.1 hc).1
  have c1 := countP_set (fun c : Cl => !c.gone) s.cls i c { c with gone := true, lits := [] } hc
  have c2 := countP_set (fun c : Cl => c.gone) s.cls i c { c with gone := true, lits := [] } hc
  simp only [hg, Bool.not_false, Bool.not_true, if_true, Bool.false_eq_true, if_false] at c1 c2
  have c3 := List.countP_le_length (p := fun c : Cl => !c.gone) (l := s.cls.set i { c with gone := true, lits := [] })
  have c4 := List.countP_le_length (p := fun c : Cl => c.gone) (l := s.cls.set i { c with gone := true, lits := [] })
  simp only [List.length_set] at c3 c4
  have hcount : (s.dropped i c).count = s.count - 1 := rfl
  have hstale : (s.dropped i c).stale = s.stale + 1 := rfl
  have hcnt : Cnt (s.dropped i c) := by
    refine ⟨?_, ?_⟩
    · rw [hcount, hn.n]; show _ = ((List.countP _ (s.cls.set i _) : Nat) : Int); omega
    · rw [hstale]
      have := hn.st
      show 0 ≤ s.stale + 1 ∧ s.stale + 1 ≤ ((List.countP _ (s.cls.set i _) : Nat) : Int); omega
  refine ⟨⟨?_, ?_, ⟨?_, ?_⟩, ?_⟩, hcnt⟩
  · refine ⟨h.tr.ok, h.tr.nd, h.tr.vl, ?_, h.tr.st, h.tr.sl, h.tr.hd, h.tr.hv, h.tr.hp⟩
    intro j x hx
    obtain ⟨r, e, hR⟩ := h.tr.fc j x hx
    refine ⟨r, e, ?_⟩
    rcases hR with ⟨a, b⟩ | ⟨a, k', c', q1, q2, q3, q4, q5⟩
    · exact .inl ⟨a, b⟩
    · refine .inr ⟨a, k', c', q1, ?_, q3, q4, q5⟩
      show (s.cls.set i _)[k']? = some c'
      by_cases ek : k' = i
      · subst ek
        rw [hc] at q2; simp at q2; subst q2
        have hxm := List.mem_of_getElem? hx
        have : s.val x = 1 := by rw [h.tr.vl x (h.tr.ok x hxm)]; exact tval_one.2 hxm
        exact absurd (by rw [e]; exact q1) (hnr x q4 this)
      · rw [List.getElem?_set_ne (Ne.symm ek)]; exact q2
  · refine ⟨?_, ?_, h.wt.nd, ?_⟩
    · intro j c' hj x hx
      rcases set_at hc hj with ⟨_, rfl⟩ | ⟨_, hj⟩
      · simp at hx
      · exact h.wt.ok j c' hj x hx
    · intro j c' hj hg' hw
      rcases set_at hc hj with ⟨_, rfl⟩ | ⟨_, hj⟩
      · simp at hg'
      · exact h.wt.ww j c' hj hg' hw
    · intro j q hq p hp
      obtain ⟨c', h1, h2, h3⟩ := h.wt.we j q hq p hp
      by_cases e : p.1 = i
      · refine ⟨{ c with gone := true, lits := [] }, ?_, h2, fun hg' => by simp at hg'⟩
        show (s.cls.set i _)[p.1]? = _
        rw [e, List.getElem?_set_self hil]
      · refine ⟨c', ?_, h2, h3⟩
        show (s.cls.set i _)[p.1]? = _
        rw [List.getElem?_set_ne (Ne.symm e)]; exact h1
  · intro k hk j c' hj hg'
    rcases set_at hc hj with ⟨_, rfl⟩ | ⟨_, hj⟩
    · simp at hg'
    · exact h.la.i1 k hk j c' hj hg'
  · intro k hk j c' hj hg'
    rcases set_at hc hj with ⟨_, rfl⟩ | ⟨_, hj⟩
    · simp at hg'
    · exact h.la.i2 k hk j c' hj hg'
  · have hz := h.sz
    have e : (s.dropped i c).cls.length = s.cls.length := by simp [PS.dropped]
    refine ⟨hz.vars, hz.vals, hz.wat, hz.fac, hz.bit, hz.num, ?_, ?_, ?_, ?_, ?_, ?_⟩
    · rw [e]; exact hz.lv
    · rw [e]; exact hz.la
    · rw [e]; exact hz.sum
    · rw [e]; have := hcnt.n; have := hz.count; omega
    · rw [e]; have := hcnt.st; refine ⟨this.1, Int.le_trans this.2 ?_⟩; have := c4; show ((List.countP _ (s.cls.set i _) : Nat) : Int) ≤ _; omega
    · rw [e]; exact hz.cls

theorem alive_of {i : Nat} {c : Cl} (hc : s.cls[i]? = some c) (hg : c.gone = false) : s.alive i = true := by unfold PS.alive; rw [hc]; simp [hg]

theorem swept_inv (h : Inv s) (hn : Cnt s) : Inv s.swept ∧ Cnt s.swept := by
  have hcnt : Cnt s.swept := ⟨hn.n, by show (0 : Int) ≤ 0 ∧ _; exact ⟨Int.le_refl _, Int.natCast_nonneg _⟩⟩
  have hlget : ∀ j : Nat, s.swept.lvs[j]? = (s.lvs[j]?).map (fun v : Lv => ({ v with late := v.late.filter s.alive } : Lv)) := fun j => by show (s.lvs.map _)[j]? = _; rw [List.getElem?_map]
  have hmem : ∀ v ∈ s.swept.lvs, ∃ u ∈ s.lvs, v.start = u.start ∧ v.head = u.head ∧ v.late = u.late.filter s.alive := by
    intro v hv
    obtain ⟨u, hu, rfl⟩ := List.mem_map.1 hv
    exact ⟨u, hu, rfl, rfl, rfl⟩
  have hlen : s.swept.lvs.length = s.lvs.length := by simp [PS.swept]
  have htk : ∀ k, tk s.swept k = tk s k := by
    intro k; unfold tk; rw [hlget]
    cases s.lvs[k]? <;> rfl
  have hhk : ∀ k, hk s.swept k = hk s k := by
    intro k; unfold hk; rw [hlget]
    cases s.lvs[k]? <;> rfl
  have hwget : ∀ j : Nat, s.swept.wat[j]? = (s.wat[j]?).map (fun q : List (Nat × Int) => q.filter (fun p => s.alive p.1)) := fun j => by show (s.wat.map _)[j]? = _; rw [List.getElem?_map]
  have hinw : ∀ l (i : Nat) c, s.cls[i]? = some c → c.gone = false → InW s l i → InW s.swept l i := by
    rintro l i c hc hg ⟨q, h1, h2⟩
    refine ⟨q.filter (fun p => s.alive p.1), ?_, ?_⟩
    · show s.swept.wat[ix s.vars l]? = _; rw [hwget, h1]; rfl
    · obtain ⟨p, hp, rfl⟩ := List.mem_map.1 h2
      exact List.mem_map.2 ⟨p, List.mem_filter.2 ⟨hp, alive_of hc hg⟩, rfl⟩
  have hwat : ∀ (j : Nat) q, s.swept.wat[j]? = some q → ∃ q0, s.wat[j]? = some q0 ∧ q = q0.filter (fun p => s.alive p.1) := by
    intro j q hq
    rw [hwget] at hq
    cases e : s.wat[j]? with
    | none => rw [e] at hq; cases hq
    | some q0 => rw [e] at hq; exact ⟨q0, rfl, (Option.some.inj hq).symm⟩
  refine ⟨⟨⟨h.tr.ok, h.tr.nd, h.tr.vl, ?_, ?_, ?_, h.tr.hd, ?_, ?_⟩, ⟨h.wt.ok, ?_, ?_, ?_⟩, ⟨?_, ?_⟩, ?_⟩, hcnt⟩
  · intro i x hx
    obtain ⟨r, e, hR⟩ := h.tr.fc i x hx
    have hlev : levAt s.swept.lvs i = levAt s.lvs i := by
      unfold levAt
      show List.countP _ (s.lvs.map _) = _
      rw [List.countP_map]; rfl
    refine ⟨r, by rw [hlev]; exact e, ?_⟩
    rcases hR with ⟨a, v, hv, b⟩ | ⟨a, b⟩
    · exact .inl ⟨a, _, List.mem_map.2 ⟨v, hv, rfl⟩, b⟩
    · refine .inr ⟨fun v hv => ?_, b⟩
      obtain ⟨u, hu, e1, _⟩ := hmem v hv
      rw [e1]; exact a u hu
  · exact List.pairwise_map.2 h.tr.st
  · intro v hv
    obtain ⟨u, hu, e1, _⟩ := hmem v hv
    rw [e1]; exact h.tr.sl u hu
  · intro v hv
    obtain ⟨u, hu, e1, e2, _⟩ := hmem v hv
    rw [e1, e2]; exact h.tr.hv u hu
  · exact List.pairwise_map.2 h.tr.hp
  · intro i c hc hg hw
    obtain ⟨a1, a2, a3, a4, a5⟩ := h.wt.ww i c hc hg hw
    exact ⟨a1, a2, a3, hinw _ i c hc hg a4, hinw _ i c hc hg a5⟩
  · intro j q hq
    obtain ⟨q0, h0, rfl⟩ := hwat j q hq
    exact (h.wt.nd j q0 h0).sublist (List.filter_sublist.map _)
  · intro j q hq p hp
    obtain ⟨q0, h0, rfl⟩ := hwat j q hq
    exact h.wt.we j q0 h0 p (List.mem_filter.1 hp).1
  · intro k hkk i c hc hg
    rw [hlen] at hkk
    rw [htk, hhk]
    rcases h.la.i1 k hkk i c hc hg with q | q
    · left
      rcases q with q | ⟨j, v, h1, h2, h3⟩
      · exact .inl (List.mem_filter.2 ⟨q, alive_of hc hg⟩)
      · refine .inr ⟨j, { v with late := v.late.filter s.alive }, h1, ?_, List.mem_filter.2 ⟨h3, alive_of hc hg⟩⟩
        rw [hlget, h2]; rfl
    · exact .inr q
  · intro k hkk i c hc hg h2
    rw [hlen] at hkk
    rw [htk] at h2
    rw [htk, hhk]
    exact h.la.i2 k hkk i c hc hg h2
  · have hz := h.sz
    refine ⟨hz.vars, hz.vals, ?_, hz.fac, hz.bit, hz.num, ?_, ?_, ?_, hz.count, ?_, hz.cls⟩
    · show (s.wat.map _).length = _; simp; exact hz.wat
    · intro v hv i hi
      obtain ⟨u, hu, _, _, e⟩ := hmem v hv
      rw [e] at hi
      exact hz.lv u hu i (List.mem_filter.1 hi).1
    · intro i hi; exact hz.la i (List.mem_filter.1 hi).1
    · have hs := hz.sum
      have h1 : (s.late.filter s.alive).length ≤ s.late.length := List.length_filter_le _ _
      have h2 : ∀ l : List Lv, ((l.map (fun v : Lv => ({ v with late := v.late.filter s.alive } : Lv))).map (fun v => v.late.length)).sum ≤ (l.map (fun v => v.late.length)).sum := by
        intro l
        induction l with
        | nil => simp
        | cons v l ih =>
          have := List.length_filter_le s.alive v.late
          simp only [List.map_cons, List.sum_cons]; omega
      have := h2 s.lvs
      show (s.late.filter s.alive).length + ((s.lvs.map _).map _).sum ≤ s.cls.length
      omega
    · show (0 : Int) ≤ 0 ∧ (0 : Int) ≤ _; omega

theorem drop_inv (h : Inv s) (hn : Cnt s) {i : Nat} {c : Cl} (hc : s.cls[i]? = some c) (hg : c.gone = false) (hnr : ∀ x ∈ c.lits, s.val x = 1 → (s.fct x).2.2 ≠ (i : Int)) :
    Inv (s.drop i c) ∧ Cnt (s.drop i c) := by
  have hd := dropped_inv h hn hc hg hnr
  unfold PS.drop
  simp only
  split
  · exact swept_inv hd.1 hd.2
  · exact hd
end
end Go.Proofs.Ytlmbgaconjcaiaa

namespace Go.Proofs.Ytlmbgaconjcaiaa

section
variable {s : PS}

theorem unvals_eq : ∀ (ls : List Int) (s : PS), s.unvals ls = { s with vals := (s.unvals ls).vals }
  | [], s => rfl
  | l :: ls, s => by
    have := unvals_eq ls (s.unval l)
    show (s.unval l).unvals ls = _
    rw [this]; rfl

theorem unvals_len : ∀ (ls : List Int) (s : PS), (s.unvals ls).vals.length = s.vals.length
  | [], s => rfl
  | l :: ls, s => by
    show ((s.unval l).unvals ls).vals.length = _
    rw [unvals_len ls]; simp [PS.unval]

theorem unvals_bit : ∀ (ls : List Int) (s : PS), (∀ x ∈ s.vals, -1 ≤ x ∧ x ≤ 1) → ∀ x ∈ (s.unvals ls).vals, -1 ≤ x ∧ x ≤ 1
  | [], s, h => h
  | l :: ls, s, h => by
    refine unvals_bit ls (s.unval l) ?_
    intro x hx
    simp only [PS.unval] at hx
    rcases List.mem_or_eq_of_mem_set hx with hx | hx
    · rcases List.mem_or_eq_of_mem_set hx with hx | hx
      · exact h x hx
      · omega
    · omega

theorem unval_val (hz : s.vals.length = 2 * s.vars + 1) {l x : Int} (hl : Lt s.vars l) (hx : Lt s.vars x) : (s.unval l).val x = if x = l ∨ x = -l then 0 else s.val x := by
  have hl' : Lt s.vars (-l) := by unfold Lt at *; omega
  have inj : ∀ a b : Int, Lt s.vars a → Lt s.vars b → ix s.vars a = ix s.vars b → a = b := by
    intro a b ha hb e
    have h1 := ix_int ha
    have h2 := ix_int hb
    rw [e] at h1; omega
  unfold PS.val PS.unval
  show (((s.vals.set (ix s.vars l) 0).set (ix s.vars (-l)) 0)).getD (ix s.vars x) 0 = _
  rw [List.getD_eq_getElem?_getD, List.getD_eq_getElem?_getD]
  by_cases e2 : x = -l
  · subst e2
    rw [List.getElem?_set_self (by simp; rw [hz]; exact ix_lt hl')]; simp
  · rw [List.getElem?_set_ne (fun e => e2 (inj _ _ hx hl' e.symm))]
    by_cases e1 : x = l
    · subst e1
      rw [List.getElem?_set_self (by rw [hz]; exact ix_lt hl)]; simp
    · rw [List.getElem?_set_ne (fun e => e1 (inj _ _ hx hl e.symm))]
      simp [e1, e2]

theorem unvals_val : ∀ (ls : List Int) (s : PS), s.vals.length = 2 * s.vars + 1 → (∀ l ∈ ls, Lt s.vars l) → ∀ x, Lt s.vars x → (s.unvals ls).val x = if x ∈ ls ∨ -x ∈ ls then 0 else s.val x
  | [], s, _, _, x, _ => by simp [PS.unvals]
  | l :: ls, s, hz, hl, x, hx => by
    have h1 := unvals_val ls (s.unval l) (by simpa [PS.unval] using hz) (fun y hy => hl y (List.mem_cons_of_mem _ hy)) x hx
    show ((s.unval l).unvals ls).val x = _
    rw [h1, unval_val hz (hl l (List.mem_cons_self ..)) hx]
    by_cases a : x ∈ ls ∨ -x ∈ ls
    · rw [if_pos a, if_pos (by rcases a with a | a <;> simp [a])]
    · rw [if_neg a]
      by_cases b : x = l ∨ x = -l
      · rw [if_pos b, if_pos (by rcases b with rfl | rfl <;> simp)]
      · rw [if_neg b, if_neg]
        rintro (c | c)
        · rcases List.mem_cons.1 c with c | c
          · exact b (.inl c)
          · exact a (.inl c)
        · rcases List.mem_cons.1 c with c | c
          · exact b (.inr (by omega))
          · exact a (.inr c)

theorem back_eq (s : PS) (k : Nat) (lv : Lv) : s.back k lv = { s with vals := (s.unvals (s.trail.drop lv.start)).vals, trail := s.trail.take lv.start, head := lv.head, late := s.late ++ (s.lvs.drop k).flatMap Lv.late, lvs := s.lvs.take k } := by
  unfold PS.back; rw [unvals_eq]

theorem tval_iff {t : List Int} {t' : List Int} {x : Int} (h1 : x ∈ t ↔ x ∈ t') (h2 : -x ∈ t ↔ -x ∈ t') : tval t x = tval t' x := by unfold tval; simp only [h1, h2]

theorem back_lv (h : Inv s) {k : Nat} {lv : Lv} (hk : s.lvs[k]? = some lv) : ∀ (j : Nat) (v : Lv), s.lvs[j]? = some v → (j < k → v.start < lv.start ∧ v.head ≤ lv.head) ∧ (k ≤ j → lv.start ≤ v.start) := by
  intro j v hj
  have lj := (List.getElem?_eq_some_iff.1 hj)
  have lk := (List.getElem?_eq_some_iff.1 hk)
  obtain ⟨lj1, lj2⟩ := lj
  obtain ⟨lk1, lk2⟩ := lk
  constructor
  · intro hlt
    have p1 := List.pairwise_iff_getElem.1 h.tr.st j k lj1 lk1 hlt
    have p2 := List.pairwise_iff_getElem.1 h.tr.hp j k lj1 lk1 hlt
    rw [lj2, lk2] at p1 p2
    exact ⟨p1, p2⟩
  · intro hle
    rcases Nat.lt_or_eq_of_le hle with hlt | rfl
    · have p1 := List.pairwise_iff_getElem.1 h.tr.st k j lk1 lj1 hlt
      rw [lj2, lk2] at p1
      omega
    · rw [hj] at hk; simp at hk; subst hk; exact Nat.le_refl _

theorem back_tr (h : Inv s) {k : Nat} {lv : Lv} (hk : s.lvs[k]? = some lv) : Tr (s.back k lv) := by
  have hlv := back_lv h hk
  have hmem : lv ∈ s.lvs := List.mem_of_getElem? hk
  have hst := h.tr.sl lv hmem
  have hlen : (s.trail.take lv.start).length = lv.start := by simp; omega
  have htake : ∀ v ∈ s.lvs.take k, ∃ j, j < k ∧ s.lvs[j]? = some v := by
    intro v hv
    obtain ⟨j, h1, h2⟩ := mem_take_iff.1 hv
    exact ⟨j, h1, h2⟩
  have hsplit : ∀ x, x ∈ s.trail ↔ x ∈ s.trail.take lv.start ∨ x ∈ s.trail.drop lv.start := by
    intro x
    conv => lhs; rw [← List.take_append_drop lv.start s.trail]
    exact List.mem_append
  have hdisj : ∀ x y, x ∈ s.trail.take lv.start → y ∈ s.trail.drop lv.start → x ≠ y ∧ x ≠ -y := by
    intro x y hx hy
    have := h.tr.nd
    rw [← List.take_append_drop lv.start s.trail, List.pairwise_append] at this
    exact this.2.2 x hx y hy
  rw [back_eq]
  refine ⟨?_, ?_, ?_, ?_, ?_, ?_, ?_, ?_, ?_⟩
  · intro x hx; exact h.tr.ok x (List.mem_of_mem_take hx)
  · exact h.tr.nd.sublist (List.take_sublist _ _)
  · intro x hx
    have := unvals_val (s.trail.drop lv.start) s h.sz.vals (fun l hl => h.tr.ok l (List.mem_of_mem_drop hl)) x hx
    show (s.unvals (s.trail.drop lv.start)).vals.getD (ix s.vars x) 0 = tval (s.trail.take lv.start) x
    have e : (s.unvals (s.trail.drop lv.start)).val x = (s.unvals (s.trail.drop lv.start)).vals.getD (ix s.vars x) 0 := by
      unfold PS.val; rw [unvals_eq]
    rw [← e, this]
    by_cases a : x ∈ s.trail.drop lv.start ∨ -x ∈ s.trail.drop lv.start
    · rw [if_pos a]
      symm
      refine tval_zero.2 ⟨fun hm => ?_, fun hm => ?_⟩
      · rcases a with a | a
        · exact (hdisj _ _ hm a).1 rfl
        · exact (hdisj _ _ hm a).2 (by omega)
      · rcases a with a | a
        · exact (hdisj _ _ hm a).2 rfl
        · exact (hdisj _ _ hm a).1 rfl
    · rw [if_neg a, h.tr.vl x hx]
      have a1 : x ∉ s.trail.drop lv.start := fun q => a (.inl q)
      have a2 : -x ∉ s.trail.drop lv.start := fun q => a (.inr q)
      exact tval_iff (by rw [hsplit]; simp [a1]) (by rw [hsplit]; simp [a2])
  · intro i x hx
    replace hx : (s.trail.take lv.start)[i]? = some x := hx
    rw [List.getElem?_take] at hx
    by_cases hi : i < lv.start
    · rw [if_pos hi] at hx
      obtain ⟨r, e1, e2⟩ := h.tr.fc i x hx
      have hlev : levAt (s.lvs.take k) i = levAt s.lvs i := by
        unfold levAt
        conv => rhs; rw [← List.take_append_drop k s.lvs]
        rw [List.countP_append]
        have : List.countP (fun v : Lv => decide (v.start ≤ i)) (s.lvs.drop k) = 0 := by
          rw [List.countP_eq_zero]
          intro v hv
          obtain ⟨j, hj⟩ := List.mem_iff_getElem?.1 hv
          rw [List.getElem?_drop] at hj
          have := (hlv _ v hj).2 (by omega)
          simp; omega
        omega
      refine ⟨r, by show s.fct x = _; rw [e1]; show _ = ((i : Int), ((levAt (s.lvs.take k) i : Nat) : Int), r); rw [hlev], ?_⟩
      rcases e2 with ⟨a, v, hv, b⟩ | ⟨a, k', c', q1, q2, q3, q4, q5⟩
      · refine .inl ⟨a, v, ?_, b⟩
        obtain ⟨j, hj⟩ := List.mem_iff_getElem?.1 hv
        refine mem_take_iff.2 ⟨j, ?_, hj⟩
        rcases Nat.lt_or_ge j k with q | q
        · exact q
        · have := (hlv j v hj).2 q; omega
      · refine .inr ⟨fun v hv => a v (List.mem_of_mem_take hv), k', c', q1, q2, q3, q4, fun y hy hne => ?_⟩
        have := q5 y hy hne
        show -y ∈ (s.trail.take lv.start).take i
        rw [List.take_take, Nat.min_eq_left (by omega)]; exact this
    · rw [if_neg hi] at hx; cases hx
  · exact h.tr.st.sublist (List.take_sublist _ _)
  · intro v hv
    obtain ⟨j, h1, h2⟩ := htake v hv
    show v.start < (s.trail.take lv.start).length
    rw [hlen]; exact ((hlv j v h2).1 h1).1
  · show lv.head ≤ (s.trail.take lv.start).length
    rw [hlen]; exact (h.tr.hv lv hmem).1
  · intro v hv
    obtain ⟨j, h1, h2⟩ := htake v hv
    exact ⟨(h.tr.hv v (List.mem_of_getElem? h2)).1, ((hlv j v h2).1 h1).2⟩
  · exact h.tr.hp.sublist (List.take_sublist _ _)

theorem back_inv (h : Inv s) {k : Nat} {lv : Lv} (hkv : s.lvs[k]? = some lv) : Inv (s.back k lv) := by
  have hTr := back_tr h hkv
  have hlv := back_lv h hkv
  have hmem : lv ∈ s.lvs := List.mem_of_getElem? hkv
  have hst := h.tr.sl lv hmem
  have hhd := h.tr.hv lv hmem
  have hkl : k < s.lvs.length := (List.getElem?_eq_some_iff.1 hkv).1
  have hlen : (s.trail.take lv.start).length = lv.start := by simp; omega
  have hls : (s.lvs.take k).length = k := by simp; omega
  have hget : ∀ j, j < k → (s.lvs.take k)[j]? = s.lvs[j]? := fun j hj => by rw [List.getElem?_take, if_pos hj]
  have htk : ∀ k', k' ≤ k → tk (s.back k lv) k' = tk s k' ∧ hk (s.back k lv) k' = hk s k' ∧ tk s k' ≤ lv.start ∧ hk s k' ≤ lv.start := by
    intro k' hk'
    rw [back_eq]
    unfold tk hk
    show (match (s.lvs.take k)[k']? with | some v => v.start | none => (s.trail.take lv.start).length) = _ ∧ (match (s.lvs.take k)[k']? with | some v => v.head | none => lv.head) = _ ∧ _
    rcases Nat.lt_or_eq_of_le hk' with hlt | rfl
    · rw [hget k' hlt]
      have hk2 : k' < s.lvs.length := by omega
      rw [List.getElem?_eq_getElem hk2]
      have := (hlv k' _ (List.getElem?_eq_getElem hk2)).1 hlt
      simp only
      exact ⟨by trivial, by trivial, by omega, by omega⟩
    · rw [List.getElem?_eq_none (by omega), hkv]
      simp only
      exact ⟨hlen, by trivial, Nat.le_refl _, hhd.1⟩
  have htt : ∀ a, a ≤ lv.start → (s.trail.take lv.start).take a = s.trail.take a := fun a ha => by rw [List.take_take, Nat.min_eq_left ha]
  have hlate : ∀ k' i, k' ≤ k → lateFrom s k' i → lateFrom (s.back k lv) k' i := by
    intro k' i hk' hl
    rw [back_eq]
    rcases hl with hl | ⟨j, v, h1, h2, h3⟩
    · exact .inl (List.mem_append.2 (.inl hl))
    · rcases Nat.lt_or_ge j k with q | q
      · exact .inr ⟨j, v, h1, by show (s.lvs.take k)[j]? = _; rw [hget j q]; exact h2, h3⟩
      · refine .inl (List.mem_append.2 (.inr (List.mem_flatMap.2 ⟨v, ?_, h3⟩)))
        refine List.mem_iff_getElem?.2 ⟨j - k, ?_⟩
        rw [List.getElem?_drop, show k + (j - k) = j by omega]; exact h2
  have hcls : (s.back k lv).cls = s.cls := by rw [back_eq]
  have htrail : (s.back k lv).trail = s.trail.take lv.start := rfl
  have hlvs : (s.back k lv).lvs = s.lvs.take k := rfl
  refine ⟨hTr, ?_, ⟨?_, ?_⟩, ?_⟩
  · rw [back_eq]; exact ⟨h.wt.ok, h.wt.ww, h.wt.nd, h.wt.we⟩
  · intro k' hk' i c hc hg
    rw [hlvs, hls] at hk'
    rw [hcls] at hc
    obtain ⟨e1, e2, e3, e4⟩ := htk k' hk'
    rcases h.la.i1 k' (by omega) i c hc hg with q | q
    · exact .inl (hlate k' i hk' q)
    · right
      rw [e1, e2, htrail]
      unfold OKc at *
      rw [htt _ e3, htt _ e4]; exact q
  · intro k' hk' i c hc hg h2
    rw [hlvs, hls] at hk'
    rw [hcls] at hc
    obtain ⟨e1, e2, e3, e4⟩ := htk k' hk'
    rw [e1, htrail] at h2
    have := h.la.i2 k' (by omega) i c hc hg (by unfold Two at *; rw [htt _ e3] at h2; exact h2)
    rw [e1, e2, htrail]
    unfold OKc at *
    rw [htt _ e3, htt _ e4]; exact this
  · have hz := h.sz
    rw [back_eq]
    refine ⟨hz.vars, ?_, hz.wat, hz.fac, ?_, hz.num, ?_, ?_, ?_, hz.count, hz.stale, hz.cls⟩
    · show (s.unvals _).vals.length = _
      rw [unvals_len]; exact hz.vals
    · exact unvals_bit _ s hz.bit
    · intro v hv; exact hz.lv v (List.mem_of_mem_take hv)
    · intro i hi
      rcases List.mem_append.1 hi with q | q
      · exact hz.la i q
      · obtain ⟨v, hv, hi⟩ := List.mem_flatMap.1 q
        exact hz.lv v (List.mem_of_mem_drop hv) i hi
    · have hs := hz.sum
      show (s.late ++ (s.lvs.drop k).flatMap Lv.late).length + ((s.lvs.take k).map (fun v => v.late.length)).sum ≤ s.cls.length
      rw [List.length_append, List.length_flatMap]
      have : (s.lvs.map (fun v => v.late.length)).sum = ((s.lvs.take k).map (fun v => v.late.length)).sum + ((s.lvs.drop k).map (fun v => v.late.length)).sum := by
        conv => lhs; rw [← List.take_append_drop k s.lvs]
        rw [List.map_append, List.sum_append]
      have e : ((s.lvs.drop k).map (fun a => (Lv.late a).length)).sum = ((s.lvs.drop k).map (fun v => v.late.length)).sum := rfl
      omega

theorem back_dec (h : Inv s) {k : Nat} {lv : Lv} (hkv : s.lvs[k]? = some lv) : (s.back k lv).dec = s.dec.take k := by
  have hlv := back_lv h hkv
  have hst := h.tr.sl lv (List.mem_of_getElem? hkv)
  unfold PS.dec
  show (s.lvs.take k).map (fun v => (s.trail.take lv.start).getD v.start 0) = _
  rw [← List.map_take]
  refine List.map_congr_left (fun v hv => ?_)
  obtain ⟨j, h1, h2⟩ := mem_take_iff.1 hv
  have := ((hlv j v h2).1 h1).1
  rw [List.getD_eq_getElem?_getD, List.getD_eq_getElem?_getD, List.getElem?_take, if_pos this]
end
end Go.Proofs.Ytlmbgaconjcaiaa
