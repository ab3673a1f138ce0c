/- Plain mathematics: a propagator's state, and what its parts do. -/
import Derived.Test.YtlmbgaconjcaiabPlain
set_option linter.unusedVariables false
set_option linter.unusedSimpArgs false
namespace Go.Proofs.Ytlmbgaconjcaiab

/-- A clause: its literals, the two that it watches, whether it was dropped. -/
structure Cl where
  lits : List Int
  w0 : Int
  w1 : Int
  gone : Bool

/-- A level: its decision's place, the head then, the late clauses that were settled on it. -/
structure Lv where
  start : Nat
  head : Nat
  late : List Nat

/-- A propagator's state. -/
structure PS where
  vars : Nat
  cls : List Cl
  count : Int
  stale : Int
  vals : List Int
  wat : List (List (Nat × Int))
  fac : List (Int × Int × Int)
  trail : List Int
  head : Nat
  lvs : List Lv
  late : List Nat

/-- A literal of one of so many variables. -/
def Lt (V : Nat) (l : Int) : Prop := l ≠ 0 ∧ -(V : Int) ≤ l ∧ l ≤ V

/-- A literal's place in what is by literals. -/
def ix (V : Nat) (l : Int) : Nat := ((V : Int) + l).toNat

theorem ix_lt {V : Nat} {l : Int} (h : Lt V l) : ix V l < 2 * V + 1 := by unfold ix; unfold Lt at h; omega
theorem ix_int {V : Nat} {l : Int} (h : Lt V l) : ((ix V l : Nat) : Int) = V + l := by unfold ix; unfold Lt at h; omega
theorem ix_inj {V : Nat} {l k : Int} (h : Lt V l) (h' : Lt V k) (e : ix V l = ix V k) : l = k := by
  have := ix_int h; have := ix_int h'; omega
theorem Lt.neg {V : Nat} {l : Int} (h : Lt V l) : Lt V (-l) := by unfold Lt at *; omega
theorem Lt.abs {V : Nat} {l : Int} (h : Lt V l) : l.natAbs < V + 1 ∧ 0 < l.natAbs := by unfold Lt at h; omega

def PS.val (s : PS) (l : Int) : Int := s.vals.getD (ix s.vars l) 0
def PS.fct (s : PS) (l : Int) : Int × Int × Int := s.fac.getD l.natAbs (0, 0, 0)

/-- An open literal comes to be true. -/
def PS.put (s : PS) (l : Int) (r : Int) : PS :=
  { s with
    vals := (s.vals.set (ix s.vars l) 1).set (ix s.vars (-l)) (-1)
    fac := s.fac.set l.natAbs (s.trail.length, s.lvs.length, r)
    trail := s.trail ++ [l] }

/-- A clause watches a literal. -/
def PS.watch (s : PS) (l : Int) (i : Nat) (h : Int) : PS :=
  { s with wat := s.wat.modify (ix s.vars l) (fun q => q ++ [(i, h)]) }

def PS.setCl (s : PS) (i : Nat) (c : Cl) : PS := { s with cls := s.cls.set i c }
def PS.setW (s : PS) (j : Nat) (q : List (Nat × Int)) : PS := { s with wat := s.wat.set j q }

def PS.falseFrom (s : PS) (l : Int) : Int := if s.val l < 0 then (s.fct l).1 else s.trail.length

/-- One literal more is looked at, for the two that a Back would open first. -/
def PS.later (s : PS) (p : Int × Int) (l : Int) : Int × Int :=
  if l = p.1 ∨ l = p.2 then p
  else if p.1 = 0 ∨ s.falseFrom p.1 < s.falseFrom l then (l, p.1)
  else if p.2 = 0 ∨ s.falseFrom p.2 < s.falseFrom l then (p.1, l)
  else p
def PS.latest (s : PS) (lits : List Int) : Int × Int := lits.foldl s.later (0, 0)

/-- A clause is taken in. -/
def PS.added (s : PS) (lits : List Int) : PS := { s with cls := s.cls ++ [⟨lits, 0, 0, false⟩], count := s.count + 1 }
def PS.hooked (s : PS) (lits : List Int) (f g : Int) : PS :=
  if g = 0 then s.added lits
  else (((s.added lits).setCl s.cls.length ⟨lits, f, g, false⟩).watch f s.cls.length g).watch g s.cls.length f
def PS.attach (s : PS) (lits : List Int) : PS :=
  let p := s.latest lits
  let t := s.hooked lits p.1 p.2
  if p.2 = 0 ∨ s.val p.2 < 0 then { t with late := t.late ++ [s.cls.length] } else t

/-- What of a late clause's literals is not false: whether there are two; else the one, or 0. -/
def scan (v : Int → Int) : List Int → Int → Bool × Int
  | [], left => (false, left)
  | l :: r, left => if v l < 0 ∨ l = left then scan v r left else if left ≠ 0 then (true, left) else scan v r l

/-- The last level's late clauses are one more. -/
def PS.lateLv (s : PS) (i : Nat) : PS := { s with lvs := s.lvs.modify (s.lvs.length - 1) (fun v => { v with late := v.late ++ [i] }) }

/-- A late clause is settled. -/
def PS.settle (s : PS) (i : Nat) (lits : List Int) : Bool × PS :=
  match scan s.val lits 0 with
  | (true, _) => (true, s)
  | (false, left) =>
    if left = 0 then (false, s)
    else
      let t := if s.val left = 0 then s.put left i else s
      (true, if t.lvs.length = 0 then t else t.lateLv i)

/-- A decision. -/
def PS.leveled (s : PS) : PS := { s with lvs := s.lvs ++ [⟨s.trail.length, s.head, []⟩] }
def PS.decide (s : PS) (l : Int) : PS := s.leveled.put l (-1)

/-- What two literals' values are set back to. -/
def PS.unval (s : PS) (l : Int) : PS := { s with vals := (s.vals.set (ix s.vars l) 0).set (ix s.vars (-l)) 0 }
def PS.unvals (s : PS) (ls : List Int) : PS := ls.foldl PS.unval s

/-- Levels are taken back. -/
def PS.back (s : PS) (k : Nat) (lv : Lv) : PS :=
  { s.unvals (s.trail.drop lv.start) with
    trail := s.trail.take lv.start
    head := lv.head
    late := s.late ++ (s.lvs.drop k).flatMap Lv.late
    lvs := s.lvs.take k }

def PS.alive (s : PS) (i : Nat) : Bool := match s.cls[i]? with
  | some c => !c.gone
  | none => false

/-- What was dropped is taken out of all lists. -/
def PS.swept (s : PS) : PS :=
  { s with
    wat := s.wat.map (fun q => q.filter (fun p => s.alive p.1))
    lvs := s.lvs.map (fun v => { v with late := v.late.filter s.alive })
    late := s.late.filter s.alive
    stale := 0 }

/-- A clause is dropped. -/
def PS.dropped (s : PS) (i : Nat) (c : Cl) : PS :=
  { s with cls := s.cls.set i { c with gone := true, lits := [] }, count := s.count - 1, stale := s.stale + 1 }
def PS.drop (s : PS) (i : Nat) (c : Cl) : PS :=
  let t := s.dropped i c
  if t.count + t.wat.length < t.stale then t.swept else t

/-- A propagator without clauses. -/
def PS.zero (V : Nat) : PS := ⟨V, [], 0, 0, List.replicate (2 * V + 1) 0, List.replicate (2 * V + 1) [], List.replicate (V + 1) (0, 0, 0), [], 0, [], []⟩

section
variable (s : PS)
theorem put_vars (l r : Int) : (s.put l r).vars = s.vars := rfl
theorem put_cls (l r : Int) : (s.put l r).cls = s.cls := rfl
theorem put_wat (l r : Int) : (s.put l r).wat = s.wat := rfl
theorem put_trail (l r : Int) : (s.put l r).trail = s.trail ++ [l] := rfl
theorem put_head (l r : Int) : (s.put l r).head = s.head := rfl
theorem put_lvs (l r : Int) : (s.put l r).lvs = s.lvs := rfl
theorem put_late (l r : Int) : (s.put l r).late = s.late := rfl
theorem watch_vars (l h : Int) (i : Nat) : (s.watch l i h).vars = s.vars := rfl
theorem watch_cls (l h : Int) (i : Nat) : (s.watch l i h).cls = s.cls := rfl
theorem watch_trail (l h : Int) (i : Nat) : (s.watch l i h).trail = s.trail := rfl
theorem watch_head (l h : Int) (i : Nat) : (s.watch l i h).head = s.head := rfl
theorem watch_lvs (l h : Int) (i : Nat) : (s.watch l i h).lvs = s.lvs := rfl
theorem watch_late (l h : Int) (i : Nat) : (s.watch l i h).late = s.late := rfl
theorem watch_vals (l h : Int) (i : Nat) : (s.watch l i h).vals = s.vals := rfl
theorem watch_fac (l h : Int) (i : Nat) : (s.watch l i h).fac = s.fac := rfl
end

end Go.Proofs.Ytlmbgaconjcaiab
