/- Contracts of a propagator's functions that read facts and clauses. -/
import Derived.Test.YtlmbgaconjcaiabGa
import Derived.Test.YtlmbgaconjcaiabApp
set_option linter.unusedVariables false
set_option linter.unusedSimpArgs false
namespace Go.Proofs.Ytlmbgaconjcaiab
open Go.RowKit

/-- What the walks ask of a state's numbers. -/
structure Shp (s : PS) : Prop where
  vars : s.vars ≤ 1048576
  vals : s.vals.length = 2 * s.vars + 1
  wat : s.wat.length = 2 * s.vars + 1
  fac : s.fac.length = s.vars + 1
  bit : ∀ x ∈ s.vals, -1 ≤ x ∧ x ≤ 1
  num : ∀ p ∈ s.fac, 0 ≤ p.1 ∧ p.1 ≤ 1048576 ∧ 0 ≤ p.2.1 ∧ p.2.1 ≤ 1048576 ∧ -1 ≤ p.2.2 ∧ p.2.2 ≤ 1048576

theorem Shp.val {s : PS} (h : Shp s) (l : Int) : -1 ≤ s.val l ∧ s.val l ≤ 1 := by
  unfold PS.val
  rw [List.getD_eq_getElem?_getD]
  cases e : s.vals[ix s.vars l]? with
  | none => simp
  | some x => exact h.bit x (List.mem_of_getElem? e)

section
variable {ρ : Nat → Rl} {w : World} {B : Nat} {H : Hd} {s : PS}

theorem Rep.fctAt (h : Rep ρ w B H s) (hS : Shp s) (l : Int) (hl : Lt s.vars l) : ∃ g cap, H.fv = .slice (some ⟨g, 0, none⟩) s.fac.length cap ∧ g ≠ B ∧
    w.cell? ⟨g, l.natAbs * 3, none⟩ = some (.int .i64 (s.fct l).1) ∧ w.cell? ⟨g, l.natAbs * 3 + 1, none⟩ = some (.int .i64 (s.fct l).2.1) ∧ w.cell? ⟨g, l.natAbs * 3 + 2, none⟩ = some (.int .i64 (s.fct l).2.2) := by
  obtain ⟨g, cap, e, hg, hB, hc, _⟩ := h.fvForm hS.fac
  have hlt : l.natAbs < s.fac.length := by have := hl.abs; have := hS.fac; omega
  have he : s.fac[l.natAbs]? = some (s.fct l) := by
    unfold PS.fct; rw [List.getD_eq_getElem?_getD, List.getElem?_eq_getElem hlt]; rfl
  have := facC_get s.fac l.natAbs _ he
  exact ⟨g, cap, e, hB, hc _ _ this.1, hc _ _ this.2.1, hc _ _ this.2.2⟩

theorem Rep.obj (h : Rep ρ w B H s) {i : Nat} {c : Cl} (hc : s.cls[i]? = some c) : w.cell? ⟨H.cb i, 0, none⟩ = some (.int .i64 i) ∧ w.cell? ⟨H.cb i, 1, none⟩ = some (H.cl i) ∧ w.cell? ⟨H.cb i, 2, none⟩ = some (.int .i64 c.w0) ∧ w.cell? ⟨H.cb i, 3, none⟩ = some (.int .i64 c.w1) ∧ w.cell? ⟨H.cb i, 4, none⟩ = some (.bool c.gone) ∧
    (∀ j, w.frozen? ⟨H.cb i, j, none⟩ = false) ∧ H.cb i < w.heap.size ∧ H.cb i ≠ B := by
  have hr : ents B H s (2, i) = some ⟨84, 5, obj1 (H.cb i), 1, objC i (H.cl i) c⟩ := by simp [ents, hc]
  have hg : (obj1 (H.cb i)).ownBlock = some (H.cb i) := rfl
  exact ⟨h.hold.cell hr hg rfl, h.hold.cell hr hg rfl, h.hold.cell hr hg rfl, h.hold.cell hr hg rfl, h.hold.cell hr hg rfl, fun j => h.hold.fz hr hg j, h.hold.lt hr hg, h.hold.ne hr hg (q := (0, 0)) rfl rfl (by simp)⟩

theorem Rep.lits (h : Rep ρ w B H s) {i : Nat} {c : Cl} (hc : s.cls[i]? = some c) : ∃ a cap, H.cl i = .slice a c.lits.length cap ∧ Row w a c.lits ∧ c.lits.length ≤ maxLen ∧ c.lits.length ≤ cap := by
  have hr : ents B H s (3, i) = some ⟨3, 1, H.cl i, c.lits.length, intC c.lits⟩ := by simp [ents, hc]
  exact Own.row (base := 0) (h.hold.own _ _ hr)

theorem Rep.trl (h : Rep ρ w B H s) : ∃ a cap, H.tv = .slice a s.trail.length cap ∧ Row w a s.trail ∧ s.trail.length ≤ maxLen ∧ s.trail.length ≤ cap :=
  Own.row (base := 0) (h.hold.own (8, 0) _ rfl)

set_option maxHeartbeats 400000 in
theorem falseFrom_any (h : Rep ρ w B H s) (l : Int) (hl : Lt s.vars l) (hS : Shp s) :
    Calls Try.prog 63 #[.pointer (some ⟨B, 0, none⟩), .int .i64 l] w fun e w' => e = .returned (.int .i64 (s.falseFrom l)) ∧ ∃ n, w' = w.drewN n := by
  have hV := hS.vars
  have G := hide (value_any h l hl (by omega) hS.vals)
  obtain ⟨g, cap, e, hB, f0, f1, f2⟩ := h.fctAt hS l hl
  have G2 := fun n => hide (fact_any (h.drewN n) l hl (by omega) hS.fac g cap e)
  obtain ⟨a, tc, et, _, hm, _⟩ := h.trl
  have c8 := h.c8
  rw [et] at c8
  clear h e et
  unfold maxLen at hm
  have HF : Hid (s.falseFrom l = if s.val l < 0 then (s.fct l).1 else s.trail.length) := rfl
  have hb := hS.val l
  generalize s.val l = x at *
  generalize (s.fct l).1 = y at *
  generalize s.falseFrom l = z at *
  generalize l.natAbs * 3 = k at *
  by_cases hx : x < 0
  · rw [unhide HF, if_pos hx]
    go_enter Try.func63, Try.ntmps63
    go_wp2_with (first | (go_at_call 50; refine (unhide G).mono ?_; rintro e w0 ⟨rfl, n0, rfl⟩) | (go_at_call 65; refine (unhide (G2 _)).mono ?_; rintro e w0 ⟨rfl, hw0⟩; subst w0))
    go_ret
    exact ⟨rfl, ⟨_, rfl⟩⟩
  · rw [unhide HF, if_neg hx]
    go_enter Try.func63, Try.ntmps63
    go_wp2_with (first | (go_at_call 50; refine (unhide G).mono ?_; rintro e w0 ⟨rfl, n0, rfl⟩) | (go_at_call 65; refine (unhide (G2 _)).mono ?_; rintro e w0 ⟨rfl, hw0⟩; subst w0))
    go_ret
    exact ⟨rfl, ⟨_, rfl⟩⟩

def besideI (c : Cl) (l : Int) : Int := if c.w0 = l then c.w1 else c.w0

set_option maxHeartbeats 400000 in
theorem beside_any (h : Rep ρ w B H s) (i : Nat) (c : Cl) (hc : s.cls[i]? = some c) (l : Int) :
    Calls Try.prog 82 #[.pointer (some ⟨H.cb i, 0, none⟩), .int .i64 l] w fun e w' => e = .returned (.int .i64 (besideI c l)) ∧ w' = w := by
  obtain ⟨_, _, o2, o3, _⟩ := h.obj hc
  clear h hc
  unfold besideI
  generalize H.cb i = b at *
  generalize c.w0 = p at *
  generalize c.w1 = q at *
  by_cases e : p = l
  · have e' : (p == l) = true := by simpa using e
    rw [if_pos e]
    clear e
    go_enter Try.func82, Try.ntmps82
    go_wp2
    go_ret
    exact ⟨rfl, rfl⟩
  · have e' : (p == l) = false := by simpa using e
    rw [if_neg e]
    clear e
    go_enter Try.func82, Try.ntmps82
    go_wp2
    go_ret
    exact ⟨rfl, rfl⟩

set_option maxHeartbeats 400000 in
theorem isGone_any (h : Rep ρ w B H s) (i : Nat) (c : Cl) (hc : s.cls[i]? = some c) :
    Calls Try.prog 69 #[.pointer (some ⟨H.cb i, 0, none⟩)] w fun e w' => e = .returned (.bool c.gone) ∧ w' = w := by
  obtain ⟨_, _, _, _, o4, _⟩ := h.obj hc
  clear h hc
  generalize H.cb i = b at *
  go_enter Try.func69, Try.ntmps69
  go_wp2
  go_ret
  exact ⟨rfl, rfl⟩

set_option maxHeartbeats 400000 in
theorem isGoneW_any (h : Rep ρ w B H s) (i : Nat) (c : Cl) (hc : s.cls[i]? = some c) (hint : Int) :
    Calls Try.prog 67 #[.agg #[.pointer (some ⟨H.cb i, 0, none⟩), .int .i64 hint]] w fun e w' => e = .returned (.bool c.gone) ∧ w' = w.alloc (.cells #[.pointer (some ⟨H.cb i, 0, none⟩), .int .i64 hint] 100) := by
  obtain ⟨_, _, _, _, o4, _, hlt, _⟩ := h.obj hc
  clear h hc
  generalize H.cb i = b at *
  have hne : b ≠ w.heap.size := by omega
  go_enter Try.func67, Try.ntmps67
  go_wp2
  go_ret
  exact ⟨rfl, rfl⟩

/-- The clause of a number. -/
theorem Rep.cvAt (h : Rep ρ w B H s) {i : Nat} {c : Cl} (hc : s.cls[i]? = some c) : ∃ g cap, H.cv = .slice (some ⟨g, 0, none⟩) s.cls.length cap ∧ H.cv.ownBlock = some g ∧ g ≠ B ∧ w.cell? ⟨g, i, none⟩ = some (if c.gone then .pointer none else ptrC H.cb i) ∧ (∀ j, w.frozen? ⟨g, j, none⟩ = false) ∧ cap ≤ maxLen ∧ g < w.heap.size := by
  have hlt : i < s.cls.length := (List.getElem?_eq_some_iff.1 hc).1
  obtain ⟨g, cap, e, hg, hn, hm, hs, hB, hcl, hf⟩ := h.row (r := (1, 0)) rfl (by decide) (by simp only; omega)
  exact ⟨g, cap, e, hg, hB, hcl i _ (clsC_get H.cb hc), hf, hm, hs⟩

theorem Rep.cvForm (h : Rep ρ w B H s) : ∃ a cap, H.cv = .slice a s.cls.length cap := by
  obtain ⟨a, cap, e, _⟩ := own_form (h.hold.own (1, 0) _ rfl)
  exact ⟨a, cap, e⟩

set_option maxHeartbeats 400000 in
theorem has_yes (h : Rep ρ w B H s) (i : Nat) (c : Cl) (hc : s.cls[i]? = some c) (hg : c.gone = false) (hn : s.cls.length ≤ 1048576) :
    Calls Try.prog 52 #[.pointer (some ⟨B, 0, none⟩), .int .i64 i] w fun e w' => e = .returned (.bool true) ∧ w' = w := by
  obtain ⟨g, cap, e, _, hB, hcell, _⟩ := h.cvAt hc
  have hlt : i < s.cls.length := (List.getElem?_eq_some_iff.1 hc).1
  have hlt' : (i : Int) < s.cls.length := by omega
  have c2 := h.c2
  have G := hide (given_any h)
  rw [e] at c2
  rw [hg] at hcell
  simp only [Bool.false_eq_true, if_false, ptrC] at hcell
  clear h hc e
  generalize s.cls.length = N at *
  go_enter Try.func52, Try.ntmps52
  go_wp2_with (go_at_call 59; refine (unhide G).mono ?_; rintro e w0 ⟨rfl, hw0⟩; subst w0)
  all_goals
    go_ret
    exact ⟨ret_bool (by simp), rfl⟩

set_option maxHeartbeats 400000 in
theorem has_no (h : Rep ρ w B H s) (i : Int) (hno : i < 0 ∨ s.cls.length ≤ i ∨ ∃ c, 0 ≤ i ∧ s.cls[i.toNat]? = some c ∧ c.gone = true) (hn : s.cls.length ≤ 1048576) :
    Calls Try.prog 52 #[.pointer (some ⟨B, 0, none⟩), .int .i64 i] w fun e w' => e = .returned (.bool false) ∧ w' = w := by
  have c2 := h.c2
  have G := hide (given_any h)
  rcases hno with h0 | h0 | ⟨c, h0, hc, hg⟩
  · clear h
    go_enter Try.func52, Try.ntmps52
    go_wp2_with (go_at_call 59; refine (unhide G).mono ?_; rintro e w0 ⟨rfl, hw0⟩; subst w0)
    all_goals
      go_ret
      exact ⟨ret_bool (by simp), rfl⟩
  · obtain ⟨a, cap, e⟩ := h.cvForm
    rw [e] at c2
    clear h e
    generalize s.cls.length = N at *
    have h1 : 0 ≤ i := by omega
    go_enter Try.func52, Try.ntmps52
    go_wp2_with (go_at_call 59; refine (unhide G).mono ?_; rintro e w0 ⟨rfl, hw0⟩; subst w0)
    all_goals
      go_ret
      exact ⟨ret_bool (by simp), rfl⟩
  · obtain ⟨g, cap, e, _, hB, hcell, _⟩ := h.cvAt hc
    have hlt : i.toNat < s.cls.length := (List.getElem?_eq_some_iff.1 hc).1
    have hlt' : i < s.cls.length := by omega
    rw [e] at c2
    rw [hg] at hcell
    simp only [if_true] at hcell
    clear h hc e
    generalize s.cls.length = N at *
    go_enter Try.func52, Try.ntmps52
    go_wp2_with (go_at_call 59; refine (unhide G).mono ?_; rintro e w0 ⟨rfl, hw0⟩; subst w0)
    all_goals
      go_ret
      exact ⟨ret_bool (by simp), rfl⟩
end

end Go.Proofs.Ytlmbgaconjcaiab
