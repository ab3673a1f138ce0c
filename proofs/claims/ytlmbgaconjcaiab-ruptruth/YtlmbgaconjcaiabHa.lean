/- Contracts of the calls that tell of a propagator: a literal's value, level, reason; how many levels; the trail; a clause. -/
import Derived.Test.YtlmbgaconjcaiabGi
import Derived.Test.YtlmbgaconjcaiabPlainN
set_option linter.unusedVariables false
set_option linter.unusedSimpArgs false
namespace Go.Proofs.Ytlmbgaconjcaiab
open Go.RowKit

/-- What Value tells. -/
def PS.valT (s : PS) (l : Int) : Int := if ltB s.vars l then s.val l else 0

section
variable {ρ : Nat → Rl} {w : World} {B : Nat} {H : Hd} {s : PS}

theorem wrap_i8 {x : Int} (h : -1 ≤ x ∧ x ≤ 1) : IntKind.i64.wrap x = x := by rw [IntKind.wrap_i64]; omega

set_option maxRecDepth 100000 in
set_option maxHeartbeats 800000 in
theorem propValue_any (h : Rep ρ w B H s) (hS : Shp s) (l : Int) :
    Calls Try.prog 60 #[.pointer (some ⟨B, 0, none⟩), .int .i64 l] w fun e w' => e = .returned (.int .i64 (s.valT l)) ∧ ∃ n, w' = w.drewN n := by
  have hV := hS.vars
  have G := hide (propLit_any h l (by omega))
  by_cases hl : ltB s.vars l = true
  · have G2 := hide (value_any h l (ltB_true.1 hl) (by omega) hS.vals)
    have hb := hS.val l
    have hw := wrap_i8 hb
    have HF : Hid (s.valT l = s.val l) := by unfold Hid PS.valT; rw [if_pos hl]
    rw [hl] at G
    clear h
    generalize s.val l = x at *
    go_enter Try.func60, Try.ntmps60
    go_wp2_with (first | (go_at_call 70; refine (unhide G).mono ?_; rintro e w0 ⟨rfl, hw0⟩; subst w0) | (go_at_call 50; refine (unhide G2).mono ?_; rintro e w0 ⟨rfl, n0, rfl⟩))
    go_ret
    exact ⟨ret_int HF.out.symm, ⟨_, rfl⟩⟩
  · have hl' : ltB s.vars l = false := by simpa using hl
    have HF : Hid (s.valT l = 0) := by unfold Hid PS.valT; rw [if_neg hl]
    rw [hl'] at G
    clear h hl hl'
    go_enter Try.func60, Try.ntmps60
    go_wp2_with (go_at_call 70; refine (unhide G).mono ?_; rintro e w0 ⟨rfl, hw0⟩; subst w0)
    go_ret
    exact ⟨ret_int HF.out.symm, ⟨0, rfl⟩⟩

/-- What Level and Reason tell. -/
def PS.levT (s : PS) (l : Int) : Int := if s.valT l = 0 then -1 else (s.fct l).2.1
def PS.rsnT (s : PS) (l : Int) : Int := if s.valT l = 0 then -1 else (s.fct l).2.2

theorem valT_lt {l : Int} (h : s.valT l ≠ 0) : Lt s.vars l := by
  unfold PS.valT at h
  by_cases e : ltB s.vars l = true
  · exact ltB_true.1 e
  · rw [if_neg e] at h; exact absurd rfl h

set_option maxRecDepth 100000 in
set_option maxHeartbeats 400000 in
theorem propLevels_any (h : Rep ρ w B H s) :
    Calls Try.prog 38 #[.pointer (some ⟨B, 0, none⟩)] w fun e w' => e = .returned (.int .i64 s.lvs.length) ∧ w' = w := by
  have G := hide (given_any h)
  have c10 := h.c10
  obtain ⟨a, cap, e, _⟩ := own_form (h.hold.own (9, 0) _ rfl)
  simp only at e
  rw [e] at c10
  clear h e
  go_enter Try.func38, Try.ntmps38
  go_wp2_with (go_at_call 59; refine (unhide G).mono ?_; rintro e w0 ⟨rfl, hw0⟩; subst w0)
  go_ret
  exact ⟨rfl, rfl⟩

theorem Rep.trl2 (h : Rep ρ w B H s) : ∃ a cap, H.tv = .slice a s.trail.length cap ∧ Row w a s.trail ∧ (a = none → cap = 0) := by
  obtain ⟨a, cap, e, hr, _⟩ := h.trl
  refine ⟨a, cap, e, hr, fun hn => ?_⟩
  obtain ⟨a', cap', e', _, _, hc⟩ := own_form (h.hold.own (8, 0) _ rfl)
  simp only at e'
  rw [e] at e'; simp at e'
  obtain ⟨rfl, rfl⟩ := e'
  rcases hc with ⟨_, _, hc⟩ | ⟨g, hg, _⟩
  · exact hc
  · rw [hn] at hg; cases hg

theorem Rep.lits2 (h : Rep ρ w B H s) {i : Nat} {c : Cl} (hc : s.cls[i]? = some c) : ∃ a cap, H.cl i = .slice a c.lits.length cap ∧ Row w a c.lits ∧ (a = none → cap = 0) := by
  obtain ⟨a, cap, e, hr, _⟩ := h.lits hc
  refine ⟨a, cap, e, hr, fun hn => ?_⟩
  have hr : ents B H s (3, i) = some ⟨3, 1, H.cl i, c.lits.length, intC c.lits⟩ := by simp [ents, hc]
  obtain ⟨a', cap', e', _, _, hc⟩ := own_form (h.hold.own _ _ hr)
  simp only at e'
  rw [e] at e'; simp at e'
  obtain ⟨rfl, rfl⟩ := e'
  rcases hc with ⟨_, _, hc⟩ | ⟨g, hg, _⟩
  · exact hc
  · rw [hn] at hg; cases hg

def ClauseP (w : World) (c : List Int) (e : Ending) (w' : World) : Prop := ∃ v, e = .returned (.tuple #[v, .bool true]) ∧ Own w.heap.size w' v c ∧ Below w.heap.size w w'

set_option maxRecDepth 100000 in
set_option maxHeartbeats 800000 in
theorem propClause_yes (h : Rep ρ w B H s) (i : Nat) (c : Cl) (hc : s.cls[i]? = some c) (hg : c.gone = false) (hn : s.cls.length ≤ 1048576) (hl : c.lits.length ≤ 10000) :
    Calls Try.prog 41 #[.pointer (some ⟨B, 0, none⟩), .int .i64 i] w fun e w' => ClauseP w c.lits e w' := by
  have G := hide (has_yes h i c hc hg hn)
  obtain ⟨g, cap, e, _, hB, hcell, _⟩ := h.cvAt hc
  have hlt : i < s.cls.length := (List.getElem?_eq_some_iff.1 hc).1
  have hlt' : (i : Int) < s.cls.length := by omega
  have c2 := h.c2
  rw [e] at c2
  rw [hg] at hcell
  simp only [Bool.false_eq_true, if_false, ptrC] at hcell
  obtain ⟨_, o1, _⟩ := h.obj hc
  obtain ⟨a, cp, er, hr, hcp⟩ := h.lits2 hc
  rw [er] at o1
  have G2 := hide (clone_any a cp c.lits w hr (by omega) hcp)
  clear h hc e er hr hcp
  generalize s.cls.length = N at *
  generalize H.cb i = b at *
  go_enter Try.func41, Try.ntmps41
  go_wp2_with (first | (go_at_call 52; refine (unhide G).mono ?_; rintro e w0 ⟨rfl, hw0⟩; subst w0) | (go_at_call 47; refine (unhide G2).mono ?_; rintro e w0 ⟨v, rfl, ho, hb⟩))
  go_ret2
  exact ⟨v, rfl, ho, hb⟩

set_option maxRecDepth 100000 in
set_option maxHeartbeats 800000 in
theorem propClause_no (h : Rep ρ w B H s) (i : Int) (hno : i < 0 ∨ s.cls.length ≤ i ∨ ∃ c, 0 ≤ i ∧ s.cls[i.toNat]? = some c ∧ c.gone = true) (hn : s.cls.length ≤ 1048576) :
    Calls Try.prog 41 #[.pointer (some ⟨B, 0, none⟩), .int .i64 i] w fun e w' => e = .returned (.tuple #[.slice none 0 0, .bool false]) ∧ w' = w := by
  have G := hide (has_no h i hno hn)
  clear h hno
  go_enter Try.func41, Try.ntmps41
  go_wp2_with (go_at_call 52; refine (unhide G).mono ?_; rintro e w0 ⟨rfl, hw0⟩; subst w0)
  go_ret2
  exact ⟨rfl, rfl⟩
end

end Go.Proofs.Ytlmbgaconjcaiab
