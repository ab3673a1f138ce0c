/- Contracts of a propagator's small functions, which only read. -/
import Derived.Test.YtlmbgaconjcaiabRep
import Derived.Test.YtlmbgaconjcaiabWalkM
import Derived.LaidEqlPtr
set_option linter.unusedVariables false
set_option linter.unusedSimpArgs false
namespace Go.Proofs.Ytlmbgaconjcaiab
open Go.RowKit

theorem Try.info67 : (Try.prog.info? 67).map (·.size) = some 12 := by kernel_rfl

theorem ret_ptr {g m n : Nat} (h : m = n) : Ending.returned (.pointer (some ⟨g, m, none⟩)) = .returned (.pointer (some ⟨g, n, none⟩)) := by rw [h]

section
variable {ρ : Nat → Rl} {w : World} {B : Nat} {H : Hd} {s : PS}

set_option maxHeartbeats 400000 in
theorem given_any (h : Rep ρ w B H s) :
    Calls Try.prog 59 #[.pointer (some ⟨B, 0, none⟩)] w fun e w' => e = .returned (.bool true) ∧ w' = w := by
  have c0 := h.c0
  clear h
  obtain ⟨j, hj, _⟩ := Option.map_eq_some_iff.1 Try.info67
  have heq := run_eql_ptr_same (P := Try.prog) w ⟨B, 0, none⟩ Try.underlying49 hj
  go_enter Try.func59, Try.ntmps59
  go_wp2
  all_goals
    go_ret
    exact ⟨ret_bool (by simp), rfl⟩

set_option maxHeartbeats 400000 in
theorem at_any (h : Rep ρ w B H s) (l : Int) (hV : s.vars ≤ 1048576) (h0 : -1048576 ≤ l) (h1 : l ≤ 1048576) :
    Calls Try.prog 55 #[.pointer (some ⟨B, 0, none⟩), .int .i64 l] w fun e w' => e = .returned (.int .i64 (s.vars + l)) ∧ w' = w := by
  have c1 := h.c1
  clear h
  generalize s.vars = V at *
  go_enter Try.func55, Try.ntmps55
  go_wp2
  go_ret
  exact ⟨rfl, rfl⟩

/-- A literal of the propagator's? -/
def ltB (V : Nat) (l : Int) : Bool := decide (l ≠ 0 ∧ -(V : Int) ≤ l ∧ l ≤ V)
theorem ltB_true {V : Nat} {l : Int} : ltB V l = true ↔ Lt V l := by simp [ltB, Lt]

set_option maxHeartbeats 400000 in
theorem propLit_any (h : Rep ρ w B H s) (l : Int) (hV : s.vars ≤ 1048576) :
    Calls Try.prog 70 #[.pointer (some ⟨B, 0, none⟩), .int .i64 l] w fun e w' => e = .returned (.bool (ltB s.vars l)) ∧ w' = w := by
  have c1 := h.c1
  have G := hide (given_any h)
  clear h
  generalize s.vars = V at *
  go_enter Try.func70, Try.ntmps70
  go_wp2_with (go_at_call 59; refine (unhide G).mono ?_; rintro e w0 ⟨rfl, hw0⟩; subst w0)
  all_goals
    go_ret
    exact ⟨ret_bool (by simp [ltB, *]; try omega), rfl⟩

set_option maxHeartbeats 400000 in
theorem value_any (h : Rep ρ w B H s) (l : Int) (hl : Lt s.vars l) (hV : s.vars ≤ 1048576) (hv : s.vals.length = 2 * s.vars + 1) :
    Calls Try.prog 50 #[.pointer (some ⟨B, 0, none⟩), .int .i64 l] w fun e w' => e = .returned (.int .i8 (s.val l)) ∧ ∃ n, w' = w.drewN n := by
  have c5 := h.c5
  have hi := ix_int hl
  have hlt := ix_lt hl
  obtain ⟨g, cap, e, hg, hn, hm, hs, hB, hc, hf⟩ := h.row (r := (4, 0)) rfl (by decide) (by simp only; omega)
  simp only at e hn hc
  rw [e] at c5
  have hcell := hc (ix s.vars l) _ (valC_get (by omega))
  have G := fun n => hide (at_any (h.drewN n) l hV (by unfold Lt at hl; omega) (by unfold Lt at hl; omega))
  have HV : Hid (s.vals.getD (ix s.vars l) 0 = s.val l) := rfl
  unfold maxLen at hm
  generalize s.vals.getD (ix s.vars l) 0 = x at *
  generalize s.vals.length = N at *
  generalize s.vars = V at *
  unfold Lt at hl
  have hix : ((V : Int) + l).toNat = ix V l := rfl
  generalize ix V l = k at *
  clear h hc hf hg hB
  have b0 : (0 : Int) ≤ V + l := by omega
  have b1 : (V : Int) + l < N := by omega
  go_enter Try.func50, Try.ntmps50
  go_wp2_with fail
  go_quiet ((go_at_call 55; exact Calls.quiet_of_same (unhide (G _))))
  go_wp2
  go_ret
  exact ⟨ret_int HV.out, ⟨_, rfl⟩⟩

/-- Where a variable's fact lies. -/
theorem Rep.fvForm (h : Rep ρ w B H s) (hf : s.fac.length = s.vars + 1) : ∃ g cap, H.fv = .slice (some ⟨g, 0, none⟩) s.fac.length cap ∧ H.fv.ownBlock = some g ∧ g ≠ B ∧ (∀ i u, (facC s.fac)[i]? = some u → w.cell? ⟨g, i, none⟩ = some u) ∧ (∀ i, w.frozen? ⟨g, i, none⟩ = false) ∧ g < w.heap.size ∧ s.fac.length ≤ cap ∧ cap ≤ maxLen := by
  obtain ⟨g, cap, e, hg, hn, hm, hs, hB, hc, hf⟩ := h.row (r := (7, 0)) rfl (by decide) (by simp only; omega)
  exact ⟨g, cap, e, hg, hB, hc, hf, hs, hn, hm⟩

theorem natAbs_max (l : Int) : max l (-l) = (l.natAbs : Int) := by omega

set_option maxHeartbeats 400000 in
theorem fact_any (h : Rep ρ w B H s) (l : Int) (hl : Lt s.vars l) (hV : s.vars ≤ 1048576) (hv : s.fac.length = s.vars + 1) (g cap : Nat) (hfv : H.fv = .slice (some ⟨g, 0, none⟩) s.fac.length cap) :
    Calls Try.prog 65 #[.pointer (some ⟨B, 0, none⟩), .int .i64 l] w fun e w' => e = .returned (.pointer (some ⟨g, l.natAbs * 3, none⟩)) ∧ w' = w := by
  have c7 := h.c7
  rw [hfv] at c7
  have hx := natAbs_max l
  have hb := hl.abs
  clear h hfv
  unfold Lt at hl
  generalize s.fac.length = N at *
  generalize s.vars = V at *
  generalize l.natAbs = k at *
  go_enter Try.func65, Try.ntmps65
  go_wp2
  all_goals
    go_ret
    exact ⟨ret_ptr (by omega), rfl⟩
end

end Go.Proofs.Ytlmbgaconjcaiab
