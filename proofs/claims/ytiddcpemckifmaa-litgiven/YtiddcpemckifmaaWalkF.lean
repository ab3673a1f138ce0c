/- Contracts: how two numbers stand as literals, whatever they are; sorting none. -/
import Derived.Test.YtiddcpemckifmaaWalkE
set_option linter.unusedVariables false
set_option linter.unusedSimpArgs false
namespace Go.Proofs.Ytiddcpemckifmaa
open Go.RowKit

/-- The amount, as 64 bits tell it. -/
def varW (l : Int) : Int := max l (wrap64 (-l))

set_option maxHeartbeats 400000 in
theorem variable_all (l : Int) (w : World) :
    Calls Try.prog 40 #[.int .i64 l] w fun e w' => e = .returned (.int .i64 (varW l)) ∧ w' = w := by
  go_enter Try.func40, Try.ntmps40
  go_wp2
  all_goals
    go_ret
    exact ⟨ret_int (by unfold varW; omega), rfl⟩

/-- How two numbers stand to each other as literals. -/
def litCmpW (a b : Int) : Int := if varW a = varW b then cmpI b a else cmpI (varW a) (varW b)

set_option maxHeartbeats 400000 in
theorem cmpLits_all (a b : Int) (w : World) :
    Calls Try.prog 48 #[.int .i64 a, .int .i64 b] w fun e w' => e = .returned (.int .i64 (litCmpW a b)) ∧ w' = w := by
  have c1 := hide (fun w => variable_all a w)
  have c2 := hide (fun w => variable_all b w)
  unfold litCmpW
  generalize varW a = x at *
  generalize varW b = y at *
  by_cases h : x = y
  · have h' : (x != y) = false := by simp [h]
    have HC : Hid ((if x = y then cmpI b a else cmpI x y) = cmpI b a) := if_pos h
    clear h
    generalize (if x = y then cmpI b a else cmpI x y) = r at *
    go_enter Try.func48, Try.ntmps48
    go_wp2_with (first | (go_at_call_of 40 (Value.int IntKind.i64 a); refine (unhide c1 _).mono ?_; rintro e w' ⟨rfl, rfl⟩) | (go_at_call_of 40 (Value.int IntKind.i64 b); refine (unhide c2 _).mono ?_; rintro e w' ⟨rfl, rfl⟩) | (go_at_call 41; refine (compare_any _ _ _).mono ?_; rintro e w' ⟨rfl, rfl⟩))
    go_ret
    exact ⟨ret_int HC.out.symm, rfl⟩
  · have h' : (x != y) = true := by simp [h]
    have HC : Hid ((if x = y then cmpI b a else cmpI x y) = cmpI x y) := if_neg h
    clear h
    generalize (if x = y then cmpI b a else cmpI x y) = r at *
    go_enter Try.func48, Try.ntmps48
    go_wp2_with (first | (go_at_call_of 40 (Value.int IntKind.i64 a); refine (unhide c1 _).mono ?_; rintro e w' ⟨rfl, rfl⟩) | (go_at_call_of 40 (Value.int IntKind.i64 b); refine (unhide c2 _).mono ?_; rintro e w' ⟨rfl, rfl⟩) | (go_at_call 41; refine (compare_any _ _ _).mono ?_; rintro e w' ⟨rfl, rfl⟩))
    go_ret
    exact ⟨ret_int HC.out.symm, rfl⟩

theorem cmpI_neg {x y : Int} : cmpI x y < 0 ↔ x < y := by
  unfold cmpI
  split
  · omega
  · split <;> omega

theorem litCmpW_lt {a b : Int} : litCmpW a b < 0 ↔ (varW a < varW b ∨ (varW a = varW b ∧ b < a)) := by
  unfold litCmpW
  split <;> rw [cmpI_neg] <;> omega

theorem varW_lit {l : Int} (h0 : -1048576 ≤ l) (h1 : l ≤ 1048576) : varW l = varI l := by
  unfold varW varI
  have : wrap64 (-l) = -l := IntWalk.wrap64_in _ (by omega)
  rw [this]; split <;> omega

set_option maxHeartbeats 1000000 in
set_option maxRecDepth 100000 in
theorem insertion_none (p : Option Addr) (cap : Nat) (fv : Value) (w : World) :
    Calls Try.prog 67 #[.slice p 0 cap, .int .i64 0, .int .i64 0, fv] w fun e w' => e = .returned (.tuple #[]) ∧ w' = w := by
  go_enter Try.func67, Try.ntmps67
  go_wp2
  refine wp_loop_rounds 1 ?_
  rw [rounds_succ]
  go_wp2
  go_end0
  exact ⟨rfl, rfl⟩

set_option maxHeartbeats 1000000 in
set_option maxRecDepth 100000 in
theorem pdq_none (p : Option Addr) (cap : Nat) (lim : Int) (fv : Value) (w : World) :
    Calls Try.prog 56 #[.slice p 0 cap, .int .i64 0, .int .i64 0, .int .i64 lim, fv] w fun e w' => e = .returned (.tuple #[]) ∧ w' = w := by
  go_enter Try.func56, Try.ntmps56
  go_wp2
  refine wp_loop_rounds 1 ?_
  rw [rounds_succ]
  go_wp2_with (go_at_call 67; refine (insertion_none _ _ _ _).mono ?_; rintro e w' ⟨rfl, rfl⟩)
  (try simp only [Exit.inBlock, Exit.then])
  refine bodyPost_ret (results_none rfl _ _ _) rfl ?_
  exact ⟨rfl, rfl⟩

set_option maxHeartbeats 1000000 in
set_option maxRecDepth 100000 in
theorem len64_zero (w : World) : Calls Try.prog 66 #[.int .u64 0] w fun e w' => (∃ n : Int, e = .returned (.int .i64 n)) ∧ w' = w := by
  go_enter Try.func66, Try.ntmps66
  go_wp2
  go_ret
  exact ⟨⟨_, rfl⟩, rfl⟩

set_option maxHeartbeats 1000000 in
set_option maxRecDepth 100000 in
theorem len_zero (w : World) : Calls Try.prog 51 #[.int .u64 0] w fun e w' => (∃ n : Int, e = .returned (.int .i64 n)) ∧ w' = w := by
  go_enter Try.func51, Try.ntmps51
  go_wp2_with (go_at_call 66; refine (len64_zero _).mono ?_; rintro e w' ⟨⟨n, rfl⟩, rfl⟩)
  go_ret
  exact ⟨⟨_, rfl⟩, rfl⟩

set_option maxHeartbeats 1000000 in
set_option maxRecDepth 100000 in
/-- Sorting no number. -/
theorem sort_none (a : Option Addr) (cap : Nat) (fv : Value) (w : World) :
    Calls Try.prog 47 #[.slice a 0 cap, fv] w fun e w' => e = .returned (.tuple #[]) ∧ w' = w := by
  go_enter Try.func47, Try.ntmps47
  go_wp2_with (first | (go_at_call 51; refine (len_zero _).mono ?_; rintro e w' ⟨⟨n, rfl⟩, rfl⟩) | (go_at_call 56; refine (pdq_none _ _ _ _ _).mono ?_; rintro e w' ⟨rfl, rfl⟩))
  go_end0
  exact ⟨rfl, rfl⟩

end Go.Proofs.Ytiddcpemckifmaa
