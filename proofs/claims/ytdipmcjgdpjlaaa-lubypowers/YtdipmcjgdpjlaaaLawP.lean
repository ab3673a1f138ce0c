/- The law of powers, walked. -/
import Derived.Test.YtdipmcjgdpjlaaaWalkB
set_option linter.unusedVariables false
set_option linter.unusedSimpArgs false
namespace Go.Proofs.Ytdipmcjgdpjlaaa
open Go.RowKit

theorem and_pow : ∀ q : Fin 30, bits .and .i64 (((2 ^ q.val : Nat)) : Int) ((((2 ^ q.val : Nat)) : Int) - 1) = 0 := by decide +kernel

set_option maxHeartbeats 4000000 in
set_option maxRecDepth 100000 in
theorem powers_any (k i : Int) (w : World) (hk0 : 0 ≤ k) (hk1 : k ≤ 255) : Calls Try.prog 4 #[.int .u8 k, .int .i64 i] w fun e w' => e = .returned (.bool true) ∧ w' = w := by
  have CA := hide (awake_any w)
  obtain ⟨m, hm, hmk⟩ : ∃ m : Nat, m ≤ 28 ∧ 1 + k % 29 = (m : Int) + 1 := ⟨(k % 29).toNat, by omega, by omega⟩
  obtain ⟨P, hPe, hP, hP1, hP0⟩ : ∃ P : Nat, Hid (2 ^ m = P) ∧ ((2 : Int) ^ m = (P : Int)) ∧ P ≤ 268435456 ∧ 1 ≤ P :=
    ⟨2 ^ m, rfl, by push_cast; rfl, Nat.pow_le_pow_right (n := 2) (by omega) hm, Nat.two_pow_pos m⟩
  have hP2 : (2 : Int) ^ (m + 1) = 2 * (P : Int) := by rw [Int.pow_succ, hP]; omega
  have C1 : Hid (Calls Try.prog 7 #[.int .i64 (2 * (P : Int) - 1)] w fun x w' => x = .returned (.tuple #[.int .i64 (P : Int), .int .i64 0]) ∧ w' = w) := by
    have := number_yes (2 * P - 1) w (by omega) (by omega)
    rw [lub_end (k := m) (by rw [Nat.pow_succ, hPe.out]; omega), hPe.out] at this
    have e : ((2 * P - 1 : Nat) : Int) = 2 * (P : Int) - 1 := by omega
    rw [e] at this; exact this
  have C2 : Hid (Calls Try.prog 9 #[.int .i64 (2 * (P : Int) - 1)] w fun x w' => x = .returned (.tuple #[.int .i64 (((m : Int) + 1) * (P : Int)), .int .i64 0]) ∧ w' = w) := by
    have := sum_yes (2 * P - 1) w (by omega)
    have e0 : 2 * P - 1 = 2 ^ (m + 1) - 1 := by rw [Nat.pow_succ, hPe.out]; omega
    have e2 : sumL (2 * P - 1) = (m + 1) * P := by rw [e0, sumL_full m (by omega), hPe.out]
    have e : ((2 * P - 1 : Nat) : Int) = 2 * (P : Int) - 1 := by omega
    rw [e2, e] at this
    push_cast at this
    exact this
  obtain ⟨S, hS, hS2⟩ : ∃ S : Nat, ((m : Int) + 1) * (P : Int) = (S : Int) ∧ S ≤ 7784628224 := ⟨(m + 1) * P, by push_cast; rfl, Nat.mul_le_mul (show m + 1 ≤ 29 by omega) hP1⟩
  rw [hS] at C2
  by_cases hi : 1 ≤ i ∧ i ≤ 2 * (P : Int) - 1
  · obtain ⟨hi1, hi2⟩ := hi
    obtain ⟨j, rfl⟩ : ∃ j : Nat, i = (j : Int) := ⟨i.toNat, by omega⟩
    have C3 := hide (number_yes j w (by omega) (by omega))
    have C4 : Hid (Calls Try.prog 7 #[.int .i64 (2 * (P : Int) - 1 + (j : Int))] w fun x w' => x = .returned (.tuple #[.int .i64 (lub j : Int), .int .i64 0]) ∧ w' = w) := by
      have := number_yes (2 * P - 1 + j) w (by omega) (by omega)
      have e0 : 2 * P - 1 + j = 2 ^ (m + 1) - 1 + j := by rw [Nat.pow_succ, hPe.out]; omega
      have e2 : lub (2 * P - 1 + j) = lub j := by rw [e0, lub_again (by omega) (by omega) (by rw [Nat.pow_succ, hPe.out]; omega)]
      have e : ((2 * P - 1 + j : Nat) : Int) = 2 * (P : Int) - 1 + (j : Int) := by omega
      rw [e2, e] at this
      exact this
    obtain ⟨q, hq, hl⟩ := lub_pow (n := j) (m := 30) (by omega) (by omega)
    rw [hl] at C3 C4
    obtain ⟨Q, hQe, hQ1, hQ0⟩ : ∃ Q : Nat, Hid (2 ^ q = Q) ∧ Q ≤ 536870912 ∧ 1 ≤ Q :=
      ⟨2 ^ q, rfl, Nat.pow_le_pow_right (n := 2) (by omega) (show q ≤ 29 by omega), Nat.two_pow_pos q⟩
    rw [hQe.out] at C3 C4
    have hb : bits .and .i64 (Q : Int) ((Q : Int) - 1) = 0 := by
      have := and_pow ⟨q, hq⟩
      simp only [hQe.out] at this
      exact this
    clear hl hPe
    go_enter Try.func4, Try.ntmps4
    go_upto_region 4 with (go_at_call 7; refine (unhide C1).mono ?_; rintro e w0 ⟨rfl, hw0⟩; subst w0)
    go_upto_region 9 with (go_at_call 9; refine (unhide C2).mono ?_; rintro e w0 ⟨rfl, hw0⟩; subst w0)
    go_upto_region 10 with (go_at_call 7; refine (unhide C3).mono ?_; rintro e w0 ⟨rfl, hw0⟩; subst w0)
    go_wp2_with (first
      | (go_at_call 7; refine (unhide C4).mono ?_; rintro e w0 ⟨rfl, hw0⟩; subst w0)
      | (go_at_call 10; refine (unhide CA).mono ?_; rintro e w0 ⟨rfl, hw0⟩; subst w0))
    go_ret
    exact ⟨rfl, rfl⟩
  · have hi' : i < 1 ∨ 2 * (P : Int) - 1 < i := by omega
    clear hi hPe
    rcases hi' with hi | hi
    all_goals
      go_enter Try.func4, Try.ntmps4
      go_wp2_with (first
        | (go_at_call 7; refine (unhide C1).mono ?_; rintro e w0 ⟨rfl, hw0⟩; subst w0)
        | (go_at_call 9; refine (unhide C2).mono ?_; rintro e w0 ⟨rfl, hw0⟩; subst w0)
        | (go_at_call 10; refine (unhide CA).mono ?_; rintro e w0 ⟨rfl, hw0⟩; subst w0))
      go_ret
      exact ⟨rfl, rfl⟩
end Go.Proofs.Ytdipmcjgdpjlaaa
