/- The law of numbers, walked. -/
import Derived.Test.YtdipmcjgdpjlaaaWalkB
set_option linter.unusedVariables false
set_option linter.unusedSimpArgs false
namespace Go.Proofs.Ytdipmcjgdpjlaaa
open Go.RowKit

set_option maxHeartbeats 4000000 in
set_option maxRecDepth 100000 in
theorem numbers_any (i n : Int) (w : World) : Calls Try.prog 3 #[.int .i64 i, .int .i64 n] w fun e w' => e = .returned (.bool true) ∧ w' = w := by
  have CA := hide (awake_any w)
  obtain ⟨a, e, H1, h1⟩ : ∃ a e : Int, Hid (Calls Try.prog 7 #[.int .i64 i] w fun x w' => x = .returned (.tuple #[.int .i64 a, .int .i64 e]) ∧ w' = w) ∧ ((i < 1 ∨ 1073741824 < i) ∧ e = 1 ∧ a = 0 ∨ (1 ≤ i ∧ i ≤ 1073741824) ∧ e = 0 ∧ Hid (Calls Try.prog 8 #[.int .i64 i] w fun x w' => x = .returned (.int .i64 a) ∧ w' = w)) := by
    by_cases h : 1 ≤ i ∧ i ≤ 1073741824
    · obtain ⟨k, rfl⟩ : ∃ k : Nat, i = (k : Int) := ⟨i.toNat, by omega⟩
      exact ⟨_, _, number_yes k w (by omega) (by omega), .inr ⟨h, rfl, refNumber_any k w (by omega) (by omega)⟩⟩
    · exact ⟨_, _, number_no i w (inB_no (by omega)), .inl ⟨by omega, rfl, rfl⟩⟩
  obtain ⟨s, f, H2, h2⟩ : ∃ s f : Int, Hid (Calls Try.prog 9 #[.int .i64 n] w fun x w' => x = .returned (.tuple #[.int .i64 s, .int .i64 f]) ∧ w' = w) ∧ ((n < 0 ∨ 1073741824 < n) ∧ f = 1 ∧ s = 0 ∨ (3000 < n ∧ n ≤ 1073741824) ∧ f = 0 ∧ n ≤ s ∨ (0 ≤ n ∧ n ≤ 3000) ∧ f = 0 ∧ Hid (Calls Try.prog 11 #[.int .i64 n] w fun x w' => x = .returned (.int .i64 s) ∧ w' = w)) := by
    by_cases h : 0 ≤ n ∧ n ≤ 1073741824
    · obtain ⟨k, rfl⟩ : ∃ k : Nat, n = (k : Int) := ⟨n.toNat, by omega⟩
      by_cases h3 : 3000 < k
      · exact ⟨_, _, sum_yes k w (by omega), .inr (.inl ⟨by omega, rfl, by have := sumL_ge k (by omega); omega⟩)⟩
      · exact ⟨_, _, sum_yes k w (by omega), .inr (.inr ⟨by omega, rfl, refSum_any k w (by omega)⟩)⟩
    · exact ⟨_, _, sum_no n w (by omega), .inl ⟨by omega, rfl, rfl⟩⟩
  rcases h1 with ⟨h1 | h1, rfl, rfl⟩ | ⟨⟨h11, h12⟩, rfl, HN⟩ <;> rcases h2 with ⟨h2 | h2, rfl, rfl⟩ | ⟨⟨h21, h22⟩, rfl, h23⟩ | ⟨⟨h21, h22⟩, rfl, HS⟩
  all_goals
    go_enter Try.func3, Try.ntmps3
    go_wp2_with (first
      | (go_at_call 7; refine (unhide H1).mono ?_; rintro e w0 ⟨rfl, hw0⟩; subst w0)
      | (go_at_call 8; refine (unhide HN).mono ?_; rintro e w0 ⟨rfl, hw0⟩; subst w0)
      | (go_at_call 9; refine (unhide H2).mono ?_; rintro e w0 ⟨rfl, hw0⟩; subst w0)
      | (go_at_call 11; refine (unhide HS).mono ?_; rintro e w0 ⟨rfl, hw0⟩; subst w0)
      | (go_at_call 10; refine (unhide CA).mono ?_; rintro e w0 ⟨rfl, hw0⟩; subst w0))
    go_ret
    exact ⟨rfl, rfl⟩

end Go.Proofs.Ytdipmcjgdpjlaaa
