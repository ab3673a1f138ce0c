/- Contracts: every call of a propagator that New did not give. -/
import Derived.Test.YtdekcppgfkfiaaaHa
set_option linter.unusedVariables false
set_option linter.unusedSimpArgs false
namespace Go.Proofs.Ytdekcppgfkfiaaa
open Go.RowKit

/-- Nobody: nil, or a zero value. -/
def Nob (w : World) (z : Value) : Prop := z = .pointer none ∨ ∃ B, z = .pointer (some ⟨B, 0, none⟩) ∧ w.cell? ⟨B, 0, none⟩ = some (.pointer none)

theorem Nob.drewN {w : World} {z : Value} (h : Nob w z) (n : Nat) : Nob (w.drewN n) z := h

theorem run_eql_none_ptr (w : World) {tp te : TypeId} (a : Addr) (hp : Try.prog.underlying tp = some (.pointer te)) :
    (binOp .eql tp (.pointer none) (.pointer (some a))).run Try.prog w = .ok (.bool false) w := by
  have h : ∀ d : Nat, (Op.equalIn (d + 1) tp (.pointer none) (.pointer (some a))).run Try.prog w = .ok false w := fun d => by
    simp [Op.equalIn, run_underlying hp, sizeOf, typeInfo]
  simp only [binOp]
  simp [Op.equal, Op.maxDepth, h 9999]

theorem given_nob {w : World} {z : Value} (h : Nob w z) : Calls Try.prog 41 #[z] w fun e w' => e = .returned (.bool false) ∧ w' = w := by
  rcases h with rfl | ⟨B, rfl, hc⟩
  · go_enter Try.func41, Try.ntmps41
    go_wp2
    all_goals
      go_ret
      exact ⟨ret_bool (by simp), rfl⟩
  · have heq := run_eql_none_ptr w ⟨B, 0, none⟩ Try.underlying29
    go_enter Try.func41, Try.ntmps41
    go_wp2
    all_goals
      go_ret
      exact ⟨ret_bool (by simp), rfl⟩

theorem has_nob {w : World} {z : Value} (h : Nob w z) (i : Int) : Calls Try.prog 49 #[z, .int .i64 i] w fun e w' => e = .returned (.bool false) ∧ ∃ n, w' = w.drewN n := by
  have G := hide (given_nob h)
  clear h
  go_enter Try.func49, Try.ntmps49
  go_wp2_with (go_at_call 41; refine (unhide G).mono ?_; rintro e w0 ⟨rfl, hw0⟩; subst w0)
  all_goals
    go_ret
    exact ⟨ret_bool (by simp), ⟨0, rfl⟩⟩

theorem isLit_nob {w : World} {z : Value} (h : Nob w z) (i : Int) : Calls Try.prog 52 #[z, .int .i64 i] w fun e w' => e = .returned (.bool false) ∧ ∃ n, w' = w.drewN n := by
  have G := hide (given_nob h)
  clear h
  go_enter Try.func52, Try.ntmps52
  go_wp2_with (go_at_call 41; refine (unhide G).mono ?_; rintro e w0 ⟨rfl, hw0⟩; subst w0)
  all_goals
    go_ret
    exact ⟨ret_bool (by simp), ⟨0, rfl⟩⟩

theorem levels_nob {w : World} {z : Value} (h : Nob w z) : Calls Try.prog 31 #[z] w fun e w' => e = .returned (.int .i64 0) ∧ ∃ n, w' = w.drewN n := by
  have G := hide (given_nob h)
  clear h
  go_enter Try.func31, Try.ntmps31
  go_wp2_with (go_at_call 41; refine (unhide G).mono ?_; rintro e w0 ⟨rfl, hw0⟩; subst w0)
  go_ret
  exact ⟨rfl, ⟨0, rfl⟩⟩

theorem trail_nob {w : World} {z : Value} (h : Nob w z) : Calls Try.prog 16 #[z] w fun e w' => e = .returned (.slice none 0 0) ∧ ∃ n, w' = w.drewN n := by
  have G := hide (given_nob h)
  clear h
  go_enter Try.func16, Try.ntmps16
  go_wp2_with (go_at_call 41; refine (unhide G).mono ?_; rintro e w0 ⟨rfl, hw0⟩; subst w0)
  go_ret
  exact ⟨rfl, ⟨0, rfl⟩⟩

theorem run_nob {w : World} {z : Value} (h : Nob w z) : Calls Try.prog 15 #[z] w fun e w' => e = .returned (.int .i64 (-1)) ∧ ∃ n, w' = w.drewN n := by
  have G := hide (given_nob h)
  clear h
  go_enter Try.func15, Try.ntmps15
  go_wp2_with (go_at_call 41; refine (unhide G).mono ?_; rintro e w0 ⟨rfl, hw0⟩; subst w0)
  go_ret
  exact ⟨rfl, ⟨0, rfl⟩⟩

theorem value_nob {w : World} {z : Value} (h : Nob w z) (l : Int) : Calls Try.prog 28 #[z, .int .i64 l] w fun e w' => e = .returned (.int .i64 0) ∧ ∃ n, w' = w.drewN n := by
  have G := hide (isLit_nob h l)
  clear h
  go_enter Try.func28, Try.ntmps28
  go_wp2_with (go_at_call 52; refine (unhide G).mono ?_; rintro e w0 ⟨rfl, n0, rfl⟩)
  go_ret
  exact ⟨rfl, ⟨n0, rfl⟩⟩

theorem level_nob {w : World} {z : Value} (h : Nob w z) (l : Int) : Calls Try.prog 29 #[z, .int .i64 l] w fun e w' => e = .returned (.int .i64 (-1)) ∧ ∃ n, w' = w.drewN n := by
  have G := hide (value_nob h l)
  clear h
  go_enter Try.func29, Try.ntmps29
  go_wp2_with (go_at_call 28; refine (unhide G).mono ?_; rintro e w0 ⟨rfl, n0, rfl⟩)
  go_ret
  exact ⟨rfl, ⟨n0, rfl⟩⟩

theorem reason_nob {w : World} {z : Value} (h : Nob w z) (l : Int) : Calls Try.prog 30 #[z, .int .i64 l] w fun e w' => e = .returned (.int .i64 (-1)) ∧ ∃ n, w' = w.drewN n := by
  have G := hide (value_nob h l)
  clear h
  go_enter Try.func30, Try.ntmps30
  go_wp2_with (go_at_call 28; refine (unhide G).mono ?_; rintro e w0 ⟨rfl, n0, rfl⟩)
  go_ret
  exact ⟨rfl, ⟨n0, rfl⟩⟩

theorem decide_nob {w : World} {z : Value} (h : Nob w z) (l : Int) : Calls Try.prog 27 #[z, .int .i64 l] w fun e w' => e = .returned (.int .i64 1) ∧ ∃ n, w' = w.drewN n := by
  have G := hide (isLit_nob h l)
  clear h
  go_enter Try.func27, Try.ntmps27
  go_wp2_with (go_at_call 52; refine (unhide G).mono ?_; rintro e w0 ⟨rfl, n0, rfl⟩)
  go_ret
  exact ⟨rfl, ⟨n0, rfl⟩⟩

theorem drop_nob {w : World} {z : Value} (h : Nob w z) (l : Int) : Calls Try.prog 26 #[z, .int .i64 l] w fun e w' => e = .returned (.int .i64 4) ∧ ∃ n, w' = w.drewN n := by
  have G := hide (has_nob h l)
  clear h
  go_enter Try.func26, Try.ntmps26
  go_wp2_with (go_at_call 49; refine (unhide G).mono ?_; rintro e w0 ⟨rfl, n0, rfl⟩)
  go_ret
  exact ⟨rfl, ⟨n0, rfl⟩⟩

theorem clause_nob {w : World} {z : Value} (h : Nob w z) (l : Int) : Calls Try.prog 25 #[z, .int .i64 l] w fun e w' => e = .returned (.tuple #[.slice none 0 0, .bool false]) ∧ ∃ n, w' = w.drewN n := by
  have G := hide (has_nob h l)
  clear h
  go_enter Try.func25, Try.ntmps25
  go_wp2_with (go_at_call 49; refine (unhide G).mono ?_; rintro e w0 ⟨rfl, n0, rfl⟩)
  go_ret2
  exact ⟨rfl, ⟨n0, rfl⟩⟩

theorem add_nob {w : World} {z : Value} (h : Nob w z) (c : Value) : Calls Try.prog 24 #[z, c] w fun e w' => e = .returned (.tuple #[.int .i64 0, .int .i64 1]) ∧ ∃ n, w' = w.drewN n := by
  have G := hide (given_nob h)
  clear h
  go_enter Try.func24, Try.ntmps24
  go_wp2_with (go_at_call 41; refine (unhide G).mono ?_; rintro e w0 ⟨rfl, hw0⟩; subst w0)
  go_ret2
  exact ⟨rfl, ⟨0, rfl⟩⟩

theorem back_nob {w : World} {z : Value} (h : Nob w z) (l : Int) (hl : l ≤ 9223372036854775807) : Calls Try.prog 23 #[z, .int .i64 l] w fun e w' => e = .returned (.tuple #[]) ∧ ∃ n, w' = w.drewN n := by
  have G := hide (levels_nob h)
  clear h
  go_enter Try.func23, Try.ntmps23
  go_wp2_with (go_at_call 31; refine (unhide G).mono ?_; rintro e w0 ⟨rfl, n0, rfl⟩)
  all_goals
    refine bodyPost_ret (results_none rfl _ _ _) rfl ?_
    exact ⟨rfl, ⟨n0, rfl⟩⟩

end Go.Proofs.Ytdekcppgfkfiaaa
