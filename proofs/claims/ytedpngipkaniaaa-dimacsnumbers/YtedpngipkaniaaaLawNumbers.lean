/- Which number a word is: the law's own text, walked. -/
import Derived.Test.YtedpngipkaniaaaWalkX
set_option linter.unusedVariables false
set_option linter.unusedSimpArgs false
namespace Go.Proofs.Ytedpngipkaniaaa
open Go.RowKit

set_option maxHeartbeats 2000000 in
theorem numbers_walk (l : List UInt8) (n : Int) (w : World) (hl : l.length ≤ maxLen) :
    Calls Try.prog 3 #[.string (str l), .int .i64 n] w fun e w' => e = .returned (.bool true) ∧ Below w.heap.size w w' := by
  have CA := hide (awake_any w)
  have C1 := hide (number_any l w hl)
  have C2 := hide (refNumber_any l w hl)
  have hs := str_size l
  unfold maxLen at hl
  by_cases h1 : (l.length : Int) ≤ 300
  case neg =>
    have h1' : 300 < (l.length : Int) := by omega
    go_enter Try.func3, Try.ntmps3
    go_wp2_with (go_at_call 6; refine (unhide CA).mono ?_; rintro e w2 ⟨rfl, HB⟩)
    go_ret
    exact ⟨rfl, HB⟩
  by_cases h2 : n < -9999999999 ∨ 9999999999 < n
  · go_enter Try.func3, Try.ntmps3
    go_wp2_with (first
      | (go_at_call 6; refine (unhide CA).mono ?_; rintro e w2 ⟨rfl, HB⟩)
      | (go_at_call 7; refine (unhide C1).mono ?_; rintro e w0 ⟨rfl, hw0⟩; subst w0)
      | (go_at_call 8; refine (unhide C2).mono ?_; rintro e w0 ⟨rfl, hw0⟩; subst w0))
    all_goals
      go_ret
      exact ⟨rfl, by assumption⟩
  · have h3 : -9999999999 ≤ n := by omega
    have h4 : n ≤ 9999999999 := by omega
    have hd := digI_num h3 h4
    have C3 := hide (digits_any n w (by omega) (by omega))
    have C4 := number_any (digI n) w (by have := digI_len (n := n) (by omega) (by omega); unfold maxLen; omega)
    rw [hd.1, hd.2] at C4
    replace C4 := hide C4
    generalize digI n = d at *
    clear h2 hd
    go_enter Try.func3, Try.ntmps3
    go_wp2_with fail
    refine (unhide C1).mono ?_
    rintro e w0 ⟨rfl, hw0⟩
    subst w0
    go_wp2_with fail
    refine (unhide C2).mono ?_
    rintro e w0 ⟨rfl, hw0⟩
    subst w0
    go_wp2_with fail
    refine (unhide C3).mono ?_
    rintro e w0 ⟨rfl, hw0⟩
    subst w0
    go_wp2_with fail
    refine (unhide C4).mono ?_
    rintro e w0 ⟨rfl, hw0⟩
    subst w0
    go_wp2_with (go_at_call 6; refine (unhide CA).mono ?_; rintro e w2 ⟨rfl, HB⟩)
    go_ret
    exact ⟨rfl, HB⟩

end Go.Proofs.Ytedpngipkaniaaa
