/- Contracts: what is told of lists that are no words; the document's Is; one world for both lists. -/
import Derived.Test.YtbilhiklfficoaaXf
set_option linter.unusedVariables false
set_option linter.unusedSimpArgs false
namespace Go.Proofs.Ytbilhiklfficoaa
open Go.RowKit Go.Maps

section
variable (w : World)
set_option maxHeartbeats 400000 in
theorem refIs_any (al : Option Addr) (cap : Nat) (g : List Gt) (l : Int) (hl : g.length ≤ 1000) :
    Calls Try.prog 31 #[.slice al g.length cap, .int .i64 l] w fun e w' => e = .returned (.bool (isB g l)) ∧ w' = w := by
  have hisB : isB g l = (decide (0 ≤ l) && decide (l < 2 * ((g.length : Int) + 1))) := rfl
  rw [hisB]
  clear hisB
  by_cases h0 : 0 ≤ l
  · go_enter Try.func31, Try.ntmps31
    go_wp2
    all_goals
      go_ret
      exact ⟨ret_bool (by simp [h0]; try omega), rfl⟩
  · have h0' : decide (0 ≤ l) = false := by simpa using h0
    go_enter Try.func31, Try.ntmps31
    go_wp2
    all_goals
      go_ret
      exact ⟨ret_bool (by simp [h0]; try omega), rfl⟩

variable (B M : Nat) (v : Value) (g : List Gt)
end
end Go.Proofs.Ytbilhiklfficoaa
