/- The statement on how many bytes a literal takes, walked. -/
import Derived.Test.YtgklollpajhmlaaWalkX
set_option linter.unusedVariables false
set_option linter.unusedSimpArgs false
namespace Go.Proofs.Ytgklollpajhmlaa
open Go.RowKit Go.Maps

attribute [local go_sem ↓] Go.wp_at_zero Go.wp_at_succ

set_option maxHeartbeats 4000000 in
theorem sizes_any (l : Int) (w : World) : Calls Try.prog 5 #[.int .i64 l] w fun e w' => e = .returned (.bool true) ∧ Below w.heap.size w w' := by
  have CA : Hid (∀ x, Below w.heap.size w x → Calls Try.prog 7 #[] x fun e w' => e = .returned (.bool true) ∧ Below w.heap.size w w') := fun x hx => (awake_any x).mono fun e w' ⟨h1, h2⟩ => ⟨h1, hx.trans (h2.mono hx.size)⟩
  have CS : Hid (∀ x, Below w.heap.size w x → Calls Try.prog 16 #[.int .i64 l] x fun e w' => e = .returned (.int .i64 (sizeN l : Int)) ∧ Below w.heap.size w w') := fun x hx => (size_any l x).mono fun e w' ⟨h1, h2⟩ => ⟨h1, hx.trans (h2.mono hx.size)⟩
  have CL := lit_any l w
  cases hlit : litB l 1048576
  · rw [hlit] at CL
    have e0 : sizeN l = 0 := by unfold sizeN; rw [hlit]; rfl
    rw [e0] at CS
    replace CL := hide CL
    clear hlit e0
    go_enter Try.func5, Try.ntmps5
    go_wp2_with (first
      | (go_at_call 15; refine (unhide CL).mono ?_; rintro e w0 ⟨rfl, hw0⟩; subst w0)
      | (go_at_call 16; refine (unhide CS _ (Below.refl _ _)).mono ?_; rintro e w1 ⟨rfl, hb1⟩; replace hb1 := hide hb1)
      | (go_at_call 7; refine (unhide CA _ hb1.out).mono ?_; rintro e w2 ⟨rfl, hb2⟩))
    go_ret
    exact ⟨rfl, hb2⟩
  · rw [hlit] at CL
    replace CL := hide CL
    have hb := bytL_len l
    have e0 : sizeN l = (bytL l).length := by unfold sizeN; rw [hlit]; rfl
    rw [e0] at CS
    have CR : Hid (Calls Try.prog 17 #[.int .i64 l] w fun e w' => ∃ g c, e = .returned (.slice (some ⟨g, 0, none⟩) (bytL l).length c) ∧ Hid (Below w.heap.size w w')) := Calls.mono (refLiteral_any l w hlit) fun e w' ⟨v, h1, h2, h3⟩ => by
      obtain ⟨g, c, rfl, -⟩ := h2.shape
      exact ⟨g, c, h1, h3⟩
    clear hlit e0
    obtain ⟨hb1, hb2⟩ := hb
    generalize (bytL l).length = n at *
    have hn1 : (1 : Int) ≤ n := by omega
    have hn4 : (n : Int) ≤ 4 := by omega
    go_enter Try.func5, Try.ntmps5
    go_wp2_with (first
      | (go_at_call 15; refine (unhide CL).mono ?_; rintro e w0 ⟨rfl, hw0⟩; subst w0)
      | (go_at_call 17; refine (unhide CR).mono ?_; rintro e w1 ⟨g, c, rfl, hb1⟩)
      | (go_at_call 16; refine (unhide CS _ hb1.out).mono ?_; rintro e w2 ⟨rfl, hb2⟩; replace hb2 := hide hb2)
      | (go_at_call 7; refine (unhide CA _ hb2.out).mono ?_; rintro e w3 ⟨rfl, hb3⟩))
    go_ret
    exact ⟨rfl, hb3⟩

end Go.Proofs.Ytgklollpajhmlaa
