/- The statement on acts, for all acts in memory. -/
import Derived.Test.YtbibbdkijgaoeaaWalkT
import Derived.Test.YtbibbdkijgaoeaaWalkV
set_option linter.unusedVariables false
set_option linter.unusedSimpArgs false
namespace Go.Proofs.Ytbibbdkijgaoeaa
open Go.RowKit Go.Maps

set_option maxRecDepth 100000 in
set_option maxHeartbeats 3200000 in
theorem acts_any (w : World) (a : Option Addr) (cap : Nat) (l : List ActD) (hA : Acts w a l) (hl : l.length ≤ maxLen) :
    Calls Try.prog 3 #[.slice a l.length cap] w fun e w' => e = .returned (.bool true) ∧ Below w.heap.size w w' := by
  have G1 := hide (light_any w a cap l hA hl)
  have G2 := hide (awake_any w)
  cases hlight : lightB l
  · rw [hlight] at G1
    clear hA
    go_enter Try.func3, Try.ntmps3
    go_wp2_with (first
      | (go_at_call 6; refine (unhide G1).mono ?_; rintro e w0 ⟨rfl, hw0⟩; subst w0)
      | (go_at_call 7; refine (unhide G2).mono ?_; rintro e w1 ⟨rfl, hb1⟩))
    go_ret
    exact ⟨rfl, hb1⟩
  · rw [hlight] at G1
    have G3 := hide (play_any w a cap l hA hl hlight)
    clear hA hlight G2
    go_enter Try.func3, Try.ntmps3
    go_wp2_with (first
      | (go_at_call 6; refine (unhide G1).mono ?_; rintro e w0 ⟨rfl, hw0⟩; subst w0)
      | (go_at_call 8; refine (unhide G3).mono ?_; rintro e w1 ⟨B, M, Wc, rv, ra, rc, L, rfl, hAr, hRf, hwd, hb1⟩; have C9 := hide (like_any w.heap.size _ (w1.alloc (.cells #[.slice ra L.length rc] 28)) B M rv ra rc L (Two.below ⟨hAr, hRf, hwd⟩ ((Below.refl _ _).alloc (Nat.le_refl _) _))))
      | (go_at_call 9; refine (unhide C9).mono ?_; rintro e w2 ⟨rfl, hb2⟩; have C7 := hide (awake_any w2))
      | (go_at_call 7; refine (unhide C7).mono ?_; rintro e w3 ⟨rfl, hb3⟩))
    go_ret
    have h2 : Below w.heap.size w w2 := (hb1.alloc hb1.size _).trans (hb2.mono (by have := hb1.size; simp; omega))
    exact ⟨rfl, h2.trans (hb3.mono h2.size)⟩

end Go.Proofs.Ytbibbdkijgaoeaa
