/- The law of acts, walked. -/
import Derived.Test.YtidhnmooloedmaaWalkZ
set_option linter.unusedVariables false
set_option linter.unusedSimpArgs false
namespace Go.Proofs.Ytidhnmooloedmaa
open Go.RowKit

set_option maxHeartbeats 2000000 in
theorem acts_any (w : World) (x : Int) (hx0 : 0 ≤ x) (hx1 : x ≤ 255) (al : Option Addr) (cap : Nat) (l : List ActD) (hl : Acts w al l) (hll : l.length ≤ maxLen) :
    Calls Try.prog 3 #[.int .u8 x, .slice al l.length cap] w fun e w' => e = .returned (.bool true) ∧ Below w.heap.size w w' := by
  obtain ⟨n, hn⟩ : ∃ n : Nat, x % 20 = (n : Int) := ⟨(x % 20).toNat, by omega⟩
  have hn1 : n ≤ 1000 := by omega
  have GP := hide (play_any w n hn1 al cap l hl hll)
  clear hl hll
  go_enter Try.func3, Try.ntmps3
  go_upto_region 2 with (first | (go_at_call 7; refine (unhide GP).mono ?_; rintro e w1 ⟨B, S, P, O, c, a, ca, b, cb, s, rfl, hp, hF, hr, hb, hlo, bS, bP, bO⟩; unfold rv))
  have hbx : Below w1.heap.size w1 (w1.alloc (.cells (rv a ca b cb n s.st) 27)) := (Below.refl _ _).alloc (Nat.le_refl _) _
  have G1 := hide (like_any (w1.alloc (.cells (rv a ca b cb n s.st) 27)) B S P O c n a ca b cb s (hp.below hbx) hF (hr.below hbx))
  have HB := hide (hb.trans (hbx.mono hb.size))
  have G2 : Hid (∀ W, Calls Try.prog 9 #[] W fun e w' => e = .returned (.bool true) ∧ Below W.heap.size W w') := fun W => awake_any W
  unfold rv at G1 HB
  clear hp hF hr hb hbx GP hn
  go_wp2_with (first | (go_at_call 8; refine (unhide G1).mono ?_; rintro e w2 ⟨rfl, hb2⟩) | (go_at_call 9; refine (unhide G2 _).mono ?_; rintro e w3 ⟨rfl, hb3⟩))
  go_ret
  have h2 := HB.out.trans (hb2.mono HB.out.size)
  exact ⟨rfl, h2.trans (hb3.mono h2.size)⟩
end Go.Proofs.Ytidhnmooloedmaa
