/- The law of acts, walked. -/
import Derived.Test.YtjijikkcpnojcaaWalkZ
set_option linter.unusedVariables false
set_option linter.unusedSimpArgs false
namespace Go.Proofs.Ytjijikkcpnojcaa
open Go.RowKit Go.Conc

set_option maxHeartbeats 2000000 in
theorem acts_any (w : World) (al : Option Addr) (ca : Nat) (xs : List Int) (hr : Row w al xs) (hxl : xs.length ≤ maxLen) (aa : Option Addr) (cap : Nat) (l : List ActD) (hl : Acts w aa l) (hll : l.length ≤ maxLen) :
    Calls Try.prog 3 #[.slice al xs.length ca, .slice aa l.length cap] w fun e w' => e = .returned (.bool true) ∧ Below w.heap.size w w' := by
  have GM := refMay_any w al ca xs hr hxl
  have GW : Hid (∀ W, Calls Try.prog 8 #[] W fun e w' => e = .returned (.bool true) ∧ Below W.heap.size W w') := fun W => awake_any W
  cases hm : mayB xs with
  | false =>
    rw [hm] at GM
    have GM := hide GM
    have GN : Hid (Calls Try.prog 7 #[.slice al xs.length ca] w fun e w' => e = .returned (.tuple #[.pointer none, .int .i64 1]) ∧ Below w.heap.size w w') := by
      refine (new_any w al ca xs hr hxl).mono ?_
      rintro e w' ⟨hb, h | h⟩
      · exact ⟨h.2, hb⟩
      · rw [hm] at h; exact absurd h.1 (by decide)
    clear hr hl hm hxl hll
    generalize xs.length = N at *
    generalize l.length = L at *
    go_enter Try.func3, Try.ntmps3
    go_wp2_with (first | (go_at_call 6; refine (unhide GM).mono ?_; rintro e w0 ⟨rfl, hw0⟩; subst w0) | (go_at_call 7; refine (unhide GN).mono ?_; rintro e w1 ⟨rfl, hb1⟩) | (go_at_call 8; refine (unhide GW _).mono ?_; rintro e w3 ⟨rfl, hb3⟩))
    go_ret
    exact ⟨rfl, hb1.trans (hb3.mono hb1.size)⟩
  | true =>
    rw [hm] at GM
    have GM := hide GM
    obtain ⟨q, off, rfl, GP⟩ := play_any w al ca xs hr hm aa cap l hl hll
    have GP := hide GP
    clear hr hl hm hxl hll
    generalize xs.length = N at *
    generalize roomF xs = room at *
    generalize l.length = L at *
    go_enter Try.func3, Try.ntmps3
    go_upto_region 5 with (first | (go_at_call 6; refine (unhide GM).mono ?_; rintro e w0 ⟨rfl, hw0⟩; subst w0) | (go_at_call 9; refine (unhide GP).mono ?_; rintro e w1 ⟨p, K, kc, ch, left, nx, b, cb, d, rfl, hp, hrf, hb, lp, lc⟩; unfold rv))
    have hbx : Below w1.heap.size w1 (w1.alloc (.cells (rv q off ca b cb N d) 31)) := (Below.refl _ _).alloc (Nat.le_refl _) _
    have G1 := hide (like_any (w1.alloc (.cells (rv q off ca b cb N d) 31)) p K kc N ch room left nx q off ca b cb d (hp.below hbx) (hrf.below hbx))
    have HB := hide (hb.trans (hbx.mono hb.size))
    unfold rv at G1 HB
    clear hp hrf hb hbx lp lc
    go_wp2_with (first | (go_at_call 10; refine (unhide G1).mono ?_; rintro e w2 ⟨rfl, hb2⟩) | (go_at_call 8; refine (unhide GW _).mono ?_; rintro e w3 ⟨rfl, hb3⟩))
    go_ret
    have h2 := HB.out.trans (hb2.mono HB.out.size)
    exact ⟨rfl, h2.trans (hb3.mono h2.size)⟩
end Go.Proofs.Ytjijikkcpnojcaa
