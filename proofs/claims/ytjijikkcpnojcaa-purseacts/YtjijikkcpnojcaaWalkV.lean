/- Contracts of the law: awake; like. -/
import Derived.Test.YtjijikkcpnojcaaWalkU
set_option linter.unusedVariables false
set_option linter.unusedSimpArgs false
namespace Go.Proofs.Ytjijikkcpnojcaa
open Go.RowKit Go.Conc

theorem any_some (w : World) (p K kc N : Nat) (ch room left : Nat → Nat) (nx k : Nat) (hA : Pu w p K kc N ch room left nx) (h : anyK left N nx = some k) :
    Calls Try.prog 11 #[.pointer (some ⟨p, 0, none⟩)] w fun e w' => e = .returned (.tuple #[.int .i64 (k : Int), .bool true]) ∧ PuTo w w' p K kc N ch room (upd left k (left k - 1)) (k + 1) := by
  refine (any_any w p K kc N ch room left nx hA).mono ?_
  rintro e w' (⟨h1, _⟩ | ⟨k', h1, h2, h3⟩)
  · rw [h] at h1; cases h1
  · rw [h] at h1
    injection h1 with h1
    subst h1
    exact ⟨h2, h3⟩
theorem any_none (w : World) (p K kc N : Nat) (ch room left : Nat → Nat) (nx : Nat) (hA : Pu w p K kc N ch room left nx) (h : anyK left N nx = none) :
    Calls Try.prog 11 #[.pointer (some ⟨p, 0, none⟩)] w fun e w' => e = .returned (.tuple #[.int .i64 0, .bool false]) ∧ ∃ q, w' = w.drewN q := by
  refine (any_any w p K kc N ch room left nx hA).mono ?_
  rintro e w' (⟨h1, h2, h3⟩ | ⟨k', h1, h2, h3⟩)
  · exact ⟨h2, h3⟩
  · rw [h] at h1; cases h1

theorem bel_kp {w W W' : World} {p N : Nat} {ch : Nat → Nat} (h : Below w.heap.size w W) (k : Kp (Of p N ch) W W') (hp : w.heap.size ≤ p) (hc : ∀ i, i < N → w.heap.size ≤ ch i) : Below w.heap.size w W' :=
  Kp.bel h k (fun b hb => by
    rcases hb with rfl | ⟨i, hi, rfl⟩
    · exact hp
    · exact hc i hi)

theorem row21 (w : World) : Row (w.alloc (.cells #[.int .i64 2, .int .i64 1] 3)) (some ⟨w.heap.size, 0, none⟩) [2, 1] := by
  intro i hi
  have hb : w.heap.size < (w.alloc (.cells #[.int .i64 2, .int .i64 1] 3)).heap.size := by simp
  refine ⟨w.heap.size, 0, rfl, hb, ?_⟩
  have h0 : (w.alloc (.cells #[.int .i64 2, .int .i64 1] 3)).heap[w.heap.size]? = _ := heap_alloc_new w _
  match i, hi with
  | 0, _ => simp only [World.cell?, h0]; rfl
  | 1, _ => simp only [World.cell?, h0]; rfl

set_option maxHeartbeats 2000000 in
theorem awake_any (w : World) : Calls Try.prog 8 #[] w fun e w' => e = .returned (.bool true) ∧ Below w.heap.size w w' := by
  have hb0 : Below w.heap.size w (w.alloc (.cells #[.int .i64 2, .int .i64 1] 3)) := (Below.refl _ _).alloc (Nat.le_refl _) _
  have hnew := new_any (w.alloc (.cells #[.int .i64 2, .int .i64 1] 3)) (some ⟨w.heap.size, 0, none⟩) 2 [2, 1] (row21 w) (by decide)
  have GN : Hid (Calls Try.prog 7 #[.slice (some ⟨w.heap.size, 0, none⟩) 2 2] (w.alloc (.cells #[.int .i64 2, .int .i64 1] 3)) fun e w' => ∃ p K kc ch, e = .returned (.tuple #[.pointer (some ⟨p, 0, none⟩), .int .i64 0]) ∧ Pu w' p K kc 2 ch (roomF [2, 1]) (roomF [2, 1]) 0 ∧ Below w.heap.size w w' ∧ w.heap.size ≤ p ∧ ∀ i, i < 2 → w.heap.size ≤ ch i) := by
    refine hnew.mono ?_
    rintro e w' ⟨hb, h | ⟨_, p, K, kc, ch, h1, h2, h3, h4⟩⟩
    · exact absurd h.1 (by decide)
    · have hs := hb0.size
      exact ⟨p, K, kc, ch, h1, h2, hb0.trans (hb.mono hs), Nat.le_trans hs h3, fun i hi => Nat.le_trans hs (h4 i hi)⟩
  clear hnew hb0
  go_enter Try.func8, Try.ntmps8
  go_upto_region 2 with (first | (go_at_call 7; refine (unhide GN).mono ?_; rintro e w1 ⟨p, K, kc, ch, rfl, hp1, hb1, lp, lc⟩))
  have G1 := hide (take_out w1 p K kc 2 ch _ _ 0 0 3 hp1 (by decide) (by decide) (by decide))
  have HB1 := hide hb1
  have LC := hide lc
  clear hp1 hb1 GN lc
  go_upto_region 4 with (first | (go_at_call 13; refine (unhide G1).mono ?_; rintro e w2 ⟨rfl, hp2, kp2⟩))
  have HB2 := hide (bel_kp HB1.out kp2 lp LC.out)
  have G2 := hide (any_some w2 p K kc 2 ch _ _ 0 0 hp2 (by decide))
  clear hp2 kp2 G1 HB1
  go_upto_region 5 with (first | (go_at_call 11; refine (unhide G2).mono ?_; rintro e w3 ⟨rfl, hp3, kp3⟩))
  have HB3 := hide (bel_kp HB2.out kp3 lp LC.out)
  have G3 := hide (any_some w3 p K kc 2 ch _ _ _ 1 hp3 (by decide))
  clear hp3 kp3 G2 HB2
  go_upto_region 6 with (first | (go_at_call 11; refine (unhide G3).mono ?_; rintro e w4 ⟨rfl, hp4, kp4⟩))
  have HB4 := hide (bel_kp HB3.out kp4 lp LC.out)
  have G4 := hide (any_some w4 p K kc 2 ch _ _ _ 0 hp4 (by decide))
  clear hp4 kp4 G3 HB3
  go_upto_region 7 with (first | (go_at_call 11; refine (unhide G4).mono ?_; rintro e w5 ⟨rfl, hp5, kp5⟩))
  have HB5 := hide (bel_kp HB4.out kp5 lp LC.out)
  have hsp := spent_any w5 p K kc 2 ch _ _ _ hp5
  rw [show (sumN (roomF [2, 1]) 2 - sumN (upd (upd (upd (roomF [2, 1]) 0 (roomF [2, 1] 0 - 1)) 1 (upd (roomF [2, 1]) 0 (roomF [2, 1] 0 - 1) 1 - 1)) 0 (upd (upd (roomF [2, 1]) 0 (roomF [2, 1] 0 - 1)) 1 (upd (roomF [2, 1]) 0 (roomF [2, 1] 0 - 1) 1 - 1) 0 - 1)) 2) = 3 from by decide] at hsp
  have G5 := hide hsp
  clear hp5 kp5 G4 HB4 hsp
  go_wp2_with (first | (go_at_call 15; refine (unhide G5).mono ?_; rintro e w0 ⟨rfl, hw0⟩; subst w0))
  go_ret
  exact ⟨rfl, HB5.out⟩
end Go.Proofs.Ytjijikkcpnojcaa
