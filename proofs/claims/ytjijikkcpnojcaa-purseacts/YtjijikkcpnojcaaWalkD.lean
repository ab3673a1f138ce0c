/- Contracts: tokens are taken, given; any one is taken. -/
import Derived.Test.YtjijikkcpnojcaaWalkC
set_option linter.unusedVariables false
set_option linter.unusedSimpArgs false
namespace Go.Proofs.Ytjijikkcpnojcaa
open Go.RowKit Go.Conc

/-- What a call leaves of a purse: its tokens, the next kind; other blocks stay. -/
structure PuTo (w w' : World) (p K kc N : Nat) (ch room left : Nat → Nat) (nx : Nat) : Prop where
  pu : Pu w' p K kc N ch room left nx
  kp : Kp (Of p N ch) w w'

set_option maxHeartbeats 400000 in
theorem take_no (w : World) (p K kc N : Nat) (ch room left : Nat → Nat) (nx : Nat) (k n : Int) (hA : Pu w p K kc N ch room left nx) (h : kinB N k = false ∨ cntB n = false) :
    Calls Try.prog 13 #[.pointer (some ⟨p, 0, none⟩), .int .i64 k, .int .i64 n] w fun e w' => e = .returned (.int .i64 1) ∧ w' = w := by
  have G := isKind_any w p K kc N ch room left nx k hA
  have G2 := isCount_any w n
  clear hA
  cases hk : kinB N k with
  | false =>
    rw [hk] at G
    have G := hide G
    clear G2 hk h
    go_enter Try.func13, Try.ntmps13
    go_wp2_with (first | (go_at_call 22; refine (unhide G).mono ?_; rintro e w0 ⟨rfl, hw0⟩; subst w0))
    all_goals
      go_ret
      exact ⟨rfl, rfl⟩
  | true =>
    have hc : cntB n = false := by simpa [hk] using h
    rw [hk] at G
    rw [hc] at G2
    have G := hide G
    have G2 := hide G2
    clear hk h hc
    go_enter Try.func13, Try.ntmps13
    go_wp2_with (first | (go_at_call 22; refine (unhide G).mono ?_; rintro e w0 ⟨rfl, hw0⟩; subst w0) | (go_at_call 16; refine (unhide G2).mono ?_; rintro e w0 ⟨rfl, hw0⟩; subst w0))
    all_goals
      go_ret
      exact ⟨rfl, rfl⟩

set_option maxHeartbeats 400000 in
theorem give_no (w : World) (p K kc N : Nat) (ch room left : Nat → Nat) (nx : Nat) (k n : Int) (hA : Pu w p K kc N ch room left nx) (h : kinB N k = false ∨ cntB n = false) :
    Calls Try.prog 14 #[.pointer (some ⟨p, 0, none⟩), .int .i64 k, .int .i64 n] w fun e w' => e = .returned (.int .i64 1) ∧ w' = w := by
  have G := isKind_any w p K kc N ch room left nx k hA
  have G2 := isCount_any w n
  clear hA
  cases hk : kinB N k with
  | false =>
    rw [hk] at G
    have G := hide G
    clear G2 hk h
    go_enter Try.func14, Try.ntmps14
    go_wp2_with (first | (go_at_call 22; refine (unhide G).mono ?_; rintro e w0 ⟨rfl, hw0⟩; subst w0))
    all_goals
      go_ret
      exact ⟨rfl, rfl⟩
  | true =>
    have hc : cntB n = false := by simpa [hk] using h
    rw [hk] at G
    rw [hc] at G2
    have G := hide G
    have G2 := hide G2
    clear hk h hc
    go_enter Try.func14, Try.ntmps14
    go_wp2_with (first | (go_at_call 22; refine (unhide G).mono ?_; rintro e w0 ⟨rfl, hw0⟩; subst w0) | (go_at_call 16; refine (unhide G2).mono ?_; rintro e w0 ⟨rfl, hw0⟩; subst w0))
    all_goals
      go_ret
      exact ⟨rfl, rfl⟩

set_option maxHeartbeats 1000000 in
theorem take_ok (w : World) (p K kc N : Nat) (ch room left : Nat → Nat) (nx k n : Nat) (hA : Pu w p K kc N ch room left nx) (hk : k < N) (hn : n ≤ 4096) (h : n ≤ left k) :
    Calls Try.prog 13 #[.pointer (some ⟨p, 0, none⟩), .int .i64 (k : Int), .int .i64 (n : Int)] w fun e w' => e = .returned (.int .i64 0) ∧ PuTo w w' p K kc N ch room (upd left k (left k - n)) nx := by
  have G := isKind_any w p K kc N ch room left nx k hA
  have G2 := isCount_any w n
  rw [kinB_of hk] at G
  rw [cntB_of hn] at G2
  have G := hide G
  have G2 := hide G2
  have c1 := hA.c1
  have ek := hA.kin.cell hk
  have hn8 := hA.n8
  have G3 := draw_any w (ch k) (room k) (left k) n (hA.chs k hk) hn
  have hmin : min n (left k) = n := by omega
  rw [hmin] at G3
  have G3 := hide G3
  have HA := hide hA
  clear hA hmin
  have hle := hide (HA.out.le k hk)
  go_enter Try.func13, Try.ntmps13
  go_wp2_with (first | (go_at_call 22; refine (unhide G).mono ?_; rintro e w0 ⟨rfl, hw0⟩; subst w0) | (go_at_call 16; refine (unhide G2).mono ?_; rintro e w0 ⟨rfl, hw0⟩; subst w0) | (go_at_call 23; refine (unhide G3).mono ?_; rintro e w1 ⟨rfl, hc1, kp1⟩))
  all_goals
    go_ret
    exact ⟨rfl, HA.out.turn hk hc1 (Nat.le_trans (Nat.sub_le _ _) hle.out) kp1, kp1.mono (fun b hb => .inr ⟨k, hk, hb⟩)⟩

set_option maxHeartbeats 1000000 in
theorem take_out (w : World) (p K kc N : Nat) (ch room left : Nat → Nat) (nx k n : Nat) (hA : Pu w p K kc N ch room left nx) (hk : k < N) (hn : n ≤ 4096) (h : left k < n) :
    Calls Try.prog 13 #[.pointer (some ⟨p, 0, none⟩), .int .i64 (k : Int), .int .i64 (n : Int)] w fun e w' => e = .returned (.int .i64 6) ∧ PuTo w w' p K kc N ch room left nx := by
  have G := isKind_any w p K kc N ch room left nx k hA
  have G2 := isCount_any w n
  rw [kinB_of hk] at G
  rw [cntB_of hn] at G2
  have G := hide G
  have G2 := hide G2
  have c1 := hA.c1
  have ek := hA.kin.cell hk
  have hn8 := hA.n8
  have G3 := draw_any w (ch k) (room k) (left k) n (hA.chs k hk) hn
  have hmin : min n (left k) = left k := by omega
  rw [hmin] at G3
  have G3 := hide G3
  have hle := hA.le k hk
  have G4 : Hid (∀ W, Ch W (ch k) (room k) (left k - left k) → Calls Try.prog 17 #[.chan (some (ch k)), .int .i64 (left k : Int)] W fun e w' => Ch w' (ch k) (room k) (left k) ∧ Kp (fun b => b = ch k) W w' ∧ ∃ x, e = .returned x) := by
    intro W hW
    rw [Nat.sub_self] at hW
    refine (put_any W (ch k) (room k) 0 (left k) hW (by omega) (Nat.zero_le _)).mono ?_
    rintro e w' ⟨rfl, h1, h2⟩
    have e1 : 0 + min (left k) (room k - 0) = left k := by omega
    rw [e1] at h1
    exact ⟨h1, h2, _, rfl⟩
  have HA := hide hA
  clear hA hmin
  have hle := hide hle
  go_enter Try.func13, Try.ntmps13
  go_wp2_with (first | (go_at_call 22; refine (unhide G).mono ?_; rintro e w0 ⟨rfl, hw0⟩; subst w0) | (go_at_call 16; refine (unhide G2).mono ?_; rintro e w0 ⟨rfl, hw0⟩; subst w0) | (go_at_call 23; refine (unhide G3).mono ?_; rintro e w1 ⟨rfl, hc1, kp1⟩) | (go_at_call 17; refine (unhide G4 w1 hc1).mono ?_; rintro e w2 ⟨hc2, kp2, x, rfl⟩))
  all_goals
    go_ret
    have kp := kp1.trans kp2
    have hp := HA.out.turn hk hc2 hle.out kp
    rw [upd_self] at hp
    exact ⟨rfl, hp, kp.mono (fun b hb => .inr ⟨k, hk, hb⟩)⟩

set_option maxHeartbeats 1000000 in
theorem give_ok (w : World) (p K kc N : Nat) (ch room left : Nat → Nat) (nx k n : Nat) (hA : Pu w p K kc N ch room left nx) (hk : k < N) (hn : n ≤ 4096) (h : left k + n ≤ room k) :
    Calls Try.prog 14 #[.pointer (some ⟨p, 0, none⟩), .int .i64 (k : Int), .int .i64 (n : Int)] w fun e w' => e = .returned (.int .i64 0) ∧ PuTo w w' p K kc N ch room (upd left k (left k + n)) nx := by
  have G := isKind_any w p K kc N ch room left nx k hA
  have G2 := isCount_any w n
  rw [kinB_of hk] at G
  rw [cntB_of hn] at G2
  have G := hide G
  have G2 := hide G2
  have c1 := hA.c1
  have ek := hA.kin.cell hk
  have hn8 := hA.n8
  have G3 := put_any w (ch k) (room k) (left k) n (hA.chs k hk) hn (hA.le k hk)
  have hmin : min n (room k - left k) = n := by omega
  rw [hmin] at G3
  have G3 := hide G3
  have HA := hide hA
  have HH := hide h
  clear hA hmin h
  go_enter Try.func14, Try.ntmps14
  go_wp2_with (first | (go_at_call 22; refine (unhide G).mono ?_; rintro e w0 ⟨rfl, hw0⟩; subst w0) | (go_at_call 16; refine (unhide G2).mono ?_; rintro e w0 ⟨rfl, hw0⟩; subst w0) | (go_at_call 17; refine (unhide G3).mono ?_; rintro e w1 ⟨rfl, hc1, kp1⟩))
  all_goals
    go_ret
    exact ⟨rfl, HA.out.turn hk hc1 HH.out kp1, kp1.mono (fun b hb => .inr ⟨k, hk, hb⟩)⟩

set_option maxHeartbeats 1000000 in
theorem give_full (w : World) (p K kc N : Nat) (ch room left : Nat → Nat) (nx k n : Nat) (hA : Pu w p K kc N ch room left nx) (hk : k < N) (hn : n ≤ 4096) (h : room k < left k + n) :
    Calls Try.prog 14 #[.pointer (some ⟨p, 0, none⟩), .int .i64 (k : Int), .int .i64 (n : Int)] w fun e w' => e = .returned (.int .i64 5) ∧ PuTo w w' p K kc N ch room left nx := by
  have G := isKind_any w p K kc N ch room left nx k hA
  have G2 := isCount_any w n
  rw [kinB_of hk] at G
  rw [cntB_of hn] at G2
  have G := hide G
  have G2 := hide G2
  have c1 := hA.c1
  have ek := hA.kin.cell hk
  have hn8 := hA.n8
  have hle := hA.le k hk
  have hrm := hA.rm k hk
  have G3 := put_any w (ch k) (room k) (left k) n (hA.chs k hk) hn hle
  obtain ⟨y, hy⟩ : ∃ y, y = room k - left k := ⟨_, rfl⟩
  have hmin : min n (room k - left k) = y := by omega
  rw [hmin] at G3
  have e2 : left k + y = room k := by omega
  rw [e2] at G3
  have hyn : y < n := by omega
  have G3 := hide G3
  have G4 : Hid (∀ W, Ch W (ch k) (room k) (room k) → Calls Try.prog 23 #[.chan (some (ch k)), .int .i64 (y : Int)] W fun e w' => Ch w' (ch k) (room k) (left k) ∧ Kp (fun b => b = ch k) W w' ∧ ∃ x, e = .returned x) := by
    intro W hW
    refine (draw_any W (ch k) (room k) (room k) y hW (by omega)).mono ?_
    rintro e w' ⟨rfl, h1, h2⟩
    have e1 : room k - min y (room k) = left k := by omega
    rw [e1] at h1
    exact ⟨h1, h2, _, rfl⟩
  have HA := hide hA
  have hle := hide hle
  clear hA hmin hy e2 h
  go_enter Try.func14, Try.ntmps14
  go_wp2_with (first | (go_at_call 22; refine (unhide G).mono ?_; rintro e w0 ⟨rfl, hw0⟩; subst w0) | (go_at_call 16; refine (unhide G2).mono ?_; rintro e w0 ⟨rfl, hw0⟩; subst w0) | (go_at_call 17; refine (unhide G3).mono ?_; rintro e w1 ⟨rfl, hc1, kp1⟩) | (go_at_call 23; refine (unhide G4 w1 hc1).mono ?_; rintro e w2 ⟨hc2, kp2, x, rfl⟩))
  all_goals
    go_ret
    have kp := kp1.trans kp2
    have hp := HA.out.turn hk hc2 hle.out kp
    rw [upd_self] at hp
    exact ⟨rfl, hp, kp.mono (fun b hb => .inr ⟨k, hk, hb⟩)⟩
end Go.Proofs.Ytjijikkcpnojcaa
