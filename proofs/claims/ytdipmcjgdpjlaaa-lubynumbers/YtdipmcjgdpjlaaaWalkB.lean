/- Contracts: a number of the row and the first ones together, by the program and by the document; awake. -/
import Derived.Test.YtdipmcjgdpjlaaaWalkA
set_option linter.unusedVariables false
set_option linter.unusedSimpArgs false
namespace Go.Proofs.Ytdipmcjgdpjlaaa
open Go.RowKit

set_option maxHeartbeats 400000 in
theorem number_no (x : Int) (w : World) (h : inB 1073741824 x = false) :
    Calls Try.prog 7 #[.int .i64 x] w fun e w' => e = .returned (.tuple #[.int .i64 0, .int .i64 1]) ∧ w' = w := by
  have C := isPlace_any x w
  rw [h] at C
  replace C := hide C
  clear h
  go_enter Try.func7, Try.ntmps7
  go_wp2_with (go_at_call 18; refine (unhide C).mono ?_; rintro e w0 ⟨rfl, hw0⟩; subst w0)
  go_ret2
  exact ⟨rfl, rfl⟩
set_option maxHeartbeats 400000 in
theorem number_yes (n : Nat) (w : World) (h : 1 ≤ n) (h1 : n ≤ 1073741824) :
    Calls Try.prog 7 #[.int .i64 (n : Int)] w fun e w' => e = .returned (.tuple #[.int .i64 (lub n : Int), .int .i64 0]) ∧ w' = w := by
  have C := isPlace_any n w
  rw [inB_mk (by omega) (by omega)] at C
  replace C := hide C
  have C2 := hide (numberAt_any n w h h1)
  clear h h1
  go_enter Try.func7, Try.ntmps7
  go_wp2_with (first
    | (go_at_call 18; refine (unhide C).mono ?_; rintro e w0 ⟨rfl, hw0⟩; subst w0)
    | (go_at_call 19; refine (unhide C2).mono ?_; rintro e w0 ⟨rfl, hw0⟩; subst w0))
  go_ret2
  exact ⟨rfl, rfl⟩

set_option maxHeartbeats 400000 in
theorem sum_no (x : Int) (w : World) (h : x < 0 ∨ 1073741824 < x) :
    Calls Try.prog 9 #[.int .i64 x] w fun e w' => e = .returned (.tuple #[.int .i64 0, .int .i64 1]) ∧ w' = w := by
  have C := isPlace_any x w
  rw [inB_no (by omega)] at C
  replace C := hide C
  have hx : (x == 0) = false := by simp; omega
  have hx1 : (x != 0) = true := by simp; omega
  clear h
  go_enter Try.func9, Try.ntmps9
  go_wp2_with (go_at_call 18; refine (unhide C).mono ?_; rintro e w0 ⟨rfl, hw0⟩; subst w0)
  all_goals go_ret2
  all_goals exact ⟨rfl, rfl⟩

set_option maxHeartbeats 4000000 in
set_option maxRecDepth 100000 in
theorem sum_yes (n : Nat) (w : World) (h1 : n ≤ 1073741824) :
    Calls Try.prog 9 #[.int .i64 (n : Int)] w fun e w' => e = .returned (.tuple #[.int .i64 (sumL n : Int), .int .i64 0]) ∧ w' = w := by
  have C : Hid (1 ≤ n → Calls Try.prog 18 #[.int .i64 (n : Int)] w fun e w' => e = .returned (.bool true) ∧ w' = w) := fun hn => by
    have C := isPlace_any n w
    rw [inB_mk (by omega) (by omega)] at C
    exact C
  have HT := hide (sumL_top h1)
  by_cases h0 : n = 0
  all_goals
    have hz : ((n : Int) == 0) = decide (n = 0) := by rw [Bool.eq_iff_iff]; simp
    have hz1 : ((n : Int) != 0) = !decide (n = 0) := by rw [← hz]; rfl
    first | (rw [decide_eq_true h0] at hz hz1; rw [Bool.not_true] at hz1) | (rw [decide_eq_false h0] at hz hz1; rw [Bool.not_false] at hz1)
    have H0 := hide h0
    clear h0
    go_enter Try.func9, Try.ntmps9
    go_wp2_with (go_at_call 18; refine (unhide C (by have := H0.out; omega)).mono ?_; rintro e w0 ⟨rfl, hw0⟩; subst w0)
    go_loop [0, 4] (fun x t => ∃ m s : Nat, m ≤ 1073741824 ∧ s ≤ 66571993088 ∧ x = .int .i64 (m : Int) ∧ t = .int .i64 (s : Int) ∧ Hid (s + sumL m = sumL n)) (fun x _ => (intOf x).toNat)
    case atStart => exact ⟨n, 0, h1, by omega, rfl, rfl, by show _ = _; omega⟩
    case round =>
      obtain ⟨m, s, hm, hs, rfl, rfl, HL⟩ := hrel
      clear h1 C hz hz1 H0
      by_cases hm0 : 0 < m
      · obtain ⟨k', a, b⟩ := log_ex (m + 1) (by omega)
        obtain ⟨k, rfl⟩ : ∃ k, k' = k + 1 := ⟨k' - 1, by
          cases k' with
          | zero => simp at b; omega
          | succ k => omega⟩
        have hk : k ≤ 29 := by have := log_le a (f := 31) (by omega); omega
        have C := hide (len_any (m + 1) (k + 1) w (by omega) a b)
        obtain ⟨P, hPe, hP, hP1, hP0⟩ : ∃ P : Nat, Hid (2 ^ k = P) ∧ ((2 : Int) ^ k = (P : Int)) ∧ P ≤ 536870912 ∧ 1 ≤ P :=
          ⟨2 ^ k, rfl, by push_cast; rfl, Nat.pow_le_pow_right (n := 2) (by omega) hk, Nat.two_pow_pos k⟩
        have hv : Hid (sumL m = (k + 1) * P + sumL (m + 1 - 2 * P)) := by
          show _ = _
          rw [sumL_step (by omega) a b, Nat.pow_succ, hPe.out, Nat.mul_comm P 2]
        obtain ⟨S, hS, hSi⟩ : ∃ S : Nat, Hid (S = (k + 1) * P) ∧ ((k : Int) + 1) * (P : Int) = (S : Int) := ⟨(k + 1) * P, rfl, by push_cast; rfl⟩
        have hP2 : (2 : Int) ^ (k + 1) = 2 * (P : Int) := by rw [Int.pow_succ, hP]; omega
        have hSb : S ≤ 16106127360 := by
          have := Nat.mul_le_mul (show k + 1 ≤ 30 by omega) hP1
          have := hS.out
          omega
        have hlow : 2 * P ≤ m + 1 := by rw [Nat.pow_succ, hPe.out] at a; omega
        have hsum : s + S ≤ 66571993088 := by
          have := HT.out; have := HL.out; have := hv.out; have := hS.out
          omega
        clear a b
        go_wp2_with (go_at_call 20; refine (unhide C).mono ?_; rintro e w0 ⟨rfl, hw0⟩; subst w0)
        go_round
        case rel => exact ⟨m + 1 - 2 * P, s + S, by omega, hsum, by congr 1; omega, by go_num, by
          show _ = _
          rw [← HL.out, hv.out, hS.out, Nat.add_assoc]⟩
        case measure => simp [intOf]; omega
      · have e : m = 0 := by omega
        subst e
        go_wp2
        go_ret2
        exact ⟨by rw [← HL.out]; rfl, rfl⟩

set_option maxHeartbeats 4000000 in
set_option maxRecDepth 100000 in
theorem refNumber_upto : ∀ (N n : Nat) (w : World), n ≤ N → 1 ≤ n → n ≤ 1073741824 →
    Calls Try.prog 8 #[.int .i64 (n : Int)] w fun e w' => e = .returned (.int .i64 (lub n : Int)) ∧ w' = w
  | 0, n, w, h0, h, _ => by omega
  | N + 1, n, w, h0, h, h1 => by
    obtain ⟨k, a, b⟩ := log_ex n h
    have hk : k ≤ 30 := by have := log_le a (f := 31) (by omega); omega
    obtain ⟨K, hKe, hK1, hK0⟩ : ∃ K : Nat, Hid (2 ^ k = K) ∧ K ≤ 1073741824 ∧ 1 ≤ K :=
      ⟨2 ^ k, rfl, Nat.pow_le_pow_right (n := 2) (by omega) hk, Nat.two_pow_pos k⟩
    have hKn : K ≤ n := by rw [← hKe.out]; exact a
    have hnK : n < 2 * K := by rw [Nat.pow_succ, hKe.out] at b; omega
    have CR : Hid (¬ n + 1 = 2 * K → Calls Try.prog 8 #[.int .i64 (n - (K - 1) : Int)] w fun e w' => e = .returned (.int .i64 (lub n : Int)) ∧ w' = w) := fun hne => by
      have hs : lub n = lub (n + 1 - K) := by
        rw [lub_step (n := n) (k := k) (by omega) a (by rw [Nat.pow_succ, hKe.out]; omega), hKe.out]
      by_cases hK2 : 2 ≤ K
      · have := refNumber_upto N (n + 1 - K) w (by omega) (by omega) (by omega)
        rw [← hs] at this
        have e : ((n : Int) - ((K : Int) - 1)) = ((n + 1 - K : Nat) : Int) := by omega
        rw [e]; exact this
      · omega
    have HE : Hid (n + 1 = 2 * K → lub n = K) := fun he => by
      rw [lub_end (n := n) (k := k) (by rw [Nat.pow_succ, hKe.out]; omega), hKe.out]
    clear a b h0
    go_enter Try.func8, Try.ntmps8
    go_wp2
    go_loop [3, 4] (fun x y => ∃ j P : Nat, j ≤ k ∧ Hid (2 ^ j = P) ∧ 1 ≤ P ∧ P ≤ K ∧ Hid (j = k → P = K) ∧ x = .int .i64 (2 * (P : Int) - 1) ∧ y = .int .i64 (P : Int)) (fun x _ => (2147483648 - intOf x).toNat)
    case atStart => exact ⟨0, 1, Nat.zero_le _, rfl, Nat.le_refl _, hK0, fun h => by rw [← hKe.out, ← h], rfl, rfl⟩
    case round =>
      obtain ⟨j, P, hj, hP, hP0, hPK, HJ, rfl, rfl⟩ := hrel
      by_cases hjk : j < k
      · have hle : 2 * P ≤ K := by
          have : 2 ^ (j + 1) ≤ 2 ^ k := Nat.pow_le_pow_right (by omega) hjk
          rw [Nat.pow_succ, hP.out, hKe.out] at this; omega
        have hlt : 2 * (P : Int) - 1 < (n : Int) := by omega
        clear CR HE HJ
        go_wp2
        go_round
        case rel => exact ⟨j + 1, 2 * P, hjk, (by show _ = _; rw [Nat.pow_succ, hP.out]; omega), by omega, by omega, (fun e => by
            have := hKe.out
            rw [← e, Nat.pow_succ, hP.out] at this; omega), by congr 1; omega, by congr 1; omega⟩
        case measure => simp [intOf]; omega
      · have e : P = K := HJ.out (by omega)
        subst e
        clear HJ hjk hKe
        have hlt : ¬ (2 * (P : Int) - 1 < (n : Int)) := by omega
        by_cases he : n + 1 = 2 * P
        · have hv := hide (HE.out he)
          have hb : ((n : Int) == 2 * (P : Int) - 1) = true := by simp; omega
          clear HE CR he
          go_wp2
          go_ret
          exact ⟨ret_int (by rw [hv.out]), rfl⟩
        · have C := hide (CR.out he)
          have hb : ((n : Int) == 2 * (P : Int) - 1) = false := by simp; omega
          have hq : (2 * (P : Int) - 1 - 1) / 2 = (P : Int) - 1 := by omega
          clear HE CR he
          go_wp2_with (go_at_call 8; refine (unhide C).mono ?_; rintro e w0 ⟨rfl, hw0⟩; subst w0)
          go_ret
          exact ⟨rfl, rfl⟩
theorem refNumber_any (n : Nat) (w : World) (h : 1 ≤ n) (h1 : n ≤ 1073741824) :
    Calls Try.prog 8 #[.int .i64 (n : Int)] w fun e w' => e = .returned (.int .i64 (lub n : Int)) ∧ w' = w := refNumber_upto n n w (Nat.le_refl _) h h1

set_option maxHeartbeats 4000000 in
set_option maxRecDepth 100000 in
theorem refSum_any (n : Nat) (w : World) (h1 : n ≤ 3000) :
    Calls Try.prog 11 #[.int .i64 (n : Int)] w fun e w' => e = .returned (.int .i64 (sumL n : Int)) ∧ w' = w := by
  go_enter Try.func11, Try.ntmps11
  go_wp2
  go_loop [3, 4] (fun s i => ∃ k : Nat, k ≤ n ∧ i = .int .i64 (((k + 1 : Nat)) : Int) ∧ s = .int .i64 (sumL k : Int)) (fun _ i => n + 1 - (intOf i).toNat)
  case atStart => exact ⟨0, Nat.zero_le _, rfl, rfl⟩
  case round =>
    obtain ⟨k, hk, rfl, rfl⟩ := hrel
    by_cases hlt : k < n
    · have C := hide (refNumber_any (k + 1) w (by omega) (by omega))
      have hb := lub_bd (n := k + 1) (by omega) (by omega)
      have ht := sumL_top (n := k) (by omega)
      have HS : Hid ((sumL (k + 1) : Int) = (sumL k : Int) + (lub (k + 1) : Int)) := by show _ = _; simp only [sumL]; omega
      generalize lub (k + 1) = l at *
      generalize sumL k = s at *
      go_wp2_with (go_at_call 8; refine (unhide C).mono ?_; rintro e w0 ⟨rfl, hw0⟩; subst w0)
      go_round
      case rel => exact ⟨k + 1, hlt, by go_num, by rw [HS.out]⟩
      case measure => simp [intOf]; omega
    · have e : k = n := by omega
      subst e
      go_wp2
      go_ret
      exact ⟨rfl, rfl⟩

theorem lub7 : lub 7 = 4 := lub_end (k := 2) rfl
theorem sum7 : sumL 7 = 12 := sumL_full 2 (by omega)

set_option maxHeartbeats 400000 in
theorem awake_any (w : World) : Calls Try.prog 10 #[] w fun e w' => e = .returned (.bool true) ∧ w' = w := by
  have C := number_yes 7 w (by omega) (by omega)
  have C2 := sum_yes 7 w (by omega)
  rw [lub7] at C
  rw [sum7] at C2
  replace C := hide C
  replace C2 := hide C2
  go_enter Try.func10, Try.ntmps10
  go_wp2_with (first
    | (go_at_call 7; refine (unhide C).mono ?_; rintro e w0 ⟨rfl, hw0⟩; subst w0)
    | (go_at_call 9; refine (unhide C2).mono ?_; rintro e w0 ⟨rfl, hw0⟩; subst w0))
  go_ret
  exact ⟨rfl, rfl⟩

end Go.Proofs.Ytdipmcjgdpjlaaa
