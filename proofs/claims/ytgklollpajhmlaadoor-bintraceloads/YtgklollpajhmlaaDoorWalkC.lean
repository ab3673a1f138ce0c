/- Contracts of the program: whether a list is a clause; which number of a clause a word is. -/
import Derived.Test.YtgklollpajhmlaaDoorWalkB
set_option linter.unusedVariables false
set_option linter.unusedSimpArgs false
namespace Go.Proofs.YtgklollpajhmlaaDoor
open Go.RowKit

set_option maxHeartbeats 400000 in
theorem isLiteral_any (l t : Int) (w : World) (h0 : 0 ≤ t) (h1 : t ≤ 1048576) :
    Calls Tryd.prog 44 #[.int .i64 l, .int .i64 t] w fun e w' => e = .returned (.bool (litB l t)) ∧ w' = w := by
  go_enter Tryd.func44, Tryd.ntmps44
  go_wp2
  all_goals
    go_ret
    exact ⟨ret_bool (by simp [litB, *]; try omega), rfl⟩

set_option maxHeartbeats 400000 in
theorem isClause_any (a : Option Addr) (cap : Nat) (xs : List Int) (t : Int) (w : World) (hr : Row w a xs) (hl : xs.length ≤ maxLen) (h0 : 0 ≤ t) (h1 : t ≤ 1048576) :
    Calls Tryd.prog 38 #[.slice a xs.length cap, .int .i64 t] w fun e w' => e = .returned (.bool (mayB xs t)) ∧ w' = w := by
  unfold maxLen at hl
  by_cases hw : 4096 < (xs.length : Int)
  · go_enter Tryd.func38, Tryd.ntmps38
    go_wp2
    go_ret
    exact ⟨ret_bool (mayB_long (by omega)).symm, rfl⟩
  go_enter Tryd.func38, Tryd.ntmps38
  go_wp2
  go_loop [12] (fun i => ∃ k : Nat, k ≤ xs.length ∧ i = .int .i64 k ∧ (xs.take k).all (fun x => litB x t) = true) (fun i => xs.length - (intOf i).toNat)
  case atStart => exact ⟨0, Nat.zero_le _, rfl, rfl⟩
  case round =>
    obtain ⟨k, hk, rfl, hno⟩ := hrel
    have HN : Hid ((xs.take k).all (fun x => litB x t) = true) := hno
    clear hno
    by_cases hlt : k < xs.length
    · obtain ⟨b, off, rfl, hb, hc⟩ := hr k hlt
      clear hr
      by_cases he : litB xs[k] t = true
      · go_wp2_with (go_at_call 44; refine (isLiteral_any _ _ _ h0 h1).mono ?_; rintro e w' ⟨rfl, rfl⟩)
        go_round
        case rel => exact ⟨k + 1, by omega, by go_num, all_take_snoc _ xs k hlt HN.out he⟩
        case measure => simp [intOf]; omega
      · have he' : litB xs[k] t = false := by simpa using he
        go_wp2_with (go_at_call 44; refine (isLiteral_any _ _ _ h0 h1).mono ?_; rintro e w' ⟨rfl, rfl⟩)
        go_ret
        exact ⟨ret_bool (mayB_no k hlt he').symm, rfl⟩
    · have hz : xs.length ≤ k := by omega
      clear hr
      go_wp2
      go_ret
      exact ⟨ret_bool (mayB_of (by omega) (all_of_take hz HN.out)).symm, rfl⟩

set_option maxHeartbeats 400000 in
theorem check_any (a : Option Addr) (cap : Nat) (xs : List Int) (w : World) (hr : Row w a xs) (hl : xs.length ≤ maxLen) :
    Calls Tryd.prog 30 #[.slice a xs.length cap] w fun e w' => e = .returned (.int .i64 (errI (mayB xs 1048576))) ∧ w' = w := by
  have C := isClause_any a cap xs 1048576 w hr hl (by decide) (by decide)
  clear hr
  cases h : mayB xs 1048576
  all_goals
    rw [h] at C
    replace C := hide C
    clear h
    go_enter Tryd.func30, Tryd.ntmps30
    go_wp2_with (go_at_call 38; refine (unhide C).mono ?_; rintro e w0 ⟨rfl, hw0⟩; subst w0)
    go_ret
    exact ⟨rfl, rfl⟩

theorem mayB_one (n : Int) : mayB [n] 1048576 = litB n 1048576 := by simp [mayB]

set_option maxHeartbeats 800000 in
theorem clauseNumber_any (v : List UInt8) (w : World) (hl : v.length ≤ maxLen) :
    Calls Tryd.prog 35 #[.string (str v)] w fun e w' => e = .returned (.tuple #[.int .i64 (cnV v), .bool (cnB v)]) ∧ Below w.heap.size w w' := by
  have C := number_any v w hl
  cases hn : numB v with
  | false =>
    have HF : Hid (cnB v = false) := by show _ = _; unfold cnB; rw [hn]; rfl
    rw [hn] at C
    replace C := hide C
    clear hn
    go_enter Tryd.func35, Tryd.ntmps35
    go_wp2_with (go_at_call 42; refine (unhide C).mono ?_; rintro e w0 ⟨rfl, hw0⟩; subst w0)
    go_ret2
    exact ⟨ret_num (cnV_no HF.out).symm HF.out.symm, Below.refl _ _⟩
  | true =>
    rw [hn] at C
    by_cases h0 : numV v = 0
    · have HF : Hid (cnB v = true) := by show _ = _; unfold cnB; rw [hn, h0]; rfl
      have HV : Hid (cnV v = 0) := by show _ = _; unfold cnV; rw [HF.out, h0]; rfl
      rw [h0] at C
      replace C := hide C
      clear hn h0
      go_enter Tryd.func35, Tryd.ntmps35
      go_wp2_with (go_at_call 42; refine (unhide C).mono ?_; rintro e w0 ⟨rfl, hw0⟩; subst w0)
      go_ret2
      exact ⟨ret_num HV.out.symm HF.out.symm, Below.refl _ _⟩
    · have HF : Hid (cnB v = litB (numV v) 1048576) := by show _ = _; unfold cnB; rw [hn]; simp [h0]
      have HV : Hid (cnV v = if litB (numV v) 1048576 then numV v else 0) := by show _ = _; unfold cnV; rw [HF.out]
      generalize numV v = n at *
      have hne : (n != 0) = true := by simpa using h0
      have K := check_any (some ⟨w.heap.size, 0, none⟩) 1 [n] (w.alloc (.cells #[.int .i64 n] 3)) (lit_row w [n]) (by simp [maxLen])
      rw [mayB_one] at K
      replace C := hide C
      cases hlit : litB n 1048576
      all_goals
        rw [hlit] at K
        replace K := hide K
        have HL := hide hlit
        clear hn h0 hlit
        go_enter Tryd.func35, Tryd.ntmps35
        go_wp2_with (first
          | (go_at_call 42; refine (unhide C).mono ?_; rintro e w0 ⟨rfl, hw0⟩; subst w0)
          | (go_at_call 30; refine (unhide K).mono ?_; rintro e w0 ⟨rfl, hw0⟩; subst w0))
        go_ret2
        exact ⟨ret_num (by rw [HV.out, HL.out]; rfl) (by rw [HF.out, HL.out]), below_alloc _ _⟩

end Go.Proofs.YtgklollpajhmlaaDoor
