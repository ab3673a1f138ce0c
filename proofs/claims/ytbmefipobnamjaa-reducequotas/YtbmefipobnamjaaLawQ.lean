/- The law of quotas, walked: it returns true at any three numbers. -/
import Derived.Test.YtbmefipobnamjaaWalkH
set_option linter.unusedVariables false
set_option linter.unusedSimpArgs false
namespace Go.Proofs.Ytbmefipobnamjaa
open Go.RowKit

set_option maxHeartbeats 2000000 in
theorem quotas_no (w : World) (f t n : Int) (h : askB f t = false) : Calls Try.prog 4 #[.int .i64 f, .int .i64 t, .int .i64 n] w fun e w' => e = .returned (.bool true) ∧ Below w.heap.size w w' := by
  have CQ := fun w => quota_any w f t
  rw [quoI_no h] at CQ
  have CD := fun w => due_any w n f t
  have hd : dueB n f t = false := by unfold dueB; rw [quoI_no h]; simp
  rw [hd] at CD
  have CA := hide awake_any
  replace CQ := hide CQ
  replace CD := hide CD
  unfold askB at h
  rw [decide_eq_false_iff_not] at h
  clear hd
  by_cases h1 : f < 1
  · clear h
    go_enter Try.func4, Try.ntmps4
    go_wp2_with (first | (go_at_call 10; refine (unhide CQ _).mono ?_; rintro e w0 ⟨rfl, hw0⟩; subst w0) | (go_at_call 11; refine (unhide CD _).mono ?_; rintro e w0 ⟨rfl, hw0⟩; subst w0) | (go_at_call 6; refine (unhide CA _).mono ?_; rintro e w9 ⟨rfl, hb9⟩))
    go_ret
    exact ⟨rfl, hb9⟩
  by_cases h2 : 1048576 < f
  · clear h
    go_enter Try.func4, Try.ntmps4
    go_wp2_with (first | (go_at_call 10; refine (unhide CQ _).mono ?_; rintro e w0 ⟨rfl, hw0⟩; subst w0) | (go_at_call 11; refine (unhide CD _).mono ?_; rintro e w0 ⟨rfl, hw0⟩; subst w0) | (go_at_call 6; refine (unhide CA _).mono ?_; rintro e w9 ⟨rfl, hb9⟩))
    go_ret
    exact ⟨rfl, hb9⟩
  by_cases h3 : t < 0
  · clear h
    go_enter Try.func4, Try.ntmps4
    go_wp2_with (first | (go_at_call 10; refine (unhide CQ _).mono ?_; rintro e w0 ⟨rfl, hw0⟩; subst w0) | (go_at_call 11; refine (unhide CD _).mono ?_; rintro e w0 ⟨rfl, hw0⟩; subst w0) | (go_at_call 6; refine (unhide CA _).mono ?_; rintro e w9 ⟨rfl, hb9⟩))
    go_ret
    exact ⟨rfl, hb9⟩
  have h4 : 100 < t := by omega
  clear h
  go_enter Try.func4, Try.ntmps4
  go_wp2_with (first | (go_at_call 10; refine (unhide CQ _).mono ?_; rintro e w0 ⟨rfl, hw0⟩; subst w0) | (go_at_call 11; refine (unhide CD _).mono ?_; rintro e w0 ⟨rfl, hw0⟩; subst w0) | (go_at_call 6; refine (unhide CA _).mono ?_; rintro e w9 ⟨rfl, hb9⟩))
  go_ret
  exact ⟨rfl, hb9⟩

set_option maxHeartbeats 2000000 in
theorem quotas_yes (w : World) (f n : Int) (t : Nat) (h0 : 1 ≤ f) (h1 : f ≤ 1048576) (ht : t ≤ 100) : Calls Try.prog 4 #[.int .i64 f, .int .i64 (t : Int), .int .i64 n] w fun e w' => e = .returned (.bool true) ∧ Below w.heap.size w w' := by
  have CQ := hide (fun w => quota_yes w f t h0 h1 ht)
  have CR := hide (fun w => refQuota_any f h0 h1 t w ht)
  have CD := fun w => due_any w n f (t : Int)
  have hp := quo_pos h0 t
  have hd : dueB n f (t : Int) = decide (quo f t ≤ n) := by
    unfold dueB; rw [quoI_yes h0 h1 ht, decide_eq_decide]; omega
  rw [hd] at CD
  have CA := hide awake_any
  replace CD := hide CD
  have n1 : ¬ f < 1 := by omega
  have n2 : ¬ 1048576 < f := by omega
  have n3 : ¬ (t : Int) < 0 := by omega
  have n4 : ¬ 100 < (t : Int) := by omega
  have hge : (decide (quo f t ≤ n) != decide (n ≥ quo f t)) = false := by simp
  have hge2 : (decide (quo f t ≤ n) != decide (quo f t ≤ n)) = false := by simp
  clear hd
  by_cases e100 : t = 100
  · have d100 : ((t : Int) == 100) = true := by simp [e100]
    clear e100 ht
    generalize quo f t = q at *
    go_enter Try.func4, Try.ntmps4
    go_wp2_with (first | (go_at_call 10; refine (unhide CQ _).mono ?_; rintro e w0 ⟨rfl, hw0⟩; subst w0) | (go_at_call 12; refine (unhide CR _).mono ?_; rintro e w0 ⟨rfl, hw0⟩; subst w0) | (go_at_call 11; refine (unhide CD _).mono ?_; rintro e w0 ⟨rfl, hw0⟩; subst w0) | (go_at_call 6; refine (unhide CA _).mono ?_; rintro e w9 ⟨rfl, hb9⟩))
    go_ret
    exact ⟨rfl, hb9⟩
  · have d100 : ((t : Int) == 100) = false := by simp; omega
    have CQ2 := fun w => quota_yes w f (t + 1) h0 h1 (by omega)
    have eT : ((t + 1 : Nat) : Int) = (t : Int) + 1 := by omega
    rw [eT] at CQ2
    have hg : decide (quo f t < quo f (t + 1)) = true := by simpa using quo_grows h0 t
    replace CQ2 := hide CQ2
    clear e100 eT
    generalize quo f (t + 1) = q2 at *
    generalize quo f t = q at *
    go_enter Try.func4, Try.ntmps4
    go_upto_region 6 with (first | (go_at_call 10; refine (unhide CQ _).mono ?_; rintro e w0 ⟨rfl, hw0⟩; subst w0) | (go_at_call 12; refine (unhide CR _).mono ?_; rintro e w0 ⟨rfl, hw0⟩; subst w0) | (go_at_call 11; refine (unhide CD _).mono ?_; rintro e w0 ⟨rfl, hw0⟩; subst w0))
    clear CQ CR CD
    go_wp2_with (first | (go_at_call 10; refine (unhide CQ2 _).mono ?_; rintro e w0 ⟨rfl, hw0⟩; subst w0) | (go_at_call 6; refine (unhide CA _).mono ?_; rintro e w9 ⟨rfl, hb9⟩))
    go_ret
    exact ⟨rfl, hb9⟩

theorem quotas_any (w : World) (f t n : Int) : Calls Try.prog 4 #[.int .i64 f, .int .i64 t, .int .i64 n] w fun e w' => e = .returned (.bool true) ∧ Below w.heap.size w w' := by
  by_cases h : askB f t = true
  · obtain ⟨h0, h1, h2, h3⟩ := askB_true.1 h
    obtain ⟨m, rfl⟩ := Int.eq_ofNat_of_zero_le h2
    exact quotas_yes w f n m h0 h1 (by omega)
  · exact quotas_no w f t n (by simpa using h)

end Go.Proofs.Ytbmefipobnamjaa
