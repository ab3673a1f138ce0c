/- Contracts: the quota, the program's and the document's; whether some must go. -/
import Derived.Test.YtbmefipobnamjaaWalkA
set_option linter.unusedVariables false
set_option linter.unusedSimpArgs false
namespace Go.Proofs.Ytbmefipobnamjaa
open Go.RowKit

/-- A quota may be asked for. -/
def askB (f t : Int) : Bool := decide (1 ≤ f ∧ f ≤ 1048576 ∧ 0 ≤ t ∧ t ≤ 100)
/-- What the program tells. -/
def quoI (f t : Int) : Int := if askB f t then quo f t.toNat else 0

theorem quo_step {f : Int} (h0 : 1 ≤ f) (h1 : f ≤ 1048576) {k : Nat} (hk : k + 1 ≤ 100) : wrap64 (quo f k + wrap64 (wrap64 (quo f k / 10) + 1)) = quo f (k + 1) := by
  have a := quo_pos h0 k
  have b := quo_le h0 h1 (t := k) (by omega)
  have c := quo_le h0 h1 (t := k + 1) hk
  have e : quo f (k + 1) = quo f k + quo f k / 10 + 1 := rfl
  rw [IntWalk.wrap64_in (quo f k / 10) (by omega), IntWalk.wrap64_in (quo f k / 10 + 1) (by omega), IntWalk.wrap64_in _ (by omega)]
  omega

set_option maxHeartbeats 1000000 in
theorem quota_no (w : World) (f t : Int) (h : askB f t = false) :
    Calls Try.prog 10 #[.int .i64 f, .int .i64 t] w fun e w' => e = .returned (.int .i64 0) ∧ w' = w := by
  unfold askB at h
  rw [decide_eq_false_iff_not] at h
  by_cases h1 : f < 1
  · clear h
    go_enter Try.func10, Try.ntmps10
    go_wp2
    go_ret
    exact ⟨rfl, rfl⟩
  by_cases h2 : 1048576 < f
  · clear h
    go_enter Try.func10, Try.ntmps10
    go_wp2
    go_ret
    exact ⟨rfl, rfl⟩
  by_cases h3 : t < 0
  · clear h
    go_enter Try.func10, Try.ntmps10
    go_wp2
    go_ret
    exact ⟨rfl, rfl⟩
  have h4 : 100 < t := by omega
  clear h
  go_enter Try.func10, Try.ntmps10
  go_wp2
  go_ret
  exact ⟨rfl, rfl⟩

set_option maxHeartbeats 1000000 in
theorem quota_yes (w : World) (f : Int) (t : Nat) (h0 : 1 ≤ f) (h1 : f ≤ 1048576) (ht : t ≤ 100) :
    Calls Try.prog 10 #[.int .i64 f, .int .i64 (t : Int)] w fun e w' => e = .returned (.int .i64 (quo f t)) ∧ w' = w := by
  have n1 : ¬ f < 1 := by omega
  have n2 : ¬ 1048576 < f := by omega
  have n3 : ¬ (t : Int) < 0 := by omega
  have n4 : ¬ 100 < (t : Int) := by omega
  go_enter Try.func10, Try.ntmps10
  go_wp2
  go_loop [5, 22] (fun q i => ∃ k : Nat, k ≤ t ∧ i = .int .i64 k ∧ q = .int .i64 (quo f k)) (fun _ i => t - (intOf i).toNat)
  case atStart => exact ⟨0, Nat.zero_le _, rfl, rfl⟩
  case round =>
    obtain ⟨k, hk, rfl, rfl⟩ := hrel
    by_cases hlt : k < t
    · have HE := hide (quo_step h0 h1 (k := k) (by omega))
      have hp := quo_pos h0 k
      have hb := quo_le h0 h1 (t := k) (by omega)
      have HS : Hid (quo f (k + 1) = quo f k + (quo f k / 10 + 1)) := by show _ = _; show quo f k + quo f k / 10 + 1 = _; omega
      clear HE
      generalize quo f k = q1 at *
      go_wp2
      go_round
      case rel => exact ⟨k + 1, by omega, by go_num, by rw [HS.out]⟩
      case measure => simp [intOf]; omega
    · have hz : t = k := by omega
      subst hz
      go_wp2
      go_ret
      exact ⟨rfl, rfl⟩

theorem quoI_yes {f : Int} {t : Nat} (h0 : 1 ≤ f) (h1 : f ≤ 1048576) (ht : t ≤ 100) : quoI f (t : Int) = quo f t := by
  unfold quoI askB; rw [if_pos (by rw [decide_eq_true_eq]; omega)]; simp
theorem quoI_no {f t : Int} (h : askB f t = false) : quoI f t = 0 := by unfold quoI; rw [h]; rfl
theorem askB_true {f t : Int} : askB f t = true ↔ (1 ≤ f ∧ f ≤ 1048576 ∧ 0 ≤ t ∧ t ≤ 100) := by unfold askB; rw [decide_eq_true_eq]

theorem quota_any (w : World) (f t : Int) :
    Calls Try.prog 10 #[.int .i64 f, .int .i64 t] w fun e w' => e = .returned (.int .i64 (quoI f t)) ∧ w' = w := by
  by_cases h : askB f t = true
  · obtain ⟨h0, h1, h2, h3⟩ := askB_true.1 h
    obtain ⟨n, rfl⟩ := Int.eq_ofNat_of_zero_le h2
    have := quota_yes w f n h0 h1 (by omega)
    rw [quoI_yes h0 h1 (by omega)]
    exact this
  · have h' : askB f t = false := by simpa using h
    have := quota_no w f t h'
    rw [quoI_no h']
    exact this

/-- Whether some must go. -/
def dueB (n f t : Int) : Bool := decide (0 < quoI f t ∧ quoI f t ≤ n)

set_option maxHeartbeats 1000000 in
theorem due_any (w : World) (n f t : Int) :
    Calls Try.prog 11 #[.int .i64 n, .int .i64 f, .int .i64 t] w fun e w' => e = .returned (.bool (dueB n f t)) ∧ w' = w := by
  have C := hide (fun w => quota_any w f t)
  unfold dueB
  generalize quoI f t = q at *
  by_cases h : 0 < q
  · go_enter Try.func11, Try.ntmps11
    go_wp2_with (go_at_call 10; refine (unhide C _).mono ?_; rintro e w0 ⟨rfl, hw0⟩; subst w0)
    go_ret
    exact ⟨ret_bool (by rw [Bool.eq_iff_iff]; simp [h]), rfl⟩
  · go_enter Try.func11, Try.ntmps11
    go_wp2_with (go_at_call 10; refine (unhide C _).mono ?_; rintro e w0 ⟨rfl, hw0⟩; subst w0)
    go_ret
    exact ⟨ret_bool (by rw [Bool.eq_iff_iff]; simp; omega), rfl⟩

set_option maxHeartbeats 1000000 in
theorem refQuota_any (f : Int) (h0 : 1 ≤ f) (h1 : f ≤ 1048576) : ∀ (t : Nat) (w : World), t ≤ 100 →
    Calls Try.prog 12 #[.int .i64 f, .int .i64 (t : Int)] w fun e w' => e = .returned (.int .i64 (quo f t)) ∧ w' = w
  | 0, w, _ => by
    show Calls Try.prog 12 #[.int .i64 f, .int .i64 0] w fun e w' => e = .returned (.int .i64 f) ∧ w' = w
    go_enter Try.func12, Try.ntmps12
    go_wp2
    go_ret
    exact ⟨rfl, rfl⟩
  | t + 1, w, ht => by
    have C := hide (fun w => refQuota_any f h0 h1 t w (by omega))
    have hp := quo_pos h0 t
    have hb := quo_le h0 h1 (t := t) (by omega)
    have HS : Hid (quo f (t + 1) = quo f t + quo f t / 10 + 1) := rfl
    have ew : ((t + 1 : Nat) : Int) = (t : Int) + 1 := by omega
    rw [ew]
    generalize quo f (t + 1) = q2 at *
    generalize quo f t = q1 at *
    have hn : ¬ (t : Int) + 1 = 0 := by omega
    have hn' : ((t : Int) + 1 == 0) = false := by simpa using hn
    have hs : wrap64 ((t : Int) + 1 - 1) = t := by rw [IntWalk.wrap64_in _ (by omega)]; omega
    clear ew hn
    go_enter Try.func12, Try.ntmps12
    go_wp2_with (go_at_call 12; refine (unhide C _).mono ?_; rintro e w0 ⟨rfl, hw0⟩; subst w0)
    go_ret
    exact ⟨ret_int (by rw [HS.out]), rfl⟩

end Go.Proofs.Ytbmefipobnamjaa
