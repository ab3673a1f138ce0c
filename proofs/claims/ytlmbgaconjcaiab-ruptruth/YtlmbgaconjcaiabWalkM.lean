/- Contracts of small functions of layer 1 and of the document: carried from stage 1. -/
import Derived.Test.YtlmbgaconjcaiabWalkL
set_option linter.unusedVariables false
set_option linter.unusedSimpArgs false
namespace Go.Proofs.Ytlmbgaconjcaiab
open Go.RowKit

set_option maxHeartbeats 400000 in
theorem isLiteral_any (l t : Int) (w : World) (h0 : 0 ≤ t) (h1 : t ≤ 1048576) :
    Calls Try.prog 46 #[.int .i64 l, .int .i64 t] w fun e w' => e = .returned (.bool (litB l t)) ∧ w' = w := by
  go_enter Try.func46, Try.ntmps46
  go_wp2
  all_goals
    go_ret
    exact ⟨ret_bool (by simp [litB, *]; try omega), rfl⟩

set_option maxHeartbeats 400000 in
theorem isClause_any (a : Option Addr) (cap : Nat) (xs : List Int) (t : Int) (w : World) (hr : Row w a xs) (hl : xs.length ≤ maxLen) (h0 : 0 ≤ t) (h1 : t ≤ 1048576) :
    Calls Try.prog 29 #[.slice a xs.length cap, .int .i64 t] w fun e w' => e = .returned (.bool (mayB xs t)) ∧ w' = w := by
  unfold maxLen at hl
  by_cases hw : 4096 < (xs.length : Int)
  · go_enter Try.func29, Try.ntmps29
    go_wp2
    go_ret
    exact ⟨ret_bool (mayB_long (by omega)).symm, rfl⟩
  go_enter Try.func29, Try.ntmps29
  go_wp2
  go_loop [12] (fun i => ∃ k : Nat, k ≤ xs.length ∧ i = .int .i64 k ∧ (xs.take k).all (fun x => litB x t) = true) (fun i => xs.length - (intOf i).toNat)
  case atStart => exact ⟨0, Nat.zero_le _, rfl, rfl⟩
  case round =>
    obtain ⟨k, hk, rfl, hno⟩ := hrel
    have HN : Hid ((xs.take k).all (fun x => litB x t) = true) := hno
    clear hno
    by_cases hlt : k < xs.length
    · obtain ⟨b, off, rfl, hb, hc⟩ := hr k hlt
      clear hr
      by_cases he : litB xs[k] t = true
      · go_wp2_with (go_at_call 46; refine (isLiteral_any _ _ _ h0 h1).mono ?_; rintro e w' ⟨rfl, rfl⟩)
        go_round
        case rel => exact ⟨k + 1, by omega, by go_num, all_take_snoc _ xs k hlt HN.out he⟩
        case measure => simp [intOf]; omega
      · have he' : litB xs[k] t = false := by simpa using he
        go_wp2_with (go_at_call 46; refine (isLiteral_any _ _ _ h0 h1).mono ?_; rintro e w' ⟨rfl, rfl⟩)
        go_ret
        exact ⟨ret_bool (mayB_no k hlt he').symm, rfl⟩
    · have hz : xs.length ≤ k := by omega
      clear hr
      go_wp2
      go_ret
      exact ⟨ret_bool (mayB_of (by omega) (all_of_take hz HN.out)).symm, rfl⟩

set_option maxHeartbeats 1000000 in
theorem checkCnf_any (a : Option Addr) (cap : Nat) (n : Int) (css : List (List Int)) (w : World) (hg : Grid w a css) (hl : css.length ≤ maxLen) :
    Calls Try.prog 20 #[.agg #[.int .i64 n, .slice a css.length cap]] w fun e w' => e = .returned (.int .i64 (errI (cnfB n css))) ∧ Below w.heap.size w w' := by
  have hbW := below_alloc w (.cells #[.int .i64 n, .slice a css.length cap] 24)
  have hg' := hg.below hbW
  clear hg
  have HB := hide hbW
  clear hbW
  unfold maxLen at hl
  by_cases h : 0 ≤ n ∧ n ≤ 1048576 ∧ css.length ≤ 262144
  case neg =>
    have HF := hide (cnfB_size h)
    clear hg'
    by_cases h1 : n < 0
    · clear h
      go_enter Try.func20, Try.ntmps20
      go_wp2
      go_ret
      exact ⟨ret_int (by rw [HF.out]; rfl), HB.out⟩
    by_cases h2 : 1048576 < n
    · clear h
      go_enter Try.func20, Try.ntmps20
      go_wp2
      go_ret
      exact ⟨ret_int (by rw [HF.out]; rfl), HB.out⟩
    · have h3 : 262144 < (css.length : Int) := by omega
      clear h
      go_enter Try.func20, Try.ntmps20
      go_wp2
      go_ret
      exact ⟨ret_int (by rw [HF.out]; rfl), HB.out⟩
  have HS := hide h
  obtain ⟨h1, h2, h3⟩ := h
  have h4 : (css.length : Int) ≤ 262144 := by omega
  go_enter Try.func20, Try.ntmps20
  go_wp2
  go_loop [22] (fun i => ∃ k : Nat, k ≤ css.length ∧ i = .int .i64 k ∧ (css.take k).all (fun c => mayB c n) = true) (fun i => css.length - (intOf i).toNat)
  case atStart => exact ⟨0, Nat.zero_le _, rfl, rfl⟩
  case round =>
    obtain ⟨k, hk, rfl, hno⟩ := hrel
    have HN := hide hno
    clear hno
    by_cases hlt : k < css.length
    · obtain ⟨b, off, ai, ci, rfl, hb, hc, hr, hm⟩ := hg' k hlt
      have C1 := isClause_any ai ci css[k] n _ hr hm h1 h2
      clear hg' hr
      unfold maxLen at hm
      by_cases h5 : mayB css[k] n = true
      · have HF := hide (allL_take_snoc (fun c => mayB c n) css k hlt HN.out h5)
        rw [h5] at C1
        replace C1 := hide C1
        clear h5
        go_wp2_with (go_at_call 29; refine (unhide C1).mono ?_; rintro e w' ⟨rfl, rfl⟩)
        go_round
        case rel => exact ⟨k + 1, by omega, by go_num, HF.out⟩
        case measure => simp [intOf]; omega
      · have h5' : mayB css[k] n = false := by simpa using h5
        have HF := hide (cnfB_at hlt h5')
        rw [h5'] at C1
        replace C1 := hide C1
        clear h5 h5'
        go_wp2_with (go_at_call 29; refine (unhide C1).mono ?_; rintro e w' ⟨rfl, rfl⟩)
        go_ret
        exact ⟨ret_int (by rw [HF.out]; rfl), HB.out⟩
    · clear hg'
      have HF := hide (cnfB_yes HS.out (allL_of_take (p := fun c => mayB c n) (xs := css) (k := k) (by omega) HN.out))
      go_wp2
      go_ret
      exact ⟨ret_int (by rw [HF.out]; rfl), HB.out⟩

def holdsB (m : List Int) (css : List (List Int)) : Bool := css.all (fun c => clauseI m c == 1)

end Go.Proofs.Ytlmbgaconjcaiab
