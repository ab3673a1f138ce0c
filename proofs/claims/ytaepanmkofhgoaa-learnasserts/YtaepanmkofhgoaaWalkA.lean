/- Contracts of the small functions: literals, variables, whether a list is a clause. -/
import Derived.Test.YtaepanmkofhgoaaRows
import Derived.Test.YtaepanmkofhgoaaPlain
import Derived.WalkKit
import Derived.WalkSpells
import Derived.BigQuiet
set_option linter.unusedVariables false
set_option linter.unusedSimpArgs false
namespace Go.Proofs.Ytaepanmkofhgoaa
open Go.RowKit

/-- A slice's numbers as they lie in memory. -/
def Row (w : World) (a : Option Addr) (xs : List Int) : Prop :=
  ∀ i (h : i < xs.length), ∃ b off, a = some ⟨b, off, none⟩ ∧ b < w.heap.size ∧ w.cell? ⟨b, off + i, none⟩ = some (.int .i64 xs[i])

theorem hide {p : Prop} (h : p) : Hid p := h
theorem unhide {p : Prop} (h : Hid p) : p := h
theorem ret_bool {a b : Bool} (h : a = b) : Ending.returned (.bool a) = .returned (.bool b) := by rw [h]
theorem ret_int {k : IntKind} {a b : Int} (h : a = b) : Ending.returned (.int k a) = .returned (.int k b) := by rw [h]

set_option maxHeartbeats 400000 in
theorem lit_any (l : Int) (w : World) :
    Calls Try.prog 17 #[.int .i64 l] w fun e w' => e = .returned (.bool (litB l 1048576)) ∧ w' = w := by
  go_enter Try.func17, Try.ntmps17
  go_wp2
  all_goals
    go_ret
    exact ⟨ret_bool (by simp [litB, *]; try omega), rfl⟩

set_option maxHeartbeats 400000 in
theorem isLiteral_any (l t : Int) (w : World) (h0 : 0 ≤ t) (h1 : t ≤ 1048576) :
    Calls Try.prog 69 #[.int .i64 l, .int .i64 t] w fun e w' => e = .returned (.bool (litB l t)) ∧ w' = w := by
  go_enter Try.func69, Try.ntmps69
  go_wp2
  all_goals
    go_ret
    exact ⟨ret_bool (by simp [litB, *]; try omega), rfl⟩

set_option maxHeartbeats 400000 in
theorem var_any (l : Int) (w : World) (h0 : -1048576 ≤ l) (h1 : l ≤ 1048576) :
    Calls Try.prog 44 #[.int .i64 l] w fun e w' => e = .returned (.int .i64 (varI l)) ∧ w' = w := by
  go_enter Try.func44, Try.ntmps44
  go_wp2
  all_goals
    go_ret
    exact ⟨ret_int (by unfold varI; first | rw [if_pos ‹_›] | rw [if_neg (by omega)]), rfl⟩

set_option maxHeartbeats 400000 in
theorem has_any (a : Option Addr) (cap : Nat) (xs : List Int) (n : Int) (w : World) (hr : Row w a xs) (hl : xs.length ≤ maxLen) :
    Calls Try.prog 33 #[.slice a xs.length cap, .int .i64 n] w fun e w' => e = .returned (.bool (hasB xs n)) ∧ w' = w := by
  unfold maxLen at hl
  go_enter Try.func33, Try.ntmps33
  go_wp2
  go_loop [5] (fun i => ∃ k : Nat, k ≤ xs.length ∧ i = .int .i64 k ∧ (xs.take k).any (fun x => x == n) = false) (fun i => xs.length - (intOf i).toNat)
  case atStart => exact ⟨0, Nat.zero_le _, rfl, rfl⟩
  case round =>
    obtain ⟨k, hk, rfl, hno⟩ := hrel
    have HN : Hid ((xs.take k).any (fun x => x == n) = false) := hno
    clear hno
    by_cases hlt : k < xs.length
    · obtain ⟨b, off, rfl, hb, hc⟩ := hr k hlt
      clear hr
      by_cases he : (xs[k] == n) = true
      · go_wp2
        go_ret
        exact ⟨ret_bool (any_true_at _ xs k hlt he).symm, rfl⟩
      · have he' : (xs[k] == n) = false := by simpa using he
        go_wp2
        go_round
        case rel => exact ⟨k + 1, by omega, by go_num, any_take_snoc _ xs k hlt HN.out he'⟩
        case measure => simp [intOf]; omega
    · have hz : k = xs.length := by omega
      clear hr
      go_wp2
      go_ret
      exact ⟨ret_bool (by have h := HN.out; rw [hz, List.take_length] at h; exact h.symm), rfl⟩

set_option maxHeartbeats 400000 in
theorem may_any (a : Option Addr) (cap : Nat) (xs : List Int) (w : World) (hr : Row w a xs) (hl : xs.length ≤ maxLen) :
    Calls Try.prog 29 #[.slice a xs.length cap] w fun e w' => e = .returned (.bool (mayB xs 1048576)) ∧ w' = w := by
  unfold maxLen at hl
  go_enter Try.func29, Try.ntmps29
  go_wp2
  go_loop [3] (fun i => ∃ k : Nat, k ≤ xs.length ∧ i = .int .i64 k ∧ (xs.take k).all (fun x => litB x 1048576) = true) (fun i => xs.length - (intOf i).toNat)
  case atStart => exact ⟨0, Nat.zero_le _, rfl, rfl⟩
  case round =>
    obtain ⟨k, hk, rfl, hno⟩ := hrel
    have HN : Hid ((xs.take k).all (fun x => litB x 1048576) = true) := hno
    clear hno
    by_cases hlt : k < xs.length
    · obtain ⟨b, off, rfl, hb, hc⟩ := hr k hlt
      clear hr
      by_cases he : litB xs[k] 1048576 = true
      · go_wp2_with (go_at_call 17; refine (lit_any _ _).mono ?_; rintro e w' ⟨rfl, rfl⟩)
        go_round
        case rel => exact ⟨k + 1, by omega, by go_num, all_take_snoc _ xs k hlt HN.out he⟩
        case measure => simp [intOf]; omega
      · have he' : litB xs[k] 1048576 = false := by simpa using he
        go_wp2_with (go_at_call 17; refine (lit_any _ _).mono ?_; rintro e w' ⟨rfl, rfl⟩)
        go_ret
        exact ⟨ret_bool (mayB_no k hlt he').symm, rfl⟩
    · have hz : xs.length ≤ k := by omega
      clear hr
      go_wp2
      go_ret
      refine ⟨ret_bool ?_, rfl⟩
      have h := all_of_take hz HN.out
      unfold mayB; rw [h]; simp; omega

set_option maxHeartbeats 400000 in
theorem isClause_any (a : Option Addr) (cap : Nat) (xs : List Int) (t : Int) (w : World) (hr : Row w a xs) (hl : xs.length ≤ maxLen) (h0 : 0 ≤ t) (h1 : t ≤ 1048576) :
    Calls Try.prog 62 #[.slice a xs.length cap, .int .i64 t] w fun e w' => e = .returned (.bool (mayB xs t)) ∧ w' = w := by
  unfold maxLen at hl
  by_cases hw : 4096 < (xs.length : Int)
  · go_enter Try.func62, Try.ntmps62
    go_wp2
    go_ret
    exact ⟨ret_bool (mayB_long (by omega)).symm, rfl⟩
  go_enter Try.func62, Try.ntmps62
  go_wp2
  go_loop [12] (fun i => ∃ k : Nat, k ≤ xs.length ∧ i = .int .i64 k ∧ (xs.take k).all (fun x => litB x t) = true) (fun i => xs.length - (intOf i).toNat)
  case atStart => exact ⟨0, Nat.zero_le _, rfl, rfl⟩
  case round =>
    obtain ⟨k, hk, rfl, hno⟩ := hrel
    have HN : Hid ((xs.take k).all (fun x => litB x t) = true) := hno
    clear hno
    by_cases hlt : k < xs.length
    · obtain ⟨b, off, rfl, hb, hc⟩ := hr k hlt
      clear hr
      by_cases he : litB xs[k] t = true
      · go_wp2_with (go_at_call 69; refine (isLiteral_any _ _ _ h0 h1).mono ?_; rintro e w' ⟨rfl, rfl⟩)
        go_round
        case rel => exact ⟨k + 1, by omega, by go_num, all_take_snoc _ xs k hlt HN.out he⟩
        case measure => simp [intOf]; omega
      · have he' : litB xs[k] t = false := by simpa using he
        go_wp2_with (go_at_call 69; refine (isLiteral_any _ _ _ h0 h1).mono ?_; rintro e w' ⟨rfl, rfl⟩)
        go_ret
        exact ⟨ret_bool (mayB_no k hlt he').symm, rfl⟩
    · have hz : xs.length ≤ k := by omega
      clear hr
      go_wp2
      go_ret
      exact ⟨ret_bool (mayB_of (by omega) (all_of_take hz HN.out)).symm, rfl⟩

/-- An error's number: 1 (no clause), or 0. -/
def errI (b : Bool) : Int := if b then 0 else 1

set_option maxHeartbeats 400000 in
theorem check_any (a : Option Addr) (cap : Nat) (xs : List Int) (w : World) (hr : Row w a xs) (hl : xs.length ≤ maxLen) :
    Calls Try.prog 49 #[.slice a xs.length cap] w fun e w' => e = .returned (.int .i64 (errI (mayB xs 1048576))) ∧ w' = w := by
  have hcl := isClause_any a cap xs 1048576 w hr hl (by omega) (by omega)
  by_cases he : mayB xs 1048576 = true
  · go_enter Try.func49, Try.ntmps49
    go_wp2_with (go_at_call 62; refine hcl.mono ?_; rintro e w' ⟨rfl, rfl⟩)
    go_ret
    exact ⟨ret_int (by simp [errI, *]), rfl⟩
  · have he' : mayB xs 1048576 = false := by simpa using he
    clear he
    go_enter Try.func49, Try.ntmps49
    go_wp2_with (go_at_call 62; refine hcl.mono ?_; rintro e w' ⟨rfl, rfl⟩)
    go_ret
    exact ⟨ret_int (by simp [errI, *]), rfl⟩

end Go.Proofs.Ytaepanmkofhgoaa
