/- Contracts of the small functions: literals, variables, whether a list is a clause, whether two lists are alike. -/
import Derived.Test.YtlmbgaconjcaiabRows
import Derived.Test.YtlmbgaconjcaiabPlain
import Derived.WalkKit
import Derived.WalkSpells
import Derived.BigQuiet
import Derived.WalkSmall
import Derived.WalkMore
import Derived.Deep.RegionWith
set_option linter.unusedVariables false
set_option linter.unusedSimpArgs false
namespace Go.Proofs.Ytlmbgaconjcaiab
open Go.RowKit

/-- A slice's numbers as they lie in memory. -/
def Row (w : World) (a : Option Addr) (xs : List Int) : Prop :=
  ∀ i (h : i < xs.length), ∃ b off, a = some ⟨b, off, none⟩ ∧ b < w.heap.size ∧ w.cell? ⟨b, off + i, none⟩ = some (.int .i64 xs[i])

theorem hide {p : Prop} (h : p) : Hid p := h

theorem unhide {p : Prop} (h : Hid p) : p := h

theorem ret_bool {a b : Bool} (h : a = b) : Ending.returned (.bool a) = .returned (.bool b) := by rw [h]

theorem ret_int {k : IntKind} {a b : Int} (h : a = b) : Ending.returned (.int k a) = .returned (.int k b) := by rw [h]

set_option maxHeartbeats 400000 in
theorem lit_any (l : Int) (w : World) :
    Calls Try.prog 18 #[.int .i64 l] w fun e w' => e = .returned (.bool (litB l 1048576)) ∧ w' = w := by
  go_enter Try.func18, Try.ntmps18
  go_wp2
  all_goals
    go_ret
    exact ⟨ret_bool (by simp [litB, *]; try omega), rfl⟩

set_option maxHeartbeats 400000 in
theorem var_any (l : Int) (w : World) (h0 : -1048576 ≤ l) (h1 : l ≤ 1048576) :
    Calls Try.prog 12 #[.int .i64 l] w fun e w' => e = .returned (.int .i64 (varI l)) ∧ w' = w := by
  go_enter Try.func12, Try.ntmps12
  go_wp2
  all_goals
    go_ret
    exact ⟨ret_int (by unfold varI; first | rw [if_pos ‹_›] | rw [if_neg (by omega)]), rfl⟩

set_option maxHeartbeats 400000 in
theorem may_any (a : Option Addr) (cap : Nat) (xs : List Int) (w : World) (hr : Row w a xs) (hl : xs.length ≤ maxLen) :
    Calls Try.prog 11 #[.slice a xs.length cap] w fun e w' => e = .returned (.bool (mayB xs 1048576)) ∧ w' = w := by
  unfold maxLen at hl
  go_enter Try.func11, Try.ntmps11
  go_wp2
  go_loop [3] (fun i => ∃ k : Nat, k ≤ xs.length ∧ i = .int .i64 k ∧ (xs.take k).all (fun x => litB x 1048576) = true) (fun i => xs.length - (intOf i).toNat)
  case atStart => exact ⟨0, Nat.zero_le _, rfl, rfl⟩
  case round =>
    obtain ⟨k, hk, rfl, hno⟩ := hrel
    have HN : Hid ((xs.take k).all (fun x => litB x 1048576) = true) := hno
    clear hno
    by_cases hlt : k < xs.length
    · obtain ⟨b, off, rfl, hb, hc⟩ := hr k hlt
      clear hr
      by_cases he : litB xs[k] 1048576 = true
      · go_wp2_with (go_at_call 18; refine (lit_any _ _).mono ?_; rintro e w' ⟨rfl, rfl⟩)
        go_round
        case rel => exact ⟨k + 1, by omega, by go_num, all_take_snoc _ xs k hlt HN.out he⟩
        case measure => simp [intOf]; omega
      · have he' : litB xs[k] 1048576 = false := by simpa using he
        go_wp2_with (go_at_call 18; refine (lit_any _ _).mono ?_; rintro e w' ⟨rfl, rfl⟩)
        go_ret
        exact ⟨ret_bool (mayB_no k hlt he').symm, rfl⟩
    · have hz : xs.length ≤ k := by omega
      clear hr
      go_wp2
      go_ret
      refine ⟨ret_bool ?_, rfl⟩
      have h := all_of_take hz HN.out
      unfold mayB; rw [h]; simp; omega

/-- An error's number: 1 (no clause), or 0. -/
def errI (b : Bool) : Int := if b then 0 else 1

def intsB (xs ys : List Int) : Bool := decide (xs = ys)

theorem Row.drewN {w : World} {a : Option Addr} {xs : List Int} (h : Row w a xs) (n : Nat) : Row (w.drewN n) a xs := h

theorem varI_pos {l : Int} (h : l ≠ 0) : 1 ≤ varI l := by unfold varI; split <;> omega

/-- A slice's number at a place that is reckoned. -/
theorem Row.at {w : World} {a : Option Addr} {xs : List Int} (h : Row w a xs) (v : Int) (h1 : 1 ≤ v) (h2 : v ≤ xs.length) :
    ∃ b off, a = some ⟨b, off, none⟩ ∧ b < w.heap.size ∧ w.cell? ⟨b, off + (v.toNat - 1), none⟩ = some (.int .i64 (xs.getD (v.toNat - 1) 0)) := by
  obtain ⟨b, off, ha, hb, hc⟩ := h (v.toNat - 1) (by omega)
  refine ⟨b, off, ha, hb, ?_⟩
  rw [hc, List.getD_eq_getElem?_getD, List.getElem?_eq_getElem (by omega)]; rfl

end Go.Proofs.Ytlmbgaconjcaiab
