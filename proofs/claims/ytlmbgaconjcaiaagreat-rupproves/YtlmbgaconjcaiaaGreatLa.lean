/- Contracts of the document's own words: a clause that is unit, one that is broken, two lists that are alike. -/
import Derived.Test.YtlmbgaconjcaiaaGreatPlainR
import Derived.Test.YtlmbgaconjcaiaaGreatWalkM
set_option linter.unusedVariables false
set_option linter.unusedSimpArgs false
namespace Go.Proofs.YtlmbgaconjcaiaaGreat
open Go.RowKit

theorem hasB_true {t : List Int} {x : Int} : hasB t x = true ↔ x ∈ t := by unfold hasB; rw [List.any_eq_true]; simp
theorem hasB_false {t : List Int} {x : Int} : hasB t x = false ↔ x ∉ t := by rw [← hasB_true]; simp
theorem wrap_neg' {l : Int} (h : -1048576 ≤ l ∧ l ≤ 1048576) : IntKind.i64.wrap (-l) = -l := by rw [IntKind.wrap_i64]; omega

set_option maxRecDepth 100000 in
set_option maxHeartbeats 1000000 in
theorem refBroken_any (a b : Option Addr) (ca cb : Nat) (c t : List Int) (w : World) (hr : Row w a c) (hs : Row w b t) (hl : c.length ≤ 1000000) (hm : t.length ≤ maxLen) (hx : ∀ x ∈ c, -1048576 ≤ x ∧ x ≤ 1048576) :
    Calls Tryz.prog 49 #[.slice a c.length ca, .slice b t.length cb] w fun e w' => e = .returned (.bool (brokenP t c)) ∧ w' = w := by
  have HH : Hid (∀ n, Calls Tryz.prog 31 #[.slice b t.length cb, .int .i64 n] w fun e w' => e = .returned (.bool (hasB t n)) ∧ w' = w) := fun n => has_any b cb t n w hs hm
  clear hs hm
  go_enter Tryz.func49, Tryz.ntmps49
  go_wp2
  go_loopw [5] (fun j wr => ∃ k : Nat, k ≤ c.length ∧ j = .int .i64 k ∧ Hid (brokenP t (c.drop k) = brokenP t c) ∧ wr = w) (fun j _ => c.length - (intOf j).toNat)
  case atStart => exact ⟨0, Nat.zero_le _, rfl, rfl, rfl⟩
  case round =>
    obtain ⟨k, hk, rfl, HS, hw⟩ := hrel
    subst hw
    by_cases hlt : k < c.length
    · obtain ⟨bb, off, rfl, hbb, hcell⟩ := hr k hlt
      have hki : (k : Int) < c.length := by omega
      have hb := hx c[k] (List.getElem_mem hlt)
      have hwn := wrap_neg' hb
      have HS2 := HS.out
      rw [List.drop_eq_getElem_cons hlt] at HS2
      have HX := HH.out (-c[k])
      have e0 : brokenP t (c[k] :: c.drop (k + 1)) = (hasB t (-c[k]) && brokenP t (c.drop (k + 1))) := by
        unfold brokenP
        rw [List.all_cons]
        congr 1
        cases h : hasB t (-c[k]) with
        | true => exact decide_eq_true (hasB_true.1 h)
        | false => exact decide_eq_false (hasB_false.1 h)
      rw [e0] at HS2
      clear hr hx e0
      generalize c[k] = x at *
      cases hA : hasB t (-x) with
      | true =>
        rw [hA] at HX HS2
        simp only [Bool.true_and] at HS2
        replace HX := hide HX
        replace HS2 := hide HS2
        go_wp2_with (go_at_call 31; refine (unhide HX).mono ?_; rintro e w0 ⟨rfl, hw0⟩; subst w0)
        go_roundw
        case rel => exact ⟨k + 1, by omega, by go_num, HS2, by trivial⟩
        case measure => simp [intOf]; omega
      | false =>
        rw [hA] at HX HS2
        simp only [Bool.false_and] at HS2
        replace HX := hide HX
        replace HS2 := hide HS2
        go_wp2_with (go_at_call 31; refine (unhide HX).mono ?_; rintro e w0 ⟨rfl, hw0⟩; subst w0)
        go_ret
        exact ⟨ret_bool HS2.out, rfl⟩
    · have hkl : c.drop k = [] := List.drop_eq_nil_of_le (by omega)
      have HS2 := HS.out
      rw [hkl] at HS2
      replace HS2 := hide HS2
      clear hr hx hkl
      go_wp2
      go_ret
      exact ⟨ret_bool HS2.out, rfl⟩

set_option maxRecDepth 100000 in
set_option maxHeartbeats 1000000 in
theorem refUnit_any (a b : Option Addr) (ca cb : Nat) (c t : List Int) (w : World) (hr : Row w a c) (hs : Row w b t) (hl : c.length ≤ 1000000) (hm : t.length ≤ maxLen) (hx : ∀ x ∈ c, -1048576 ≤ x ∧ x ≤ 1048576) :
    Calls Tryz.prog 50 #[.slice a c.length ca, .slice b t.length cb] w fun e w' => e = .returned (.int .i64 (unitR t c 0)) ∧ w' = w := by
  have HH : Hid (∀ n, Calls Tryz.prog 31 #[.slice b t.length cb, .int .i64 n] w fun e w' => e = .returned (.bool (hasB t n)) ∧ w' = w) := fun n => has_any b cb t n w hs hm
  clear hs hm
  go_enter Tryz.func50, Tryz.ntmps50
  go_wp2
  go_loopw [5, 6] (fun o j wr => ∃ (k : Nat) (op : Int), k ≤ c.length ∧ j = .int .i64 k ∧ o = .int .i64 op ∧ Hid (unitR t (c.drop k) op = unitR t c 0) ∧ wr = w) (fun _ j _ => c.length - (intOf j).toNat)
  case atStart => exact ⟨0, 0, Nat.zero_le _, rfl, rfl, rfl, rfl⟩
  case round =>
    obtain ⟨k, op, hk, rfl, rfl, HS, hw⟩ := hrel
    subst hw
    by_cases hlt : k < c.length
    · obtain ⟨bb, off, rfl, hbb, hcell⟩ := hr k hlt
      have hki : (k : Int) < c.length := by omega
      have hb := hx c[k] (List.getElem_mem hlt)
      have hwn := wrap_neg' hb
      have HS2 := HS.out
      rw [List.drop_eq_getElem_cons hlt] at HS2
      simp only [unitR] at HS2
      clear hr hx
      generalize c[k] = x at *
      cases hA : hasB t x with
      | true =>
        rw [if_pos (hasB_true.1 hA)] at HS2
        replace HS2 := hide HS2
        go_wp2_with (go_at_call 31; refine (HH.out _).mono ?_; rintro e w0 ⟨rfl, hw0⟩; subst w0; rw [hA])
        go_ret
        exact ⟨ret_int HS2.out, rfl⟩
      | false =>
        rw [if_neg (hasB_false.1 hA)] at HS2
        cases hB : hasB t (-x) with
        | true =>
          rw [if_pos (.inl (hasB_true.1 hB))] at HS2
          replace HS2 := hide HS2
          go_wp2_with (go_at_call 31; refine (HH.out _).mono ?_; rintro e w0 ⟨rfl, hw0⟩; subst w0; first | rw [hA] | rw [hB])
          go_roundw
          case rel => exact ⟨k + 1, op, by omega, by go_num, rfl, HS2, by trivial⟩
          case measure => simp [intOf]; omega
        | false =>
          by_cases hC : x = op
          · rw [if_pos (.inr hC)] at HS2
            replace HS2 := hide HS2
            have hC' : (x == op) = true := by simpa using hC
            clear hC
            go_wp2_with (go_at_call 31; refine (HH.out _).mono ?_; rintro e w0 ⟨rfl, hw0⟩; subst w0; first | rw [hA] | rw [hB])
            go_roundw
            case rel => exact ⟨k + 1, op, by omega, by go_num, rfl, HS2, by trivial⟩
            case measure => simp [intOf]; omega
          · rw [if_neg (by rintro (h | h); exact hasB_false.1 hB h; exact hC h)] at HS2
            have hC' : (x == op) = false := by simpa using hC
            clear hC
            by_cases hD : op = 0
            · rw [if_neg (by simpa using hD)] at HS2
              replace HS2 := hide HS2
              subst hD
              go_wp2_with (go_at_call 31; refine (HH.out _).mono ?_; rintro e w0 ⟨rfl, hw0⟩; subst w0; first | rw [hA] | rw [hB])
              go_roundw
              case rel => exact ⟨k + 1, x, by omega, by go_num, rfl, HS2, by trivial⟩
              case measure => simp [intOf]; omega
            · rw [if_pos hD] at HS2
              replace HS2 := hide HS2
              have hD' : (op != 0) = true := by simp [hD]
              clear hD
              go_wp2_with (go_at_call 31; refine (HH.out _).mono ?_; rintro e w0 ⟨rfl, hw0⟩; subst w0; first | rw [hA] | rw [hB])
              go_ret
              exact ⟨ret_int HS2.out, rfl⟩
    · have hkl : c.drop k = [] := List.drop_eq_nil_of_le (by omega)
      have HS2 := HS.out
      rw [hkl] at HS2
      simp only [unitR] at HS2
      replace HS2 := hide HS2
      clear hr hx hkl
      go_wp2
      go_ret
      exact ⟨ret_int HS2.out, rfl⟩

def alikeB (xs ys : List Int) : Bool := xs.all (fun x => hasB ys x) && (ys.all (fun x => hasB xs x) && decide (xs.length = ys.length))

end Go.Proofs.YtlmbgaconjcaiaaGreat
