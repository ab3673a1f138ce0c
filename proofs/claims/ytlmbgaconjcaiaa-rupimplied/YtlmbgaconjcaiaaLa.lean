/- Contracts of the document's own words: a clause that is unit, one that is broken, two lists that are alike. -/
import Derived.Test.YtlmbgaconjcaiaaPlainR
import Derived.Test.YtlmbgaconjcaiaaWalkM
set_option linter.unusedVariables false
set_option linter.unusedSimpArgs false
namespace Go.Proofs.Ytlmbgaconjcaiaa
open Go.RowKit

theorem hasB_true {t : List Int} {x : Int} : hasB t x = true ↔ x ∈ t := by unfold hasB; rw [List.any_eq_true]; simp
theorem hasB_false {t : List Int} {x : Int} : hasB t x = false ↔ x ∉ t := by rw [← hasB_true]; simp
theorem wrap_neg' {l : Int} (h : -1048576 ≤ l ∧ l ≤ 1048576) : IntKind.i64.wrap (-l) = -l := by rw [IntKind.wrap_i64]; omega

set_option maxRecDepth 100000 in
set_option maxHeartbeats 1000000 in
theorem refBroken_any (a b : Option Addr) (ca cb : Nat) (c t : List Int) (w : World) (hr : Row w a c) (hs : Row w b t) (hl : c.length ≤ 1000000) (hm : t.length ≤ maxLen) (hx : ∀ x ∈ c, -1048576 ≤ x ∧ x ≤ 1048576) :
    Calls Try.prog 41 #[.slice a c.length ca, .slice b t.length cb] w fun e w' => e = .returned (.bool (brokenP t c)) ∧ w' = w := by
  have HH : Hid (∀ n, Calls Try.prog 40 #[.slice b t.length cb, .int .i64 n] w fun e w' => e = .returned (.bool (hasB t n)) ∧ w' = w) := fun n => has_any b cb t n w hs hm
  clear hs hm
  go_enter Try.func41, Try.ntmps41
  go_wp2
  go_loopw [5] (fun j wr => ∃ k : Nat, k ≤ c.length ∧ j = .int .i64 k ∧ Hid (brokenP t (c.drop k) = brokenP t c) ∧ wr = w) (fun j _ => c.length - (intOf j).toNat)
  case atStart => exact ⟨0, Nat.zero_le _, rfl, rfl, rfl⟩
  case round =>
    obtain ⟨k, hk, rfl, HS, hw⟩ := hrel
    subst hw
    by_cases hlt : k < c.length
    · obtain ⟨bb, off, rfl, hbb, hcell⟩ := hr k hlt
      have hki : (k : Int) < c.length := by omega
      have hb := hx c[k] (List.getElem_mem hlt)
      have hwn := wrap_neg' hb
      have HS2 := HS.out
      rw [List.drop_eq_getElem_cons hlt] at HS2
      have HX := HH.out (-c[k])
      have e0 : brokenP t (c[k] :: c.drop (k + 1)) = (hasB t (-c[k]) && brokenP t (c.drop (k + 1))) := by
        unfold brokenP
        rw [List.all_cons]
        congr 1
        cases h : hasB t (-c[k]) with
        | true => exact decide_eq_true (hasB_true.1 h)
        | false => exact decide_eq_false (hasB_false.1 h)
      rw [e0] at HS2
      clear hr hx e0
      generalize c[k] = x at *
      cases hA : hasB t (-x) with
      | true =>
        rw [hA] at HX HS2
        simp only [Bool.true_and] at HS2
        replace HX := hide HX
        replace HS2 := hide HS2
        go_wp2_with (go_at_call 40; refine (unhide HX).mono ?_; rintro e w0 ⟨rfl, hw0⟩; subst w0)
        go_roundw
        case rel => exact ⟨k + 1, by omega, by go_num, HS2, by trivial⟩
        case measure => simp [intOf]; omega
      | false =>
        rw [hA] at HX HS2
        simp only [Bool.false_and] at HS2
        replace HX := hide HX
        replace HS2 := hide HS2
        go_wp2_with (go_at_call 40; refine (unhide HX).mono ?_; rintro e w0 ⟨rfl, hw0⟩; subst w0)
        go_ret
        exact ⟨ret_bool HS2.out, rfl⟩
    · have hkl : c.drop k = [] := List.drop_eq_nil_of_le (by omega)
      have HS2 := HS.out
      rw [hkl] at HS2
      replace HS2 := hide HS2
      clear hr hx hkl
      go_wp2
      go_ret
      exact ⟨ret_bool HS2.out, rfl⟩

set_option maxRecDepth 100000 in
set_option maxHeartbeats 1000000 in
theorem refUnit_any (a b : Option Addr) (ca cb : Nat) (c t : List Int) (w : World) (hr : Row w a c) (hs : Row w b t) (hl : c.length ≤ 1000000) (hm : t.length ≤ maxLen) (hx : ∀ x ∈ c, -1048576 ≤ x ∧ x ≤ 1048576) :
    Calls Try.prog 77 #[.slice a c.length ca, .slice b t.length cb] w fun e w' => e = .returned (.int .i64 (unitR t c 0)) ∧ w' = w := by
  have HH : Hid (∀ n, Calls Try.prog 40 #[.slice b t.length cb, .int .i64 n] w fun e w' => e = .returned (.bool (hasB t n)) ∧ w' = w) := fun n => has_any b cb t n w hs hm
  clear hs hm
  go_enter Try.func77, Try.ntmps77
  go_wp2
  go_loopw [5, 6] (fun o j wr => ∃ (k : Nat) (op : Int), k ≤ c.length ∧ j = .int .i64 k ∧ o = .int .i64 op ∧ Hid (unitR t (c.drop k) op = unitR t c 0) ∧ wr = w) (fun _ j _ => c.length - (intOf j).toNat)
  case atStart => exact ⟨0, 0, Nat.zero_le _, rfl, rfl, rfl, rfl⟩
  case round =>
    obtain ⟨k, op, hk, rfl, rfl, HS, hw⟩ := hrel
    subst hw
    by_cases hlt : k < c.length
    · obtain ⟨bb, off, rfl, hbb, hcell⟩ := hr k hlt
      have hki : (k : Int) < c.length := by omega
      have hb := hx c[k] (List.getElem_mem hlt)
      have hwn := wrap_neg' hb
      have HS2 := HS.out
      rw [List.drop_eq_getElem_cons hlt] at HS2
      simp only [unitR] at HS2
      clear hr hx
      generalize c[k] = x at *
      cases hA : hasB t x with
      | true =>
        rw [if_pos (hasB_true.1 hA)] at HS2
        replace HS2 := hide HS2
        go_wp2_with (go_at_call 40; refine (HH.out _).mono ?_; rintro e w0 ⟨rfl, hw0⟩; subst w0; rw [hA])
        go_ret
        exact ⟨ret_int HS2.out, rfl⟩
      | false =>
        rw [if_neg (hasB_false.1 hA)] at HS2
        cases hB : hasB t (-x) with
        | true =>
          rw [if_pos (.inl (hasB_true.1 hB))] at HS2
          replace HS2 := hide HS2
          go_wp2_with (go_at_call 40; refine (HH.out _).mono ?_; rintro e w0 ⟨rfl, hw0⟩; subst w0; first | rw [hA] | rw [hB])
          go_roundw
          case rel => exact ⟨k + 1, op, by omega, by go_num, rfl, HS2, by trivial⟩
          case measure => simp [intOf]; omega
        | false =>
          by_cases hC : x = op
          · rw [if_pos (.inr hC)] at HS2
            replace HS2 := hide HS2
            have hC' : (x == op) = true := by simpa using hC
            clear hC
            go_wp2_with (go_at_call 40; refine (HH.out _).mono ?_; rintro e w0 ⟨rfl, hw0⟩; subst w0; first | rw [hA] | rw [hB])
            go_roundw
            case rel => exact ⟨k + 1, op, by omega, by go_num, rfl, HS2, by trivial⟩
            case measure => simp [intOf]; omega
          · rw [if_neg (by rintro (h | h); exact hasB_false.1 hB h; exact hC h)] at HS2
            have hC' : (x == op) = false := by simpa using hC
            clear hC
            by_cases hD : op = 0
            · rw [if_neg (by simpa using hD)] at HS2
              replace HS2 := hide HS2
              subst hD
              go_wp2_with (go_at_call 40; refine (HH.out _).mono ?_; rintro e w0 ⟨rfl, hw0⟩; subst w0; first | rw [hA] | rw [hB])
              go_roundw
              case rel => exact ⟨k + 1, x, by omega, by go_num, rfl, HS2, by trivial⟩
              case measure => simp [intOf]; omega
            · rw [if_pos hD] at HS2
              replace HS2 := hide HS2
              have hD' : (op != 0) = true := by simp [hD]
              clear hD
              go_wp2_with (go_at_call 40; refine (HH.out _).mono ?_; rintro e w0 ⟨rfl, hw0⟩; subst w0; first | rw [hA] | rw [hB])
              go_ret
              exact ⟨ret_int HS2.out, rfl⟩
    · have hkl : c.drop k = [] := List.drop_eq_nil_of_le (by omega)
      have HS2 := HS.out
      rw [hkl] at HS2
      simp only [unitR] at HS2
      replace HS2 := hide HS2
      clear hr hx hkl
      go_wp2
      go_ret
      exact ⟨ret_int HS2.out, rfl⟩

def alikeB (xs ys : List Int) : Bool := xs.all (fun x => hasB ys x) && (ys.all (fun x => hasB xs x) && decide (xs.length = ys.length))

set_option maxRecDepth 100000 in
set_option maxHeartbeats 2000000 in
theorem refAlike_any (a b : Option Addr) (ca cb : Nat) (xs ys : List Int) (w : World) (hr : Row w a xs) (hs : Row w b ys) (hl : xs.length ≤ maxLen) (hm : ys.length ≤ maxLen) :
    Calls Try.prog 18 #[.slice a xs.length ca, .slice b ys.length cb] w fun e w' => e = .returned (.bool (alikeB xs ys)) ∧ w' = w := by
  have HY : Hid (∀ n, Calls Try.prog 40 #[.slice b ys.length cb, .int .i64 n] w fun e w' => e = .returned (.bool (hasB ys n)) ∧ w' = w) := fun n => has_any b cb ys n w hs hm
  have HX : Hid (∀ n, Calls Try.prog 40 #[.slice a xs.length ca, .int .i64 n] w fun e w' => e = .returned (.bool (hasB xs n)) ∧ w' = w) := fun n => has_any a ca xs n w hr hl
  have HR := hide hr
  have HS := hide hs
  unfold maxLen at hl hm
  clear hr hs
  go_enter Try.func18, Try.ntmps18
  go_wp2
  go_loopw [5] (fun j wr => ∃ k : Nat, k ≤ xs.length ∧ j = .int .i64 k ∧ Hid ((xs.drop k).all (fun x => hasB ys x) = xs.all (fun x => hasB ys x)) ∧ wr = w) (fun j _ => xs.length - (intOf j).toNat)
  case atStart => exact ⟨0, Nat.zero_le _, rfl, rfl, rfl⟩
  case round =>
    obtain ⟨k, hk, rfl, HS1, hw⟩ := hrel
    subst hw
    by_cases hlt : k < xs.length
    · obtain ⟨bb, off, rfl, hbb, hcell⟩ := HR.out k hlt
      have hki : (k : Int) < xs.length := by omega
      have HS2 := HS1.out
      rw [List.drop_eq_getElem_cons hlt, List.all_cons] at HS2
      generalize xs[k] = x at *
      cases hA : hasB ys x with
      | true =>
        rw [hA, Bool.true_and] at HS2
        replace HS2 := hide HS2
        go_wp2_with (go_at_call 40; refine (HY.out _).mono ?_; rintro e w0 ⟨rfl, hw0⟩; subst w0; rw [hA])
        go_roundw
        case rel => exact ⟨k + 1, by omega, by go_num, HS2, by trivial⟩
        case measure => simp [intOf]; omega
      | false =>
        rw [hA, Bool.false_and] at HS2
        have HE : Hid (alikeB xs ys = false) := by unfold Hid alikeB; rw [← HS2]; rfl
        clear HS2 HS1
        go_wp2_with (go_at_call 40; refine (HY.out _).mono ?_; rintro e w0 ⟨rfl, hw0⟩; subst w0; rw [hA])
        go_ret
        exact ⟨ret_bool HE.out.symm, rfl⟩
    · have hkl : xs.drop k = [] := List.drop_eq_nil_of_le (by omega)
      have HA1 : Hid (xs.all (fun x => hasB ys x) = true) := by unfold Hid; rw [← HS1.out, hkl]; rfl
      clear HS1 hkl HY
      go_wp2
      go_loopw [6] (fun j wr2 => ∃ k2 : Nat, k2 ≤ ys.length ∧ j = .int .i64 k2 ∧ Hid ((ys.drop k2).all (fun x => hasB xs x) = ys.all (fun x => hasB xs x)) ∧ wr2 = wr) (fun j _ => ys.length - (intOf j).toNat)
      case atStart => exact ⟨0, Nat.zero_le _, rfl, rfl, rfl⟩
      case round =>
        obtain ⟨k2, hk2, rfl, HS3, hw2⟩ := hrel
        subst hw2
        by_cases hlt2 : k2 < ys.length
        · obtain ⟨bb, off, rfl, hbb, hcell⟩ := HS.out k2 hlt2
          have hki2 : (k2 : Int) < ys.length := by omega
          have HS2 := HS3.out
          rw [List.drop_eq_getElem_cons hlt2, List.all_cons] at HS2
          generalize ys[k2] = x at *
          cases hA : hasB xs x with
          | true =>
            rw [hA, Bool.true_and] at HS2
            replace HS2 := hide HS2
            go_wp2_with (go_at_call 40; refine (HX.out _).mono ?_; rintro e w0 ⟨rfl, hw0⟩; subst w0; rw [hA])
            go_roundw
            case rel => exact ⟨k2 + 1, by omega, by go_num, HS2, by trivial⟩
            case measure => simp [intOf]; omega
          | false =>
            rw [hA, Bool.false_and] at HS2
            have HE : Hid (alikeB xs ys = false) := by unfold Hid alikeB; rw [← HS2]; simp
            clear HS2 HS3
            go_wp2_with (go_at_call 40; refine (HX.out _).mono ?_; rintro e w0 ⟨rfl, hw0⟩; subst w0; rw [hA])
            go_ret
            exact ⟨ret_bool HE.out.symm, rfl⟩
        · have hkl2 : ys.drop k2 = [] := List.drop_eq_nil_of_le (by omega)
          have HE : Hid (alikeB xs ys = decide (xs.length = ys.length)) := by
            unfold Hid alikeB; rw [HA1.out, ← HS3.out, hkl2]; simp
          clear HS3 hkl2
          go_wp2
          go_ret
          exact ⟨ret_bool (by rw [HE.out]; first | rfl | (by_cases h : xs.length = ys.length <;> simp [h] <;> omega)), rfl⟩
end Go.Proofs.Ytlmbgaconjcaiaa
