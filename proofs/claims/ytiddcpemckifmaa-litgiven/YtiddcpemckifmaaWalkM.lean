/- Contracts over formulas: by which models they hold, which are alike. -/
import Derived.Test.YtiddcpemckifmaaWalkL
set_option linter.unusedVariables false
set_option linter.unusedSimpArgs false
namespace Go.Proofs.Ytiddcpemckifmaa
open Go.RowKit

def holdsB (m : List Int) (css : List (List Int)) : Bool := css.all (fun c => clauseI m c == 1)

set_option maxHeartbeats 1000000 in
theorem refHolds_any (a am : Option Addr) (cap cm : Nat) (n : Int) (css : List (List Int)) (m : List Int) (w : World) (hg : Grid w a css) (hl : css.length ≤ maxLen) (hq : Row w am m) (hml : m.length ≤ maxLen) :
    Calls Try.prog 26 #[.agg #[.int .i64 n, .slice a css.length cap], .slice am m.length cm] w fun e w' => e = .returned (.bool (holdsB m css)) ∧ Below w.heap.size w w' := by
  have hbW := below_alloc w (.cells #[.int .i64 n, .slice a css.length cap] 36)
  have hg' := hg.below hbW
  have hq' := hq.below hbW
  clear hg hq
  have HB := hide hbW
  have HQ := hide hq'
  have HML := hide hml
  clear hbW hq' hml
  unfold maxLen at hl
  go_enter Try.func26, Try.ntmps26
  go_wp2
  go_loop [5] (fun i => ∃ k : Nat, k ≤ css.length ∧ i = .int .i64 k ∧ (css.take k).all (fun c => clauseI m c == 1) = true) (fun i => css.length - (intOf i).toNat)
  case atStart => exact ⟨0, Nat.zero_le _, rfl, rfl⟩
  case round =>
    obtain ⟨k, hk, rfl, hno⟩ := hrel
    have HN := hide hno
    clear hno
    by_cases hlt : k < css.length
    · obtain ⟨b, off, ai, ci, rfl, hb, hc, hr, hm⟩ := hg' k hlt
      have C1 := hide (refClause_any am ai cm ci m css[k] _ HQ.out hr HML.out hm)
      clear hg' hr
      unfold maxLen at hm
      by_cases h5 : clauseI m css[k] = 1
      · have h5' : (clauseI m css[k] != 1) = false := by simp [h5]
        have HF := hide (allL_take_snoc (fun c => clauseI m c == 1) css k hlt HN.out (by simp [h5]))
        clear h5
        generalize clauseI m css[k] = q at *
        go_wp2_with (go_at_call 19; refine (unhide C1).mono ?_; rintro e w' ⟨rfl, rfl⟩)
        go_round
        case rel => exact ⟨k + 1, by omega, by go_num, HF.out⟩
        case measure => simp [intOf]; omega
      · have h5' : (clauseI m css[k] != 1) = true := by simp [h5]
        have HF := hide (allL_false_at (fun c => clauseI m c == 1) css k hlt (by simp [h5]))
        clear h5
        generalize clauseI m css[k] = q at *
        go_wp2_with (go_at_call 19; refine (unhide C1).mono ?_; rintro e w' ⟨rfl, rfl⟩)
        go_ret
        exact ⟨ret_bool HF.out.symm, HB.out⟩
    · clear hg'
      have HF := hide (allL_of_take (p := fun c => clauseI m c == 1) (xs := css) (k := k) (by omega) HN.out)
      go_wp2
      go_ret
      exact ⟨ret_bool HF.out.symm, HB.out⟩

def listsB (xs ys : List (List Int)) : Bool := decide (xs = ys)

theorem takeL_eq_snoc {xs ys : List (List Int)} {k : Nat} (h1 : k < xs.length) (h2 : k < ys.length) (h : xs.take k = ys.take k) (he : xs[k] = ys[k]) : xs.take (k + 1) = ys.take (k + 1) := by
  rw [List.take_succ_eq_append_getElem h1, List.take_succ_eq_append_getElem h2, h, he]

theorem quiet_shift2 {P : Program} {f : FuncId} {args : Array Value} {w : World} {n k : Nat} {v : Value}
    (h : Calls P f args (w.drewN (n + k)) fun e w' => e = .returned v ∧ ∃ j, w' = (w.drewN (n + k)).drewN j) : Calls P f args (w.drewN (n + k)) fun e w'' => e = .returned v ∧ ∃ m, w'' = w.drewN (n + m) :=
  h.mono fun _ _ ⟨he, j, hm⟩ => ⟨he, k + j, by rw [hm, World.drewN_drewN, Nat.add_assoc]⟩

set_option maxHeartbeats 1000000 in
theorem lists_any (a b : Option Addr) (ca cb : Nat) (xs ys : List (List Int)) (w : World) (hr : Grid w a xs) (hs : Grid w b ys) (hl : xs.length ≤ maxLen) (hm : ys.length ≤ maxLen) :
    Calls Try.prog 44 #[.slice a xs.length ca, .slice b ys.length cb] w fun e w' => e = .returned (.bool (listsB xs ys)) ∧ ∃ n, w' = w.drewN n := by
  unfold maxLen at hl hm
  by_cases hne : (xs.length : Int) = ys.length
  case neg =>
    have hb : ((xs.length : Int) != ys.length) = true := by rw [bne_iff_ne]; exact hne
    clear hr hs
    go_enter Try.func44, Try.ntmps44
    go_wp2
    go_ret
    exact ⟨ret_bool (by simp only [listsB]; symm; rw [decide_eq_false_iff_not]; intro h; apply hne; rw [h]), 0, rfl⟩
  have hb : ((xs.length : Int) != ys.length) = false := by simp [hne]
  have hyl : xs.length ≤ ys.length := by omega
  have HE : Hid (xs.length = ys.length) := by show xs.length = ys.length; omega
  clear hne
  go_enter Try.func44, Try.ntmps44
  go_wp2
  go_loopw [5] (fun i wr => ∃ k n : Nat, k ≤ xs.length ∧ i = .int .i64 k ∧ xs.take k = ys.take k ∧ wr = w.drewN n) (fun i _ => xs.length - (intOf i).toNat)
  case atStart => exact ⟨0, 0, Nat.zero_le _, rfl, rfl, rfl⟩
  case round =>
    obtain ⟨k, n, hk, rfl, hno, rfl⟩ := hrel
    have HN : Hid (xs.take k = ys.take k) := hno
    clear hno
    by_cases hlt : k < xs.length
    · obtain ⟨b1, off1, a1, c1, rfl, hb1, hc1, hr1, hm1⟩ := hr k hlt
      obtain ⟨b2, off2, a2, c2, rfl, hb2, hc2, hr2, hm2⟩ := hs k (by omega)
      have C1 := fun j => ints_any a1 a2 c1 c2 xs[k] ys[k] (w.drewN j) hr1 hr2 hm1 hm2
      clear hr hs hb hr1 hr2
      unfold maxLen at hm1 hm2
      have hk1 : (k : Int) < xs.length := by omega
      have hk2 : (k : Int) < ys.length := by omega
      by_cases he : xs[k] = ys[k]
      · have he' : intsB xs[k] ys[k] = true := by simp [intsB, he]
        rw [he'] at C1
        replace C1 := hide C1
        have HX := hide he
        clear he he'
        go_wp2
        go_quiet ((go_at_call 12; exact quiet_shift2 (unhide C1 _)))
        go_wp2
        go_roundw
        case rel => exact ⟨k + 1, _, by omega, by go_num, takeL_eq_snoc hlt (by omega) HN.out HX.out, rfl⟩
        case measure => simp [intOf]; omega
      · have he' : intsB xs[k] ys[k] = false := by simp [intsB, he]
        rw [he'] at C1
        replace C1 := hide C1
        have HX := hide he
        clear he he'
        go_wp2
        go_quiet ((go_at_call 12; exact quiet_shift2 (unhide C1 _)))
        go_wp2
        go_ret
        exact ⟨ret_bool (by simp only [listsB]; symm; rw [decide_eq_false_iff_not]; intro h; apply HX.out; simp only [h]), _, by first | rfl | exact World.drewN_drewN _ _ _⟩
    · have hz : xs.length ≤ k := by omega
      clear hr hs
      go_wp2
      go_ret
      refine ⟨ret_bool ?_, _, rfl⟩
      have h := HN.out
      rw [List.take_of_length_le hz, List.take_of_length_le (by have := HE.out; omega)] at h
      simp [listsB, h]

end Go.Proofs.Ytiddcpemckifmaa
