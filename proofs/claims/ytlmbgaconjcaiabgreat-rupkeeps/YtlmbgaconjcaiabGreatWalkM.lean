/- Contracts of small functions of layer 1 and of the document: carried from stage 1. -/
import Derived.Test.YtlmbgaconjcaiabGreatWalkL
set_option linter.unusedVariables false
set_option linter.unusedSimpArgs false
namespace Go.Proofs.YtlmbgaconjcaiabGreat
open Go.RowKit

set_option maxHeartbeats 400000 in
theorem isLiteral_any (l t : Int) (w : World) (h0 : 0 ≤ t) (h1 : t ≤ 1048576) :
    Calls Tryz.prog 53 #[.int .i64 l, .int .i64 t] w fun e w' => e = .returned (.bool (litB l t)) ∧ w' = w := by
  go_enter Tryz.func53, Tryz.ntmps53
  go_wp2
  all_goals
    go_ret
    exact ⟨ret_bool (by simp [litB, *]; try omega), rfl⟩

set_option maxHeartbeats 400000 in
theorem isClause_any (a : Option Addr) (cap : Nat) (xs : List Int) (t : Int) (w : World) (hr : Row w a xs) (hl : xs.length ≤ maxLen) (h0 : 0 ≤ t) (h1 : t ≤ 1048576) :
    Calls Tryz.prog 35 #[.slice a xs.length cap, .int .i64 t] w fun e w' => e = .returned (.bool (mayB xs t)) ∧ w' = w := by
  unfold maxLen at hl
  by_cases hw : 4096 < (xs.length : Int)
  · go_enter Tryz.func35, Tryz.ntmps35
    go_wp2
    go_ret
    exact ⟨ret_bool (mayB_long (by omega)).symm, rfl⟩
  go_enter Tryz.func35, Tryz.ntmps35
  go_wp2
  go_loop [12] (fun i => ∃ k : Nat, k ≤ xs.length ∧ i = .int .i64 k ∧ (xs.take k).all (fun x => litB x t) = true) (fun i => xs.length - (intOf i).toNat)
  case atStart => exact ⟨0, Nat.zero_le _, rfl, rfl⟩
  case round =>
    obtain ⟨k, hk, rfl, hno⟩ := hrel
    have HN : Hid ((xs.take k).all (fun x => litB x t) = true) := hno
    clear hno
    by_cases hlt : k < xs.length
    · obtain ⟨b, off, rfl, hb, hc⟩ := hr k hlt
      clear hr
      by_cases he : litB xs[k] t = true
      · go_wp2_with (go_at_call 53; refine (isLiteral_any _ _ _ h0 h1).mono ?_; rintro e w' ⟨rfl, rfl⟩)
        go_round
        case rel => exact ⟨k + 1, by omega, by go_num, all_take_snoc _ xs k hlt HN.out he⟩
        case measure => simp [intOf]; omega
      · have he' : litB xs[k] t = false := by simpa using he
        go_wp2_with (go_at_call 53; refine (isLiteral_any _ _ _ h0 h1).mono ?_; rintro e w' ⟨rfl, rfl⟩)
        go_ret
        exact ⟨ret_bool (mayB_no k hlt he').symm, rfl⟩
    · have hz : xs.length ≤ k := by omega
      clear hr
      go_wp2
      go_ret
      exact ⟨ret_bool (mayB_of (by omega) (all_of_take hz HN.out)).symm, rfl⟩

set_option maxHeartbeats 400000 in
theorem refValue_any (a : Option Addr) (cap : Nat) (m : List Int) (l : Int) (w : World) (hr : Row w a m) (hl : m.length ≤ maxLen) :
    Calls Tryz.prog 52 #[.slice a m.length cap, .int .i64 l] w fun e w' => e = .returned (.int .i64 (valI m l)) ∧ w' = w := by
  unfold maxLen at hl
  by_cases h0 : litB l 1048576 = true
  case neg =>
    have h0' : litB l 1048576 = false := by simpa using h0
    clear h0
    have HV := hide (valI_none (m := m) h0')
    clear hr
    go_enter Tryz.func52, Tryz.ntmps52
    go_wp2_with (go_at_call 19; refine (lit_any _ _).mono ?_; rintro e w' ⟨rfl, rfl⟩)
    go_ret
    exact ⟨ret_int HV.out.symm, rfl⟩
  have hb := litB_true.1 h0
  obtain ⟨hb0, hb1, hb2⟩ := hb
  have hv1 := varI_pos hb0
  have hv2 := (varI_bd hb1 hb2).2
  by_cases h1 : varI l ≤ m.length
  case neg =>
    have HV := hide (valI_beyond (m := m) (l := l) (by omega))
    have h1' : (m.length : Int) < varI l := by omega
    clear hr h1 hb0
    go_enter Tryz.func52, Tryz.ntmps52
    go_wp2_with (first | (go_at_call 19; refine (lit_any _ _).mono ?_; rintro e w' ⟨rfl, rfl⟩) | (go_at_call 12; refine (var_any _ _ hb1 hb2).mono ?_; rintro e w' ⟨rfl, rfl⟩))
    go_ret
    exact ⟨ret_int HV.out.symm, rfl⟩
  have HV := hide (valI_at h0 h1)
  obtain ⟨b, off, rfl, hb, hc⟩ := hr.at (varI l) hv1 h1
  clear hr
  generalize hxx : m.getD ((varI l).toNat - 1) 0 = x at *
  clear hxx
  have HL := hide hb0
  clear hb0
  by_cases hx : x = 0
  · have hx0 : (x == 0) = true := by simp [hx]
    have HS : Hid (sgn x = 0) := by rw [hx]; rfl
    clear hx
    go_enter Tryz.func52, Tryz.ntmps52
    go_wp2_with (first | (go_at_call 19; refine (lit_any _ _).mono ?_; rintro e w' ⟨rfl, rfl⟩) | (go_at_call 12; refine (var_any _ _ hb1 hb2).mono ?_; rintro e w' ⟨rfl, rfl⟩))
    go_ret
    exact ⟨ret_int (by rw [HV.out, HS.out]; simp), rfl⟩
  · have hx0 : (x == 0) = false := by simpa using hx
    clear hx
    go_enter Tryz.func52, Tryz.ntmps52
    go_wp2_with (first | (go_at_call 19; refine (lit_any _ _).mono ?_; rintro e w' ⟨rfl, rfl⟩) | (go_at_call 12; refine (var_any _ _ hb1 hb2).mono ?_; rintro e w' ⟨rfl, rfl⟩))
    · go_ret
      exact ⟨ret_int (by rw [HV.out]; exact sgn_same ‹_› hx0 HL.out), rfl⟩
    · go_ret
      exact ⟨ret_int (by rw [HV.out]; exact sgn_other ‹_› hx0 HL.out), rfl⟩

set_option maxHeartbeats 400000 in
theorem refClause_any (a b : Option Addr) (ca cb : Nat) (m c : List Int) (w : World) (hr : Row w a m) (hs : Row w b c) (hl : m.length ≤ maxLen) (hm : c.length ≤ maxLen) :
    Calls Tryz.prog 34 #[.slice a m.length ca, .slice b c.length cb] w fun e w' => e = .returned (.int .i64 (clauseI m c)) ∧ w' = w := by
  have hval := hide (fun l => refValue_any a ca m l w hr hl)
  clear hr
  unfold maxLen at hl hm
  go_enter Tryz.func34, Tryz.ntmps34
  go_wp2
  go_loop [5, 6] (fun v i => ∃ k : Nat, k ≤ c.length ∧ i = .int .i64 k ∧ v = .bool ((c.take k).any (fun l => valI m l == 0)) ∧ (c.take k).any (fun l => valI m l == 1) = false) (fun _ i => c.length - (intOf i).toNat)
  case atStart => exact ⟨0, Nat.zero_le _, rfl, rfl, rfl⟩
  case round =>
    obtain ⟨k, hk, rfl, rfl, hno⟩ := hrel
    have HN := hide hno
    clear hno
    by_cases hlt : k < c.length
    · obtain ⟨b1, off1, rfl, hb1, hc1⟩ := hs k hlt
      clear hs
      have HO := hide (any_take_or (fun l => valI m l == 0) c k hlt)
      generalize hv : valI m c[k] = v at *
      have HV := hide hv
      have HVV : Hid ((fun l => valI m l == 0) c[k] = (v == 0)) := by show (valI m c[k] == 0) = _; rw [hv]
      have hval' : Calls Tryz.prog 52 #[.slice a m.length ca, .int .i64 c[k]] w fun e w' => e = .returned (.int .i64 v) ∧ w' = w := by rw [← hv]; exact unhide hval _
      have hcl := hide hval'
      clear hval hval' hv
      by_cases h1 : v = 1
      · have h1' : (v == 1) = true := by simp [h1]
        have HF : Hid (clauseI m c = 1) := clauseI_one (any_true_at _ c k hlt (by have := HV.out; show (valI m c[k] == 1) = true; rw [this]; exact h1'))
        clear h1
        go_wp2_with (go_at_call 52; refine (unhide hcl).mono ?_; rintro e w' ⟨rfl, rfl⟩)
        go_ret
        exact ⟨ret_int HF.out.symm, rfl⟩
      · have h1' : (v == 1) = false := by simp [h1]
        have HF : Hid ((c.take (k + 1)).any (fun l => valI m l == 1) = false) := any_take_snoc _ c k hlt HN.out (by have := HV.out; show (valI m c[k] == 1) = false; rw [this]; exact h1')
        clear h1
        generalize hop : (c.take k).any (fun l => valI m l == 0) = op at *
        have HOP := hide hop
        clear hop
        cases op
        all_goals
          go_wp2_with (go_at_call 52; refine (unhide hcl).mono ?_; rintro e w' ⟨rfl, rfl⟩)
          go_round
          case rel => exact ⟨k + 1, by omega, by go_num, by rw [HO.out]; first | rfl | simp, HF.out⟩
          case measure => simp [intOf]; omega
    · clear hs
      have hz : c.length ≤ k := by omega
      have HN' := hide (any_of_take hz HN.out)
      have HO : Hid ((c.take k).any (fun l => valI m l == 0) = c.any (fun l => valI m l == 0)) := by show _ = _; rw [List.take_of_length_le hz]
      generalize hop : (c.take k).any (fun l => valI m l == 0) = op at *
      clear hop
      cases op
      · go_wp2
        go_ret
        exact ⟨ret_int (clauseI_low HN'.out HO.out.symm).symm, rfl⟩
      · go_wp2
        go_ret
        exact ⟨ret_int (clauseI_zero HN'.out HO.out.symm).symm, rfl⟩

set_option maxHeartbeats 1000000 in
theorem checkCnf_any (a : Option Addr) (cap : Nat) (n : Int) (css : List (List Int)) (w : World) (hg : Grid w a css) (hl : css.length ≤ maxLen) :
    Calls Tryz.prog 20 #[.agg #[.int .i64 n, .slice a css.length cap]] w fun e w' => e = .returned (.int .i64 (errI (cnfB n css))) ∧ Below w.heap.size w w' := by
  have hbW := below_alloc w (.cells #[.int .i64 n, .slice a css.length cap] 24)
  have hg' := hg.below hbW
  clear hg
  have HB := hide hbW
  clear hbW
  unfold maxLen at hl
  by_cases h : 0 ≤ n ∧ n ≤ 1048576 ∧ css.length ≤ 262144
  case neg =>
    have HF := hide (cnfB_size h)
    clear hg'
    by_cases h1 : n < 0
    · clear h
      go_enter Tryz.func20, Tryz.ntmps20
      go_wp2
      go_ret
      exact ⟨ret_int (by rw [HF.out]; rfl), HB.out⟩
    by_cases h2 : 1048576 < n
    · clear h
      go_enter Tryz.func20, Tryz.ntmps20
      go_wp2
      go_ret
      exact ⟨ret_int (by rw [HF.out]; rfl), HB.out⟩
    · have h3 : 262144 < (css.length : Int) := by omega
      clear h
      go_enter Tryz.func20, Tryz.ntmps20
      go_wp2
      go_ret
      exact ⟨ret_int (by rw [HF.out]; rfl), HB.out⟩
  have HS := hide h
  obtain ⟨h1, h2, h3⟩ := h
  have h4 : (css.length : Int) ≤ 262144 := by omega
  go_enter Tryz.func20, Tryz.ntmps20
  go_wp2
  go_loop [22] (fun i => ∃ k : Nat, k ≤ css.length ∧ i = .int .i64 k ∧ (css.take k).all (fun c => mayB c n) = true) (fun i => css.length - (intOf i).toNat)
  case atStart => exact ⟨0, Nat.zero_le _, rfl, rfl⟩
  case round =>
    obtain ⟨k, hk, rfl, hno⟩ := hrel
    have HN := hide hno
    clear hno
    by_cases hlt : k < css.length
    · obtain ⟨b, off, ai, ci, rfl, hb, hc, hr, hm⟩ := hg' k hlt
      have C1 := isClause_any ai ci css[k] n _ hr hm h1 h2
      clear hg' hr
      unfold maxLen at hm
      by_cases h5 : mayB css[k] n = true
      · have HF := hide (allL_take_snoc (fun c => mayB c n) css k hlt HN.out h5)
        rw [h5] at C1
        replace C1 := hide C1
        clear h5
        go_wp2_with (go_at_call 35; refine (unhide C1).mono ?_; rintro e w' ⟨rfl, rfl⟩)
        go_round
        case rel => exact ⟨k + 1, by omega, by go_num, HF.out⟩
        case measure => simp [intOf]; omega
      · have h5' : mayB css[k] n = false := by simpa using h5
        have HF := hide (cnfB_at hlt h5')
        rw [h5'] at C1
        replace C1 := hide C1
        clear h5 h5'
        go_wp2_with (go_at_call 35; refine (unhide C1).mono ?_; rintro e w' ⟨rfl, rfl⟩)
        go_ret
        exact ⟨ret_int (by rw [HF.out]; rfl), HB.out⟩
    · clear hg'
      have HF := hide (cnfB_yes HS.out (allL_of_take (p := fun c => mayB c n) (xs := css) (k := k) (by omega) HN.out))
      go_wp2
      go_ret
      exact ⟨ret_int (by rw [HF.out]; rfl), HB.out⟩

def holdsB (m : List Int) (css : List (List Int)) : Bool := css.all (fun c => clauseI m c == 1)

set_option maxHeartbeats 1000000 in
theorem refHolds_any (a am : Option Addr) (cap cm : Nat) (n : Int) (css : List (List Int)) (m : List Int) (w : World) (hg : Grid w a css) (hl : css.length ≤ maxLen) (hq : Row w am m) (hml : m.length ≤ maxLen) :
    Calls Tryz.prog 17 #[.agg #[.int .i64 n, .slice a css.length cap], .slice am m.length cm] w fun e w' => e = .returned (.bool (holdsB m css)) ∧ Below w.heap.size w w' := by
  have hbW := below_alloc w (.cells #[.int .i64 n, .slice a css.length cap] 24)
  have hg' := hg.below hbW
  have hq' := hq.below hbW
  clear hg hq
  have HB := hide hbW
  have HQ := hide hq'
  have HML := hide hml
  clear hbW hq' hml
  unfold maxLen at hl
  go_enter Tryz.func17, Tryz.ntmps17
  go_wp2
  go_loop [5] (fun i => ∃ k : Nat, k ≤ css.length ∧ i = .int .i64 k ∧ (css.take k).all (fun c => clauseI m c == 1) = true) (fun i => css.length - (intOf i).toNat)
  case atStart => exact ⟨0, Nat.zero_le _, rfl, rfl⟩
  case round =>
    obtain ⟨k, hk, rfl, hno⟩ := hrel
    have HN := hide hno
    clear hno
    by_cases hlt : k < css.length
    · obtain ⟨b, off, ai, ci, rfl, hb, hc, hr, hm⟩ := hg' k hlt
      have C1 := hide (refClause_any am ai cm ci m css[k] _ HQ.out hr HML.out hm)
      clear hg' hr
      unfold maxLen at hm
      by_cases h5 : clauseI m css[k] = 1
      · have h5' : (clauseI m css[k] != 1) = false := by simp [h5]
        have HF := hide (allL_take_snoc (fun c => clauseI m c == 1) css k hlt HN.out (by simp [h5]))
        clear h5
        generalize clauseI m css[k] = q at *
        go_wp2_with (go_at_call 34; refine (unhide C1).mono ?_; rintro e w' ⟨rfl, rfl⟩)
        go_round
        case rel => exact ⟨k + 1, by omega, by go_num, HF.out⟩
        case measure => simp [intOf]; omega
      · have h5' : (clauseI m css[k] != 1) = true := by simp [h5]
        have HF := hide (allL_false_at (fun c => clauseI m c == 1) css k hlt (by simp [h5]))
        clear h5
        generalize clauseI m css[k] = q at *
        go_wp2_with (go_at_call 34; refine (unhide C1).mono ?_; rintro e w' ⟨rfl, rfl⟩)
        go_ret
        exact ⟨ret_bool HF.out.symm, HB.out⟩
    · clear hg'
      have HF := hide (allL_of_take (p := fun c => clauseI m c == 1) (xs := css) (k := k) (by omega) HN.out)
      go_wp2
      go_ret
      exact ⟨ret_bool HF.out.symm, HB.out⟩

end Go.Proofs.YtlmbgaconjcaiabGreat
