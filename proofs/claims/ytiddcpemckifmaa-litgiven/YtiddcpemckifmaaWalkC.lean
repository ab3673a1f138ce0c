/- Contracts: a clause's value; how two literals stand to each other. -/
import Derived.Test.YtiddcpemckifmaaWalkB
import Derived.Deep.RegionWith
set_option linter.unusedVariables false
set_option linter.unusedSimpArgs false
namespace Go.Proofs.Ytiddcpemckifmaa
open Go.RowKit

set_option maxHeartbeats 400000 in
theorem litClause_any (a b : Option Addr) (ca cb : Nat) (m c : List Int) (w : World) (hr : Row w a m) (hs : Row w b c) (hl : m.length ≤ maxLen) (hm : c.length ≤ maxLen) (hmay : mayB c 1048576 = true) :
    Calls Try.prog 18 #[.slice a m.length ca, .slice b c.length cb] w fun e w' => e = .returned (.int .i64 (clauseI m c)) ∧ w' = w := by
  have hck := check_any b cb c w hs hm
  have hval := hide (fun l => litValue_any a ca m l w hr hl)
  have he : errI (mayB c 1048576) = 0 := by rw [hmay]; rfl
  rw [he] at hck
  clear he hr
  unfold maxLen at hl hm
  go_enter Try.func18, Try.ntmps18
  go_wp2_with (go_at_call 11; refine hck.mono ?_; rintro e w' ⟨rfl, rfl⟩)
  clear hck
  go_loop [5, 13] (fun v i => ∃ k : Nat, k ≤ c.length ∧ i = .int .i64 k ∧ v = .int .i64 (clauseI m (c.take k))) (fun _ i => c.length - (intOf i).toNat)
  case atStart => exact ⟨0, Nat.zero_le _, rfl, rfl⟩
  case round =>
    obtain ⟨k, hk, rfl, rfl⟩ := hrel
    by_cases hlt : k < c.length
    · obtain ⟨b1, off1, rfl, hb1, hc1⟩ := hs k hlt
      clear hs
      have HS := hide (clauseI_take (m := m) hlt)
      go_wp2_with (go_at_call 16; refine (unhide hval _).mono ?_; rintro e w' ⟨rfl, rfl⟩)
      all_goals
        go_round
        case rel => exact ⟨k + 1, by omega, by go_num, by rw [HS.out]; go_num⟩
        case measure => simp [intOf]; omega
    · clear hs
      go_wp2
      go_ret
      exact ⟨ret_int (by rw [List.take_of_length_le (by omega)]), rfl⟩

set_option maxHeartbeats 400000 in
theorem litClause_no (a b : Option Addr) (ca cb : Nat) (m c : List Int) (w : World) (hs : Row w b c) (hm : c.length ≤ maxLen) (hmay : mayB c 1048576 = false) :
    Calls Try.prog 18 #[.slice a m.length ca, .slice b c.length cb] w fun e w' => e = .returned (.int .i64 0) ∧ w' = w := by
  have hck := check_any b cb c w hs hm
  have he : errI (mayB c 1048576) = 1 := by rw [hmay]; rfl
  rw [he] at hck
  clear he
  go_enter Try.func18, Try.ntmps18
  go_wp2_with (go_at_call 11; refine hck.mono ?_; rintro e w' ⟨rfl, rfl⟩)
  go_ret
  exact ⟨rfl, rfl⟩

set_option maxHeartbeats 400000 in
theorem refClause_any (a b : Option Addr) (ca cb : Nat) (m c : List Int) (w : World) (hr : Row w a m) (hs : Row w b c) (hl : m.length ≤ maxLen) (hm : c.length ≤ maxLen) :
    Calls Try.prog 19 #[.slice a m.length ca, .slice b c.length cb] w fun e w' => e = .returned (.int .i64 (clauseI m c)) ∧ w' = w := by
  have hval := hide (fun l => refValue_any a ca m l w hr hl)
  clear hr
  unfold maxLen at hl hm
  go_enter Try.func19, Try.ntmps19
  go_wp2
  go_loop [5, 6] (fun v i => ∃ k : Nat, k ≤ c.length ∧ i = .int .i64 k ∧ v = .bool ((c.take k).any (fun l => valI m l == 0)) ∧ (c.take k).any (fun l => valI m l == 1) = false) (fun _ i => c.length - (intOf i).toNat)
  case atStart => exact ⟨0, Nat.zero_le _, rfl, rfl, rfl⟩
  case round =>
    obtain ⟨k, hk, rfl, rfl, hno⟩ := hrel
    have HN := hide hno
    clear hno
    by_cases hlt : k < c.length
    · obtain ⟨b1, off1, rfl, hb1, hc1⟩ := hs k hlt
      clear hs
      have HO := hide (any_take_or (fun l => valI m l == 0) c k hlt)
      generalize hv : valI m c[k] = v at *
      have HV := hide hv
      have HVV : Hid ((fun l => valI m l == 0) c[k] = (v == 0)) := by show (valI m c[k] == 0) = _; rw [hv]
      have hval' : Calls Try.prog 17 #[.slice a m.length ca, .int .i64 c[k]] w fun e w' => e = .returned (.int .i64 v) ∧ w' = w := by rw [← hv]; exact unhide hval _
      have hcl := hide hval'
      clear hval hval' hv
      by_cases h1 : v = 1
      · have h1' : (v == 1) = true := by simp [h1]
        have HF : Hid (clauseI m c = 1) := clauseI_one (any_true_at _ c k hlt (by have := HV.out; show (valI m c[k] == 1) = true; rw [this]; exact h1'))
        clear h1
        go_wp2_with (go_at_call 17; refine (unhide hcl).mono ?_; rintro e w' ⟨rfl, rfl⟩)
        go_ret
        exact ⟨ret_int HF.out.symm, rfl⟩
      · have h1' : (v == 1) = false := by simp [h1]
        have HF : Hid ((c.take (k + 1)).any (fun l => valI m l == 1) = false) := any_take_snoc _ c k hlt HN.out (by have := HV.out; show (valI m c[k] == 1) = false; rw [this]; exact h1')
        clear h1
        generalize hop : (c.take k).any (fun l => valI m l == 0) = op at *
        have HOP := hide hop
        clear hop
        cases op
        all_goals
          go_wp2_with (go_at_call 17; refine (unhide hcl).mono ?_; rintro e w' ⟨rfl, rfl⟩)
          go_round
          case rel => exact ⟨k + 1, by omega, by go_num, by rw [HO.out]; first | rfl | simp, HF.out⟩
          case measure => simp [intOf]; omega
    · clear hs
      have hz : c.length ≤ k := by omega
      have HN' := hide (any_of_take hz HN.out)
      have HO : Hid ((c.take k).any (fun l => valI m l == 0) = c.any (fun l => valI m l == 0)) := by show _ = _; rw [List.take_of_length_le hz]
      generalize hop : (c.take k).any (fun l => valI m l == 0) = op at *
      clear hop
      cases op
      · go_wp2
        go_ret
        exact ⟨ret_int (clauseI_low HN'.out HO.out.symm).symm, rfl⟩
      · go_wp2
        go_ret
        exact ⟨ret_int (clauseI_zero HN'.out HO.out.symm).symm, rfl⟩

set_option maxHeartbeats 400000 in
theorem ahead_any (a b : Int) (w : World) (ha : -1048576 ≤ a ∧ a ≤ 1048576) (hb : -1048576 ≤ b ∧ b ≤ 1048576) :
    Calls Try.prog 36 #[.int .i64 a, .int .i64 b] w fun e w' => e = .returned (.bool (aheadB a b)) ∧ w' = w := by
  have c1 := hide (fun w => var_any a w ha.1 ha.2)
  have c2 := hide (fun w => var_any b w hb.1 hb.2)
  clear ha hb
  unfold aheadB
  generalize varI a = x at *
  generalize varI b = y at *
  go_enter Try.func36, Try.ntmps36
  go_wp2_with (first | (go_at_call_of 42 (Value.int IntKind.i64 a); refine (unhide c1 _).mono ?_; rintro e w' ⟨rfl, rfl⟩) | (go_at_call_of 42 (Value.int IntKind.i64 b); refine (unhide c2 _).mono ?_; rintro e w' ⟨rfl, rfl⟩))
  all_goals
    go_ret
    refine ⟨ret_bool ?_, rfl⟩
  all_goals simp_all <;> try omega

set_option maxHeartbeats 400000 in
theorem cmpLits_any (a b : Int) (w : World) (ha : -1048576 ≤ a ∧ a ≤ 1048576) (hb : -1048576 ≤ b ∧ b ≤ 1048576) :
    Calls Try.prog 48 #[.int .i64 a, .int .i64 b] w fun e w' => e = .returned (.int .i64 (litCmp a b)) ∧ w' = w := by
  have c1 := hide (fun w => variable_any a w ha.1 ha.2)
  have c2 := hide (fun w => variable_any b w hb.1 hb.2)
  clear ha hb
  unfold litCmp
  generalize varI a = x at *
  generalize varI b = y at *
  by_cases h : x = y
  · have h' : (x != y) = false := by simp [h]
    have HC : Hid ((if x = y then cmpI b a else cmpI x y) = cmpI b a) := if_pos h
    clear h
    generalize (if x = y then cmpI b a else cmpI x y) = r at *
    go_enter Try.func48, Try.ntmps48
    go_wp2_with (first | (go_at_call_of 40 (Value.int IntKind.i64 a); refine (unhide c1 _).mono ?_; rintro e w' ⟨rfl, rfl⟩) | (go_at_call_of 40 (Value.int IntKind.i64 b); refine (unhide c2 _).mono ?_; rintro e w' ⟨rfl, rfl⟩) | (go_at_call 41; refine (compare_any _ _ _).mono ?_; rintro e w' ⟨rfl, rfl⟩))
    go_ret
    exact ⟨ret_int HC.out.symm, rfl⟩
  · have h' : (x != y) = true := by simp [h]
    have HC : Hid ((if x = y then cmpI b a else cmpI x y) = cmpI x y) := if_neg h
    clear h
    generalize (if x = y then cmpI b a else cmpI x y) = r at *
    go_enter Try.func48, Try.ntmps48
    go_wp2_with (first | (go_at_call_of 40 (Value.int IntKind.i64 a); refine (unhide c1 _).mono ?_; rintro e w' ⟨rfl, rfl⟩) | (go_at_call_of 40 (Value.int IntKind.i64 b); refine (unhide c2 _).mono ?_; rintro e w' ⟨rfl, rfl⟩) | (go_at_call 41; refine (compare_any _ _ _).mono ?_; rintro e w' ⟨rfl, rfl⟩))
    go_ret
    exact ⟨ret_int HC.out.symm, rfl⟩

end Go.Proofs.Ytiddcpemckifmaa
