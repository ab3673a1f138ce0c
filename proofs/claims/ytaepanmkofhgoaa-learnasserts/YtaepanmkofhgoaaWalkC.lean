/- Contracts: a clause's value; how two literals stand to each other. -/
import Derived.Test.YtaepanmkofhgoaaWalkB
import Derived.Deep.RegionWith
set_option linter.unusedVariables false
set_option linter.unusedSimpArgs false
namespace Go.Proofs.Ytaepanmkofhgoaa
open Go.RowKit

set_option maxHeartbeats 400000 in
theorem refClause_any (a b : Option Addr) (ca cb : Nat) (m c : List Int) (w : World) (hr : Row w a m) (hs : Row w b c) (hl : m.length ≤ maxLen) (hm : c.length ≤ maxLen) :
    Calls Try.prog 24 #[.slice a m.length ca, .slice b c.length cb] w fun e w' => e = .returned (.int .i64 (clauseI m c)) ∧ w' = w := by
  have hval := hide (fun l => refValue_any a ca m l w hr hl)
  clear hr
  unfold maxLen at hl hm
  go_enter Try.func24, Try.ntmps24
  go_wp2
  go_loop [5, 6] (fun v i => ∃ k : Nat, k ≤ c.length ∧ i = .int .i64 k ∧ v = .bool ((c.take k).any (fun l => valI m l == 0)) ∧ (c.take k).any (fun l => valI m l == 1) = false) (fun _ i => c.length - (intOf i).toNat)
  case atStart => exact ⟨0, Nat.zero_le _, rfl, rfl, rfl⟩
  case round =>
    obtain ⟨k, hk, rfl, rfl, hno⟩ := hrel
    have HN := hide hno
    clear hno
    by_cases hlt : k < c.length
    · obtain ⟨b1, off1, rfl, hb1, hc1⟩ := hs k hlt
      clear hs
      have HO := hide (any_take_or (fun l => valI m l == 0) c k hlt)
      generalize hv : valI m c[k] = v at *
      have HV := hide hv
      have HVV : Hid ((fun l => valI m l == 0) c[k] = (v == 0)) := by show (valI m c[k] == 0) = _; rw [hv]
      have hval' : Calls Try.prog 25 #[.slice a m.length ca, .int .i64 c[k]] w fun e w' => e = .returned (.int .i64 v) ∧ w' = w := by rw [← hv]; exact unhide hval _
      have hcl := hide hval'
      clear hval hval' hv
      by_cases h1 : v = 1
      · have h1' : (v == 1) = true := by simp [h1]
        have HF : Hid (clauseI m c = 1) := clauseI_one (any_true_at _ c k hlt (by have := HV.out; show (valI m c[k] == 1) = true; rw [this]; exact h1'))
        clear h1
        go_wp2_with (go_at_call 25; refine (unhide hcl).mono ?_; rintro e w' ⟨rfl, rfl⟩)
        go_ret
        exact ⟨ret_int HF.out.symm, rfl⟩
      · have h1' : (v == 1) = false := by simp [h1]
        have HF : Hid ((c.take (k + 1)).any (fun l => valI m l == 1) = false) := any_take_snoc _ c k hlt HN.out (by have := HV.out; show (valI m c[k] == 1) = false; rw [this]; exact h1')
        clear h1
        generalize hop : (c.take k).any (fun l => valI m l == 0) = op at *
        have HOP := hide hop
        clear hop
        cases op
        all_goals
          go_wp2_with (go_at_call 25; refine (unhide hcl).mono ?_; rintro e w' ⟨rfl, rfl⟩)
          go_round
          case rel => exact ⟨k + 1, by omega, by go_num, by rw [HO.out]; first | rfl | simp, HF.out⟩
          case measure => simp [intOf]; omega
    · clear hs
      have hz : c.length ≤ k := by omega
      have HN' := hide (any_of_take hz HN.out)
      have HO : Hid ((c.take k).any (fun l => valI m l == 0) = c.any (fun l => valI m l == 0)) := by show _ = _; rw [List.take_of_length_le hz]
      generalize hop : (c.take k).any (fun l => valI m l == 0) = op at *
      clear hop
      cases op
      · go_wp2
        go_ret
        exact ⟨ret_int (clauseI_low HN'.out HO.out.symm).symm, rfl⟩
      · go_wp2
        go_ret
        exact ⟨ret_int (clauseI_zero HN'.out HO.out.symm).symm, rfl⟩

set_option maxHeartbeats 400000 in
theorem ahead_any (a b : Int) (w : World) (ha : -1048576 ≤ a ∧ a ≤ 1048576) (hb : -1048576 ≤ b ∧ b ≤ 1048576) :
    Calls Try.prog 55 #[.int .i64 a, .int .i64 b] w fun e w' => e = .returned (.bool (aheadB a b)) ∧ w' = w := by
  have c1 := hide (fun w => var_any a w ha.1 ha.2)
  have c2 := hide (fun w => var_any b w hb.1 hb.2)
  clear ha hb
  unfold aheadB
  generalize varI a = x at *
  generalize varI b = y at *
  go_enter Try.func55, Try.ntmps55
  go_wp2_with (first | (go_at_call_of 44 (Value.int IntKind.i64 a); refine (unhide c1 _).mono ?_; rintro e w' ⟨rfl, rfl⟩) | (go_at_call_of 44 (Value.int IntKind.i64 b); refine (unhide c2 _).mono ?_; rintro e w' ⟨rfl, rfl⟩))
  all_goals
    go_ret
    refine ⟨ret_bool ?_, rfl⟩
  all_goals simp_all <;> try omega

end Go.Proofs.Ytaepanmkofhgoaa
