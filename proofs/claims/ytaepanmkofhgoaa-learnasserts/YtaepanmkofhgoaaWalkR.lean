/- Contracts, the document's own: where a variable stands, a literal's level, whether a clause is broken. -/
import Derived.Test.YtaepanmkofhgoaaWalkG
set_option linter.unusedVariables false
set_option linter.unusedSimpArgs false
namespace Go.Proofs.Ytaepanmkofhgoaa
open Go.RowKit

set_option maxHeartbeats 1000000 in
theorem refAt_any (w : World) (a : Option Addr) (cap : Nat) (ts : List As) (v : Int) (h : Trl w a ts) (hl : ts.length ≤ 20) (hv : Vl ts) :
    Calls Try.prog 43 #[.slice a ts.length cap, .int .i64 v] w fun e w' => e = .returned (.int .i64 (atI ts v)) ∧ w' = w := by
  go_enter Try.func43, Try.ntmps43
  go_wp2
  go_loop [5] (fun i => ∃ k : Nat, k ≤ ts.length ∧ i = .int .i64 k ∧ ∀ j, j < k → varI (nth ts j).lit ≠ v) (fun i => ts.length - (intOf i).toNat)
  case atStart => exact ⟨0, Nat.zero_le _, rfl, fun j hj => by omega⟩
  case round =>
    obtain ⟨k, hk, rfl, hno⟩ := hrel
    have HN := hide hno
    clear hno
    by_cases hlt : k < ts.length
    · obtain ⟨b, off, rfl, hA⟩ := h k hlt
      have hc := hA.c0
      have hb := litB_true.1 (hv k hlt)
      have CV := fun w => var_any (nth ts k).lit w hb.2.1 hb.2.2
      have hlt' : (k : Int) < ts.length := by omega
      by_cases he : varI (nth ts k).lit = v
      · have HR := hide (atI_of hlt he HN.out)
        have he' : (varI (nth ts k).lit == v) = true := by simpa using he
        replace CV := hide CV
        clear hA h hb hv he
        generalize varI (nth ts k).lit = vv at *
        generalize (nth ts k).lit = lt at *
        go_wp2_with (go_at_call 44; refine (unhide CV _).mono ?_; rintro e w0 ⟨rfl, hw0⟩; subst w0)
        go_ret
        exact ⟨ret_int HR.out.symm, rfl⟩
      · have he' : (varI (nth ts k).lit == v) = false := by simpa using he
        have HN2 : Hid (∀ j, j < k + 1 → varI (nth ts j).lit ≠ v) := by
          intro j hj
          by_cases e : j = k
          · rw [e]; exact he
          · exact HN.out j (by omega)
        replace CV := hide CV
        clear hA h hb hv he HN
        generalize varI (nth ts k).lit = vv at *
        generalize (nth ts k).lit = lt at *
        go_wp2_with (go_at_call 44; refine (unhide CV _).mono ?_; rintro e w0 ⟨rfl, hw0⟩; subst w0)
        go_round
        case rel => exact ⟨k + 1, by omega, by go_num, HN2.out⟩
        case measure => simp [intOf]; omega
    · have HR := hide (atI_none (ts := ts) (v := v) (fun i hi => HN.out i (by omega)))
      clear h hv
      go_wp2
      go_ret
      exact ⟨ret_int HR.out.symm, rfl⟩

set_option maxHeartbeats 1000000 in
theorem refLevel_any (w : World) (a : Option Addr) (cap : Nat) (ts : List As) (l : Int) (h : Trl w a ts) (hl : ts.length ≤ 20) (T : Tr ts) (hf : falB ts l = true) :
    Calls Try.prog 23 #[.slice a ts.length cap, .int .i64 l] w fun e w' => e = .returned (.int .i64 (levI ts l)) ∧ w' = w := by
  have hb := litB_true.1 (fal_lit T.vl hf)
  have CV := hide (fun w => var_any l w hb.2.1 hb.2.2)
  have CA := refAt_any w a cap ts (varI l) h hl T.vl
  have hfl := T.fal hf
  rw [hfl.2.2] at CA
  replace CA := hide CA
  unfold levI
  have hj := hfl.1
  generalize pl ts l = j at *
  obtain ⟨b, off, rfl, hA⟩ := h j hj
  have hc1 := hA.c1
  have hj' : (j : Int) < ts.length := by omega
  clear hA h T hf hb hfl
  generalize (nth ts j).lev = lv at *
  generalize varI l = vv at *
  go_enter Try.func23, Try.ntmps23
  go_wp2_with (first | (go_at_call 44; refine (unhide CV _).mono ?_; rintro e w0 ⟨rfl, hw0⟩; subst w0) | (go_at_call 43; refine (unhide CA).mono ?_; rintro e w0 ⟨rfl, hw0⟩; subst w0))
  go_ret
  exact ⟨rfl, rfl⟩

set_option maxHeartbeats 2000000 in
theorem refBreaks_any (w : World) (a b : Option Addr) (ca cb : Nat) (ts : List As) (c : List Int) (h : Trl w a ts) (hl : ts.length ≤ 20) (hd : Dst ts) (hv : Vl ts) (hr : Row w b c) (hm : c.length ≤ maxLen) :
    Calls Try.prog 22 #[.slice a ts.length ca, .slice b c.length cb] w fun e w' => e = .returned (.bool (c.all (fun l => falB ts l))) ∧ ∃ n, w' = w.drewN n := by
  unfold maxLen at hm
  have CL := hide (fun l w => lit_any l w)
  have CA := hide (fun n v => refAt_any (w.drewN n) a ca ts v (h.drewN n) hl hv)
  go_enter Try.func22, Try.ntmps22
  go_wp2
  go_loopw [5] (fun i wr => ∃ q n : Nat, q ≤ c.length ∧ i = .int .i64 q ∧ (c.take q).all (fun l => falB ts l) = true ∧ wr = w.drewN n) (fun i _ => c.length - (intOf i).toNat)
  case atStart => exact ⟨0, 0, Nat.zero_le _, rfl, rfl, rfl⟩
  case round =>
    obtain ⟨q, n, hq, rfl, hno, rfl⟩ := hrel
    have HN := hide hno
    clear hno
    by_cases hlt : q < c.length
    · obtain ⟨b1, off1, rfl, hb1, hc⟩ := hr q hlt
      have hlt' : (q : Int) < c.length := by omega
      by_cases hlit : litB c[q] 1048576 = true
      · have hb2 := litB_true.1 hlit
        have CV := hide (fun w => var_any c[q] w hb2.2.1 hb2.2.2)
        have CL2 := (unhide CL) c[q]
        rw [hlit] at CL2
        replace CL2 := hide CL2
        have CA2 := fun n => (unhide CA) n (varI c[q])
        have HF := fal_of_at hd hv hlit
        rcases atI_cases ts (varI c[q]) with ⟨ha, _⟩ | ⟨j, hj, ha, _⟩
        · rw [ha] at CA2 HF
          have HF' : Hid (falB ts c[q] = false) := by show _ = _; rw [HF]; rfl
          replace CA2 := hide CA2
          clear HF CA CL hlit h hr hd hv ha hb2
          generalize varI c[q] = vv at *
          go_wp2_with (first | (go_at_call 17; refine (unhide CL2 _).mono ?_; rintro e w0 ⟨rfl, hw0⟩; subst w0) | (go_at_call 44; refine (unhide CV _).mono ?_; rintro e w0 ⟨rfl, hw0⟩; subst w0) | (go_at_call 43; refine (unhide CA2 _).mono ?_; rintro e w0 ⟨rfl, hw0⟩; subst w0))
          go_quiet (fail)
          go_wp2
          go_ret
          exact ⟨ret_bool (all_false_at _ c q hlt HF'.out).symm, n + nq, World.drewN_drewN _ _ _⟩
        · rw [ha] at CA2 HF
          have HF' : Hid (falB ts c[q] = ((nth ts j).lit == -c[q])) := by show _ = _; rw [HF]; simp
          obtain ⟨b2, off2, rfl, hA⟩ := h j hj
          have hA0 := hA.c0
          have hj' : (j : Int) < ts.length := by omega
          have hjn : decide ((j : Int) < 0) = false := by simp
          have hwn : IntKind.i64.wrap (-c[q]) = -c[q] := by rw [IntKind.wrap_i64]; omega
          have hb3 := hb2.2.1
          have hb4 := hb2.2.2
          replace CA2 := hide CA2
          by_cases he : (nth ts j).lit = -c[q]
          · have he' : ((nth ts j).lit != -c[q]) = false := by simp [he]
            have HF2 : Hid (falB ts c[q] = true) := by show _ = _; rw [HF'.out]; simp [he]
            clear HF HF' CA CL hlit h hr hd hv ha hb2 hA he
            generalize varI c[q] = vv at *
            generalize (nth ts j).lit = lt at *
            go_wp2_with (first | (go_at_call 17; refine (unhide CL2 _).mono ?_; rintro e w0 ⟨rfl, hw0⟩; subst w0) | (go_at_call 44; refine (unhide CV _).mono ?_; rintro e w0 ⟨rfl, hw0⟩; subst w0) | (go_at_call 43; refine (unhide CA2 _).mono ?_; rintro e w0 ⟨rfl, hw0⟩; subst w0))
            go_quiet (fail)
            go_wp2
            go_roundw
            case rel => exact ⟨q + 1, n + nq, by omega, by go_num, all_take_snoc _ c q hlt HN.out HF2.out, rfl⟩
            case measure => simp [intOf]; omega
          · have he' : ((nth ts j).lit != -c[q]) = true := by simp [he]
            have HF2 : Hid (falB ts c[q] = false) := by show _ = _; rw [HF'.out]; simp [he]
            clear HF HF' CA CL hlit h hr hd hv ha hb2 hA he
            generalize varI c[q] = vv at *
            generalize (nth ts j).lit = lt at *
            go_wp2_with (first | (go_at_call 17; refine (unhide CL2 _).mono ?_; rintro e w0 ⟨rfl, hw0⟩; subst w0) | (go_at_call 44; refine (unhide CV _).mono ?_; rintro e w0 ⟨rfl, hw0⟩; subst w0) | (go_at_call 43; refine (unhide CA2 _).mono ?_; rintro e w0 ⟨rfl, hw0⟩; subst w0))
            go_quiet (fail)
            go_wp2
            go_ret
            exact ⟨ret_bool (all_false_at _ c q hlt HF2.out).symm, n + nq, World.drewN_drewN _ _ _⟩
      · have hlit' : litB c[q] 1048576 = false := by simpa using hlit
        have HF : Hid (falB ts c[q] = false) := by
          show _ = _
          cases e : falB ts c[q] with
          | false => rfl
          | true => rw [fal_lit hv e] at hlit'; cases hlit'
        have CL2 := (unhide CL) c[q]
        rw [hlit'] at CL2
        replace CL2 := hide CL2
        clear CA CL hlit hlit' h hr hd hv
        go_wp2_with (go_at_call 17; refine (unhide CL2 _).mono ?_; rintro e w0 ⟨rfl, hw0⟩; subst w0)
        go_ret
        exact ⟨ret_bool (all_false_at _ c q hlt HF.out).symm, n, rfl⟩
    · have hz : c.length ≤ q := by omega
      clear hr h CA CL
      go_wp2
      go_ret
      exact ⟨ret_bool (all_of_take hz HN.out).symm, n, rfl⟩

end Go.Proofs.Ytaepanmkofhgoaa
