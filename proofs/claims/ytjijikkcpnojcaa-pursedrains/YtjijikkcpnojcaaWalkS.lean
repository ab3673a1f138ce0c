/- Contracts of the document's purse: which rooms there may be; how many are missing; tokens are taken, or given. -/
import Derived.Test.YtjijikkcpnojcaaWalkR
set_option linter.unusedVariables false
set_option linter.unusedSimpArgs false
namespace Go.Proofs.Ytjijikkcpnojcaa
open Go.RowKit Go.Conc

theorem may_dec {N : Nat} {x : Bool} (h : (1 ≤ N ∧ x = decide (N ≤ 8)) ∨ (N < 1 ∧ x = false)) : x = (decide (1 ≤ N) && decide (N ≤ 8)) := by
  rcases h with ⟨h, rfl⟩ | ⟨h, rfl⟩
  · rw [decide_eq_true h]; simp
  · rw [decide_eq_false (by omega : ¬ 1 ≤ N)]; simp

set_option maxHeartbeats 1000000 in
theorem refMay_any (w : World) (al : Option Addr) (cap : Nat) (xs : List Int) (hr : Row w al xs) (hl : xs.length ≤ maxLen) :
    Calls Try.prog 6 #[.slice al xs.length cap] w fun e w' => e = .returned (.bool (mayB xs)) ∧ w' = w := by
  unfold maxLen at hl
  have HR := hide hr
  clear hr
  obtain ⟨N, hN⟩ : ∃ N, N = xs.length := ⟨_, rfl⟩
  rw [← hN] at hl ⊢
  have HN := hide hN
  clear hN
  go_enter Try.func6, Try.ntmps6
  go_wp2
  go_loop [3] (fun x => ∃ k : Nat, k ≤ N ∧ x = .int .i64 (k : Int) ∧ Hid (∀ i (hi : i < xs.length), i < k → cntB xs[i] = true)) (fun x => N - (intOf x).toNat)
  case atStart => exact ⟨0, Nat.zero_le _, rfl, fun i hi h => absurd h (by omega)⟩
  case round =>
    obtain ⟨k, hk, rfl, HG⟩ := hrel
    by_cases hlt : k < N
    · obtain ⟨q, off, rfl, hq, cq⟩ := HR.out k (by rw [← HN.out]; exact hlt)
      cases hc : cntB (xs[k]'(by rw [← HN.out]; exact hlt)) with
      | false =>
        have HM := hide (may_bad (by rw [← HN.out]; exact hlt) hc)
        have hc' : (xs[k]'(by rw [← HN.out]; exact hlt)) < 0 ∨ 4096 < (xs[k]'(by rw [← HN.out]; exact hlt)) := by
          simp [cntB] at hc
          omega
        clear hc
        generalize (xs[k]'(by rw [← HN.out]; exact hlt)) = y at *
        rcases hc' with h | h
        · go_wp2
          go_ret
          exact ⟨ret_bool HM.out.symm, rfl⟩
        · have h0 : ¬ y < 0 := by omega
          go_wp2
          go_ret
          exact ⟨ret_bool HM.out.symm, rfl⟩
      | true =>
        have HG2 : Hid (∀ i (hi : i < xs.length), i < k + 1 → cntB xs[i] = true) := by
          intro i hi h
          by_cases e : i = k
          · subst e; exact hc
          · exact HG.out i hi (by omega)
        obtain ⟨m, hm, hm4⟩ := cntB_yes hc
        rw [hm] at cq
        clear hc hm HG
        go_wp2
        go_round
        case rel => exact ⟨k + 1, by omega, by go_num, HG2⟩
        case measure => simp [intOf]; omega
    · have hkN : k = N := by omega
      have hm : Hid (mayB xs = (decide (1 ≤ N) && decide (N ≤ 8))) := by
        have h0 : xs.all cntB = true := by
          rw [List.all_eq_true]
          intro x hx
          obtain ⟨i, hi, rfl⟩ := List.getElem_of_mem hx
          exact HG.out i hi (by rw [hkN, HN.out]; exact hi)
        rw [HN.out]
        show mayB xs = _
        simp only [mayB, h0, Bool.true_and]
      clear HG hkN
      go_wp2
      all_goals
        go_ret
        exact ⟨ret_bool (by rw [hm.out]; exact may_dec (by first | exact .inl ⟨by omega, by rw [decide_eq_decide]; omega⟩ | exact .inr ⟨by omega, rfl⟩)), rfl⟩

set_option maxHeartbeats 1000000 in
theorem refSpent_any (w : World) (q off ca b cb N nx : Nat) (room left : Nat → Nat) (hR : Rf w q off b cb N room left) (hN : N ≤ 8) (hle : ∀ i, i < N → left i ≤ room i) (hrm : ∀ i, i < N → room i ≤ 4096) :
    Calls Try.prog 20 #[.agg (rv q off ca b cb N nx)] w fun e w' => e = .returned (.int .i64 ((sumN room N - sumN left N : Nat) : Int)) ∧ Below w.heap.size w w' := by
  unfold rv
  go_enter Try.func20, Try.ntmps20
  go_wp2
  refine forget (P := fun W => Code.wp Try.prog _ _ _ W) (fun W => Hid (Bxd w W w.heap.size q off ca b cb N nx)) ⟨heap_alloc_new w _, (Below.refl _ _).alloc (Nat.le_refl _) _⟩ ?_
  intro W HX
  have c0 := HX.out.c0
  have c1 := HX.out.c1
  have hRW := hR.below HX.out.bel
  clear hR
  generalize w.heap.size = X at *
  go_loopw [3, 4] (fun x i wx => ∃ k m : Nat, k ≤ N ∧ i = .int .i64 (k : Int) ∧ x = .int .i64 ((sumN room k - sumN left k : Nat) : Int) ∧ wx = W.drewN m) (fun _ i _ => N - (intOf i).toNat)
  case atStart => exact ⟨0, 0, Nat.zero_le _, rfl, rfl, rfl⟩
  case round =>
    obtain ⟨k, m, hk, rfl, rfl, rfl⟩ := hrel
    by_cases hlt : k < N
    · have er := (hRW.r k hlt).2
      have es := hRW.s.cell hlt
      have h1 := hle k hlt
      have h2 := hrm k hlt
      have h3 := sumN_le k (f := left) (g := room) (fun i hi => hle i (by omega))
      have h4 := sumN_bd k (f := room) (fun i hi => hrm i (by omega))
      have e1 : Hid (sumN room (k + 1) = sumN room k + room k) := rfl
      have e2 : Hid (sumN left (k + 1) = sumN left k + left k) := rfl
      obtain ⟨D, hD⟩ : ∃ D : Nat, D = sumN room k - sumN left k := ⟨_, rfl⟩
      rw [← hD]
      generalize sumN room k = S at *
      generalize sumN left k = L at *
      generalize room k = r at *
      generalize left k = l at *
      have hD2 : D ≤ 40000 := by omega
      have HD := hide hD
      have H3 := hide h3
      clear hD h3 h4
      go_upto_region 5 with fail
      go_quiet (fail)
      go_wp2
      go_roundw
      case rel =>
        have hd := HD.out
        have h3 := H3.out
        have e : (D : Int) + (r : Int) - (l : Int) = ((S + r - (L + l) : Nat) : Int) := by omega
        exact ⟨k + 1, _, by omega, by go_num, by rw [e1.out, e2.out]; exact congrArg (Value.int .i64) e, rfl⟩
      case measure => simp [intOf]; omega
    · have hkN : k = N := by omega
      have HK := hide hkN
      clear hkN
      go_wp2
      go_ret
      exact ⟨ret_int (by rw [HK.out]), below_drewN HX.out.bel _⟩
end Go.Proofs.Ytjijikkcpnojcaa
