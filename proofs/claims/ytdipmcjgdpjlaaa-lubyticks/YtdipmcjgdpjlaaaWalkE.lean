/- Contracts of the document: which paces may be; a pace behind a conflict. -/
import Derived.Test.YtdipmcjgdpjlaaaWalkD
set_option linter.unusedVariables false
set_option linter.unusedSimpArgs false
namespace Go.Proofs.Ytdipmcjgdpjlaaa
open Go.RowKit

theorem inB_parts {m x : Int} (h : inB m x = false) : (decide (1 ≤ x) = false) ∨ (decide (1 ≤ x) = true ∧ decide (x ≤ m) = false) := by
  unfold inB at h
  cases h1 : decide (1 ≤ x) <;> simp_all
theorem inB_both {m x : Int} (h : inB m x = true) : decide (1 ≤ x) = true ∧ decide (x ≤ m) = true := by
  unfold inB at h; simpa using h

set_option maxHeartbeats 4000000 in
set_option maxRecDepth 100000 in
theorem refMay_any (U A L : Int) (w : World) :
    Calls Try.prog 13 #[.agg #[.int .i64 U, .int .i64 A, .int .i64 L]] w fun e w' => e = .returned (.bool (mayB U A L)) ∧ Below w.heap.size w w' := by
  have hB := hide ((Below.refl w.heap.size w).alloc (Nat.le_refl _) (.cells #[.int .i64 U, .int .i64 A, .int .i64 L] 30))
  rcases mayB_cases U A L with ⟨h0, h1⟩ | ⟨h0, h1, h2⟩ | ⟨h0, h1, h2, h3⟩ | ⟨h1, h2, h3⟩
  · rw [h0]
    rcases inB_parts h1 with d1 | ⟨d1, d2⟩
    all_goals
      clear h0 h1
      go_enter Try.func13, Try.ntmps13
      go_wp2
      go_quiet (fail)
      go_wp2
      go_ret
      exact ⟨rfl, below_drewN hB.out _⟩
  · rw [h0]
    obtain ⟨d1, d2⟩ := inB_both h1
    rcases inB_parts h2 with d3 | ⟨d3, d4⟩
    all_goals
      clear h0 h1 h2
      go_enter Try.func13, Try.ntmps13
      go_wp2
      go_quiet (fail)
      go_wp2
      go_ret
      exact ⟨rfl, below_drewN hB.out _⟩
  · rw [h0]
    obtain ⟨d1, d2⟩ := inB_both h1
    obtain ⟨d3, d4⟩ := inB_both h2
    have d5 : decide (1 ≤ L) = false := by simpa using h3
    clear h0 h1 h2 h3
    go_enter Try.func13, Try.ntmps13
    go_wp2
    go_quiet (fail)
    go_wp2
    go_ret
    exact ⟨rfl, below_drewN hB.out _⟩
  · rw [mayB_last h1 h2 h3]
    obtain ⟨d1, d2⟩ := inB_both h1
    obtain ⟨d3, d4⟩ := inB_both h2
    have d5 : decide (1 ≤ L) = true := by simpa using h3
    obtain ⟨u1, u2⟩ := inB_true h1
    obtain ⟨a1, a2⟩ := inB_true h2
    obtain ⟨n, rfl⟩ : ∃ n : Nat, A = (n : Int) := ⟨A.toNat, by omega⟩
    rw [Int.toNat_natCast]
    have hl := lub_bd (n := n) (by omega) (by omega)
    have CN : Hid (∀ W, Calls Try.prog 8 #[.int .i64 (n : Int)] W fun e w' => e = .returned (.int .i64 (lub n : Int)) ∧ w' = W) := fun W => refNumber_any n W (by omega) (by omega)
    generalize lub n = l at *
    obtain ⟨l1, l2⟩ := hl
    obtain ⟨r1, r2⟩ := prod_bd u1 u2 (l := (l : Int)) (by omega) (by omega)
    obtain ⟨R, hR⟩ : ∃ R : Nat, U * (l : Int) = (R : Int) := ⟨(U * (l : Int)).toNat, by omega⟩
    rw [hR] at r1 r2 ⊢
    clear h1 h2
    go_enter Try.func13, Try.ntmps13
    go_wp2
    go_quiet ((go_at_call 8; exact Calls.quiet_of_same (unhide CN _)))
    go_wp2
    go_ret
    exact ⟨rfl, below_drewN hB.out _⟩

set_option maxHeartbeats 400000 in
theorem refTick_one (U A L : Int) (w : World) (hL : 1 < L) (hL2 : L ≤ 1125899906842624) :
    Calls Try.prog 16 #[.agg #[.int .i64 U, .int .i64 A, .int .i64 L]] w fun e w' => e = .returned (.tuple #[.agg #[.int .i64 U, .int .i64 A, .int .i64 (L - 1)], .bool false]) ∧ Below w.heap.size w w' := by
  have HM := mid_new w _ U A L (Below.refl _ _)
  go_enter Try.func16, Try.ntmps16
  go_wp2
  refine bodyPost_ret (v := .tuple #[.agg #[.int .i64 U, .int .i64 A, .int .i64 (L - 1)], .bool false]) (by simp [results, Try.results16, go_sem]) rfl ⟨rfl, ?_⟩
  first
    | exact (((Below.refl _ _).alloc (Nat.le_refl _) _).alloc (by simp) _)
    | exact below_put HM.bel HM.hc _ _ _

set_option maxHeartbeats 4000000 in
theorem refTick_anew (U n : Nat) (w : World) (u1 : 1 ≤ U) (u2 : U ≤ 1048576) (h1 : 1 ≤ n) (h2 : n ≤ 1073741824) (m : Nat) (hm : m = if n = 1073741824 then 1 else n + 1) :
    Calls Try.prog 16 #[.agg #[.int .i64 (U : Int), .int .i64 (n : Int), .int .i64 1]] w fun e w' => e = .returned (.tuple #[.agg #[.int .i64 (U : Int), .int .i64 (m : Int), .int .i64 ((U : Int) * (lub m : Int))], .bool true]) ∧ Below w.heap.size w w' := by
  have hm1 : 1 ≤ m ∧ m ≤ 1073741824 := by rw [hm]; split <;> omega
  obtain ⟨l1, l2⟩ := lub_bd hm1.1 hm1.2
  have CN : Hid (∀ W, Calls Try.prog 8 #[.int .i64 (m : Int)] W fun e w' => e = .returned (.int .i64 (lub m : Int)) ∧ w' = W) := fun W => refNumber_any m W hm1.1 hm1.2
  generalize lub m = l at *
  obtain ⟨r1, r2⟩ := prod_bd (U := (U : Int)) (by omega) (by omega) (l := (l : Int)) (by omega) (by omega)
  obtain ⟨R, hR⟩ : ∃ R : Nat, (U : Int) * (l : Int) = (R : Int) := ⟨U * l, by push_cast; rfl⟩
  rw [hR] at r1 r2 ⊢
  have hRw : IntKind.i64.wrap (R : Int) = (R : Int) := by rw [IntKind.wrap_i64]; omega
  by_cases hn : n = 1073741824
  · rw [if_pos hn] at hm
    subst hm
    have hb : 1073741824 < (n : Int) + 1 := by omega
    clear hn hm1
    have HM := mid_new w _ (U : Int) (n : Int) 1 (Below.refl _ _)
    go_enter Try.func16, Try.ntmps16
    go_upto_region 6 with fail
    refine forget (P := fun W => Code.wp Try.prog _ _ _ W) (fun W => Mid w W w.heap.size (w.heap.size + 1) (U : Int) (n : Int) 1) HM ?_
    clear HM
    intro W HM
    generalize w.heap.size + 1 = c at *
    generalize w.heap.size = b at HM
    have HM0 := hide HM
    obtain ⟨p0, p1, p2, pf⟩ := HM.p.all
    obtain ⟨q0, q1, q2, qf⟩ := HM.r.all
    clear HM
    go_region_with (go_at_call 8; refine (unhide CN _).mono ?_; rintro e w0 ⟨rfl, hw0⟩; subst w0)
    all_goals
      go_wp2
      refine bodyPost_ret (v := .tuple #[.agg #[.int .i64 (U : Int), .int .i64 1, .int .i64 R], .bool true]) (by simp [results, Try.results16, go_sem, q0, q1, q2, hRw]) rfl ⟨rfl, ?_⟩
      exact (below_put HM0.out.bel HM0.out.hc _ _ _).drew
  · rw [if_neg hn] at hm
    subst hm
    have hb : ¬ 1073741824 < (n : Int) + 1 := by omega
    clear hn hm1
    have HM := mid_new w _ (U : Int) (n : Int) 1 (Below.refl _ _)
    go_enter Try.func16, Try.ntmps16
    go_upto_region 6 with fail
    refine forget (P := fun W => Code.wp Try.prog _ _ _ W) (fun W => Mid w W w.heap.size (w.heap.size + 1) (U : Int) (n : Int) 1) HM ?_
    clear HM
    intro W HM
    generalize w.heap.size + 1 = c at *
    generalize w.heap.size = b at HM
    have HM0 := hide HM
    obtain ⟨p0, p1, p2, pf⟩ := HM.p.all
    obtain ⟨q0, q1, q2, qf⟩ := HM.r.all
    clear HM
    go_region_with (go_at_call 8; refine (unhide CN _).mono ?_; rintro e w0 ⟨rfl, hw0⟩; subst w0)
    all_goals
      go_wp2
      refine bodyPost_ret (v := .tuple #[.agg #[.int .i64 (U : Int), .int .i64 ((n + 1 : Nat) : Int), .int .i64 R], .bool true]) (by simp [results, Try.results16, go_sem, q0, q1, q2, hRw]) rfl ⟨rfl, ?_⟩
      exact (below_put HM0.out.bel HM0.out.hc _ _ _).drew

end Go.Proofs.Ytdipmcjgdpjlaaa
