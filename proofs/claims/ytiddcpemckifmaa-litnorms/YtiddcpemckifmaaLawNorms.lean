/- Which lists are clauses, their order, and which are tautologies: the law's own text, walked. -/
import Derived.Test.YtiddcpemckifmaaWalkK
import Derived.Test.YtiddcpemckifmaaOpen
set_option linter.unusedVariables false
set_option linter.unusedSimpArgs false
namespace Go.Proofs.Ytiddcpemckifmaa
open Go.RowKit

theorem within_order (c : List Int) : withinB (order c) c = true := by
  unfold withinB; rw [List.all_eq_true]; intro x hx; rw [hasB_iff]; exact order_mem.1 hx
theorem order_within (c : List Int) : withinB c (order c) = true := by
  unfold withinB; rw [List.all_eq_true]; intro x hx; rw [hasB_iff]; exact order_mem.2 hx
theorem intsB_self (c : List Int) : intsB c c = true := by simp [intsB]

set_option maxHeartbeats 2000000 in
theorem norms_law (a : Option Addr) (cap : Nat) (c : List Int) (w : World) (hr : Row w a c) (hl : c.length ≤ maxLen) :
    Calls Try.prog 3 #[.slice a c.length cap] w fun e w' => e = .returned (.bool true) ∧ Below w.heap.size w w' := by
  have C8 := hide awake_any
  by_cases hc : 5000 < (c.length : Int)
  · clear hr
    unfold maxLen at hl
    go_enter Try.func3, Try.ntmps3
    go_wp2_with fail
    refine (unhide C8 _).mono ?_
    rintro e w1 ⟨rfl, hb⟩
    go_wp2
    go_ret
    exact ⟨rfl, hb⟩
  have hlen : c.length ≤ 5000 := by omega
  by_cases hmay : mayB c 1048576 = true
  case neg =>
    have hmay' : mayB c 1048576 = false := by simpa using hmay
    have C1 := hide (norm_no a cap c w hr hl hmay')
    have C2 := may_any a cap c w hr hl
    have C3 := check_any a cap c w hr hl
    rw [hmay'] at C2 C3
    replace C2 := hide C2
    replace C3 := hide C3
    clear hr hmay hmay' hl
    go_enter Try.func3, Try.ntmps3
    go_wp2_with fail
    refine (unhide C1).mono ?_
    rintro e w0 ⟨rfl, hw0⟩
    subst w0
    go_wp2_with fail
    refine (unhide C2).mono ?_
    rintro e w0 ⟨rfl, hw0⟩
    subst w0
    go_wp2_with fail
    refine (unhide C3).mono ?_
    rintro e w0 ⟨rfl, hw0⟩
    subst w0
    simp only [errI, Bool.false_eq_true, if_false]
    go_wp2_with fail
    refine (unhide C8 _).mono ?_
    rintro e w1 ⟨rfl, hb⟩
    go_wp2
    go_ret
    exact ⟨rfl, hb⟩
  have C1 := hide (norm_yes a cap c w hr hlen hmay)
  have hli := lits_of hmay
  have HR := hide hr
  have HM := hide hmay
  have hol := order_len c
  have HL := hide hl
  clear hr hmay hl
  by_cases hc6 : 600 < (c.length : Int)
  · go_enter Try.func3, Try.ntmps3
    go_wp2_with fail
    refine (unhide C1).mono ?_
    rintro e w1 ⟨v1, rfl, hown, hbel⟩
    have hr1 := HR.out.below hbel
    have C2 := may_any a cap c w1 hr1 HL.out
    have C3 := check_any a cap c w1 hr1 HL.out
    rw [HM.out] at C2 C3
    replace C2 := hide C2
    replace C3 := hide C3
    clear hr1 hown C1
    go_wp2_with fail
    refine (unhide C2).mono ?_
    rintro e w0 ⟨rfl, hw0⟩
    subst w0
    go_wp2_with fail
    refine (unhide C3).mono ?_
    rintro e w0 ⟨rfl, hw0⟩
    subst w0
    simp only [errI, if_true]
    go_wp2_with fail
    refine (unhide C8 _).mono ?_
    rintro e w2 ⟨rfl, hb⟩
    go_wp2
    go_ret
    exact ⟨rfl, hbel.trans (hb.mono hbel.size)⟩
  go_enter Try.func3, Try.ntmps3
  go_wp2_with fail
  refine (unhide C1).mono ?_
  rintro e w1 ⟨v1, rfl, hown, hbel⟩
  obtain ⟨a1, cap1, rfl, hrow1, hml1, _⟩ := hown.row
  have hr1 := HR.out.below hbel
  have C2 := may_any a cap c w1 hr1 HL.out
  have C3 := check_any a cap c w1 hr1 HL.out
  have C4 := hide (order_any a cap c w1 hr1 hlen hli)
  rw [HM.out] at C2 C3
  replace C2 := hide C2
  replace C3 := hide C3
  have HR1 := hide hr1
  have HROW := hide hrow1
  clear hr1 hown C1 HR hrow1
  go_wp2_with fail
  refine (unhide C2).mono ?_
  rintro e w0 ⟨rfl, hw0⟩
  subst w0
  go_wp2_with fail
  refine (unhide C3).mono ?_
  rintro e w0 ⟨rfl, hw0⟩
  subst w0
  simp only [errI, if_true]
  go_wp2_with fail
  refine (unhide C4).mono ?_
  rintro e w2 ⟨v2, rfl, hown2, hbel2⟩
  obtain ⟨a2, cap2, rfl, hrow2, hml2, _⟩ := hown2.row
  have hrow12 := HROW.out.below hbel2
  have hr2 := HR1.out.below hbel2
  have C5 := ints_any a1 a2 cap1 cap2 (order c) (order c) w2 hrow12 hrow2 hml1 hml1
  rw [intsB_self] at C5
  replace C5 := hide C5
  have HR2 := hide hr2
  have HROW2 := hide hrow12
  have hbelA := hbel.trans (hbel2.mono hbel.size)
  clear hr2 hrow12 hrow2 hown2 C2 C3 C4 HR1 HROW hbel hbel2
  go_wp2_with fail
  refine (unhide C5).mono ?_
  rintro e w3 ⟨rfl, n3, rfl⟩
  have C6 := hide (taut_any a cap c (w2.drewN n3) (HR2.out.drewN n3) HL.out hli)
  have C7 := within_any a1 a cap1 cap (order c) c (w2.drewN n3) (HROW2.out.drewN n3) (HR2.out.drewN n3) (by omega) (by omega)
  rw [within_order] at C7
  replace C7 := hide C7
  clear C5
  generalize tautB c = tb at *
  generalize hw4 : w2.drewN n3 = w4 at *
  have hbelB : Below w.heap.size w w4 := by rw [← hw4]; exact below_drewN hbelA _
  have HR4 : Hid (Row w4 a c) := by show Row w4 a c; rw [← hw4]; exact HR2.out
  have HROW4 : Hid (Row w4 a1 (order c)) := by show Row w4 a1 (order c); rw [← hw4]; exact HROW2.out
  clear hw4 HR2 HROW2 hbelA
  go_wp2_with fail
  refine (unhide C6).mono ?_
  rintro e w0 ⟨rfl, hw0⟩
  subst w0
  go_wp2_with fail
  refine (unhide C7).mono ?_
  rintro e w5 ⟨rfl, hb5⟩
  have C9 := within_any a a1 cap cap1 c (order c) w5 (HR4.out.below hb5) (HROW4.out.below hb5) (by omega) (by omega)
  rw [order_within] at C9
  replace C9 := hide C9
  have hbelC := hbelB.trans (hb5.mono hbelB.size)
  clear HR4 HROW4 C6 C7 hb5 hbelB
  go_wp2_with fail
  refine (unhide C9).mono ?_
  rintro e w6 ⟨rfl, hb6⟩
  have hbelD := hbelC.trans (hb6.mono hbelC.size)
  clear hb6 hbelC C9
  go_wp2_with fail
  refine (unhide C8 _).mono ?_
  rintro e w7 ⟨rfl, hb7⟩
  have hbelE := hbelD.trans (hb7.mono hbelD.size)
  go_wp2
  go_ret
  exact ⟨rfl, hbelE⟩

end Go.Proofs.Ytiddcpemckifmaa
