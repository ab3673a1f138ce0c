/- The value of any literal and clause: the law's own text, walked. -/
import Derived.Test.YtiddcpemckifmaaOpen
set_option linter.unusedVariables false
set_option linter.unusedSimpArgs false
namespace Go.Proofs.Ytiddcpemckifmaa
open Go.RowKit

set_option maxHeartbeats 1000000 in
theorem values_law (a b : Option Addr) (ca cb : Nat) (m c : List Int) (l : Int) (w : World) (hr : Row w a m) (hs : Row w b c) (hl : m.length ≤ maxLen) (hm : c.length ≤ maxLen) :
    Calls Try.prog 4 #[.slice a m.length ca, .slice b c.length cb, .int .i64 l] w fun e w' => e = .returned (.bool true) ∧ Below w.heap.size w w' := by
  have C8 := hide awake_any
  by_cases hc : 600 < (c.length : Int)
  · clear hr hs
    unfold maxLen at hl hm
    go_enter Try.func4, Try.ntmps4
    go_wp2_with fail
    refine (unhide C8 _).mono ?_
    rintro e w1 ⟨rfl, hb⟩
    go_wp2
    go_ret
    exact ⟨rfl, hb⟩
  have C1 := hide (litValue_any a ca m l w hr hl)
  have C2 := hide (refValue_any a ca m l w hr hl)
  have C3 := hide (may_any b cb c w hs hm)
  generalize hv : valI m l = v at *
  clear hv
  by_cases hmay : mayB c 1048576 = true
  case neg =>
    have hmay' : mayB c 1048576 = false := by simpa using hmay
    rw [hmay'] at C3
    have C4 := hide (litClause_no a b ca cb m c w hs hm hmay')
    clear hr hs hmay hmay'
    unfold maxLen at hl hm
    go_enter Try.func4, Try.ntmps4
    go_wp2_with fail
    refine (unhide C1).mono ?_
    rintro e w0 ⟨rfl, hw0⟩
    subst w0
    go_wp2_with fail
    refine (unhide C2).mono ?_
    rintro e w0 ⟨rfl, hw0⟩
    subst w0
    go_wp2_with fail
    refine (unhide C3).mono ?_
    rintro e w0 ⟨rfl, hw0⟩
    subst w0
    go_wp2_with fail
    refine (unhide C4).mono ?_
    rintro e w0 ⟨rfl, hw0⟩
    subst w0
    go_wp2_with fail
    refine (unhide C8 _).mono ?_
    rintro e w1 ⟨rfl, hb⟩
    go_wp2
    go_ret
    exact ⟨rfl, hb⟩
  rw [hmay] at C3
  have C4 := hide (norm_yes b cb c w hs (by omega) hmay)
  have hmo := order_may hmay
  have HCL := hide (clauseI_order m c)
  have HR := hide hr
  have HS := hide hs
  have HM := hide hmay
  clear hr hs hmay
  have HL := hide hl
  have HMl := hide hm
  unfold maxLen at hl hm
  go_enter Try.func4, Try.ntmps4
  go_wp2_with fail
  refine (unhide C1).mono ?_
  rintro e w0 ⟨rfl, hw0⟩
  subst w0
  go_wp2_with fail
  refine (unhide C2).mono ?_
  rintro e w0 ⟨rfl, hw0⟩
  subst w0
  go_wp2_with fail
  refine (unhide C3).mono ?_
  rintro e w0 ⟨rfl, hw0⟩
  subst w0
  go_wp2_with fail
  refine (unhide C4).mono ?_
  rintro e w1 ⟨v1, rfl, hown, hbel⟩
  obtain ⟨a1, cap1, rfl, hrow1, hml1, _⟩ := hown.row
  have hr1 := HR.out.below hbel
  have hs1 := HS.out.below hbel
  have D1 := hide (litClause_any a b ca cb m c w1 hr1 hs1 HL.out HMl.out HM.out)
  have D2 := hide (refClause_any a b ca cb m c w1 hr1 hs1 HL.out HMl.out)
  have D3 := litClause_any a a1 ca cap1 m (order c) w1 hr1 hrow1 HL.out hml1 hmo
  rw [HCL.out] at D3
  have D3 := hide D3
  clear hr1 hs1 hrow1 hown C1 C2 C3 C4 HR HS HM HCL hmo
  generalize clauseI m c = q at *
  go_wp2_with fail
  refine (unhide D1).mono ?_
  rintro e w0 ⟨rfl, hw0⟩
  subst w0
  go_wp2_with fail
  refine (unhide D2).mono ?_
  rintro e w0 ⟨rfl, hw0⟩
  subst w0
  go_wp2_with fail
  refine (unhide D3).mono ?_
  rintro e w0 ⟨rfl, hw0⟩
  subst w0
  go_wp2_with fail
  refine (unhide D1).mono ?_
  rintro e w0 ⟨rfl, hw0⟩
  subst w0
  go_wp2_with fail
  refine (unhide C8 _).mono ?_
  rintro e w2 ⟨rfl, hb⟩
  go_wp2
  go_ret
  exact ⟨rfl, hbel.trans (hb.mono hbel.size)⟩

end Go.Proofs.Ytiddcpemckifmaa
