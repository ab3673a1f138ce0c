/- The law: which trails, and broken clauses of them, there may be. -/
import Derived.Test.YtaepanmkofhgoaaWalkS
import Derived.Test.YtaepanmkofhgoaaWalkQ
set_option linter.unusedVariables false
set_option linter.unusedSimpArgs false
namespace Go.Proofs.Ytaepanmkofhgoaa
open Go.RowKit

/-- A trail that came in. -/
structure TrI (w : World) (a : Option Addr) (cap : Nat) (ts : List As) : Prop where
  tr : Trl w a ts
  len : ts.length ≤ maxLen
  lc : ts.length ≤ cap
  cm : cap ≤ maxLen

set_option maxHeartbeats 2000000 in
theorem lawMay_any (w : World) (a b : Option Addr) (ca cb : Nat) (ts : List As) (c : List Int) (h : TrI w a ca ts) (hr : Row w b c) (hl : ts.length ≤ 20) (hc : c.length ≤ 100) (hrl : ∀ i, i < ts.length → (nth ts i).rsn.length ≤ 300) :
    Calls Try.prog 11 #[.slice a ts.length ca, .slice b c.length cb] w fun e w' => e = .returned (.bool (mayLB ts c)) ∧ Below w.heap.size w w' := by
  have CM := refMay_any w a ca ts h.tr hl h.lc h.cm hrl
  have CC := fun w' (hb : Below w.heap.size w w') => may_any b cb c w' (hr.below hb) (by unfold maxLen; omega)
  by_cases hm : mayT ts = true
  · have T := Tr.of ((mayT_iff (by omega)).1 hm)
    have CB := fun w' (hb : Below w.heap.size w w') => refBreaks_any w' a b ca cb ts c (h.tr.below hb) hl T.dst T.vl (hr.below hb) (by unfold maxLen; omega)
    rw [hm] at CM
    by_cases hmc : mayB c 1048576 = true
    · rw [hmc] at CC
      have HR : Hid (mayLB ts c = c.all (fun l => falB ts l)) := by show _ = _; unfold mayLB brkB; rw [hm, hmc]; rfl
      replace CM := hide CM
      replace CC := hide CC
      replace CB := hide CB
      clear h hr T hm hmc
      generalize c.all (fun l => falB ts l) = R at *
      generalize mayLB ts c = R2 at *
      go_enter Try.func11, Try.ntmps11
      go_wp2_with (first | (go_at_call 28; refine (unhide CM).mono ?_; rintro e w1 ⟨rfl, hb1⟩) | (go_at_call 29; refine (unhide CC _ hb1).mono ?_; rintro e w0 ⟨rfl, hw0⟩; subst w0) | (go_at_call 22; refine (unhide CB _ hb1).mono ?_; rintro e w0 ⟨rfl, n, hw0⟩; subst w0))
      go_ret
      exact ⟨ret_bool HR.out.symm, below_drewN hb1 n⟩
    · have hmc' : mayB c 1048576 = false := by simpa using hmc
      rw [hmc'] at CC
      have HR : Hid (mayLB ts c = false) := by show _ = _; unfold mayLB brkB; rw [hm, hmc']; rfl
      replace CM := hide CM
      replace CC := hide CC
      clear h hr T hm hmc hmc' CB
      generalize mayLB ts c = R2 at *
      go_enter Try.func11, Try.ntmps11
      go_wp2_with (first | (go_at_call 28; refine (unhide CM).mono ?_; rintro e w1 ⟨rfl, hb1⟩) | (go_at_call 29; refine (unhide CC _ hb1).mono ?_; rintro e w0 ⟨rfl, hw0⟩; subst w0))
      go_ret
      exact ⟨ret_bool HR.out.symm, hb1⟩
  · have hm' : mayT ts = false := by simpa using hm
    rw [hm'] at CM
    have HR : Hid (mayLB ts c = false) := by show _ = _; unfold mayLB; rw [hm']; rfl
    replace CM := hide CM
    clear h hr hm hm' CC
    generalize mayLB ts c = R2 at *
    go_enter Try.func11, Try.ntmps11
    go_wp2_with (go_at_call 28; refine (unhide CM).mono ?_; rintro e w1 ⟨rfl, hb1⟩)
    go_ret
    exact ⟨ret_bool HR.out.symm, hb1⟩

set_option maxHeartbeats 2000000 in
theorem checks_any (w : World) (a b : Option Addr) (ca cb : Nat) (ts : List As) (c : List Int) (h : TrI w a ca ts) (hr : Row w b c) (hc : c.length ≤ maxLen) :
    Calls Try.prog 3 #[.slice a ts.length ca, .slice b c.length cb] w fun e w' => e = .returned (.bool true) ∧ Below w.heap.size w w' := by
  have CA := hide (fun w' => awake_any w')
  have CL := hide (light_any w a b ca cb ts c h.tr h.len hc)
  go_enter Try.func3, Try.ntmps3
  go_wp2_with fail
  refine (unhide CL).mono ?_
  rintro e w0 ⟨⟨r, rfl, hr1⟩, hw0⟩
  subst w0
  cases r
  · clear hr1 CL h hr
    go_wp2_with (go_at_call 9; refine (unhide CA _).mono ?_; rintro e w1 ⟨rfl, hb⟩)
    go_ret
    exact ⟨rfl, hb⟩
  · obtain ⟨h20, h100, hrl⟩ := hr1 rfl
    have CK := learnCheck_any w a b ca cb ts c h.tr h20 hr h100
    have CM := fun w' (hb : Below w.heap.size w w') => lawMay_any w' a b ca cb ts c ⟨h.tr.below hb, h.len, h.lc, h.cm⟩ (hr.below hb) h20 h100 hrl
    by_cases hm : mayLB ts c = true
    · rw [hm] at CK CM
      have e0 : errI true = 0 := rfl
      rw [e0] at CK
      replace CK := hide CK
      replace CM := hide CM
      clear hr1 CL h hr hm e0 hrl
      go_wp2_with (first | (go_at_call 10; refine (unhide CK).mono ?_; rintro e w1 ⟨rfl, hb1⟩) | (go_at_call 11; refine (unhide CM _ hb1).mono ?_; rintro e w2 ⟨rfl, hb2⟩) | (go_at_call 9; refine (unhide CA _).mono ?_; rintro e w3 ⟨rfl, hb3⟩))
      go_ret
      have h12 := hb1.trans (hb2.mono hb1.size)
      exact ⟨rfl, h12.trans (hb3.mono h12.size)⟩
    · have hm' : mayLB ts c = false := by simpa using hm
      have CN := hide (fun w' (hb : Below w.heap.size w w') => learn_no w' a b ca cb ts c (h.tr.below hb) h20 (hr.below hb) h100 hm')
      rw [hm'] at CK CM
      have e0 : errI false = 1 := rfl
      rw [e0] at CK
      replace CK := hide CK
      replace CM := hide CM
      clear hr1 CL h hr hm hm' e0 hrl
      go_wp2_with (first | (go_at_call 10; refine (unhide CK).mono ?_; rintro e w1 ⟨rfl, hb1⟩) | (go_at_call 11; refine (unhide CM _ hb1).mono ?_; rintro e w2 ⟨rfl, hb2⟩; have h12 := hb1.trans (hb2.mono hb1.size)) | (go_at_call 12; refine (unhide CN _ h12).mono ?_; rintro e w3 ⟨rfl, hb3⟩; have h13 := h12.trans (hb3.mono h12.size)) | (go_at_call 9; refine (unhide CA _).mono ?_; rintro e w4 ⟨rfl, hb4⟩))
      go_ret
      exact ⟨rfl, h13.trans (hb4.mono h13.size)⟩

end Go.Proofs.Ytaepanmkofhgoaa
