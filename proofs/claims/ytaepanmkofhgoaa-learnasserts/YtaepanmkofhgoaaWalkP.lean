/- Contracts: why a trail and a broken clause may not be; what is learned. -/
import Derived.Test.YtaepanmkofhgoaaWalkO
set_option linter.unusedVariables false
set_option linter.unusedSimpArgs false
namespace Go.Proofs.Ytaepanmkofhgoaa
open Go.RowKit Go.Maps

/-- Is it a broken clause of a trail? -/
def brkB (ts : List As) (c : List Int) : Bool := mayB c 1048576 && c.all (fun l => falB ts l)
/-- May a trail be, and a broken clause of it? -/
def mayLB (ts : List As) (c : List Int) : Bool := mayT ts && brkB ts c

theorem fit_of_may {c : List Int} (h : mayB c 1048576 = true) : Fit c := fun x hx => by have := litB_true.1 (mayB_lit h x hx); omega

set_option maxHeartbeats 1000000 in
theorem isBroken_any (w : World) (pb : Nat) (ts : List As) (x : PP) (a : Option Addr) (cap : Nat) (c : List Int) (h : Pth w pb ts ts.length x) (hr : Row w a c) (hl : c.length ≤ maxLen) :
    Calls Try.prog 27 #[.pointer (some ⟨pb, 0, none⟩), .slice a c.length cap] w fun e w' => e = .returned (.bool (brkB ts c)) ∧ ∃ n, w' = w.drewN n := by
  have CK := check_any a cap c w hr hl
  by_cases hm : mayB c 1048576 = true
  · have CF := areFalse_any w pb ts ts.length x a cap c h hr hl (fit_of_may hm)
    rw [List.take_length] at CF
    have HR : Hid (brkB ts c = c.all (fun l => falB ts l)) := by show _ = _; unfold brkB; rw [hm]; rfl
    have e : errI (mayB c 1048576) = 0 := by rw [hm]; rfl
    rw [e] at CK
    replace CK := hide CK
    replace CF := hide CF
    clear hm e h hr
    generalize c.all (fun l => falB ts l) = R at *
    generalize brkB ts c = R2 at *
    go_enter Try.func27, Try.ntmps27
    go_wp2_with (first | (go_at_call 49; refine (unhide CK).mono ?_; rintro e w0 ⟨rfl, hw0⟩; subst w0) | (go_at_call 36; refine (unhide CF).mono ?_; rintro e w0 ⟨rfl, n, hw0⟩; subst w0))
    go_ret
    exact ⟨ret_bool HR.out.symm, n, rfl⟩
  · have hm' : mayB c 1048576 = false := by simpa using hm
    have HR : Hid (brkB ts c = false) := by show _ = _; unfold brkB; rw [hm']; rfl
    have e : errI (mayB c 1048576) = 1 := by rw [hm']; rfl
    rw [e] at CK
    replace CK := hide CK
    clear hm hm' e h hr
    generalize brkB ts c = R2 at *
    go_enter Try.func27, Try.ntmps27
    go_wp2_with (go_at_call 49; refine (unhide CK).mono ?_; rintro e w0 ⟨rfl, hw0⟩; subst w0)
    go_ret
    exact ⟨ret_bool HR.out.symm, 0, rfl⟩

set_option maxHeartbeats 2000000 in
theorem learnCheck_any (w : World) (a b : Option Addr) (ca cb : Nat) (ts : List As) (c : List Int) (h : Trl w a ts) (h20 : ts.length ≤ 20) (hr : Row w b c) (hl : c.length ≤ 100) :
    Calls Try.prog 10 #[.slice a ts.length ca, .slice b c.length cb] w fun e w' => e = .returned (.int .i64 (errI (mayLB ts c))) ∧ Below w.heap.size w w' := by
  have CR := hide (read_any w a ca ts h h20)
  go_enter Try.func10, Try.ntmps10
  go_wp2_with fail
  refine (unhide CR).mono ?_
  rintro e w1 (⟨hm, rfl, hb⟩ | ⟨pb, x, hm, rfl, R⟩)
  · have HR : Hid (errI (mayLB ts c) = 1) := by show _ = _; unfold mayLB; rw [hm]; rfl
    clear hm CR
    go_wp2
    go_ret
    exact ⟨ret_int HR.out.symm, hb⟩
  · have CB := isBroken_any w1 pb ts x b cb c R.pth (hr.below R.bel) (by unfold maxLen; omega)
    have HB := hide R.bel
    by_cases hb : brkB ts c = true
    · have HR : Hid (errI (mayLB ts c) = 0) := by show _ = _; unfold mayLB; rw [hm, hb]; rfl
      rw [hb] at CB
      replace CB := hide CB
      clear hm hb R CR
      go_wp2_with (go_at_call 27; refine (unhide CB).mono ?_; rintro e w0 ⟨rfl, n, hw0⟩; subst w0)
      go_ret
      exact ⟨ret_int HR.out.symm, below_drewN HB.out n⟩
    · have hb' : brkB ts c = false := by simpa using hb
      have HR : Hid (errI (mayLB ts c) = 1) := by show _ = _; unfold mayLB; rw [hm, hb']; rfl
      rw [hb'] at CB
      replace CB := hide CB
      clear hm hb hb' R CR
      go_wp2_with (go_at_call 27; refine (unhide CB).mono ?_; rintro e w0 ⟨rfl, n, hw0⟩; subst w0)
      go_ret
      exact ⟨ret_int HR.out.symm, below_drewN HB.out n⟩

/-- What Learn tells where nothing may be. -/
def LearnNo (w w' : World) (e : Ending) : Prop := e = .returned (.tuple #[.slice none 0 0, .int .i64 1]) ∧ Below w.heap.size w w'
/-- What Learn tells. -/
def LearnP (w w' : World) (zs : List Int) (e : Ending) : Prop := ∃ v, e = .returned (.tuple #[v, .int .i64 0]) ∧ Own w.heap.size w' v zs ∧ v ≠ .slice none 0 0 ∧ Below w.heap.size w w'

set_option maxHeartbeats 2000000 in
theorem learn_no (w : World) (a b : Option Addr) (ca cb : Nat) (ts : List As) (c : List Int) (h : Trl w a ts) (h20 : ts.length ≤ 20) (hr : Row w b c) (hl : c.length ≤ 100) (hn : mayLB ts c = false) :
    Calls Try.prog 12 #[.slice a ts.length ca, .slice b c.length cb] w fun e w' => LearnNo w w' e := by
  have CR := hide (read_any w a ca ts h h20)
  go_enter Try.func12, Try.ntmps12
  go_wp2_with fail
  refine (unhide CR).mono ?_
  rintro e w1 (⟨hm, rfl, hb⟩ | ⟨pb, x, hm, rfl, R⟩)
  · clear hm CR
    go_wp2
    go_ret2
    exact ⟨rfl, hb⟩
  · have CB := isBroken_any w1 pb ts x b cb c R.pth (hr.below R.bel) (by unfold maxLen; omega)
    have HB := hide R.bel
    have hb' : brkB ts c = false := by unfold mayLB at hn; rw [hm] at hn; exact hn
    rw [hb'] at CB
    replace CB := hide CB
    clear hm hb' R CR hn
    go_wp2_with (go_at_call 27; refine (unhide CB).mono ?_; rintro e w0 ⟨rfl, n, hw0⟩; subst w0)
    go_ret2
    exact ⟨rfl, below_drewN HB.out n⟩

set_option maxHeartbeats 2000000 in
theorem learn_yes (w : World) (a b : Option Addr) (ca cb : Nat) (ts : List As) (c : List Int) (h : Trl w a ts) (h20 : ts.length ≤ 20) (hr : Row w b c) (hl : c.length ≤ 100) (hy : mayLB ts c = true) :
    Calls Try.prog 12 #[.slice a ts.length ca, .slice b c.length cb] w fun e w' => LearnP w w' (learnL ts c) e := by
  have CR := hide (read_any w a ca ts h h20)
  have hy2 : mayT ts = true ∧ brkB ts c = true := by unfold mayLB at hy; simpa using hy
  have hff : ∀ l ∈ c, falB ts l = true := by
    have := hy2.2
    unfold brkB at this
    rw [Bool.and_eq_true, List.all_eq_true] at this
    exact this.2
  go_enter Try.func12, Try.ntmps12
  go_wp2_with fail
  refine (unhide CR).mono ?_
  rintro e w1 (⟨hm, rfl, hb⟩ | ⟨pb, x, hm, rfl, R⟩)
  · rw [hy2.1] at hm; cases hm
  · have CB := isBroken_any w1 pb ts x b cb c R.pth (hr.below R.bel) (by unfold maxLen; omega)
    rw [hy2.2] at CB
    have T := Tr.of R.pth.ok
    have CT := hide (fun n => teach_any (w1.drewN n) pb ts x b cb c (R.pth.drewN n) (hr.below (below_drewN R.bel n)) hl hff)
    obtain ⟨jj, hI, _⟩ := loopL_inv T _ _ (InvL.start T hff hl)
    have CI := hide (fun w' B N hb hm hN => inTurn_any w' pb ts x B N (learnS ts c) (R.pth.below hb) hm hN hI.ord (fun l hl => (hI.lev T hl).1))
    have HB := hide R.bel
    replace CB := hide CB
    clear hm hy hy2 R CR T hI hff h hr
    go_wp2_with (first
      | (go_at_call 27; refine (unhide CB).mono ?_; rintro e w0 ⟨rfl, n, hw0⟩; subst w0)
      | (go_at_call 31; refine (unhide CT _).mono ?_; rintro e w2 ⟨B, N, rfl, hms, hN, hb2⟩; have hb12 : Below w1.heap.size w1 w2 := (below_drew w1 n).trans hb2)
      | (go_at_call 30; refine (unhide CI w2 B N hb12 hms hN).mono ?_; rintro e w3 ⟨v, rfl, hown, hnn, hb3⟩))
    go_ret2
    have hs1 := HB.out.size
    have hs2 := hb12.size
    exact ⟨v, rfl, hown.mono (by omega), hnn, (HB.out.trans (hb12.mono hs1)).trans (hb3.mono (by omega))⟩

end Go.Proofs.Ytaepanmkofhgoaa
