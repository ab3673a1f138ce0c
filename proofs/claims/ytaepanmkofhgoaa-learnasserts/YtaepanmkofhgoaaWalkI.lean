/- Contracts: whether an assignment may stand behind those that were read; a path of which nothing was read. -/
import Derived.Test.YtaepanmkofhgoaaWalkH
import Derived.Lib.BitFns
set_option linter.unusedVariables false
set_option linter.unusedSimpArgs false
namespace Go.Proofs.Ytaepanmkofhgoaa
open Go.RowKit

theorem row_one (w : World) (x : Int) : Row (w.alloc (.cells #[.int .i64 x] 3)) (some ⟨w.heap.size, 0, none⟩) [x] := lit_row w [x]

theorem check_one (w : World) (o : Obj) (l : Int) : Calls Try.prog 49 #[.slice (some ⟨w.heap.size + 1, 0, none⟩) 1 1] ((w.alloc o).alloc (.cells #[.int .i64 l] 3)) fun e w' => e = .returned (.int .i64 (errI (litB l 1048576))) ∧ w' = ((w.alloc o).alloc (.cells #[.int .i64 l] 3)) := by
  have hrow := row_one (w.alloc o) l
  rw [size_alloc] at hrow
  have h := check_any (some ⟨w.heap.size + 1, 0, none⟩) 1 [l] ((w.alloc o).alloc (.cells #[.int .i64 l] 3)) hrow (by unfold maxLen; simp)
  have e : mayB [l] 1048576 = litB l 1048576 := by simp [mayB]
  rw [e] at h
  exact h

theorem okB_no {pre : List As} {lv : Int} {a : As} (h : litB a.lit 1048576 = false) : okB pre lv a = false := by unfold okB; rw [h]; rfl
theorem okB_twice {pre : List As} {lv : Int} {a : As} (h : atI pre (varI a.lit) ≠ -1) : okB pre lv a = false := by unfold okB; rw [decide_eq_false h]; simp
theorem okB_same {pre : List As} {lv : Int} {a : As} (h : litB a.lit 1048576 = true) (h1 : atI pre (varI a.lit) = -1) (h2 : a.lev = lv) : okB pre lv a = rsnB pre a := by
  unfold okB; rw [h, decide_eq_true h1, decide_eq_true h2, decide_eq_false (by omega : ¬ a.lev = lv + 1)]; simp
theorem okB_next {pre : List As} {lv : Int} {a : As} (h : litB a.lit 1048576 = true) (h1 : atI pre (varI a.lit) = -1) (h2 : a.lev = lv + 1) : okB pre lv a = decide (a.rsn.length = 0) := by
  unfold okB; rw [h, decide_eq_true h1, decide_eq_true h2, decide_eq_false (by omega : ¬ a.lev = lv)]; simp
theorem okB_far {pre : List As} {lv : Int} {a : As} (h1 : a.lev ≠ lv) (h2 : a.lev ≠ lv + 1) : okB pre lv a = false := by
  unfold okB; rw [decide_eq_false h1, decide_eq_false h2]; simp

theorem below_zero {N : Nat} {a w : World} (h : Below N a (w.drewN 0)) : Below N a w := h

set_option maxHeartbeats 4000000 in
theorem follows_any (w : World) (pb : Nat) (ts : List As) (k : Nat) (x : PP) (y : As) (ra : Option Addr) (rc : Nat) (lv : Int) (h : Pth w pb ts k x) (hr : Row w ra y.rsn) (hl : y.rsn.length ≤ maxLen) (hf : Fit y.rsn) (h0 : 0 ≤ lv) (h1 : lv ≤ 100) :
    Calls Try.prog 46 #[.pointer (some ⟨pb, 0, none⟩), .agg #[.int .i64 y.lit, .int .i64 y.lev, .slice ra y.rsn.length rc], .int .i64 lv] w fun e w' => e = .returned (.bool (okB (ts.take k) lv y)) ∧ Below w.heap.size w w' := by
  have CK := hide (fun o => check_one w o y.lit)
  have CP := fun w' (hb : Below w.heap.size w w') => place_any w' pb ts k x y.lit (h.below hb)
  have CR := hide (fun w' (hb : Below w.heap.size w w') => isReason_any w' pb ts k x y ra rc (h.below hb) (hr.below hb) hl hf)
  have CD := hide (fun w' => isDecided_any w' y.lit y.lev ra y.rsn.length rc)
  unfold maxLen at hl
  clear h hr hf
  by_cases hlit : litB y.lit 1048576 = true
  · have hl2 := litB_true.1 hlit
    rw [varW_lit hl2.2.1 hl2.2.2] at CP
    have eI : errI (litB y.lit 1048576) = 0 := by rw [hlit]; rfl
    rw [eI] at CK
    clear eI
    by_cases hat : atI (ts.take k) (varI y.lit) = -1
    · rw [hat] at CP
      replace CP := hide CP
      by_cases hlv : y.lev = lv
      · have HR := hide (okB_same hlit hat hlv)
        rw [hlv] at CR CD
        rw [hlv]
        have hbb : ∀ n, Below w.heap.size w (((w.alloc (.cells #[.int .i64 y.lit, .int .i64 lv, .slice ra y.rsn.length rc] 38)).alloc (.cells #[.int .i64 y.lit] 3)).drewN n) := fun n => below_drewN (((Below.refl _ _).alloc (Nat.le_refl _) _).alloc (by simp) _) n
        have HB := hide hbb
        have HB0 := hide (below_zero (hbb 0))
        clear hbb CD hlv hat hl2 hlit
        generalize okB (ts.take k) lv y = R at *
        generalize rsnB (ts.take k) y = R2 at *
        generalize y.lit = lt at *
        generalize y.rsn.length = n at *
        go_enter Try.func46, Try.ntmps46
        go_wp2_with (first | (go_at_call 49; refine (unhide CK _).mono ?_; rintro e w0 ⟨rfl, hw0⟩; subst w0) | (go_at_call 39; refine (unhide CP _ HB0.out).mono ?_; rintro e w0 ⟨rfl, m, hw0⟩; subst w0) | (go_at_call 61; refine (unhide CR _ (HB.out m)).mono ?_; rintro e w3 ⟨rfl, hb3⟩))
        go_ret
        exact ⟨ret_bool HR.out.symm, (HB.out m).trans (hb3.mono (HB.out m).size)⟩
      · by_cases hlv1 : y.lev = lv + 1
        · have HR := hide (okB_next hlit hat hlv1)
          rw [hlv1] at CD
          rw [hlv1]
          have hbb : ∀ n, Below w.heap.size w (((w.alloc (.cells #[.int .i64 y.lit, .int .i64 (lv + 1), .slice ra y.rsn.length rc] 38)).alloc (.cells #[.int .i64 y.lit] 3)).drewN n) := fun n => below_drewN (((Below.refl _ _).alloc (Nat.le_refl _) _).alloc (by simp) _) n
          have HB := hide hbb
          have HB0 := hide (below_zero (hbb 0))
          have hq : (lv + 1 == lv) = false := by simp; omega
          clear hbb CR hlv hlv1 hat hl2 hlit
          generalize okB (ts.take k) lv y = R at *
          generalize y.lit = lt at *
          generalize y.rsn.length = n at *
          go_enter Try.func46, Try.ntmps46
          go_wp2_with (first | (go_at_call 49; refine (unhide CK _).mono ?_; rintro e w0 ⟨rfl, hw0⟩; subst w0) | (go_at_call 39; refine (unhide CP _ HB0.out).mono ?_; rintro e w0 ⟨rfl, m, hw0⟩; subst w0) | (go_at_call 58; refine (unhide CD _).mono ?_; rintro e w3 ⟨rfl, hb3⟩))
          go_ret
          exact ⟨ret_bool HR.out.symm, (HB.out m).trans (hb3.mono (HB.out m).size)⟩
        · have HR := hide (okB_far (pre := ts.take k) hlv hlv1)
          have hbb : ∀ n, Below w.heap.size w (((w.alloc (.cells #[.int .i64 y.lit, .int .i64 y.lev, .slice ra y.rsn.length rc] 38)).alloc (.cells #[.int .i64 y.lit] 3)).drewN n) := fun n => below_drewN (((Below.refl _ _).alloc (Nat.le_refl _) _).alloc (by simp) _) n
          have HB := hide hbb
          have HB0 := hide (below_zero (hbb 0))
          have hq : (y.lev == lv) = false := by simpa using hlv
          have hq1 : (y.lev == lv + 1) = false := by simpa using hlv1
          clear hbb CR CD hlv hlv1 hat hl2 hlit
          generalize okB (ts.take k) lv y = R at *
          generalize y.lit = lt at *
          generalize y.lev = le at *
          generalize y.rsn.length = n at *
          go_enter Try.func46, Try.ntmps46
          go_wp2_with (first | (go_at_call 49; refine (unhide CK _).mono ?_; rintro e w0 ⟨rfl, hw0⟩; subst w0) | (go_at_call 39; refine (unhide CP _ HB0.out).mono ?_; rintro e w0 ⟨rfl, m, hw0⟩; subst w0))
          go_ret
          exact ⟨ret_bool HR.out.symm, HB.out m⟩
    · have HR := hide (okB_twice (lv := lv) hat)
      have hbb : ∀ n, Below w.heap.size w (((w.alloc (.cells #[.int .i64 y.lit, .int .i64 y.lev, .slice ra y.rsn.length rc] 38)).alloc (.cells #[.int .i64 y.lit] 3)).drewN n) := fun n => below_drewN (((Below.refl _ _).alloc (Nat.le_refl _) _).alloc (by simp) _) n
      have HB := hide hbb
      have HB0 := hide (below_zero (hbb 0))
      have hq : (atI (ts.take k) (varI y.lit) != -1) = true := by simpa using hat
      clear hbb CR CD hat hl2 hlit
      generalize atI (ts.take k) (varI y.lit) = A at *
      replace CP := hide CP
      generalize okB (ts.take k) lv y = R at *
      generalize y.lit = lt at *
      generalize y.lev = le at *
      generalize y.rsn.length = n at *
      go_enter Try.func46, Try.ntmps46
      go_wp2_with (first | (go_at_call 49; refine (unhide CK _).mono ?_; rintro e w0 ⟨rfl, hw0⟩; subst w0) | (go_at_call 39; refine (unhide CP _ HB0.out).mono ?_; rintro e w0 ⟨rfl, m, hw0⟩; subst w0))
      go_ret
      exact ⟨ret_bool HR.out.symm, HB.out m⟩
  · have hlit' : litB y.lit 1048576 = false := by simpa using hlit
    have HR := hide (okB_no (pre := ts.take k) (lv := lv) hlit')
    have eI : errI (litB y.lit 1048576) = 1 := by rw [hlit']; rfl
    rw [eI] at CK
    have hbb : Below w.heap.size w ((w.alloc (.cells #[.int .i64 y.lit, .int .i64 y.lev, .slice ra y.rsn.length rc] 38)).alloc (.cells #[.int .i64 y.lit] 3)) := ((Below.refl _ _).alloc (Nat.le_refl _) _).alloc (by simp) _
    have HB := hide hbb
    clear hbb eI CR CD CP hlit hlit'
    generalize okB (ts.take k) lv y = R at *
    generalize y.lit = lt at *
    generalize y.lev = le at *
    generalize y.rsn.length = n at *
    go_enter Try.func46, Try.ntmps46
    go_wp2_with (go_at_call 49; refine (unhide CK _).mono ?_; rintro e w0 ⟨rfl, hw0⟩; subst w0)
    go_ret
    exact ⟨ret_bool HR.out.symm, HB.out⟩

end Go.Proofs.Ytaepanmkofhgoaa
