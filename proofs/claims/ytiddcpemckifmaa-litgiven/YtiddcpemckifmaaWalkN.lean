/- Contracts over formulas: which are alike; whether one is a formula (the document's own); by which models they hold (the program's). -/
import Derived.Test.YtiddcpemckifmaaWalkM
import Derived.Test.YtiddcpemckifmaaWalkK
set_option linter.unusedVariables false
set_option linter.unusedSimpArgs false
namespace Go.Proofs.Ytiddcpemckifmaa
open Go.RowKit

def sameB (n1 : Int) (xs : List (List Int)) (n2 : Int) (ys : List (List Int)) : Bool := decide (n1 = n2) && listsB xs ys

theorem below_two (w : World) (o1 o2 : Obj) : Below w.heap.size w ((w.alloc o1).alloc o2) := (below_alloc w o1).alloc (by simp) o2

set_option maxHeartbeats 1000000 in
theorem refSame_any (a b : Option Addr) (ca cb : Nat) (n1 n2 : Int) (xs ys : List (List Int)) (w : World) (hr : Grid w a xs) (hs : Grid w b ys) (hl : xs.length ≤ maxLen) (hm : ys.length ≤ maxLen) :
    Calls Try.prog 22 #[.agg #[.int .i64 n1, .slice a xs.length ca], .agg #[.int .i64 n2, .slice b ys.length cb]] w fun e w' => e = .returned (.bool (sameB n1 xs n2 ys)) ∧ Below w.heap.size w w' := by
  have hbW := below_two w (.cells #[.int .i64 n1, .slice a xs.length ca] 36) (.cells #[.int .i64 n2, .slice b ys.length cb] 36)
  have C1 := hide (lists_any a b ca cb xs ys _ (hr.below hbW) (hs.below hbW) hl hm)
  have HB := hide hbW
  clear hbW hr hs hl hm
  by_cases h : n1 = n2
  · have h' : (n1 == n2) = true := by simp [h]
    have HE : Hid (sameB n1 xs n2 ys = listsB xs ys) := by show _ = _; simp [sameB, h]
    clear h
    go_enter Try.func22, Try.ntmps22
    go_wp2_with fail
    refine (unhide C1).mono ?_
    rintro e w1 ⟨rfl, k, rfl⟩
    go_wp2
    go_ret
    exact ⟨ret_bool HE.out.symm, below_drewN HB.out _⟩
  · have h' : (n1 == n2) = false := by simp [h]
    have HE : Hid (sameB n1 xs n2 ys = false) := by show _ = _; simp [sameB, h]
    clear h
    go_enter Try.func22, Try.ntmps22
    go_wp2
    go_ret
    exact ⟨ret_bool HE.out.symm, HB.out⟩

set_option maxHeartbeats 1000000 in
theorem litSame_any (a b : Option Addr) (ca cb : Nat) (n1 n2 : Int) (xs ys : List (List Int)) (w : World) (hr : Grid w a xs) (hs : Grid w b ys) (hl : xs.length ≤ maxLen) (hm : ys.length ≤ maxLen) :
    Calls Try.prog 21 #[.agg #[.int .i64 n1, .slice a xs.length ca], .agg #[.int .i64 n2, .slice b ys.length cb]] w fun e w' => e = .returned (.bool (sameB n1 xs n2 ys)) ∧ Below w.heap.size w w' := by
  have hbW := below_two w (.cells #[.int .i64 n1, .slice a xs.length ca] 36) (.cells #[.int .i64 n2, .slice b ys.length cb] 36)
  have hr' := hr.below hbW
  have hs' := hs.below hbW
  have HB := hide hbW
  clear hbW hr hs
  unfold maxLen at hl hm
  by_cases h : n1 = n2
  case neg =>
    have h' : (n1 != n2) = true := by simp [h]
    have HE : Hid (sameB n1 xs n2 ys = false) := by show _ = _; simp [sameB, h]
    clear h hr' hs'
    go_enter Try.func21, Try.ntmps21
    go_wp2
    go_ret
    exact ⟨ret_bool HE.out.symm, HB.out⟩
  have h' : (n1 != n2) = false := by simp [h]
  have HE : Hid (sameB n1 xs n2 ys = listsB xs ys) := by show _ = _; simp [sameB, h]
  clear h
  by_cases hne : (xs.length : Int) = ys.length
  case neg =>
    have hb : ((xs.length : Int) != ys.length) = true := by rw [bne_iff_ne]; exact hne
    have HF : Hid (listsB xs ys = false) := by show _ = _; simp only [listsB]; rw [decide_eq_false_iff_not]; intro h; apply hne; rw [h]
    clear hr' hs' hne
    go_enter Try.func21, Try.ntmps21
    go_wp2
    go_ret
    exact ⟨ret_bool (by rw [HE.out, HF.out]), HB.out⟩
  have hb : ((xs.length : Int) != ys.length) = false := by simp [hne]
  have hyl : xs.length ≤ ys.length := by omega
  have HL : Hid (xs.length = ys.length) := by show xs.length = ys.length; omega
  clear hne
  go_enter Try.func21, Try.ntmps21
  go_wp2
  go_loopw [24] (fun i wr => ∃ k n : Nat, k ≤ xs.length ∧ i = .int .i64 k ∧ xs.take k = ys.take k ∧ wr = ((w.alloc (.cells #[.int .i64 n1, .slice a xs.length ca] 36)).alloc (.cells #[.int .i64 n2, .slice b ys.length cb] 36)).drewN n) (fun i _ => xs.length - (intOf i).toNat)
  case atStart => exact ⟨0, 0, Nat.zero_le _, rfl, rfl, rfl⟩
  case round =>
    obtain ⟨k, n, hk, rfl, hno, rfl⟩ := hrel
    have HN : Hid (xs.take k = ys.take k) := hno
    clear hno
    by_cases hlt : k < xs.length
    · obtain ⟨b1, off1, a1, c1, rfl, hb1, hc1, hr1, hm1⟩ := hr' k hlt
      obtain ⟨b2, off2, a2, c2, rfl, hb2, hc2, hr2, hm2⟩ := hs' k (by omega)
      have C1 := fun j => equal_any a1 a2 c1 c2 xs[k] ys[k] _ (hr1.drewN j) (hr2.drewN j) hm1 hm2
      replace C1 := C1 n
      clear hr' hs' hb hr1 hr2
      unfold maxLen at hm1 hm2
      have hk1 : (k : Int) < xs.length := by omega
      have hk2 : (k : Int) < ys.length := by omega
      by_cases he : xs[k] = ys[k]
      · have he' : intsB xs[k] ys[k] = true := by simp [intsB, he]
        rw [he'] at C1
        replace C1 := hide C1
        have HX := hide he
        clear he he'
        go_wp2_with fail
        refine (unhide C1).mono ?_
        rintro e w1 ⟨rfl, q, rfl⟩
        go_wp2
        go_roundw
        case rel => exact ⟨k + 1, _, by omega, by go_num, takeL_eq_snoc hlt (by omega) HN.out HX.out, rfl⟩
        case measure => simp [intOf]; omega
      · have he' : intsB xs[k] ys[k] = false := by simp [intsB, he]
        rw [he'] at C1
        replace C1 := hide C1
        have HX := hide he
        clear he he'
        go_wp2_with fail
        refine (unhide C1).mono ?_
        rintro e w1 ⟨rfl, q, rfl⟩
        go_wp2
        go_ret
        exact ⟨ret_bool (by rw [HE.out]; simp only [listsB]; symm; rw [decide_eq_false_iff_not]; intro h; apply HX.out; simp only [h]), below_drewN HB.out _⟩
    · have hz : xs.length ≤ k := by omega
      clear hr' hs'
      go_wp2
      go_ret
      refine ⟨ret_bool ?_, below_drewN HB.out _⟩
      have h := HN.out
      rw [List.take_of_length_le hz, List.take_of_length_le (by have := HL.out; omega)] at h
      rw [HE.out]
      simp [listsB, h]

/-- A literal up to the greatest one, and up to a formula's. -/
theorem mayB_vars {c : List Int} {n : Int} (h2 : n ≤ 1048576) : mayB c n = (mayB c 1048576 && c.all (fun x => decide (varI x ≤ n))) := by
  have e : ∀ x, litB x n = (litB x 1048576 && decide (varI x ≤ n)) := by
    intro x
    rw [Bool.eq_iff_iff, Bool.and_eq_true, litB_true, litB_true, decide_eq_true_eq]
    have := varI_eq x
    omega
  unfold mayB
  rw [Bool.and_assoc]
  congr 1
  induction c with
  | nil => rfl
  | cons x c ih => rw [List.all_cons, List.all_cons, List.all_cons, e x, ih]; cases litB x 1048576 <;> cases decide (varI x ≤ n) <;> simp

set_option maxHeartbeats 2000000 in
theorem refCnf_any (a : Option Addr) (cap : Nat) (n : Int) (css : List (List Int)) (w : World) (hg : Grid w a css) (hl : css.length ≤ maxLen) :
    Calls Try.prog 23 #[.agg #[.int .i64 n, .slice a css.length cap]] w fun e w' => e = .returned (.bool (cnfB n css)) ∧ Below w.heap.size w w' := by
  have hbW := below_alloc w (.cells #[.int .i64 n, .slice a css.length cap] 36)
  have hg' := hg.below hbW
  clear hg
  have HB := hide hbW
  clear hbW
  unfold maxLen at hl
  by_cases h : 0 ≤ n ∧ n ≤ 1048576 ∧ css.length ≤ 262144
  case neg =>
    have HF := hide (cnfB_size h)
    clear hg'
    by_cases h1 : n < 0
    · clear h
      go_enter Try.func23, Try.ntmps23
      go_wp2
      go_ret
      exact ⟨ret_bool HF.out.symm, HB.out⟩
    by_cases h2 : 1048576 < n
    · clear h
      go_enter Try.func23, Try.ntmps23
      go_wp2
      go_ret
      exact ⟨ret_bool HF.out.symm, HB.out⟩
    · have h3 : 262144 < (css.length : Int) := by omega
      clear h
      go_enter Try.func23, Try.ntmps23
      go_wp2
      go_ret
      exact ⟨ret_bool HF.out.symm, HB.out⟩
  have HS := hide h
  obtain ⟨h1, h2, h3⟩ := h
  have h4 : (css.length : Int) ≤ 262144 := by omega
  go_enter Try.func23, Try.ntmps23
  go_wp2
  go_loopw [3] (fun i wr => ∃ k q : Nat, k ≤ css.length ∧ i = .int .i64 k ∧ (css.take k).all (fun c => mayB c n) = true ∧ wr = (w.alloc (.cells #[.int .i64 n, .slice a css.length cap] 36)).drewN q) (fun i _ => css.length - (intOf i).toNat)
  case atStart => exact ⟨0, 0, Nat.zero_le _, rfl, rfl, rfl⟩
  case round =>
    obtain ⟨k, q, hk, rfl, hno, rfl⟩ := hrel
    have HN := hide hno
    clear hno
    by_cases hlt : k < css.length
    · obtain ⟨b, off, ai, ci, rfl, hb, hc, hr, hm⟩ := hg' k hlt
      have C1 := may_any ai ci css[k] _ (hr.drewN q) hm
      have HMV := hide (mayB_vars (c := css[k]) h2)
      have HCA := hide (@cnfB_at n css k hlt)
      have HAT := hide (allL_take_snoc (fun c => mayB c n) css k hlt HN.out)
      generalize hck : css[k] = c at *
      clear hg' hck
      unfold maxLen at hm
      have hki : (k : Int) < css.length := by omega
      by_cases h5 : mayB c 1048576 = true
      case neg =>
        have h5' : mayB c 1048576 = false := by simpa using h5
        rw [h5'] at C1
        replace C1 := hide C1
        have HF : Hid (cnfB n css = false) := HCA.out (by rw [HMV.out, h5']; rfl)
        clear h5 h5' hr
        go_wp2_with fail
        refine (unhide C1).mono ?_
        rintro e w0 ⟨rfl, hw0⟩
        subst w0
        go_wp2
        go_ret
        exact ⟨ret_bool HF.out.symm, below_drewN HB.out _⟩
      have hlc := lits_of h5
      have HM5 := hide h5
      rw [h5] at C1
      replace C1 := hide C1
      clear h5
      go_wp2_with fail
      refine (unhide C1).mono ?_
      rintro e w0 ⟨rfl, hw0⟩
      subst w0
      clear C1
      go_wp2
      go_loopw [4] (fun j wi => ∃ p r : Nat, p ≤ c.length ∧ j = .int .i64 p ∧ (c.take p).all (fun x => decide (varI x ≤ n)) = true ∧ wi = (w.alloc (.cells #[.int .i64 n, .slice (some ⟨b, off, none⟩) css.length cap] 36)).drewN r) (fun j _ => c.length - (intOf j).toNat)
      case atStart => exact ⟨0, q, Nat.zero_le _, rfl, rfl, rfl⟩
      case round =>
        obtain ⟨p, r, hp, rfl, hno2, rfl⟩ := hrel
        have HN2 := hide hno2
        clear hno2
        by_cases hplt : p < c.length
        · obtain ⟨b2, off2, rfl, hb2, hc2⟩ := hr p hplt
          have hx := hlc c[p] (List.getElem_mem hplt)
          have CV := hide (fun w => var_any c[p] w hx.1 hx.2)
          have HAS := hide (all_take_snoc (fun x => decide (varI x ≤ n)) c p hplt HN2.out)
          have HAF := hide (all_false_at (fun x => decide (varI x ≤ n)) c p hplt)
          have hpi : (p : Int) < c.length := by omega
          clear hr hx hlc
          generalize varI c[p] = v at *
          by_cases h6 : v ≤ n
          · have h6' : ¬ n < v := by omega
            have HF := hide (HAS.out (by simpa using h6))
            clear HAS HAF
            go_wp2
            go_quiet ((go_at_call 42; exact quiet_shift (unhide CV _)))
            go_wp2
            go_roundw
            case rel => exact ⟨p + 1, _, by omega, by go_num, HF.out, rfl⟩
            case measure => simp [intOf]; omega
          · have h6' : n < v := by omega
            have HF : Hid (cnfB n css = false) := HCA.out (by rw [HMV.out, HAF.out (by simpa using h6)]; simp)
            clear HAS HAF h6
            go_wp2
            go_quiet ((go_at_call 42; exact quiet_shift (unhide CV _)))
            go_wp2
            go_ret
            exact ⟨ret_bool HF.out.symm, below_drewN (below_drewN HB.out _) _⟩
        · have HF := hide (HAT.out (by show mayB c n = true; rw [HMV.out, HM5.out, all_of_take (p := fun x => decide (varI x ≤ n)) (xs := c) (k := p) (by omega) HN2.out]; rfl))
          clear hr HN2 HAT
          go_wp2
          go_roundw
          case rel => exact ⟨k + 1, _, by omega, by go_num, HF.out, rfl⟩
          case measure => simp [intOf]; omega
    · clear hg'
      have HF := hide (cnfB_yes HS.out (allL_of_take (p := fun c => mayB c n) (xs := css) (k := k) (by omega) HN.out))
      go_wp2
      go_ret
      exact ⟨ret_bool HF.out.symm, below_drewN HB.out _⟩

end Go.Proofs.Ytiddcpemckifmaa
