/- Contracts over formulas: whether one is not too great, whether one is a formula, which are alike. -/
import Derived.Test.YtlmbgaconjcaiabWalkD
set_option linter.unusedVariables false
set_option linter.unusedSimpArgs false
namespace Go.Proofs.Ytlmbgaconjcaiab
open Go.RowKit

/-- A slice of slices of numbers, as it lies in memory. -/
def Grid (w : World) (a : Option Addr) (css : List (List Int)) : Prop :=
  ∀ i (h : i < css.length), ∃ b off ai ci, a = some ⟨b, off, none⟩ ∧ b < w.heap.size ∧ w.cell? ⟨b, off + i, none⟩ = some (.slice ai css[i].length ci) ∧ Row w ai css[i] ∧ css[i].length ≤ maxLen

theorem Grid.below {w w' : World} {a : Option Addr} {css : List (List Int)} (h : Grid w a css) (hb : Below w.heap.size w w') : Grid w' a css := by
  intro i hi
  obtain ⟨b, off, ai, ci, e, hlt, hc, hr, hl⟩ := h i hi
  exact ⟨b, off, ai, ci, e, Nat.lt_of_lt_of_le hlt hb.size, (hb.cell (p := ⟨b, off + i, none⟩) hlt).trans hc, hr.below hb, hl⟩

theorem Grid.drewN {w : World} {a : Option Addr} {css : List (List Int)} (h : Grid w a css) (n : Nat) : Grid (w.drewN n) a css := h

/-- How many literals a formula's clauses have. -/
def total (css : List (List Int)) : Nat := (css.map List.length).sum

def lightB (css : List (List Int)) : Bool := decide (css.length ≤ 300) && (css.all (fun c => decide (c.length ≤ 5000)) && decide (total css ≤ 6000))

theorem total_take {css : List (List Int)} {k : Nat} (h : k < css.length) : total (css.take (k + 1)) = total (css.take k) + css[k].length := by
  unfold total; rw [List.take_succ_eq_append_getElem h, List.map_append, List.sum_append]; simp

theorem total_le {css : List (List Int)} (h : css.all (fun c => decide (c.length ≤ 5000)) = true) : total css ≤ 5000 * css.length := by
  induction css with
  | nil => simp [total]
  | cons c css ih =>
    simp at h
    have := ih (by simpa using h.2)
    simp [total] at *
    omega

theorem allL_take_snoc (p : List Int → Bool) (xs : List (List Int)) (k : Nat) (h : k < xs.length) (hk : (xs.take k).all p = true) (hp : p xs[k] = true) : (xs.take (k + 1)).all p = true := by
  rw [List.take_succ_eq_append_getElem h, List.all_append, hk]; simp [hp]

theorem allL_false_at (p : List Int → Bool) (xs : List (List Int)) (k : Nat) (h : k < xs.length) (hp : p xs[k] = false) : xs.all p = false := by
  rw [List.all_eq_false]; exact ⟨xs[k], List.getElem_mem h, by simp [hp]⟩

theorem allL_of_take {p : List Int → Bool} {xs : List (List Int)} {k : Nat} (hk : xs.length ≤ k) (h : (xs.take k).all p = true) : xs.all p = true := by
  rwa [List.take_of_length_le hk] at h

set_option maxHeartbeats 1000000 in
theorem light_any (a : Option Addr) (cap : Nat) (n : Int) (css : List (List Int)) (w : World) (hg : Grid w a css) (hl : css.length ≤ maxLen) :
    Calls Try.prog 10 #[.agg #[.int .i64 n, .slice a css.length cap]] w fun e w' => e = .returned (.bool (lightB css)) ∧ Below w.heap.size w w' := by
  have hbW := below_alloc w (.cells #[.int .i64 n, .slice a css.length cap] 24)
  have hg' := hg.below hbW
  clear hg
  have HB := hide hbW
  clear hbW
  unfold maxLen at hl
  go_enter Try.func10, Try.ntmps10
  go_wp2
  go_loop [3, 4] (fun t i => ∃ k : Nat, k ≤ css.length ∧ k ≤ 301 ∧ i = .int .i64 k ∧ t = .int .i64 (total (css.take k)) ∧ (css.take k).all (fun c => decide (c.length ≤ 5000)) = true) (fun _ i => css.length - (intOf i).toNat)
  case atStart => exact ⟨0, Nat.zero_le _, by omega, rfl, rfl, rfl⟩
  case round =>
    obtain ⟨k, hk, hk3, rfl, rfl, hno⟩ := hrel
    have htl := total_le hno
    have hkl : (css.take k).length ≤ k := List.length_take_le _ _
    have HN := hide hno
    clear hno
    by_cases hlt : k < css.length
    · by_cases h3 : k ≤ 300
      · obtain ⟨b, off, ai, ci, rfl, hb, hc, hr, hm⟩ := hg' k hlt
        clear hg' hr
        unfold maxLen at hm
        have HT := hide (total_take hlt)
        by_cases h5 : (css[k].length : Int) ≤ 5000
        · have HF := hide (allL_take_snoc (fun c => decide (c.length ≤ 5000)) css k hlt HN.out (by simpa using (show css[k].length ≤ 5000 by omega)))
          go_wp2
          go_round
          case rel => exact ⟨k + 1, by omega, by omega, by go_num, by rw [HT.out]; go_num, HF.out⟩
          case measure => simp [intOf]; omega
        · have HF := hide (allL_false_at (fun c => decide (c.length ≤ 5000)) css k hlt (by simpa using (show ¬ css[k].length ≤ 5000 by omega)))
          go_wp2
          go_ret
          exact ⟨ret_bool (by unfold lightB; rw [HF.out]; simp), HB.out⟩
      · have h4 : ¬ (k : Int) ≤ 300 := by omega
        clear hg'
        go_wp2
        go_ret
        exact ⟨ret_bool (by unfold lightB; simp; omega), HB.out⟩
    · clear hg'
      have HF := hide (allL_of_take (p := fun c => decide (c.length ≤ 5000)) (xs := css) (k := k) (by omega) HN.out)
      have HE : Hid (total (css.take k) = total css) := by show _ = _; rw [List.take_of_length_le (by omega)]
      generalize total (css.take k) = T at *
      go_wp2
      all_goals
        go_ret
        exact ⟨ret_bool (by unfold lightB; rw [HF.out]; have h := HE.out; rw [Bool.eq_iff_iff]; simp; omega), HB.out⟩

/-- Is it a formula? -/
def cnfB (n : Int) (css : List (List Int)) : Bool := decide (0 ≤ n ∧ n ≤ 1048576 ∧ css.length ≤ 262144) && css.all (fun c => mayB c n)

theorem cnfB_size {n : Int} {css : List (List Int)} (h : ¬ (0 ≤ n ∧ n ≤ 1048576 ∧ css.length ≤ 262144)) : cnfB n css = false := by
  unfold cnfB; rw [decide_eq_false h]; rfl

theorem cnfB_at {n : Int} {css : List (List Int)} {k : Nat} (h : k < css.length) (hp : mayB css[k] n = false) : cnfB n css = false := by
  unfold cnfB; rw [allL_false_at _ css k h hp]; simp

theorem cnfB_yes {n : Int} {css : List (List Int)} (h : 0 ≤ n ∧ n ≤ 1048576 ∧ css.length ≤ 262144) (g : css.all (fun c => mayB c n) = true) : cnfB n css = true := by
  unfold cnfB; rw [g, decide_eq_true h]; rfl

def listsB (xs ys : List (List Int)) : Bool := decide (xs = ys)

theorem takeL_eq_snoc {xs ys : List (List Int)} {k : Nat} (h1 : k < xs.length) (h2 : k < ys.length) (h : xs.take k = ys.take k) (he : xs[k] = ys[k]) : xs.take (k + 1) = ys.take (k + 1) := by
  rw [List.take_succ_eq_append_getElem h1, List.take_succ_eq_append_getElem h2, h, he]

theorem quiet_shift2 {P : Program} {f : FuncId} {args : Array Value} {w : World} {n k : Nat} {v : Value}
    (h : Calls P f args (w.drewN (n + k)) fun e w' => e = .returned v ∧ ∃ j, w' = (w.drewN (n + k)).drewN j) : Calls P f args (w.drewN (n + k)) fun e w'' => e = .returned v ∧ ∃ m, w'' = w.drewN (n + m) :=
  h.mono fun _ _ ⟨he, j, hm⟩ => ⟨he, k + j, by rw [hm, World.drewN_drewN, Nat.add_assoc]⟩

theorem varI_eq (l : Int) : (l < 0 ∧ varI l = -l) ∨ (0 ≤ l ∧ varI l = l) := by unfold varI; split <;> omega

def sameB (n1 : Int) (xs : List (List Int)) (n2 : Int) (ys : List (List Int)) : Bool := decide (n1 = n2) && listsB xs ys

theorem below_two (w : World) (o1 o2 : Obj) : Below w.heap.size w ((w.alloc o1).alloc o2) := (below_alloc w o1).alloc (by simp) o2

/-- A literal up to the greatest one, and up to a formula's. -/
theorem mayB_vars {c : List Int} {n : Int} (h2 : n ≤ 1048576) : mayB c n = (mayB c 1048576 && c.all (fun x => decide (varI x ≤ n))) := by
  have e : ∀ x, litB x n = (litB x 1048576 && decide (varI x ≤ n)) := by
    intro x
    rw [Bool.eq_iff_iff, Bool.and_eq_true, litB_true, litB_true, decide_eq_true_eq]
    have := varI_eq x
    omega
  unfold mayB
  rw [Bool.and_assoc]
  congr 1
  induction c with
  | nil => rfl
  | cons x c ih => rw [List.all_cons, List.all_cons, List.all_cons, e x, ih]; cases litB x 1048576 <;> cases decide (varI x ≤ n) <;> simp

set_option maxHeartbeats 2000000 in
theorem refCnf_any (a : Option Addr) (cap : Nat) (n : Int) (css : List (List Int)) (w : World) (hg : Grid w a css) (hl : css.length ≤ maxLen) :
    Calls Try.prog 6 #[.agg #[.int .i64 n, .slice a css.length cap]] w fun e w' => e = .returned (.bool (cnfB n css)) ∧ Below w.heap.size w w' := by
  have hbW := below_alloc w (.cells #[.int .i64 n, .slice a css.length cap] 24)
  have hg' := hg.below hbW
  clear hg
  have HB := hide hbW
  clear hbW
  unfold maxLen at hl
  by_cases h : 0 ≤ n ∧ n ≤ 1048576 ∧ css.length ≤ 262144
  case neg =>
    have HF := hide (cnfB_size h)
    clear hg'
    by_cases h1 : n < 0
    · clear h
      go_enter Try.func6, Try.ntmps6
      go_wp2
      go_ret
      exact ⟨ret_bool HF.out.symm, HB.out⟩
    by_cases h2 : 1048576 < n
    · clear h
      go_enter Try.func6, Try.ntmps6
      go_wp2
      go_ret
      exact ⟨ret_bool HF.out.symm, HB.out⟩
    · have h3 : 262144 < (css.length : Int) := by omega
      clear h
      go_enter Try.func6, Try.ntmps6
      go_wp2
      go_ret
      exact ⟨ret_bool HF.out.symm, HB.out⟩
  have HS := hide h
  obtain ⟨h1, h2, h3⟩ := h
  have h4 : (css.length : Int) ≤ 262144 := by omega
  go_enter Try.func6, Try.ntmps6
  go_wp2
  go_loopw [3] (fun i wr => ∃ k q : Nat, k ≤ css.length ∧ i = .int .i64 k ∧ (css.take k).all (fun c => mayB c n) = true ∧ wr = (w.alloc (.cells #[.int .i64 n, .slice a css.length cap] 24)).drewN q) (fun i _ => css.length - (intOf i).toNat)
  case atStart => exact ⟨0, 0, Nat.zero_le _, rfl, rfl, rfl⟩
  case round =>
    obtain ⟨k, q, hk, rfl, hno, rfl⟩ := hrel
    have HN := hide hno
    clear hno
    by_cases hlt : k < css.length
    · obtain ⟨b, off, ai, ci, rfl, hb, hc, hr, hm⟩ := hg' k hlt
      have C1 := may_any ai ci css[k] _ (hr.drewN q) hm
      have HMV := hide (mayB_vars (c := css[k]) h2)
      have HCA := hide (@cnfB_at n css k hlt)
      have HAT := hide (allL_take_snoc (fun c => mayB c n) css k hlt HN.out)
      generalize hck : css[k] = c at *
      clear hg' hck
      unfold maxLen at hm
      have hki : (k : Int) < css.length := by omega
      by_cases h5 : mayB c 1048576 = true
      case neg =>
        have h5' : mayB c 1048576 = false := by simpa using h5
        rw [h5'] at C1
        replace C1 := hide C1
        have HF : Hid (cnfB n css = false) := HCA.out (by rw [HMV.out, h5']; rfl)
        clear h5 h5' hr
        go_wp2_with fail
        refine (unhide C1).mono ?_
        rintro e w0 ⟨rfl, hw0⟩
        subst w0
        go_wp2
        go_ret
        exact ⟨ret_bool HF.out.symm, below_drewN HB.out _⟩
      have hlc := lits_of h5
      have HM5 := hide h5
      rw [h5] at C1
      replace C1 := hide C1
      clear h5
      go_wp2_with fail
      refine (unhide C1).mono ?_
      rintro e w0 ⟨rfl, hw0⟩
      subst w0
      clear C1
      go_wp2
      go_loopw [4] (fun j wi => ∃ p r : Nat, p ≤ c.length ∧ j = .int .i64 p ∧ (c.take p).all (fun x => decide (varI x ≤ n)) = true ∧ wi = (w.alloc (.cells #[.int .i64 n, .slice (some ⟨b, off, none⟩) css.length cap] 24)).drewN r) (fun j _ => c.length - (intOf j).toNat)
      case atStart => exact ⟨0, q, Nat.zero_le _, rfl, rfl, rfl⟩
      case round =>
        obtain ⟨p, r, hp, rfl, hno2, rfl⟩ := hrel
        have HN2 := hide hno2
        clear hno2
        by_cases hplt : p < c.length
        · obtain ⟨b2, off2, rfl, hb2, hc2⟩ := hr p hplt
          have hx := hlc c[p] (List.getElem_mem hplt)
          have CV := hide (fun w => var_any c[p] w hx.1 hx.2)
          have HAS := hide (all_take_snoc (fun x => decide (varI x ≤ n)) c p hplt HN2.out)
          have HAF := hide (all_false_at (fun x => decide (varI x ≤ n)) c p hplt)
          have hpi : (p : Int) < c.length := by omega
          clear hr hx hlc
          generalize varI c[p] = v at *
          by_cases h6 : v ≤ n
          · have h6' : ¬ n < v := by omega
            have HF := hide (HAS.out (by simpa using h6))
            clear HAS HAF
            go_wp2
            go_quiet ((go_at_call 12; exact quiet_shift (unhide CV _)))
            go_wp2
            go_roundw
            case rel => exact ⟨p + 1, _, by omega, by go_num, HF.out, rfl⟩
            case measure => simp [intOf]; omega
          · have h6' : n < v := by omega
            have HF : Hid (cnfB n css = false) := HCA.out (by rw [HMV.out, HAF.out (by simpa using h6)]; simp)
            clear HAS HAF h6
            go_wp2
            go_quiet ((go_at_call 12; exact quiet_shift (unhide CV _)))
            go_wp2
            go_ret
            exact ⟨ret_bool HF.out.symm, below_drewN (below_drewN HB.out _) _⟩
        · have HF := hide (HAT.out (by show mayB c n = true; rw [HMV.out, HM5.out, all_of_take (p := fun x => decide (varI x ≤ n)) (xs := c) (k := p) (by omega) HN2.out]; rfl))
          clear hr HN2 HAT
          go_wp2
          go_roundw
          case rel => exact ⟨k + 1, _, by omega, by go_num, HF.out, rfl⟩
          case measure => simp [intOf]; omega
    · clear hg'
      have HF := hide (cnfB_yes HS.out (allL_of_take (p := fun c => mayB c n) (xs := css) (k := k) (by omega) HN.out))
      go_wp2
      go_ret
      exact ⟨ret_bool HF.out.symm, below_drewN HB.out _⟩

end Go.Proofs.Ytlmbgaconjcaiab
