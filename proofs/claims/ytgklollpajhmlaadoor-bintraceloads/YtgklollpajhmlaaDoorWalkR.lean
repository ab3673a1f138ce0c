/- Contracts: which proofs there may be; a clause's and a proof's text, the document's way. -/
import Derived.Test.YtgklollpajhmlaaDoorWalkP
import Derived.Test.YtgklollpajhmlaaDoorPlainV
import Derived.Test.YtgklollpajhmlaaDoorWalkI
set_option linter.unusedVariables false
set_option linter.unusedSimpArgs false
namespace Go.Proofs.YtgklollpajhmlaaDoor
open Go.RowKit Go.Maps

attribute [local go_sem ↓] Go.wp_at_zero Go.wp_at_succ

theorem allS_snoc (p : Stp → Bool) (l : List Stp) (k : Nat) (h : k < l.length) (hk : (l.take k).all p = true) (hp : p l[k] = true) : (l.take (k + 1)).all p = true := by
  rw [List.take_succ_eq_append_getElem h, List.all_append, hk]; simp [hp]
theorem allS_no (p : Stp → Bool) (l : List Stp) (k : Nat) (h : k < l.length) (hp : p l[k] = false) : l.all p = false := by
  rw [List.all_eq_false]; exact ⟨l[k], List.getElem_mem h, by simp [hp]⟩
theorem mayL_no {l : List Stp} {k : Nat} (h : k < l.length) (hp : mayB l[k].2 1048576 = false) : mayL l = false := by
  unfold mayL; rw [allS_no (fun s => mayB s.2 1048576) l k h hp]; simp
theorem mayL_end {l : List Stp} {k : Nat} (h : l.length ≤ k) (hk : (l.take k).all (fun s => mayB s.2 1048576) = true) : mayL l = decide (l.length ≤ 262144) := by
  rw [List.take_of_length_le h] at hk; unfold mayL; rw [hk]; simp
theorem mayL_many {l : List Stp} (h : 262144 < l.length) : mayL l = false := by
  unfold mayL; rw [decide_eq_false (by omega)]; rfl

set_option maxHeartbeats 800000 in
theorem checkL_any (a : Option Addr) (cap : Nat) (l : List Stp) (w : World) (hA : Steps w a l) (hl : l.length ≤ maxLen) :
    Calls Tryd.prog 19 #[.slice a l.length cap] w fun e w' => e = .returned (.int .i64 (errI (mayL l))) ∧ Below w.heap.size w w' := by
  unfold maxLen at hl
  by_cases h2 : (262144 : Int) < l.length
  · have HF := hide (mayL_many (l := l) (by omega))
    clear hA
    go_enter Tryd.func19, Tryd.ntmps19
    go_wp2
    go_ret
    exact ⟨ret_int (by rw [HF.out]; rfl), Below.refl _ _⟩
  go_enter Tryd.func19, Tryd.ntmps19
  go_wp2
  go_loopw [10] (fun i wr => ∃ k : Nat, k ≤ l.length ∧ i = .int .i64 k ∧ (l.take k).all (fun s => mayB s.2 1048576) = true ∧ Below w.heap.size w wr) (fun i _ => l.length - (intOf i).toNat)
  case atStart => exact ⟨0, Nat.zero_le _, rfl, rfl, Below.refl _ _⟩
  case round =>
    obtain ⟨k, hk, rfl, hno, hB⟩ := hrel
    have HN := hide hno
    clear hno
    by_cases hlt : k < l.length
    · obtain ⟨b, off, ai, ci, rfl, hb, c0, c1, hr, hlen⟩ := (hA.below hB) k hlt
      have hbx := below_alloc wr (.cells #[.bool l[k].1, .slice ai l[k].2.length ci] 36)
      have C := check_any ai ci l[k].2 _ (hr.below hbx) hlen
      unfold maxLen at hlen
      have hlt' : (k : Int) < l.length := by omega
      have HS : Hid (mayB l[k].2 1048576 = true → (l.take (k + 1)).all (fun s => mayB s.2 1048576) = true) := fun e => allS_snoc _ l k hlt HN.out e
      have HF : Hid (mayB l[k].2 1048576 = false → mayL l = false) := fun e => mayL_no hlt e
      have HB := hide (hB.trans (hbx.mono hB.size))
      clear hA hr HN hbx hB
      cases hm : mayB l[k].2 1048576
      · rw [hm] at C
        have HQ := hide (HF.out hm)
        replace C := hide C
        clear HS HF hm
        generalize l[k].2.length = M at *
        generalize l[k].1 = d at *
        go_wp2_with (go_at_call 30; refine (unhide C).mono ?_; rintro e w0 ⟨rfl, hw0⟩; subst w0)
        go_ret
        exact ⟨ret_int (by rw [HQ.out]; rfl), HB.out⟩
      · rw [hm] at C
        have HQ := hide (HS.out hm)
        replace C := hide C
        clear HS HF hm
        generalize l[k].2.length = M at *
        generalize l[k].1 = d at *
        go_wp2_with (go_at_call 30; refine (unhide C).mono ?_; rintro e w0 ⟨rfl, hw0⟩; subst w0)
        go_roundw
        case rel => exact ⟨k + 1, by omega, by go_num, HQ.out, HB.out⟩
        case measure => simp [intOf]; omega
    · have HE := hide (mayL_end (by omega) HN.out)
      have hlt' : ¬ (k : Int) < l.length := by omega
      have HB := hide hB
      clear hA HN hB
      go_wp2
      go_ret
      exact ⟨ret_int (by rw [HE.out, decide_eq_true (by omega)]; rfl), HB.out⟩

theorem lits_bd {c : List Int} (h : mayB c 1048576 = true) : ∀ l ∈ c, -1048576 ≤ l ∧ l ≤ 1048576 := fun l hl => (litB_true.1 (mayB_lit h l hl)).2

theorem litsN_take (l : List Stp) (k : Nat) : litsN (l.take k) ≤ litsN l := by
  conv => rhs; rw [← List.take_append_drop k l]
  unfold litsN
  rw [List.map_append, List.sum_append]
  omega

end Go.Proofs.YtgklollpajhmlaaDoor
