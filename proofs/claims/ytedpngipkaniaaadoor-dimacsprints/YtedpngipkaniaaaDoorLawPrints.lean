/- What is printed, and that it is read: the document's own printing, and the law's own text, walked. -/
import Derived.Test.YtedpngipkaniaaaDoorWalkH
set_option linter.unusedVariables false
set_option linter.unusedSimpArgs false
namespace Go.Proofs.YtedpngipkaniaaaDoor
open Go.RowKit Go.Maps

attribute [local go_sem ↓] Go.wp_at_zero Go.wp_at_succ

theorem print_len {n : Int} {css : List (List Int)} (hc : cnfB n css = true) (hli : lightB css = true) : (headT n css.length).length ≤ 60 ∧ ∀ k, ((css.take k).flatMap clauseT).length ≤ 200000 := by
  obtain ⟨c1, c2, c3, c4⟩ := cnf_lits hc
  unfold lightB at hli
  simp only [Bool.and_eq_true, decide_eq_true_eq] at hli
  have hdn : (digI n).length ≤ 20 := digI_len (by omega) (by omega)
  have hdm : (digI (css.length : Int)).length ≤ 20 := digI_len (by omega) (by omega)
  refine ⟨by unfold headT; simp; omega, fun k => ?_⟩
  have h1 := flat_len (css.take k) (fun c hc l hl => by
    obtain ⟨_, a, b⟩ := (c4 c (List.mem_of_mem_take hc)).2 l hl
    omega)
  have h2 : total (css.take k) ≤ total css := by
    have : total css = total (css.take k) + total (css.drop k) := by
      unfold total
      rw [← List.sum_append, ← List.map_append, List.take_append_drop]
    omega
  have h3 : (css.take k).length ≤ css.length := List.length_take_le' k css
  omega

set_option maxHeartbeats 4000000 in
theorem refPrint_any (a : Option Addr) (cap : Nat) (n : Int) (css : List (List Int)) (w : World) (hg : Grid w a css) (hl : css.length ≤ maxLen) (hc : cnfB n css = true) (hli : lightB css = true) :
    Calls Tryd.prog 8 #[.agg #[.int .i64 n, .slice a css.length cap]] w fun e w' => e = .returned (.string (str (printT n css))) ∧ Below w.heap.size w w' := by
  have hbW := below_alloc w (.cells #[.int .i64 n, .slice a css.length cap] 24)
  have hg' := hg.below hbW
  obtain ⟨hhl, hfl⟩ := print_len hc hli
  have HFL := hide hfl
  obtain ⟨c1, c2, c3, c4⟩ := cnf_lits hc
  have h3 : (css.length : Int) ≤ 262144 := by omega
  have HC4 := hide c4
  have sdn : (str (digI n)).size ≤ 20 := by rw [str_size]; exact digI_len (by omega) (by omega)
  have sdm : (str (digI (css.length : Int))).size ≤ 20 := by rw [str_size]; exact digI_len (by omega) (by omega)
  have HS : Hid ((⟨#[112, 32, 99, 110, 102, 32]⟩ ++ str (digI n) ++ ⟨#[32]⟩ ++ str (digI (css.length : Int)) ++ ⟨#[10]⟩ : ByteArray) = str (headT n css.length)) := by
    show _ = _
    unfold headT
    rw [← str_append, ← str_append, ← str_append, ← str_append]
    rfl
  have HPT : Hid (printT n css = headT n css.length ++ css.flatMap clauseT) := rfl
  have HB := hide hbW
  have HG := hide hg'
  clear hbW hg hg' hfl c4 hc hli
  unfold maxLen at hl
  generalize headT n css.length = hd at *
  go_enter Tryd.func8, Tryd.ntmps8
  go_wp2_with fail
  go_quiet ((go_at_call 16; exact Calls.quiet_of_same (digits_any _ _ (by omega) (by omega))))
  go_wp2
  go_loopw [3, 4] (fun zs zi wr => ∃ (k q : Nat), k ≤ css.length ∧ zi = .int .i64 (k : Int) ∧ zs = .string (str (hd ++ (css.take k).flatMap clauseT)) ∧ wr = (w.alloc (.cells #[.int .i64 n, .slice a css.length cap] 24)).drewN q) (fun _ zi _ => css.length - (intOf zi).toNat)
  case atStart => exact ⟨0, _, Nat.zero_le _, rfl, by rw [HS.out]; simp, rfl⟩
  case round =>
    obtain ⟨k, q, hk, rfl, rfl, rfl⟩ := hrel
    have hkl := HFL.out k
    by_cases hlt : k < css.length
    · obtain ⟨b, off, ai, ci, rfl, hb, hcc, hr, hm⟩ := HG.out k hlt
      obtain ⟨h41, h42⟩ := HC4.out css[k] (List.getElem_mem hlt)
      have hkl2 := HFL.out (k + 1)
      have hsn := flat_snoc hlt
      have HSN : Hid (hd ++ (css.take (k + 1)).flatMap clauseT = (hd ++ (css.take k).flatMap clauseT) ++ clauseT css[k]) := by show _ = _; rw [hsn, List.append_assoc]
      rw [hsn] at hkl2
      have CC := hide (refClause_any ai ci css[k] _ (hr.drewN q) h41 (fun l hl => by obtain ⟨_, p1, p2⟩ := h42 l hl; omega))
      have hT1 : (str (hd ++ (css.take k).flatMap clauseT)).size ≤ 300000 := by rw [str_size, List.length_append]; omega
      have hT2 : (str (clauseT css[k])).size ≤ 300000 := by rw [str_size]; simp only [List.length_append] at hkl2; omega
      generalize hd ++ (css.take k).flatMap clauseT = T at *
      generalize css[k] = c at *
      have hki : (k : Int) < css.length := by omega
      clear hr hsn hkl hkl2
      unfold maxLen at hm
      go_wp2_with (go_at_call 17; refine (unhide CC).mono ?_; rintro e w0 ⟨rfl, hw0⟩; subst w0)
      go_roundw
      case rel => exact ⟨k + 1, q, by omega, by go_num, by rw [HSN.out, str_append], rfl⟩
      case measure => simp [intOf]; omega
    · have hte : css.take k = css := List.take_of_length_le (by omega)
      have HTE : Hid (hd ++ (css.take k).flatMap clauseT = printT n css) := by show _ = _; rw [HPT.out, hte]
      generalize hd ++ (css.take k).flatMap clauseT = T at *
      have hki : ¬ (k : Int) < css.length := by omega
      clear hte
      go_wp2
      go_ret
      exact ⟨ret_string (by rw [HTE.out]), below_drewN HB.out _⟩

end Go.Proofs.YtedpngipkaniaaaDoor
