/- Contracts: which proofs there may be; a clause's and a proof's text, the document's way. -/
import Derived.Test.YtjjeoodgejnplaaDoorWalkQ
import Derived.Test.YtjjeoodgejnplaaDoorWalkI
set_option linter.unusedVariables false
set_option linter.unusedSimpArgs false
namespace Go.Proofs.YtjjeoodgejnplaaDoor
open Go.RowKit Go.Maps

attribute [local go_sem ↓] Go.wp_at_zero Go.wp_at_succ

set_option maxHeartbeats 400000 in
theorem may_any (a : Option Addr) (cap : Nat) (xs : List Int) (w : World) (hr : Row w a xs) (hl : xs.length ≤ maxLen) :
    Calls Tryd.prog 13 #[.slice a xs.length cap] w fun e w' => e = .returned (.bool (mayB xs 1048576)) ∧ w' = w := by
  unfold maxLen at hl
  go_enter Tryd.func13, Tryd.ntmps13
  go_wp2
  go_loop [3] (fun i => ∃ k : Nat, k ≤ xs.length ∧ i = .int .i64 k ∧ (xs.take k).all (fun x => litB x 1048576) = true) (fun i => xs.length - (intOf i).toNat)
  case atStart => exact ⟨0, Nat.zero_le _, rfl, rfl⟩
  case round =>
    obtain ⟨k, hk, rfl, hno⟩ := hrel
    have HN : Hid ((xs.take k).all (fun x => litB x 1048576) = true) := hno
    clear hno
    by_cases hlt : k < xs.length
    · obtain ⟨b, off, rfl, hb, hc⟩ := hr k hlt
      clear hr
      by_cases he : litB xs[k] 1048576 = true
      · go_wp2_with (go_at_call 21; refine (lit_any _ _).mono ?_; rintro e w' ⟨rfl, rfl⟩)
        go_round
        case rel => exact ⟨k + 1, by omega, by go_num, all_take_snoc _ xs k hlt HN.out he⟩
        case measure => simp [intOf]; omega
      · have he' : litB xs[k] 1048576 = false := by simpa using he
        go_wp2_with (go_at_call 21; refine (lit_any _ _).mono ?_; rintro e w' ⟨rfl, rfl⟩)
        go_ret
        exact ⟨ret_bool (mayB_no k hlt he').symm, rfl⟩
    · have hz : xs.length ≤ k := by omega
      clear hr
      go_wp2
      go_ret
      refine ⟨ret_bool ?_, rfl⟩
      have h := all_of_take hz HN.out
      unfold mayB; rw [h]; simp; omega

set_option maxHeartbeats 2000000 in
theorem refClause_any (a : Option Addr) (ca : Nat) (c : List Int) (w : World) (hr : Row w a c) (hc : c.length ≤ 4096) (hb : ∀ l ∈ c, -1048576 ≤ l ∧ l ≤ 1048576) :
    Calls Tryd.prog 15 #[.slice a c.length ca] w fun e w' => e = .returned (.string (str (clauseT c))) ∧ w' = w := by
  have HLL : Hid (∀ k, (litsT (c.take k)).length ≤ 21 * 4096) := by
    intro k
    have := litsT_len (c.take k) (fun l hl => hb l (List.mem_of_mem_take hl))
    have h2 : (c.take k).length ≤ c.length := List.length_take_le' k c
    omega
  go_enter Tryd.func15, Tryd.ntmps15
  go_wp2
  go_loop [3, 4] (fun zs zi => ∃ k : Nat, k ≤ c.length ∧ zi = .int .i64 (k : Int) ∧ zs = .string (str (litsT (c.take k)))) (fun _ zi => c.length - (intOf zi).toNat)
  case atStart => exact ⟨0, Nat.zero_le _, rfl, rfl⟩
  case round =>
    obtain ⟨k, hk, rfl, rfl⟩ := hrel
    have hkl := HLL.out k
    have hss := str_size (litsT (c.take k))
    by_cases hlt : k < c.length
    · obtain ⟨b, off, rfl, hb1, hcell⟩ := hr k hlt
      obtain ⟨hl0, hl1⟩ := hb c[k] (List.getElem_mem hlt)
      have HS := hide (litsT_snoc hlt)
      have CD := hide (digits_any c[k] w (by omega) (by omega))
      have hdl : (str (digI c[k])).size ≤ 20 := by rw [str_size]; exact digI_len (by omega) (by omega)
      generalize c[k] = x at *
      generalize hT : litsT (c.take k) = T at *
      have hki : (k : Int) < c.length := by omega
      clear hr hT
      go_wp2_with (go_at_call 23; refine (unhide CD).mono ?_; rintro e w0 ⟨rfl, hw0⟩; subst w0)
      go_round
      case rel => exact ⟨k + 1, by omega, by go_num, by rw [HS.out, ← str_append, ← str_append, ByteArray.append_assoc]; rfl⟩
      case measure => simp [intOf]; omega
    · have hte : c.take k = c := List.take_of_length_le (by omega)
      rw [hte] at hkl hss
      have HTE : Hid (litsT (c.take k) = litsT c) := by show _ = _; rw [hte]
      have hki : ¬ (k : Int) < c.length := by omega
      clear hr hte
      rw [HTE.out]
      go_wp2
      go_ret
      exact ⟨ret_string (by unfold clauseT; exact str_append (litsT c) [48, 10]), rfl⟩

theorem allS_snoc (p : Stp → Bool) (l : List Stp) (k : Nat) (h : k < l.length) (hk : (l.take k).all p = true) (hp : p l[k] = true) : (l.take (k + 1)).all p = true := by
  rw [List.take_succ_eq_append_getElem h, List.all_append, hk]; simp [hp]
theorem allS_no (p : Stp → Bool) (l : List Stp) (k : Nat) (h : k < l.length) (hp : p l[k] = false) : l.all p = false := by
  rw [List.all_eq_false]; exact ⟨l[k], List.getElem_mem h, by simp [hp]⟩
theorem mayL_no {l : List Stp} {k : Nat} (h : k < l.length) (hp : mayB l[k].2 1048576 = false) : mayL l = false := by
  unfold mayL; rw [allS_no (fun s => mayB s.2 1048576) l k h hp]; simp
theorem mayL_end {l : List Stp} {k : Nat} (h : l.length ≤ k) (hk : (l.take k).all (fun s => mayB s.2 1048576) = true) : mayL l = decide (l.length ≤ 262144) := by
  rw [List.take_of_length_le h] at hk; unfold mayL; rw [hk]; simp
theorem mayL_many {l : List Stp} (h : 262144 < l.length) : mayL l = false := by
  unfold mayL; rw [decide_eq_false (by omega)]; rfl

set_option maxHeartbeats 800000 in
theorem refMay_any (a : Option Addr) (cap : Nat) (l : List Stp) (w : World) (hA : Steps w a l) (hl : l.length ≤ maxLen) :
    Calls Tryd.prog 7 #[.slice a l.length cap] w fun e w' => e = .returned (.bool (mayL l)) ∧ w' = w := by
  unfold maxLen at hl
  go_enter Tryd.func7, Tryd.ntmps7
  go_wp2
  go_loop [3] (fun i => ∃ k : Nat, k ≤ l.length ∧ i = .int .i64 k ∧ (l.take k).all (fun s => mayB s.2 1048576) = true) (fun i => l.length - (intOf i).toNat)
  case atStart => exact ⟨0, Nat.zero_le _, rfl, rfl⟩
  case round =>
    obtain ⟨k, hk, rfl, hno⟩ := hrel
    have HN := hide hno
    clear hno
    by_cases hlt : k < l.length
    · obtain ⟨b, off, ai, ci, rfl, hb, c0, c1, hr, hlen⟩ := hA k hlt
      have C := may_any ai ci l[k].2 w hr hlen
      unfold maxLen at hlen
      have hlt' : (k : Int) < l.length := by omega
      have HS : Hid (mayB l[k].2 1048576 = true → (l.take (k + 1)).all (fun s => mayB s.2 1048576) = true) := fun e => allS_snoc _ l k hlt HN.out e
      have HF : Hid (mayB l[k].2 1048576 = false → mayL l = false) := fun e => mayL_no hlt e
      clear hA hr HN
      cases hm : mayB l[k].2 1048576
      · rw [hm] at C
        have HQ := hide (HF.out hm)
        replace C := hide C
        clear HS HF hm
        generalize l[k].2.length = M at *
        go_wp2_with (go_at_call 13; refine (unhide C).mono ?_; rintro e w0 ⟨rfl, hw0⟩; subst w0)
        go_ret
        exact ⟨ret_bool HQ.out.symm, rfl⟩
      · rw [hm] at C
        have HQ := hide (HS.out hm)
        replace C := hide C
        clear HS HF hm
        generalize l[k].2.length = M at *
        go_wp2_with (go_at_call 13; refine (unhide C).mono ?_; rintro e w0 ⟨rfl, hw0⟩; subst w0)
        go_round
        case rel => exact ⟨k + 1, by omega, by go_num, HQ.out⟩
        case measure => simp [intOf]; omega
    · have HE := hide (mayL_end (by omega) HN.out)
      have hlt' : ¬ (k : Int) < l.length := by omega
      clear hA HN
      go_wp2
      go_ret
      exact ⟨ret_bool (by rw [HE.out, Bool.eq_iff_iff]; simp; omega), rfl⟩

set_option maxHeartbeats 800000 in
theorem checkL_any (a : Option Addr) (cap : Nat) (l : List Stp) (w : World) (hA : Steps w a l) (hl : l.length ≤ maxLen) :
    Calls Tryd.prog 8 #[.slice a l.length cap] w fun e w' => e = .returned (.int .i64 (errI (mayL l))) ∧ Below w.heap.size w w' := by
  unfold maxLen at hl
  by_cases h2 : (262144 : Int) < l.length
  · have HF := hide (mayL_many (l := l) (by omega))
    clear hA
    go_enter Tryd.func8, Tryd.ntmps8
    go_wp2
    go_ret
    exact ⟨ret_int (by rw [HF.out]; rfl), Below.refl _ _⟩
  go_enter Tryd.func8, Tryd.ntmps8
  go_wp2
  go_loopw [10] (fun i wr => ∃ k : Nat, k ≤ l.length ∧ i = .int .i64 k ∧ (l.take k).all (fun s => mayB s.2 1048576) = true ∧ Below w.heap.size w wr) (fun i _ => l.length - (intOf i).toNat)
  case atStart => exact ⟨0, Nat.zero_le _, rfl, rfl, Below.refl _ _⟩
  case round =>
    obtain ⟨k, hk, rfl, hno, hB⟩ := hrel
    have HN := hide hno
    clear hno
    by_cases hlt : k < l.length
    · obtain ⟨b, off, ai, ci, rfl, hb, c0, c1, hr, hlen⟩ := (hA.below hB) k hlt
      have hbx := below_alloc wr (.cells #[.bool l[k].1, .slice ai l[k].2.length ci] 36)
      have C := check_any ai ci l[k].2 _ (hr.below hbx) hlen
      unfold maxLen at hlen
      have hlt' : (k : Int) < l.length := by omega
      have HS : Hid (mayB l[k].2 1048576 = true → (l.take (k + 1)).all (fun s => mayB s.2 1048576) = true) := fun e => allS_snoc _ l k hlt HN.out e
      have HF : Hid (mayB l[k].2 1048576 = false → mayL l = false) := fun e => mayL_no hlt e
      have HB := hide (hB.trans (hbx.mono hB.size))
      clear hA hr HN hbx hB
      cases hm : mayB l[k].2 1048576
      · rw [hm] at C
        have HQ := hide (HF.out hm)
        replace C := hide C
        clear HS HF hm
        generalize l[k].2.length = M at *
        generalize l[k].1 = d at *
        go_wp2_with (go_at_call 14; refine (unhide C).mono ?_; rintro e w0 ⟨rfl, hw0⟩; subst w0)
        go_ret
        exact ⟨ret_int (by rw [HQ.out]; rfl), HB.out⟩
      · rw [hm] at C
        have HQ := hide (HS.out hm)
        replace C := hide C
        clear HS HF hm
        generalize l[k].2.length = M at *
        generalize l[k].1 = d at *
        go_wp2_with (go_at_call 14; refine (unhide C).mono ?_; rintro e w0 ⟨rfl, hw0⟩; subst w0)
        go_roundw
        case rel => exact ⟨k + 1, by omega, by go_num, HQ.out, HB.out⟩
        case measure => simp [intOf]; omega
    · have HE := hide (mayL_end (by omega) HN.out)
      have hlt' : ¬ (k : Int) < l.length := by omega
      have HB := hide hB
      clear hA HN hB
      go_wp2
      go_ret
      exact ⟨ret_int (by rw [HE.out, decide_eq_true (by omega)]; rfl), HB.out⟩

theorem lits_bd {c : List Int} (h : mayB c 1048576 = true) : ∀ l ∈ c, -1048576 ≤ l ∧ l ≤ 1048576 := fun l hl => (litB_true.1 (mayB_lit h l hl)).2

theorem stepT_len {s : Stp} (h : mayB s.2 1048576 = true) : (stepT s).length ≤ 21 * s.2.length + 4 := by
  have := litsT_len s.2 (lits_bd h)
  unfold stepT clauseT delT
  split <;> simp <;> omega

theorem printT_len : ∀ (l : List Stp), (∀ s ∈ l, mayB s.2 1048576 = true) → (printT l).length ≤ 21 * litsN l + 4 * l.length
  | [], _ => by simp [printT]
  | s :: l, h => by
    have ih := printT_len l (fun x hx => h x (by simp [hx]))
    have h1 := stepT_len (h s (by simp))
    have e : printT (s :: l) = stepT s ++ printT l := by simp [printT]
    have e2 : litsN (s :: l) = s.2.length + litsN l := by simp [litsN]
    rw [e, e2, List.length_append, List.length_cons]
    omega

theorem litsN_take (l : List Stp) (k : Nat) : litsN (l.take k) ≤ litsN l := by
  conv => rhs; rw [← List.take_append_drop k l]
  unfold litsN
  rw [List.map_append, List.sum_append]
  omega

theorem printT_take {l : List Stp} (h : mayL l = true) (h1 : l.length ≤ 300) (h2 : litsN l ≤ 6000) (k : Nat) : (printT (l.take k)).length ≤ 130000 := by
  have h3 := printT_len (l.take k) (fun s hs => (mayL_parts h).2 s (List.mem_of_mem_take hs))
  have h4 := litsN_take l k
  have h5 : (l.take k).length ≤ l.length := List.length_take_le' k l
  omega

end Go.Proofs.YtjjeoodgejnplaaDoor
