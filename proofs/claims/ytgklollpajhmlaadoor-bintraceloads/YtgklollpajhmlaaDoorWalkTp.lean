/- Contracts: a step's and a proof's text are printed. -/
import Derived.Test.YtgklollpajhmlaaDoorWalkR2
import Derived.Test.YtgklollpajhmlaaDoorWalkU
set_option linter.unusedVariables false
set_option linter.unusedSimpArgs false
namespace Go.Proofs.YtgklollpajhmlaaDoor
open Go.RowKit Go.Maps

attribute [local go_sem ↓] Go.wp_at_zero Go.wp_at_succ

set_option maxHeartbeats 4000000 in
theorem tAppendStep_any (B : Nat) (w : World) (v : Value) (xs : List UInt8) (d : Bool) (a : Option Addr) (ca : Nat) (c : List Int) (hr : ∀ x, Below B w x → Row x a c) (hc : c.length ≤ 4096) (hb : ∀ l ∈ c, -1048576 ≤ l ∧ l ≤ 1048576) (h : Br B w v xs) (hB : B ≤ w.heap.size) (hl : xs.length ≤ 80000000) (ht : Tab B w) :
    Calls Tryd.prog 20 #[v, .agg #[.bool d, .slice a c.length ca]] w fun e w' => ∃ v', e = .returned v' ∧ Br B w' v' (xs ++ stepT (d, c)) ∧ Below B w w' := by
  obtain ⟨i0, hi, hz0, hz1, hz2⟩ := info_parts Tryd.info5
  have HR := hide hr
  have hbox := below_alloc w (.cells #[.bool d, .slice a c.length ca] 36)
  have hbr0 := h.kept hbox
  have HB0 := hide (hbox.mono hB)
  obtain ⟨g, cap, rfl, hgB, hgw, -⟩ := h.shape
  have HLL : Hid (∀ k, (litsT (c.take k)).length ≤ 21 * 4096) := by
    intro k
    have := litsT_len (c.take k) (fun l hl => hb l (List.mem_of_mem_take hl))
    have h2 : (c.take k).length ≤ c.length := List.length_take_le' k c
    omega
  have HDL : Hid ((delT d).length ≤ 2) := by show _ ≤ _; unfold delT; split <;> simp
  have HST : Hid (stepT (d, c) = delT d ++ clauseT c) := rfl
  have hsz0 : B ≤ (w.alloc (.cells #[.bool d, .slice a c.length ca] 36)).heap.size := by simp; omega
  clear hr h hbox
  have HSTART : Hid (∀ (W : World) (g1 n1 c1 : Nat), Br B W (.slice (some ⟨g1, 0, none⟩) n1 c1) (xs ++ delT d) → Below B w W → Br B W (.slice (some ⟨g1, 0, none⟩) n1 c1) (xs ++ delT d ++ litsT (c.take 0))) := fun W g1 n1 c1 h _ => by simpa [litsT] using h
  cases d
  · have hbr1 : Hid (Br B (w.alloc (.cells #[.bool false, .slice a c.length ca] 36)) (.slice (some ⟨g, 0, none⟩) xs.length cap) (xs ++ delT false)) := by
      show Br _ _ _ _
      simpa [delT] using hbr0
    clear hbr0
    have HSS : Hid (∃ (g1 n1 c1 : Nat), Value.slice (some ⟨g, 0, none⟩) xs.length cap = .slice (some ⟨g1, 0, none⟩) n1 c1 ∧ Br B (w.alloc (.cells #[.bool false, .slice a c.length ca] 36)) (.slice (some ⟨g1, 0, none⟩) n1 c1) (xs ++ delT false) ∧ Below B w (w.alloc (.cells #[.bool false, .slice a c.length ca] 36))) := ⟨_, _, _, rfl, hbr1.out, HB0.out⟩
    clear hbr1 HB0
    go_enter Tryd.func20, Tryd.ntmps20
    go_wp2
    go_loopw [0, 14] (fun zv zi wr => ∃ (k g1 n1 c1 : Nat), k ≤ c.length ∧ zi = .int .i64 (k : Int) ∧ zv = .slice (some ⟨g1, 0, none⟩) n1 c1 ∧ Br B wr (.slice (some ⟨g1, 0, none⟩) n1 c1) (xs ++ delT false ++ litsT (c.take k)) ∧ Below B w wr) (fun _ zi _ => c.length - (intOf zi).toNat)
    case atStart =>
      obtain ⟨g1, n1, c1, e1, hb1, hb2⟩ := HSS.out
      exact ⟨0, g1, n1, c1, Nat.zero_le _, rfl, e1, HSTART.out _ _ _ _ hb1 hb2, hb2⟩
    case round =>
      clear HSS
      obtain ⟨k, g1, n1, c1, hk, rfl, rfl, hbr, hbel⟩ := hrel
      have hkl := HLL.out k
      have hsz := hbel.size
      have hdl := HDL.out
      by_cases hlt : k < c.length
      · obtain ⟨b, off, rfl, hb1, hcell⟩ := HR.out wr hbel k hlt
        obtain ⟨hl0, hl1⟩ := hb c[k] (List.getElem_mem hlt)
        have HS := hide (litsT_snoc hlt)
        have hdl2 := digI_len (n := c[k]) (by omega) (by omega)
        have CA := appendInt_any B wr (.slice (some ⟨g1, 0, none⟩) n1 c1) (xs ++ delT false ++ litsT (c.take k)) c[k] hl0 hl1 hbr (by omega) (by simp only [List.length_append]; omega) (ht.on hbel)
        generalize hx : c[k] = x at *
        have CA2 : Calls Tryd.prog 31 #[.slice (some ⟨g1, 0, none⟩) n1 c1, .int .i64 x, .int .i64 10] wr fun e w' => ∃ v', e = .returned v' ∧ Hid (Br B (w'.alloc (.cells #[.int .u8 32] 5)) v' (xs ++ delT false ++ litsT (c.take k) ++ digI x)) ∧ Hid (Below B w w') ∧ B ≤ w'.heap.size := by
          refine CA.mono ?_
          rintro e y ⟨v', he, h1, h2⟩
          exact ⟨v', he, h1.kept (below_alloc y _), hbel.trans h2, by have := h2.size; omega⟩
        replace CA2 := hide CA2
        have hki : (k : Int) < c.length := by omega
        have HLN : Hid ((xs ++ delT false ++ litsT (c.take k) ++ digI x).length + 1 ≤ 140737488355328) := by show _ ≤ _; simp only [List.length_append]; omega
        clear CA hx hbr
        go_wp2_with (first
          | (go_at_call 31; refine (unhide CA2).mono ?_; rintro e w1 ⟨v1, rfl, HX, HBX, hBs⟩)
          | (at_builtin; refine wpList_br_slice rfl _ _ 22 rfl B Tryd.underlying22 i0 hi hz0 hz1 hz2 _ _ [32] rfl HX.out HLN.out (by simp; omega) ⟨w1.heap.size, 0, none⟩ 1 1 rfl rfl (cell_one_new _ _ _) ?_; intro v2 w2 hbr2 hgr2))
        obtain ⟨g2, c2, e2, -⟩ := hbr2.shape
        go_roundw
        case rel => exact ⟨k + 1, g2, _, c2, by omega, by go_num, e2, by rw [← e2, HS.out]; simpa using hbr2, (HBX.out.alloc hBs _).grown hgr2 (by simp; omega) (fun k hk => (HX.out.lt k hk).1)⟩
        case measure => simp [intOf]; omega
      · have hte : c.take k = c := List.take_of_length_le (by omega)
        rw [hte] at hbr hkl
        have hki : ¬ (k : Int) < c.length := by omega
        have HLN : Hid ((xs ++ delT false ++ litsT c).length + 2 ≤ 140737488355328) := by show _ ≤ _; simp only [List.length_append]; omega
        clear hte
        go_wp2_with (at_builtin; refine wpList_br_string rfl _ _ 22 9 rfl B Tryd.underlying22 Tryd.underlying9 i0 hi hz0 hz1 hz2 _ _ [48, 10] rfl hbr HLN.out (by omega) rfl ?_; intro v2 w2 hbr2 hgr2)
        go_ret
        exact ⟨_, rfl, by rw [HST.out]; unfold clauseT; simpa using hbr2, hbel.grown hgr2 (by omega) (fun k hk => (hbr.lt k hk).1)⟩
  · go_enter Tryd.func20, Tryd.ntmps20
    go_wp2_with (at_builtin; refine wpList_br_string rfl _ _ 22 9 rfl B Tryd.underlying22 Tryd.underlying9 i0 hi hz0 hz1 hz2 (.slice (some ⟨g, 0, none⟩) xs.length cap) xs [100, 32] rfl hbr0 (by simp; omega) hsz0 rfl ?_; intro v1 w1 hbr1 hgr1; obtain ⟨g2, c2, e2, -⟩ := hbr1.shape; have hbl1 := HB0.out.grown hgr1 hsz0 (fun k hk => (hbr0.lt k hk).1); have hbxb : w1.heap[w.heap.size]? = some (.cells #[.bool true, .slice a c.length ca] 36 (0, 0)) := (hgr1.block w.heap.size (by simp) (by intro e; simp [Value.ownBlock] at e; omega)).trans (heap_alloc_new w _); obtain ⟨bx0, bx1, bx2, bx3⟩ := two_cells hbxb; have hbxs := lt_of_block hbxb; have HSS : Hid (∃ (g1 n1 c1 : Nat), v1 = .slice (some ⟨g1, 0, none⟩) n1 c1 ∧ Br B w1 (.slice (some ⟨g1, 0, none⟩) n1 c1) (xs ++ delT true) ∧ Below B w w1) := ⟨_, _, _, e2, by rw [← e2]; exact hbr1, hbl1⟩; clear hbr1 hgr1 hbl1 e2)
    clear hbr0 HB0
    go_loopw [0, 14] (fun zv zi wr => ∃ (k g1 n1 c1 : Nat), k ≤ c.length ∧ zi = .int .i64 (k : Int) ∧ zv = .slice (some ⟨g1, 0, none⟩) n1 c1 ∧ Br B wr (.slice (some ⟨g1, 0, none⟩) n1 c1) (xs ++ delT true ++ litsT (c.take k)) ∧ Below B w wr) (fun _ zi _ => c.length - (intOf zi).toNat)
    case atStart =>
      obtain ⟨g1, n1, c1, e1, hb1, hb2⟩ := HSS.out
      exact ⟨0, g1, n1, c1, Nat.zero_le _, rfl, e1, HSTART.out _ _ _ _ hb1 hb2, hb2⟩
    case round =>
      clear HSS
      obtain ⟨k, g1, n1, c1, hk, rfl, rfl, hbr, hbel⟩ := hrel
      have hkl := HLL.out k
      have hsz := hbel.size
      have hdl := HDL.out
      by_cases hlt : k < c.length
      · obtain ⟨b, off, rfl, hb1, hcell⟩ := HR.out wr hbel k hlt
        obtain ⟨hl0, hl1⟩ := hb c[k] (List.getElem_mem hlt)
        have HS := hide (litsT_snoc hlt)
        have hdl2 := digI_len (n := c[k]) (by omega) (by omega)
        have CA := appendInt_any B wr (.slice (some ⟨g1, 0, none⟩) n1 c1) (xs ++ delT true ++ litsT (c.take k)) c[k] hl0 hl1 hbr (by omega) (by simp only [List.length_append]; omega) (ht.on hbel)
        generalize hx : c[k] = x at *
        have CA2 : Calls Tryd.prog 31 #[.slice (some ⟨g1, 0, none⟩) n1 c1, .int .i64 x, .int .i64 10] wr fun e w' => ∃ v', e = .returned v' ∧ Hid (Br B (w'.alloc (.cells #[.int .u8 32] 5)) v' (xs ++ delT true ++ litsT (c.take k) ++ digI x)) ∧ Hid (Below B w w') ∧ B ≤ w'.heap.size := by
          refine CA.mono ?_
          rintro e y ⟨v', he, h1, h2⟩
          exact ⟨v', he, h1.kept (below_alloc y _), hbel.trans h2, by have := h2.size; omega⟩
        replace CA2 := hide CA2
        have hki : (k : Int) < c.length := by omega
        have HLN : Hid ((xs ++ delT true ++ litsT (c.take k) ++ digI x).length + 1 ≤ 140737488355328) := by show _ ≤ _; simp only [List.length_append]; omega
        clear CA hx hbr
        go_wp2_with (first
          | (go_at_call 31; refine (unhide CA2).mono ?_; rintro e w1 ⟨v1, rfl, HX, HBX, hBs⟩)
          | (at_builtin; refine wpList_br_slice rfl _ _ 22 rfl B Tryd.underlying22 i0 hi hz0 hz1 hz2 _ _ [32] rfl HX.out HLN.out (by simp; omega) ⟨w1.heap.size, 0, none⟩ 1 1 rfl rfl (cell_one_new _ _ _) ?_; intro v2 w2 hbr2 hgr2))
        obtain ⟨g2, c2, e2, -⟩ := hbr2.shape
        go_roundw
        case rel => exact ⟨k + 1, g2, _, c2, by omega, by go_num, e2, by rw [← e2, HS.out]; simpa using hbr2, (HBX.out.alloc hBs _).grown hgr2 (by simp; omega) (fun k hk => (HX.out.lt k hk).1)⟩
        case measure => simp [intOf]; omega
      · have hte : c.take k = c := List.take_of_length_le (by omega)
        rw [hte] at hbr hkl
        have hki : ¬ (k : Int) < c.length := by omega
        have HLN : Hid ((xs ++ delT true ++ litsT c).length + 2 ≤ 140737488355328) := by show _ ≤ _; simp only [List.length_append]; omega
        clear hte
        go_wp2_with (at_builtin; refine wpList_br_string rfl _ _ 22 9 rfl B Tryd.underlying22 Tryd.underlying9 i0 hi hz0 hz1 hz2 _ _ [48, 10] rfl hbr HLN.out (by omega) rfl ?_; intro v2 w2 hbr2 hgr2)
        go_ret
        exact ⟨_, rfl, by rw [HST.out]; unfold clauseT; simpa using hbr2, hbel.grown hgr2 (by omega) (fun k hk => (hbr.lt k hk).1)⟩

set_option maxHeartbeats 1000000 in
theorem print_no (a : Option Addr) (cap : Nat) (l : List Stp) (w : World) (hA : Steps w a l) (hl : l.length ≤ maxLen) (hm : mayL l = false) :
    Calls Tryd.prog 11 #[.slice a l.length cap] w fun e w' => e = .returned (.tuple #[.slice none 0 0, .int .i64 1]) ∧ Below w.heap.size w w' := by
  have C := checkL_any a cap l w hA hl
  rw [hm] at C
  simp only [errI, Bool.false_eq_true, if_false] at C
  replace C := hide C
  clear hA
  unfold maxLen at hl
  go_enter Tryd.func11, Tryd.ntmps11
  go_wp2_with (go_at_call 19; refine (unhide C).mono ?_; rintro e w1 ⟨rfl, hB1⟩)
  go_ret2
  exact ⟨rfl, hB1⟩

set_option maxHeartbeats 8000000 in
theorem print_yes (a : Option Addr) (cap : Nat) (l : List Stp) (w : World) (hA : Steps w a l) (hm : mayL l = true) (h1 : l.length ≤ 300) (h2 : litsN l ≤ 6000) (ht : Lib.TabIs Tryd.prog w "internal/strconv.uint64pow10" .u64 Lib.pow10Tab) :
    Calls Tryd.prog 11 #[.slice a l.length cap] w fun e w' => ∃ v, e = .returned (.tuple #[v, .int .i64 0]) ∧ Br w.heap.size w' v (printT l) ∧ Below w.heap.size w w' := by
  have C := checkL_any a cap l w hA (by unfold maxLen; omega)
  rw [hm] at C
  simp only [errI, if_true] at C
  replace C := hide C
  have HTB := hide (Lib.tabBelow_of_tabIs ht)
  have HPT := hide (fun k => printT_take hm h1 h2 k)
  have HMP := hide (mayL_parts hm).2
  have HA := hide hA
  clear hA hm h2
  go_enter Tryd.func11, Tryd.ntmps11
  go_wp2_with (go_at_call 19; refine (unhide C).mono ?_; rintro e w1 ⟨rfl, hB1⟩)
  have hbr0 := br_new w1 w.heap.size hB1.size
  have hbl0 := hB1.alloc hB1.size (.cells #[] 5)
  have HBR0 := hide hbr0
  have HBL0 := hide hbl0
  clear hbr0 hbl0 hB1
  go_loopw [4, 13] (fun zv zi wr => ∃ (k g1 n1 c1 : Nat), k ≤ l.length ∧ zi = .int .i64 (k : Int) ∧ zv = .slice (some ⟨g1, 0, none⟩) n1 c1 ∧ Br w.heap.size wr (.slice (some ⟨g1, 0, none⟩) n1 c1) (printT (l.take k)) ∧ Below w.heap.size w wr) (fun _ zi _ => l.length - (intOf zi).toNat)
  case atStart => exact ⟨0, _, _, _, Nat.zero_le _, rfl, rfl, HBR0.out, HBL0.out⟩
  case round =>
    clear HBR0 HBL0
    obtain ⟨k, g1, n1, c1, hk, rfl, rfl, hbr, hB⟩ := hrel
    by_cases hlt : k < l.length
    · obtain ⟨b, off, ai, ci, e, hb, q0, q1, hr, hlen⟩ := HA.out k hlt
      subst e
      have hmk := HMP.out l[k] (List.getElem_mem hlt)
      have hx0 := (hB.cell (p := ⟨b, off + k * 2, none⟩) hb).trans q0
      have hx1 := (hB.cell (p := ⟨b, off + k * 2 + 1, none⟩) hb).trans q1
      have hbx := below_alloc wr (.cells #[.bool l[k].1, .slice ai l[k].2.length ci] 36)
      have hB2 := hB.trans (hbx.mono hB.size)
      have HSN := hide (printT_snoc hlt)
      have hp1 := HPT.out k
      have hp2 := HPT.out (k + 1)
      have CA := tAppendStep_any w.heap.size (wr.alloc (.cells #[.bool l[k].1, .slice ai l[k].2.length ci] 36)) (.slice (some ⟨g1, 0, none⟩) n1 c1) (printT (l.take k)) l[k].1 ai ci l[k].2 (fun x hx => hr.below (hB2.trans hx)) (mayB_len hmk) (lits_bd hmk) (hbr.kept hbx) (by have := hB.size; simp; omega) (by omega) (HTB.out.on hB2)
      have hl4 := mayB_len hmk
      have CA2 : Calls Tryd.prog 20 #[.slice (some ⟨g1, 0, none⟩) n1 c1, .agg #[.bool l[k].1, .slice ai l[k].2.length ci]] (wr.alloc (.cells #[.bool l[k].1, .slice ai l[k].2.length ci] 36)) fun e w' => ∃ (g2 n2 c2 : Nat), e = .returned (.slice (some ⟨g2, 0, none⟩) n2 c2) ∧ (n2 : Int) ≤ 4194304 ∧ Hid (Br w.heap.size w' (.slice (some ⟨g2, 0, none⟩) n2 c2) (printT (l.take (k + 1)))) ∧ Hid (Below w.heap.size w w') := by
        refine CA.mono ?_
        rintro e y ⟨v', he, hy1, hy2⟩
        have e3 : printT (l.take k) ++ stepT (l[k].1, l[k].2) = printT (l.take (k + 1)) := HSN.out.symm
        rw [e3] at hy1
        obtain ⟨g2, c2, e2, -⟩ := hy1.shape
        refine ⟨g2, _, c2, by rw [he, e2], by omega, by rw [← e2]; exact hy1, hB2.trans hy2⟩
      replace CA2 := hide CA2
      have hki : (k : Int) < l.length := by omega
      have hbw : b < wr.heap.size := by have := hB.size; omega
      clear CA hr hbr q0 q1 hbx hB2 hp1 hp2 hmk
      generalize l[k].1 = d at *
      generalize l[k].2.length = M at *
      go_wp2_with (go_at_call 20; refine (unhide CA2).mono ?_; rintro e w6 ⟨g2, n2, c2, rfl, hn2, HX, HBX⟩)
      go_roundw
      case rel => exact ⟨k + 1, g2, n2, c2, by omega, by go_num, rfl, HX.out, HBX.out⟩
      case measure => simp [intOf]; omega
    · have hte : l.take k = l := List.take_of_length_le (by omega)
      rw [hte] at hbr
      have hki : ¬ (k : Int) < l.length := by omega
      have HX := hide hbr
      have HB := hide hB
      clear hte hbr hB
      go_wp2
      go_ret2
      exact ⟨_, rfl, HX.out, HB.out⟩

theorem clause_len {c : List Int} (h : mayB c 1048576 = true) : (clauseT c).length ≤ 90000 := by
  have h1 := litsT_len c (lits_bd h)
  have h2 := mayB_len h
  unfold clauseT
  simp
  omega

end Go.Proofs.YtgklollpajhmlaaDoor
