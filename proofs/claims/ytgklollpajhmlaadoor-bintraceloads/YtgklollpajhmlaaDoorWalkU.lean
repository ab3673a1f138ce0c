/- Contracts: a proof's bytes, the program's and the document's. -/
import Derived.Test.YtgklollpajhmlaaDoorWalkT
set_option linter.unusedVariables false
set_option linter.unusedSimpArgs false
namespace Go.Proofs.YtgklollpajhmlaaDoor
open Go.RowKit Go.Maps

attribute [local go_sem ↓] Go.wp_at_zero Go.wp_at_succ

theorem encY_len : ∀ (l : List Stp), (encY l).length ≤ 4 * litsN l + 2 * l.length
  | [] => by simp [encY, litsN]
  | s :: l => by
    have h1 := encY_len l
    have h2 := litsY_len s.2
    unfold encY at *
    rw [List.flatMap_cons, List.length_append]
    have e : (stepY s).length = (litsY s.2).length + 2 := by simp [stepY]
    have e2 : litsN (s :: l) = s.2.length + litsN l := by simp [litsN]
    rw [e, e2, List.length_cons]
    omega

theorem encY_take {l : List Stp} (h1 : l.length ≤ 300) (h2 : litsN l ≤ 6000) (k : Nat) : (encY (l.take k)).length ≤ 30000 := by
  have a := encY_len (l.take k)
  have b := litsN_take l k
  have c : (l.take k).length ≤ l.length := List.length_take_le' k l
  omega

theorem br_new (w : World) (B : Nat) (hB : B ≤ w.heap.size) : Br B (w.alloc (.cells #[] 5)) (.slice (some ⟨w.heap.size, 0, none⟩) 0 0) [] :=
  ⟨w.heap.size, 0, #[], (0, 0), rfl, hB, heap_alloc_new w _, fun k hk => by simp at hk, by simp, by simp [maxLen], rfl, rfl⟩

set_option maxHeartbeats 1000000 in
theorem encode_no (a : Option Addr) (cap : Nat) (l : List Stp) (w : World) (hA : Steps w a l) (hl : l.length ≤ maxLen) (hm : mayL l = false) :
    Calls Tryd.prog 12 #[.slice a l.length cap] w fun e w' => e = .returned (.tuple #[.slice none 0 0, .int .i64 1]) ∧ Below w.heap.size w w' := by
  have C := checkL_any a cap l w hA hl
  rw [hm] at C
  simp only [errI, Bool.false_eq_true, if_false] at C
  replace C := hide C
  clear hA
  unfold maxLen at hl
  go_enter Tryd.func12, Tryd.ntmps12
  go_wp2_with (go_at_call 19; refine (unhide C).mono ?_; rintro e w1 ⟨rfl, hB1⟩)
  go_ret2
  exact ⟨rfl, hB1⟩

set_option maxHeartbeats 8000000 in
theorem encode_yes (a : Option Addr) (cap : Nat) (l : List Stp) (w : World) (hA : Steps w a l) (hm : mayL l = true) (h1 : l.length ≤ 300) (h2 : litsN l ≤ 6000) :
    Calls Tryd.prog 12 #[.slice a l.length cap] w fun e w' => ∃ v, e = .returned (.tuple #[v, .int .i64 0]) ∧ Br w.heap.size w' v (encY l) ∧ Below w.heap.size w w' := by
  have C := checkL_any a cap l w hA (by unfold maxLen; omega)
  rw [hm] at C
  simp only [errI, if_true] at C
  replace C := hide C
  have HPT := hide (fun k => encY_take h1 h2 k)
  have HMP := hide (mayL_parts hm).2
  have HA := hide hA
  clear hA hm h2
  go_enter Tryd.func12, Tryd.ntmps12
  go_wp2_with (go_at_call 19; refine (unhide C).mono ?_; rintro e w1 ⟨rfl, hB1⟩)
  have hbr0 := br_new w1 w.heap.size hB1.size
  have hbl0 := hB1.alloc hB1.size (.cells #[] 5)
  have HBR0 := hide hbr0
  have HBL0 := hide hbl0
  clear hbr0 hbl0 hB1
  go_loopw [4, 13] (fun zv zi wr => ∃ (k g1 n1 c1 : Nat), k ≤ l.length ∧ zi = .int .i64 (k : Int) ∧ zv = .slice (some ⟨g1, 0, none⟩) n1 c1 ∧ Br w.heap.size wr (.slice (some ⟨g1, 0, none⟩) n1 c1) (encY (l.take k)) ∧ Below w.heap.size w wr) (fun _ zi _ => l.length - (intOf zi).toNat)
  case atStart => exact ⟨0, _, _, _, Nat.zero_le _, rfl, rfl, HBR0.out, HBL0.out⟩
  case round =>
    clear HBR0 HBL0
    obtain ⟨k, g1, n1, c1, hk, rfl, rfl, hbr, hB⟩ := hrel
    by_cases hlt : k < l.length
    · obtain ⟨b, off, ai, ci, e, hb, q0, q1, hr, hlen⟩ := HA.out k hlt
      subst e
      have hmk := HMP.out l[k] (List.getElem_mem hlt)
      have hx0 := (hB.cell (p := ⟨b, off + k * 2, none⟩) hb).trans q0
      have hx1 := (hB.cell (p := ⟨b, off + k * 2 + 1, none⟩) hb).trans q1
      have hbx := below_alloc wr (.cells #[.bool l[k].1, .slice ai l[k].2.length ci] 36)
      have hB2 := hB.trans (hbx.mono hB.size)
      have HSN := hide (encY_snoc hlt)
      have hp1 := HPT.out k
      have hp2 := HPT.out (k + 1)
      have CA := appendStep_any w.heap.size (wr.alloc (.cells #[.bool l[k].1, .slice ai l[k].2.length ci] 36)) (.slice (some ⟨g1, 0, none⟩) n1 c1) (encY (l.take k)) l[k].1 ai ci l[k].2 (fun x hx => hr.below (hB2.trans hx)) (mayB_len hmk) (mayB_lit hmk) (hbr.kept hbx) (by have := hB.size; simp; omega) (by omega)
      have hl4 := mayB_len hmk
      have CA2 : Calls Tryd.prog 21 #[.slice (some ⟨g1, 0, none⟩) n1 c1, .agg #[.bool l[k].1, .slice ai l[k].2.length ci]] (wr.alloc (.cells #[.bool l[k].1, .slice ai l[k].2.length ci] 36)) fun e w' => ∃ (g2 n2 c2 : Nat), e = .returned (.slice (some ⟨g2, 0, none⟩) n2 c2) ∧ (n2 : Int) ≤ 4194304 ∧ Hid (Br w.heap.size w' (.slice (some ⟨g2, 0, none⟩) n2 c2) (encY (l.take (k + 1)))) ∧ Hid (Below w.heap.size w w') := by
        refine CA.mono ?_
        rintro e y ⟨v', he, hy1, hy2⟩
        have e3 : encY (l.take k) ++ stepY (l[k].1, l[k].2) = encY (l.take (k + 1)) := HSN.out.symm
        rw [e3] at hy1
        obtain ⟨g2, c2, e2, -⟩ := hy1.shape
        refine ⟨g2, _, c2, by rw [he, e2], by omega, by rw [← e2]; exact hy1, hB2.trans hy2⟩
      replace CA2 := hide CA2
      have hki : (k : Int) < l.length := by omega
      have hbw : b < wr.heap.size := by have := hB.size; omega
      clear CA hr hbr q0 q1 hbx hB2 hp1 hp2 hmk
      generalize l[k].1 = d at *
      generalize l[k].2.length = M at *
      go_wp2_with (go_at_call 21; refine (unhide CA2).mono ?_; rintro e w6 ⟨g2, n2, c2, rfl, hn2, HX, HBX⟩)
      go_roundw
      case rel => exact ⟨k + 1, g2, n2, c2, by omega, by go_num, rfl, HX.out, HBX.out⟩
      case measure => simp [intOf]; omega
    · have hte : l.take k = l := List.take_of_length_le (by omega)
      rw [hte] at hbr
      have hki : ¬ (k : Int) < l.length := by omega
      have HX := hide hbr
      have HB := hide hB
      clear hte hbr hB
      go_wp2
      go_ret2
      exact ⟨_, rfl, HX.out, HB.out⟩

/-- The document's variable of a literal. -/
def varI2 (l : Int) : Int := if l < 0 then -l else l

set_option maxHeartbeats 400000 in
theorem refVar_any (l : Int) (w : World) (h0 : -1048576 ≤ l) (h1 : l ≤ 1048576) :
    Calls Tryd.prog 43 #[.int .i64 l] w fun e w' => e = .returned (.int .i64 (varI2 l)) ∧ w' = w := by
  by_cases hl : l < 0
  all_goals
    go_enter Tryd.func43, Tryd.ntmps43
    go_wp2
    go_ret
    exact ⟨ret_int (by unfold varI2; first | rw [if_pos (by omega)] | rw [if_neg (by omega)]), rfl⟩

set_option maxHeartbeats 2000000 in
theorem refLiteral_any (l : Int) (w : World) (hl : litB l 1048576 = true) :
    Calls Tryd.prog 36 #[.int .i64 l] w fun e w' => ∃ v', e = .returned v' ∧ Br w.heap.size w' v' (bytL l) ∧ Below w.heap.size w w' := by
  obtain ⟨i0, hi, hz0, hz1, hz2⟩ := info_parts Tryd.info5
  have hb := nbI_bd hl
  have hlb := (litB_true.1 hl).2
  have CV := hide (refVar_any l w hlb.1 hlb.2)
  have HNN : Hid ((l < 0 → (nbI l : Int) = 2 * varI2 l + 1) ∧ (¬ l < 0 → (nbI l : Int) = 2 * varI2 l)) := by
    show _ ∧ _
    unfold nbI varI2
    constructor
    · intro h; rw [if_pos h, if_pos h]; omega
    · intro h; rw [if_neg h, if_neg h]; omega
  have hv0 : 0 ≤ varI2 l := by unfold varI2; split <;> omega
  have hv1 : varI2 l ≤ 1048576 := by unfold varI2; split <;> omega
  have HBR := hide (br_new w w.heap.size (Nat.le_refl _))
  have HBL := hide (below_alloc w (.cells #[] 5))
  have HE : Hid (bytL l = bytF 3 (nbI l)) := rfl
  have hn := hb.2
  generalize nbI l = n at *
  clear hl hb
  generalize varI2 l = vv at *
  by_cases hneg : l < 0
  all_goals
    have hnv := by first | exact HNN.out.1 hneg | exact HNN.out.2 hneg
    clear HNN
    have HNV := hide hnv
    clear hnv
    go_enter Tryd.func36, Tryd.ntmps36
    go_wp2_with (go_at_call 43; refine (unhide CV).mono ?_; rintro e w0 ⟨rfl, hw0⟩; subst w0)
    generalize hW : w.alloc (.cells #[] 5) = W at *
    have hWs : w.heap.size ≤ W.heap.size := by rw [← hW]; simp
    clear hW
    go_loopw [4, 3] (fun zv zi wr => ∃ (f m g1 n1 c1 : Nat) (ys : List UInt8), zi = .int .i64 (m : Int) ∧ zv = .slice (some ⟨g1, 0, none⟩) n1 c1 ∧ Br w.heap.size wr (.slice (some ⟨g1, 0, none⟩) n1 c1) ys ∧ Below w.heap.size w wr ∧ m ≤ 2097153 ∧ Hid (Part n f m ys)) (fun _ zi _ => (intOf zi).toNat)
    case atStart => exact ⟨3, n, _, _, _, [], by rw [HNV.out], rfl, HBR.out, HBL.out, hn, part_start hn⟩
    case round =>
      clear HBR HBL HNV
      obtain ⟨f, m, g1, n1, c1, ys, rfl, rfl, hbr, hbel, hm2, HP⟩ := hrel
      have hsz := hbel.size
      have hyl := part_len HP.out
      by_cases hlt : 128 ≤ m
      · obtain ⟨f', hf', hp'⟩ := part_next HP.out hlt
        have HP' := hide hp'
        clear hf' hp' HP
        have hlt' : 127 < (m : Int) := by omega
        have hq0 : 0 ≤ (m : Int) % 128 := by omega
        have hq1 : (m : Int) % 128 < 128 := by omega
        have HBA := hide (hbr.kept (below_alloc wr (.cells #[.int .u8 (128 + (m : Int) % 128)] 5)))
        have HBL := hide (hbel.alloc hsz (.cells #[.int .u8 (128 + (m : Int) % 128)] 5))
        have HSRC := hide (one_src wr (UInt8.ofNat (m % 128 + 128)) (128 + (m : Int) % 128) (by rw [ofNat_int (by omega)]; omega))
        have HBT := hide (fun k hk => (hbr.lt k hk).1)
        clear hbr
        go_wp2_with (at_builtin; refine wpList_br_slice rfl _ _ 22 rfl w.heap.size Tryd.underlying22 i0 hi hz0 hz1 hz2 (.slice (some ⟨g1, 0, none⟩) n1 c1) ys [UInt8.ofNat (m % 128 + 128)] rfl HBA.out (by simp; omega) (by simp; omega) ⟨wr.heap.size, 0, none⟩ 1 1 rfl rfl HSRC.out ?_; intro v2 w2 hbr2 hgr2)
        obtain ⟨g2, c2, e2, -⟩ := hbr2.shape
        go_roundw
        case rel => exact ⟨f', m / 128, g2, _, c2, ys ++ [UInt8.ofNat (m % 128 + 128)], by go_num, e2, by rw [← e2]; exact hbr2, HBL.out.grown hgr2 (by simp; omega) HBT.out, by omega, HP'.out⟩
        case measure => simp [intOf]; omega
      · have hp' := part_last HP.out (by omega)
        have HP' := hide hp'
        clear hp' HP
        have hlt' : ¬ 127 < (m : Int) := by omega
        have hq1 : (m : Int) < 128 := by omega
        have HBA := hide (hbr.kept (below_alloc wr (.cells #[.int .u8 (m : Int)] 5)))
        have HBL := hide (hbel.alloc hsz (.cells #[.int .u8 (m : Int)] 5))
        have HSRC := hide (one_src wr (UInt8.ofNat m) (m : Int) (ofNat_int (by omega)))
        have HBT := hide (fun k hk => (hbr.lt k hk).1)
        clear hbr
        go_wp2_with (at_builtin; refine wpList_br_slice rfl _ _ 22 rfl w.heap.size Tryd.underlying22 i0 hi hz0 hz1 hz2 (.slice (some ⟨g1, 0, none⟩) n1 c1) ys [UInt8.ofNat m] rfl HBA.out (by simp; omega) (by simp; omega) ⟨wr.heap.size, 0, none⟩ 1 1 rfl rfl HSRC.out ?_; intro v2 w2 hbr2 hgr2)
        go_ret
        exact ⟨_, rfl, by rw [HE.out, ← HP'.out]; exact hbr2, HBL.out.grown hgr2 (by simp; omega) HBT.out⟩

end Go.Proofs.YtgklollpajhmlaaDoor
