/- Contract: a formula's text is printed. -/
import Derived.Test.YtedpngipkaniaaaDoorWalkF
import Derived.Test.YtedpngipkaniaaaDoorWalkC
import Derived.Test.YtedpngipkaniaaaDoorLawLines2
set_option linter.unusedVariables false
set_option linter.unusedSimpArgs false
namespace Go.Proofs.YtedpngipkaniaaaDoor
open Go.RowKit Go.Maps

attribute [local go_sem ↓] Go.wp_at_zero Go.wp_at_succ

/-- A formula's text. -/
def headT (n m : Int) : List UInt8 := [112, 32, 99, 110, 102, 32] ++ digI n ++ [32] ++ digI m ++ [10]
def printT (n : Int) (css : List (List Int)) : List UInt8 := headT n css.length ++ css.flatMap clauseT

theorem itoa_any (n : Int) (w : World) (h0 : -1048576 ≤ n) (h1 : n ≤ 1048576) (ht : Lib.TabIs Tryd.prog w "internal/strconv.uint64pow10" .u64 Lib.pow10Tab) :
    Calls Tryd.prog 12 #[.int .i64 n] w fun e w' => e = .returned (.string (str (digI n))) ∧ Below w.heap.size w w' := by
  refine Calls.mono (Any.strconv_Itoa Tryd.laysM171 n (by omega) (by omega) w ht) ?_
  rintro e w' ⟨he, k, os, rfl⟩
  refine ⟨by rw [he, itoa_digI]; rfl, Lib.below_grow w.heap.size w (Nat.le_refl _) k os⟩

set_option maxHeartbeats 1000000 in
theorem print_no (a : Option Addr) (cap : Nat) (n : Int) (css : List (List Int)) (w : World) (hg : Grid w a css) (hl : css.length ≤ maxLen) (hc : cnfB n css = false) :
    Calls Tryd.prog 6 #[.agg #[.int .i64 n, .slice a css.length cap]] w fun e w' => e = .returned (.tuple #[.slice none 0 0, .int .i64 1]) ∧ Below w.heap.size w w' := by
  have hbW := below_alloc w (.cells #[.int .i64 n, .slice a css.length cap] 24)
  have C := checkCnf_any a cap n css _ (hg.below hbW) hl
  rw [hc] at C
  simp only [errI, Bool.false_eq_true, if_false] at C
  replace C := hide C
  have HB := hide hbW
  clear hbW hg
  go_enter Tryd.func6, Tryd.ntmps6
  go_wp2_with (go_at_call 11; refine (unhide C).mono ?_; rintro e w1 ⟨rfl, hB1⟩)
  go_ret2
  exact ⟨rfl, HB.out.trans (hB1.mono (by simp))⟩

theorem clauseT_lits (c : List Int) : clauseT c = litsT c ++ [48, 10] := rfl

theorem flat_snoc {css : List (List Int)} {k : Nat} (h : k < css.length) : (css.take (k + 1)).flatMap clauseT = (css.take k).flatMap clauseT ++ clauseT css[k] := by
  rw [List.take_succ_eq_append_getElem h, List.flatMap_append]
  simp

theorem flat_len (css : List (List Int)) (h : ∀ c ∈ css, ∀ l ∈ c, -1048576 ≤ l ∧ l ≤ 1048576) : (css.flatMap clauseT).length ≤ 21 * total css + 2 * css.length := by
  induction css with
  | nil => simp [total]
  | cons c css ih =>
    have h1 := ih (fun x hx => h x (by simp [hx]))
    have h2 := litsT_len c (h c (by simp))
    simp only [List.flatMap_cons, List.length_append, clauseT_lits, List.length_cons, total, List.map_cons, List.sum_cons, List.length_nil] at *
    omega

set_option maxHeartbeats 8000000 in
theorem print_yes (a : Option Addr) (cap : Nat) (n : Int) (css : List (List Int)) (w : World) (hg : Grid w a css) (hl : css.length ≤ maxLen) (hc : cnfB n css = true) (hli : lightB css = true) (ht : Lib.TabIs Tryd.prog w "internal/strconv.uint64pow10" .u64 Lib.pow10Tab) :
    Calls Tryd.prog 6 #[.agg #[.int .i64 n, .slice a css.length cap]] w fun e w' => ∃ v, e = .returned (.tuple #[v, .int .i64 0]) ∧ Br w.heap.size w' v (printT n css) ∧ Below w.heap.size w w' := by
  have hbW := below_alloc w (.cells #[.int .i64 n, .slice a css.length cap] 24)
  have hsz := size_alloc w (.cells #[.int .i64 n, .slice a css.length cap] 24)
  have C := checkCnf_any a cap n css _ (hg.below hbW) hl
  rw [hc] at C
  simp only [errI, if_true] at C
  rw [hsz] at C
  replace C := hide C
  have HTB := hide (Lib.tabBelow_of_tabIs ht)
  obtain ⟨c1, c2, c3, c4⟩ := cnf_lits hc
  unfold lightB at hli
  simp only [Bool.and_eq_true, decide_eq_true_eq] at hli
  have h300 : (css.length : Int) ≤ 300 := by omega
  have K1 : ∀ x y, Below (w.heap.size + 1) (w.alloc (.cells #[.int .i64 n, .slice a css.length cap] 24)) x → Below x.heap.size x y → Below (w.heap.size + 1) (w.alloc (.cells #[.int .i64 n, .slice a css.length cap] 24)) y := fun x y h g => h.trans (g.mono (by have := h.size; omega))
  have HK := hide K1
  have CI : ∀ x z, -1048576 ≤ z → z ≤ 1048576 → Below (w.heap.size + 1) (w.alloc (.cells #[.int .i64 n, .slice a css.length cap] 24)) x → Calls Tryd.prog 12 #[.int .i64 z] x fun e w' => e = .returned (.string (str (digI z))) ∧ Below (w.heap.size + 1) (w.alloc (.cells #[.int .i64 n, .slice a css.length cap] 24)) w' := by
    intro x z z0 z1 hb
    refine (itoa_any z x z0 z1 (HTB.out x (below_box hb))).mono ?_
    rintro e y ⟨he, hy⟩
    exact ⟨he, K1 x y hb hy⟩
  replace CI := hide CI
  have KF := hide (fun x (h : Below (w.heap.size + 1) (w.alloc (.cells #[.int .i64 n, .slice a css.length cap] 24)) x) => box_cells (w := w) h)
  have sdn : (str (digI n)).size ≤ 20 := by rw [str_size]; exact digI_len (by omega) (by omega)
  have sdm : (str (digI (css.length : Int))).size ≤ 20 := by rw [str_size]; exact digI_len (by omega) (by omega)
  have z1 : ¬ 9223372036854775807 < 6 + (str (digI n)).size := by omega
  have z2 : ¬ 9223372036854775807 < 6 + (str (digI n)).size + 1 := by omega
  have z3 : ¬ 9223372036854775807 < 6 + (str (digI n)).size + 1 + (str (digI (css.length : Int))).size := by omega
  have z4 : ¬ 9223372036854775807 < 6 + (str (digI n)).size + 1 + (str (digI (css.length : Int))).size + 1 := by omega
  have hcv := fun (w : World) s => Lib.run_convert_string_bytes (P := Tryd.prog) w 9 27 5 s Tryd.underlying9 Tryd.underlying27 Tryd.underlying5
  have HGR := hide hg
  have HTC : Hid (∀ x, Below (w.heap.size + 1) (w.alloc (.cells #[.int .i64 n, .slice a css.length cap] 24)) x → Tab (w.heap.size + 1) x) := fun x hx w' hw => HTB.out w' (below_box (hx.trans hw))
  have HS : Hid ((⟨#[112, 32, 99, 110, 102, 32]⟩ ++ str (digI n) ++ ⟨#[32]⟩ ++ str (digI (css.length : Int)) ++ ⟨#[10]⟩ : ByteArray) = str (headT n css.length)) := by
    show _ = _
    unfold headT
    rw [← str_append, ← str_append, ← str_append, ← str_append]
    rfl
  have HL : Hid (6 + (str (digI n)).size + 1 + (str (digI (css.length : Int))).size + 1 = (str (headT n css.length)).size) := by
    show _ = _
    rw [str_size, str_size, str_size]
    unfold headT
    simp
    omega
  have hhl : (headT n css.length).length ≤ 60 := by
    rw [str_size] at sdn sdm
    unfold headT
    simp
    omega
  have HFL : Hid (∀ k, ((css.take k).flatMap clauseT).length ≤ 200000) := by
    intro k
    have h1 := flat_len (css.take k) (fun c hc l hl => by
      obtain ⟨_, a, b⟩ := (c4 c (List.mem_of_mem_take hc)).2 l hl
      omega)
    have h2 : total (css.take k) ≤ total css := by
      have : total css = total (css.take k) + total (css.drop k) := by
        unfold total
        rw [← List.sum_append, ← List.map_append, List.take_append_drop]
      omega
    have h3 : (css.take k).length ≤ css.length := List.length_take_le' k css
    omega
  have HPT : Hid (printT n css = headT n css.length ++ css.flatMap clauseT) := rfl
  have HC4 := hide c4
  clear c4 hli
  clear K1 hbW hg hsz ht
  unfold maxLen at hl
  go_enter Tryd.func6, Tryd.ntmps6
  go_wp2_with (go_at_call 11; refine (unhide C).mono ?_; rintro e w1 ⟨rfl, hB1⟩; obtain ⟨k0, k1⟩ := KF.out w1 hB1)
  go_region_law (first
    | (go_simp; go_at_call 12; first
        | (refine (unhide CI _ _ (by omega) (by omega) hB3).mono ?_; rintro e w4 ⟨rfl, hB4⟩; obtain ⟨q0, q1⟩ := KF.out w4 hB4)
        | (refine (unhide CI _ _ (by omega) (by omega) (below_drewN hB1 1)).mono ?_; rintro e w3 ⟨rfl, hB3⟩; obtain ⟨p0, p1⟩ := KF.out w3 hB3)))
  all_goals
    have hbw := bytes_below w4 (headT n css.length)
    have hbr := (br_bytes w4 (headT n css.length) (by unfold maxLen; omega)).mono (base' := w.heap.size + 1) (by have := hB4.size; simp at this; omega)
    have hB5 := HK.out _ _ hB4 hbw
    rw [HS.out, HL.out]
    generalize Lib.bytesWorld w4 5 (str (headT n css.length)) = w5 at *
    generalize (str (headT n css.length)).size = sz at *
    generalize grownCap w4 sz 0 5 = cp at *
    obtain ⟨r0, r1⟩ := KF.out w5 hB5
    have HBR := hide hbr
    have HB5 := hide hB5
    clear hbw hbr hcv z1 z2 z3 z4 sdn sdm
    go_wp2
    generalize headT n css.length = hd at *
    clear r0 r1 hB5
    go_loopw [4, 25] (fun zv zi wr => ∃ (k g1 n1 c1 : Nat), k ≤ css.length ∧ zi = .int .i64 (k : Int) ∧ zv = .slice (some ⟨g1, 0, none⟩) n1 c1 ∧ Br (w.heap.size + 1) wr (.slice (some ⟨g1, 0, none⟩) n1 c1) (hd ++ (css.take k).flatMap clauseT) ∧ Below (w.heap.size + 1) (w.alloc (.cells #[.int .i64 n, .slice a css.length cap] 24)) wr) (fun _ zi _ => css.length - (intOf zi).toNat)
    case atStart => exact ⟨0, _, _, _, Nat.zero_le _, rfl, rfl, by simpa using HBR.out, HB5.out⟩
    case round =>
      clear HBR HB5
      obtain ⟨k, g1, n1, c1', hk, rfl, rfl, hbr, hB⟩ := hrel
      have hfl := HFL.out k
      by_cases hlt : k < css.length
      · obtain ⟨b, off, ai, ci, rfl, hb, hc', hr, hm⟩ := HGR.out k hlt
        have hcx := ((below_box hB).cell (p := ⟨b, off + k, none⟩) hb).trans hc'
        obtain ⟨h41, h42⟩ := HC4.out css[k] (List.getElem_mem hlt)
        have HSN := hide (flat_snoc hlt)
        have hfl2 := HFL.out (k + 1)
        have CA := appendClause_any (w.heap.size + 1) wr (.slice (some ⟨g1, 0, none⟩) n1 c1') (hd ++ (css.take k).flatMap clauseT) ai ci css[k] (fun x hx => hr.below (below_box (hB.trans hx))) h41 (fun l hl => by obtain ⟨_, p1, p2⟩ := h42 l hl; omega) hbr (by have := hB.size; simp at this; omega) (by simp only [List.length_append]; omega) (HTC.out wr hB)
        have CA2 : Calls Tryd.prog 13 #[.slice (some ⟨g1, 0, none⟩) n1 c1', .slice ai css[k].length ci] wr fun e w' => ∃ (g2 n2 c2 : Nat), e = .returned (.slice (some ⟨g2, 0, none⟩) n2 c2) ∧ (n2 : Int) ≤ 4194304 ∧ Hid (Br (w.heap.size + 1) w' (.slice (some ⟨g2, 0, none⟩) n2 c2) (hd ++ (css.take (k + 1)).flatMap clauseT)) ∧ Hid (Below (w.heap.size + 1) (w.alloc (.cells #[.int .i64 n, .slice (some ⟨b, off, none⟩) css.length cap] 24)) w') := by
          refine CA.mono ?_
          rintro e y ⟨v', he, h1, h2⟩
          rw [List.append_assoc, ← HSN.out] at h1
          obtain ⟨g2, c2, e2, -⟩ := h1.shape
          refine ⟨g2, _, c2, by rw [he, e2], ?_, by rw [← e2]; exact h1, hB.trans h2⟩
          simp only [List.length_append]
          omega
        replace CA2 := hide CA2
        generalize css[k] = c at *
        have hki : (k : Int) < css.length := by omega
        clear CA hr hbr hc' hfl hfl2
        unfold maxLen at hm
        go_wp2_with (go_at_call 13; refine (unhide CA2).mono ?_; rintro e w6 ⟨g2, n2, c2, rfl, hn2, HX, HBX⟩)
        go_roundw
        case rel => exact ⟨k + 1, g2, n2, c2, by omega, by go_num, rfl, HX.out, HBX.out⟩
        case measure => simp [intOf]; omega
      · have hte : css.take k = css := List.take_of_length_le (by omega)
        rw [hte] at hbr
        have hki : ¬ (k : Int) < css.length := by omega
        have HX := hide hbr
        clear hte hbr
        go_wp2
        go_ret2
        exact ⟨_, rfl, by rw [HPT.out]; exact HX.out.mono (by omega), below_box hB⟩

end Go.Proofs.YtedpngipkaniaaaDoor
