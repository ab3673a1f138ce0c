/- Contracts: what is resolved of two clauses; the statements' own small check. -/
import Derived.Test.YtiddcpemckifmaaWalkH
set_option linter.unusedVariables false
set_option linter.unusedSimpArgs false
namespace Go.Proofs.Ytiddcpemckifmaa
open Go.RowKit

theorem Own.src {base : Nat} {w : World} {v : Value} {xs : List Int} (h : Own base w v xs) (hv : v ≠ .slice none 0 0) :
    ∃ g cap, v = .slice (some ⟨g, 0, none⟩) xs.length cap ∧ base ≤ g ∧ g < w.heap.size ∧ ∀ j u, (xs.map (Value.int .i64))[j]? = some u → w.cell? ((⟨g, 0, none⟩ : Addr).add j) = some u := by
  have h' := h
  unfold Own at h
  rcases h.2 with ⟨e, _⟩ | ⟨g, cap, cur, rfl, hb, hg, hn, hm, hs, ht⟩
  · exact absurd e hv
  · exact ⟨g, cap, rfl, hb, (Array.getElem?_eq_some_iff.1 hg).1, World.ownsRow.cells h rfl⟩

theorem own_join {base : Nat} {w : World} {v : Value} {xs ys : List Int} (h : w.ownsRow base 3 1 v (xs.length + ys.length) (xs.map (Value.int .i64) ++ ys.map (Value.int .i64))) : Own base w v (xs ++ ys) := by
  unfold Own; rw [List.length_append, List.map_append]; exact h

theorem Own.below {base : Nat} {w w' : World} {v : Value} {xs : List Int} (h : Own base w v xs) (hb : Below w.heap.size w w') : Own base w' v xs := by
  unfold Own at *
  refine World.ownsRow.kept h (row := none) ⟨hb.os, hb.tape, hb.output, hb.size, fun k hk _ => hb.block k hk⟩ ?_
  cases v.ownBlock <;> simp

theorem lits_join {xs ys : List Int} {n k : Int} (h : Lits xs) (g : Lits ys) : Lits (wo xs n ++ wo ys k) := by
  intro x hx
  rcases List.mem_append.1 hx with hx | hx
  · exact h x (List.mem_filter.1 hx).1
  · exact g x (List.mem_filter.1 hx).1

/-- May two clauses be resolved? -/
def resArg (xs ys : List Int) (n : Int) : Bool := mayB xs 1048576 && (mayB ys 1048576 && decide (1 ≤ n ∧ n ≤ 1048576))

set_option maxHeartbeats 800000 in
theorem resolve_arg (a b : Option Addr) (ca cb : Nat) (xs ys : List Int) (n : Int) (w : World) (hr : Row w a xs) (hs : Row w b ys) (hl : xs.length ≤ 5000) (hm : ys.length ≤ 5000) (h : resArg xs ys n = false) :
    Calls Try.prog 27 #[.slice a xs.length ca, .slice b ys.length cb, .int .i64 n] w fun e w' => e = .returned (.tuple #[.slice none 0 0, .int .i64 1]) ∧ w' = w := by
  have c1 := check_any a ca xs w hr (by unfold maxLen; omega)
  have c2 := check_any b cb ys w hs (by unfold maxLen; omega)
  clear hr hs
  unfold resArg at h
  by_cases h1 : mayB xs 1048576 = true
  case neg =>
    have h1' : mayB xs 1048576 = false := by simpa using h1
    rw [h1'] at c1
    have C1 := hide c1
    clear c1 c2 h h1 h1'
    go_enter Try.func27, Try.ntmps27
    go_wp2_with (go_at_call 11; refine (unhide C1).mono ?_; rintro e w' ⟨rfl, rfl⟩; simp only [errI, Bool.false_eq_true, if_false])
    go_ret2
    exact ⟨rfl, rfl⟩
  rw [h1] at c1 h
  rw [Bool.true_and] at h
  by_cases h2 : mayB ys 1048576 = true
  case neg =>
    have h2' : mayB ys 1048576 = false := by simpa using h2
    rw [h2'] at c2
    have C1 := hide c1
    have C2 := hide c2
    clear c1 c2 h h1 h2 h2'
    go_enter Try.func27, Try.ntmps27
    go_wp2_with fail
    refine (unhide C1).mono ?_
    rintro e w0 ⟨rfl, hw0⟩
    subst w0
    simp only [errI, if_true]
    go_wp2_with fail
    refine (unhide C2).mono ?_
    rintro e w0 ⟨rfl, hw0⟩
    subst w0
    simp only [errI, Bool.false_eq_true, if_false]
    go_wp2
    go_ret2
    exact ⟨rfl, rfl⟩
  rw [h2] at c2 h
  rw [Bool.true_and, decide_eq_false_iff_not] at h
  have C1 := hide c1
  have C2 := hide c2
  clear c1 c2 h1 h2
  by_cases h3 : n < 1
  · clear h
    go_enter Try.func27, Try.ntmps27
    go_wp2_with fail
    refine (unhide C1).mono ?_
    rintro e w0 ⟨rfl, hw0⟩
    subst w0
    simp only [errI, if_true]
    go_wp2_with fail
    refine (unhide C2).mono ?_
    rintro e w0 ⟨rfl, hw0⟩
    subst w0
    simp only [errI, if_true]
    go_wp2
    go_ret2
    exact ⟨rfl, rfl⟩
  · have h4 : 1048576 < n := by omega
    clear h
    go_enter Try.func27, Try.ntmps27
    go_wp2_with fail
    refine (unhide C1).mono ?_
    rintro e w0 ⟨rfl, hw0⟩
    subst w0
    simp only [errI, if_true]
    go_wp2_with fail
    refine (unhide C2).mono ?_
    rintro e w0 ⟨rfl, hw0⟩
    subst w0
    simp only [errI, if_true]
    go_wp2
    go_ret2
    exact ⟨rfl, rfl⟩

set_option maxHeartbeats 800000 in
theorem resolve_none (a b : Option Addr) (ca cb : Nat) (xs ys : List Int) (n : Int) (w : World) (hr : Row w a xs) (hs : Row w b ys) (hl : xs.length ≤ 5000) (hm : ys.length ≤ 5000) (h : resArg xs ys n = true) (hn : (hasB xs n && hasB ys (-n)) = false) :
    Calls Try.prog 27 #[.slice a xs.length ca, .slice b ys.length cb, .int .i64 n] w fun e w' => e = .returned (.tuple #[.slice none 0 0, .int .i64 4]) ∧ w' = w := by
  have c1 := check_any a ca xs w hr (by unfold maxLen; omega)
  have c2 := check_any b cb ys w hs (by unfold maxLen; omega)
  have c3 := contains_any a ca xs n w hr (by unfold maxLen; omega)
  have c4 := contains_any b cb ys (-n) w hs (by unfold maxLen; omega)
  unfold resArg at h
  rw [Bool.and_eq_true, Bool.and_eq_true, decide_eq_true_eq] at h
  obtain ⟨m1, m2, n1, n2⟩ := h
  rw [m1] at c1
  rw [m2] at c2
  have C1 := hide c1
  have C2 := hide c2
  clear c1 c2 m1 m2 hr hs
  by_cases h3 : hasB xs n = true
  case neg =>
    have h3' : hasB xs n = false := by simpa using h3
    rw [h3'] at c3
    have C3 := hide c3
    clear c3 c4 h3 h3' hn
    go_enter Try.func27, Try.ntmps27
    go_wp2_with fail
    refine (unhide C1).mono ?_
    rintro e w0 ⟨rfl, hw0⟩
    subst w0
    simp only [errI, if_true]
    go_wp2_with fail
    refine (unhide C2).mono ?_
    rintro e w0 ⟨rfl, hw0⟩
    subst w0
    simp only [errI, if_true]
    go_wp2_with fail
    refine (unhide C3).mono ?_
    rintro e w0 ⟨rfl, hw0⟩
    subst w0
    go_wp2
    go_ret2
    exact ⟨rfl, rfl⟩
  rw [h3] at hn c3
  rw [Bool.true_and] at hn
  rw [hn] at c4
  have C3 := hide c3
  have C4 := hide c4
  clear c3 c4 h3 hn
  go_enter Try.func27, Try.ntmps27
  go_wp2_with fail
  refine (unhide C1).mono ?_
  rintro e w0 ⟨rfl, hw0⟩
  subst w0
  simp only [errI, if_true]
  go_wp2_with fail
  refine (unhide C2).mono ?_
  rintro e w0 ⟨rfl, hw0⟩
  subst w0
  simp only [errI, if_true]
  go_wp2_with fail
  refine (unhide C3).mono ?_
  rintro e w0 ⟨rfl, hw0⟩
  subst w0
  go_wp2_with fail
  refine (unhide C4).mono ?_
  rintro e w0 ⟨rfl, hw0⟩
  subst w0
  go_wp2
  go_ret2
  exact ⟨rfl, rfl⟩

set_option maxHeartbeats 800000 in
theorem resolve_yes (a b : Option Addr) (ca cb : Nat) (xs ys : List Int) (n : Int) (w : World) (hr : Row w a xs) (hs : Row w b ys) (hl : xs.length ≤ 5000) (hm : ys.length ≤ 5000) (h : resArg xs ys n = true) (hn : (hasB xs n && hasB ys (-n)) = true) :
    Calls Try.prog 27 #[.slice a xs.length ca, .slice b ys.length cb, .int .i64 n] w fun e w' => ∃ v, e = .returned (.tuple #[v, .int .i64 0]) ∧ Own w.heap.size w' v (order (wo xs n ++ wo ys (-n))) ∧ Below w.heap.size w w' := by
  obtain ⟨i0, hi, hz0, hz1, hz2⟩ := info_parts Try.info3
  have c1 := check_any a ca xs w hr (by unfold maxLen; omega)
  have c2 := check_any b cb ys w hs (by unfold maxLen; omega)
  have c3 := contains_any a ca xs n w hr (by unfold maxLen; omega)
  have c4 := contains_any b cb ys (-n) w hs (by unfold maxLen; omega)
  have C5 := hide (litWithout_any a ca xs n w hr hl)
  unfold resArg at h
  rw [Bool.and_eq_true, Bool.and_eq_true, decide_eq_true_eq] at h
  rw [Bool.and_eq_true] at hn
  obtain ⟨m1, m2, n1, n2⟩ := h
  obtain ⟨h3, h4⟩ := hn
  have hlit := hide (lits_join (n := n) (k := -n) (lits_of m1) (lits_of m2))
  rw [m1] at c1
  rw [m2] at c2
  rw [h3] at c3
  rw [h4] at c4
  have C1 := hide c1
  have C2 := hide c2
  have C3 := hide c3
  have C4 := hide c4
  clear c1 c2 m1 m2 hr c3 c4 h3 h4
  have hl1 := wo_len xs n
  have hl2 := wo_len ys (-n)
  go_enter Try.func27, Try.ntmps27
  go_wp2_with fail
  refine (unhide C1).mono ?_
  rintro e w0 ⟨rfl, hw0⟩
  subst w0
  simp only [errI, if_true]
  go_wp2_with fail
  refine (unhide C2).mono ?_
  rintro e w0 ⟨rfl, hw0⟩
  subst w0
  simp only [errI, if_true]
  go_wp2_with fail
  refine (unhide C3).mono ?_
  rintro e w0 ⟨rfl, hw0⟩
  subst w0
  go_wp2_with fail
  refine (unhide C4).mono ?_
  rintro e w0 ⟨rfl, hw0⟩
  subst w0
  go_wp2_with fail
  refine (unhide C5).mono ?_
  rintro e w1 ⟨v1, rfl, hown1, _, hbel1⟩
  have C6 := hide (litWithout_any b cb ys (-n) w1 (hs.below hbel1) hm)
  clear C1 C2 C3 C4 C5 hs
  have HO1 := hide hown1
  clear hown1
  go_wp2_with fail
  refine (unhide C6).mono ?_
  rintro e w2 ⟨v2, rfl, hown2, hnn2, hbel2⟩
  have hown1 := HO1.out.below hbel2
  obtain ⟨g, cap, rfl, hg1, hg2, hcells⟩ := hown2.src hnn2
  have hbel := hbel1.trans (hbel2.mono hbel1.size)
  have hsz := hbel.size
  clear C6 HO1 hnn2
  go_wp2_with (at_builtin; refine wpList_append_own _ rfl _ _ 22 rfl w.heap.size 3 i0 (.int .i64 0) 1 8 Try.underlying22 hi hz0 hz1 hz2 rfl (by decide) _ _ _ rfl hown1 ⟨g, 0, none⟩ (wo ys (-n)).length cap ((wo ys (-n)).map (Value.int .i64)) rfl (by simp) hcells (ints_oneCell _ _) (by unfold maxLen; omega) (by omega) hsz ?_; intro v' w3 hown3 hgrow3 _)
  have hown4 := own_join hown3
  have hbel3 := hbel.grown hgrow3 hsz (fun g hg => (hown1.lt g hg).1)
  have HI := hide (inOrder_any w.heap.size v' _ w3 hown4 hlit.out (by simp; omega) hbel3.size)
  clear hown1 hown2 hown3 hown4 hgrow3 hcells
  go_wp2_with fail
  refine (unhide HI).mono ?_
  rintro e w4 ⟨v4, rfl, hown5, hbel5⟩
  go_wp2
  go_ret2
  exact ⟨v4, rfl, hown5, hbel3.trans hbel5⟩

/-- A row of the call's own, as it was made. -/
theorem lit_row (w : World) (xs : List Int) : Row (w.alloc (.cells (xs.map (Value.int .i64)).toArray 3)) (some ⟨w.heap.size, 0, none⟩) xs := by
  intro i hi
  refine ⟨w.heap.size, 0, rfl, by simp, ?_⟩
  rw [World.cell?_alloc_at _ _ _ _ rfl]
  simp [hi]

theorem awake_order : order (wo [1, 2] 1 ++ wo [-1, 3] (-1)) = [2, 3] := by decide
theorem awake_norm : order [-2, 1, -2] = [1, -2] := by decide

theorem row_two (w : World) (x y : Int) : Row (w.alloc (.cells #[.int .i64 x, .int .i64 y] 3)) (some ⟨w.heap.size, 0, none⟩) [x, y] := lit_row w [x, y]
theorem row_three (w : World) (x y z : Int) : Row (w.alloc (.cells #[.int .i64 x, .int .i64 y, .int .i64 z] 3)) (some ⟨w.heap.size, 0, none⟩) [x, y, z] := lit_row w [x, y, z]
theorem below_alloc (w : World) (o : Obj) : Below w.heap.size w (w.alloc o) := (Below.refl _ _).alloc (Nat.le_refl _) o
theorem size_alloc (w : World) (o : Obj) : (w.alloc o).heap.size = w.heap.size + 1 := by simp

theorem awake_res (w : World) : Calls Try.prog 27 #[.slice (some ⟨w.heap.size, 0, none⟩) 2 2, .slice (some ⟨w.heap.size + 1, 0, none⟩) 2 2, .int .i64 1]
    ((w.alloc (.cells #[.int .i64 1, .int .i64 2] 3)).alloc (.cells #[.int .i64 (-1), .int .i64 3] 3)) fun e w' =>
    ∃ a cap, e = .returned (.tuple #[.slice a 2 cap, .int .i64 0]) ∧ Row w' a [2, 3] ∧ Below w.heap.size w w' := by
  have h1 := (row_two w 1 2).below (below_alloc _ (.cells #[.int .i64 (-1), .int .i64 3] 3))
  have h2 := row_two (w.alloc (.cells #[.int .i64 1, .int .i64 2] 3)) (-1) 3
  rw [size_alloc] at h2
  have h := resolve_yes _ _ 2 2 [1, 2] [-1, 3] 1 _ h1 h2 (by decide) (by decide) (by decide) (by decide)
  rw [awake_order] at h
  refine Calls.mono (f := 27) h ?_
  rintro e w' ⟨v, rfl, hown, hbel⟩
  obtain ⟨a, cap, rfl, hrow, _⟩ := hown.row
  refine ⟨a, cap, rfl, hrow, ?_⟩
  exact ((below_alloc w _).alloc (by simp) _).trans (hbel.mono (by simp; omega))

theorem awake_nrm (w : World) : Calls Try.prog 9 #[.slice (some ⟨w.heap.size, 0, none⟩) 3 3]
    (w.alloc (.cells #[.int .i64 (-2), .int .i64 1, .int .i64 (-2)] 3)) fun e w' =>
    ∃ a cap, e = .returned (.tuple #[.slice a 2 cap, .bool false]) ∧ Row w' a [1, -2] ∧ Below w.heap.size w w' := by
  have h1 := row_three w (-2) 1 (-2)
  have h := norm_yes _ 3 [-2, 1, -2] _ h1 (by decide) (by decide)
  rw [awake_norm] at h
  refine Calls.mono (f := 9) h ?_
  rintro e w' ⟨v, rfl, hown, hbel⟩
  obtain ⟨a, cap, rfl, hrow, _⟩ := hown.row
  exact ⟨a, cap, rfl, hrow, (below_alloc w _).trans (hbel.mono (by simp))⟩

theorem awake_ints (w : World) (a : Option Addr) (cap : Nat) (x y : Int) (h : Row w a [x, y]) : Calls Try.prog 12 #[.slice a 2 cap, .slice (some ⟨w.heap.size, 0, none⟩) 2 2]
    (w.alloc (.cells #[.int .i64 x, .int .i64 y] 3)) fun e w' => e = .returned (.bool true) ∧ Below w.heap.size w w' := by
  have h1 := h.below (below_alloc w (.cells #[.int .i64 x, .int .i64 y] 3))
  have h2 := row_two w x y
  have h := ints_any _ _ cap 2 [x, y] [x, y] _ h1 h2 (by simp [maxLen]) (by simp [maxLen])
  refine Calls.mono (f := 12) h ?_
  rintro e w' ⟨rfl, n, rfl⟩
  exact ⟨ret_bool (by simp [intsB]), below_drewN (below_alloc w _) n⟩

set_option maxHeartbeats 1000000 in
theorem awake_any (w : World) : Calls Try.prog 8 #[] w fun e w' => e = .returned (.bool true) ∧ Below w.heap.size w w' := by
  go_enter Try.func8, Try.ntmps8
  go_wp2_with fail
  refine (awake_res w).mono ?_
  rintro e w1 ⟨a1, cap1, rfl, hr1, hb1⟩
  go_wp2_with fail
  refine (awake_nrm w1).mono ?_
  rintro e w2 ⟨a2, cap2, rfl, hr2, hb2⟩
  have hr1' := hr1.below hb2
  have hb12 := hb1.trans (hb2.mono hb1.size)
  clear hr1 hb1 hb2
  go_wp2_with fail
  refine (awake_ints w2 a1 cap1 2 3 hr1').mono ?_
  rintro e w3 ⟨rfl, hb3⟩
  have hr2' := hr2.below hb3
  have hb13 := hb12.trans (hb3.mono hb12.size)
  clear hr2 hb12 hb3 hr1'
  go_wp2_with fail
  refine (awake_ints w3 a2 cap2 1 (-2) hr2').mono ?_
  rintro e w4 ⟨rfl, hb4⟩
  have hb14 := hb13.trans (hb4.mono hb13.size)
  go_wp2
  go_ret
  exact ⟨rfl, hb14⟩

end Go.Proofs.Ytiddcpemckifmaa
