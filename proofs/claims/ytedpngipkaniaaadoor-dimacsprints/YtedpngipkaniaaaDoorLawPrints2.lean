/- What is printed, and that it is read: the law's own text, walked. -/
import Derived.Test.YtedpngipkaniaaaDoorLawPrints
set_option linter.unusedVariables false
set_option linter.unusedSimpArgs false
namespace Go.Proofs.YtedpngipkaniaaaDoor
open Go.RowKit Go.Maps

attribute [local go_sem ↓] Go.wp_at_zero Go.wp_at_succ

set_option maxHeartbeats 2000000 in
theorem prints_dark (a : Option Addr) (cap : Nat) (n : Int) (css : List (List Int)) (w : World) (hg : Grid w a css) (hl : css.length ≤ maxLen) (h1 : lightB css = false) :
    Calls Tryd.prog 3 #[.agg #[.int .i64 n, .slice a css.length cap]] w fun e w' => e = .returned (.bool true) ∧ Below w.heap.size w w' := by
  have hbW := below_alloc w (.cells #[.int .i64 n, .slice a css.length cap] 24)
  have hsz := size_alloc w (.cells #[.int .i64 n, .slice a css.length cap] 24)
  have D1 := light_any a cap n css _ (hg.below hbW) hl
  rw [h1, hsz] at D1
  replace D1 := hide D1
  have D3 := hide (fun x => awake_any x)
  clear hbW hg hsz
  go_enter Tryd.func3, Tryd.ntmps3
  go_wp2_with fail
  refine (unhide D1).mono ?_
  rintro e w1 ⟨rfl, hB1⟩
  go_wp2_with fail
  refine (unhide D3 _).mono ?_
  rintro e w2 ⟨rfl, hB2⟩
  go_wp2
  go_ret
  exact ⟨rfl, below_box (hB1.trans (hB2.mono (by have := hB1.size; simp at this; omega)))⟩

set_option maxHeartbeats 2000000 in
theorem prints_no (a : Option Addr) (cap : Nat) (n : Int) (css : List (List Int)) (w : World) (hg : Grid w a css) (hl : css.length ≤ maxLen) (h1 : lightB css = true) (h2 : cnfB n css = false) :
    Calls Tryd.prog 3 #[.agg #[.int .i64 n, .slice a css.length cap]] w fun e w' => e = .returned (.bool true) ∧ Below w.heap.size w w' := by
  have hbW := below_alloc w (.cells #[.int .i64 n, .slice a css.length cap] 24)
  have hsz := size_alloc w (.cells #[.int .i64 n, .slice a css.length cap] 24)
  have K1 : ∀ x y, Below (w.heap.size + 1) (w.alloc (.cells #[.int .i64 n, .slice a css.length cap] 24)) x → Below x.heap.size x y → Below (w.heap.size + 1) (w.alloc (.cells #[.int .i64 n, .slice a css.length cap] 24)) y := fun x y h g => h.trans (g.mono (by have := h.size; omega))
  have HK := hide K1
  have D1 := light_any a cap n css _ (hg.below hbW) hl
  rw [h1, hsz] at D1
  replace D1 := hide D1
  have D2 : ∀ x, Below (w.heap.size + 1) (w.alloc (.cells #[.int .i64 n, .slice a css.length cap] 24)) x → _ := fun x h => refCnf_any a cap n css x (hg.below (below_box h)) hl
  rw [h2] at D2
  replace D2 := hide D2
  have D4 : ∀ x, Below (w.heap.size + 1) (w.alloc (.cells #[.int .i64 n, .slice a css.length cap] 24)) x → _ := fun x h => print_no a cap n css x (hg.below (below_box h)) hl h2
  replace D4 := hide D4
  have D3 := hide (fun x => awake_any x)
  have KF := hide (fun x (h : Below (w.heap.size + 1) (w.alloc (.cells #[.int .i64 n, .slice a css.length cap] 24)) x) => box_cells (w := w) h)
  clear hbW hg hsz K1
  go_enter Tryd.func3, Tryd.ntmps3
  go_wp2_with fail
  refine (unhide D1).mono ?_
  rintro e w1 ⟨rfl, hB1⟩
  obtain ⟨k0, k1⟩ := KF.out w1 hB1
  go_wp2_with fail
  refine (unhide D4 _ hB1).mono ?_
  rintro e w2 ⟨rfl, hB2⟩
  have hB3 := HK.out _ _ hB1 hB2
  obtain ⟨m0, m1⟩ := KF.out w2 hB3
  go_wp2_with fail
  refine (unhide D2 _ hB3).mono ?_
  rintro e w4 ⟨rfl, hB4⟩
  have hB5 := HK.out _ _ hB3 hB4
  go_wp2_with fail
  refine (unhide D3 _).mono ?_
  rintro e w5 ⟨rfl, hB6⟩
  go_wp2
  go_ret
  exact ⟨rfl, below_box (HK.out _ _ hB5 hB6)⟩

theorem br_string {base : Nat} {w : World} {g n cap : Nat} {xs : List UInt8} (h : Br base w (.slice (some ⟨g, 0, none⟩) n cap) xs) (k : Nat) : (convert 27 9 (.slice (some ⟨g, 0, none⟩) n cap)).run Tryd.prog (w.drewN k) = .ok (.string (str xs)) (w.drewN k) := by
  have hn : n = xs.length := by
    obtain ⟨g', cap', e, -⟩ := h.shape
    simp at e
    exact e.2.1
  subst hn
  refine run_convert_bytes_back (P := Tryd.prog) (w.drewN k) 27 9 5 ⟨g, 0, none⟩ cap xs Tryd.underlying27 Tryd.underlying5 Tryd.underlying9 ?_
  intro j hj
  exact h.cells j _ (by simp [byteL, hj])

set_option maxHeartbeats 8000000 in
theorem prints_yes (a : Option Addr) (cap : Nat) (n : Int) (css : List (List Int)) (w : World) (hg : Grid w a css) (hl : css.length ≤ maxLen) (h1 : lightB css = true) (h2 : cnfB n css = true) (ht : Lib.TabIs Tryd.prog w "internal/strconv.uint64pow10" .u64 Lib.pow10Tab) :
    Calls Tryd.prog 3 #[.agg #[.int .i64 n, .slice a css.length cap]] w fun e w' => e = .returned (.bool true) ∧ Below w.heap.size w w' := by
  have hbW := below_alloc w (.cells #[.int .i64 n, .slice a css.length cap] 24)
  have hsz := size_alloc w (.cells #[.int .i64 n, .slice a css.length cap] 24)
  have K1 : ∀ x y, Below (w.heap.size + 1) (w.alloc (.cells #[.int .i64 n, .slice a css.length cap] 24)) x → Below x.heap.size x y → Below (w.heap.size + 1) (w.alloc (.cells #[.int .i64 n, .slice a css.length cap] 24)) y := fun x y h g => h.trans (g.mono (by have := h.size; omega))
  have HK := hide K1
  have HTB := hide (Lib.tabBelow_of_tabIs ht)
  obtain ⟨hhl, hfl⟩ := print_len h2 h1
  obtain ⟨c1, c2, c3, c4⟩ := cnf_lits h2
  have hTX := print_text (css := css) c1 c2 c3 c4
  have hTL : (printT n css).length ≤ 4194304 := by
    have := hfl css.length
    rw [List.take_length] at this
    unfold printT
    rw [List.length_append]
    omega
  have D1 := light_any a cap n css _ (hg.below hbW) hl
  rw [h1, hsz] at D1
  replace D1 := hide D1
  have D2 : ∀ x, Below (w.heap.size + 1) (w.alloc (.cells #[.int .i64 n, .slice a css.length cap] 24)) x → _ := fun x h => refCnf_any a cap n css x (hg.below (below_box h)) hl
  rw [h2] at D2
  replace D2 := hide D2
  have D3 := hide (fun x => awake_any x)
  have D4 : ∀ x, Below (w.heap.size + 1) (w.alloc (.cells #[.int .i64 n, .slice a css.length cap] 24)) x → Calls Tryd.prog 6 #[.agg #[.int .i64 n, .slice a css.length cap]] x fun e w' => ∃ g ng cg, e = .returned (.tuple #[.slice (some ⟨g, 0, none⟩) ng cg, .int .i64 0]) ∧ Hid (Br (w.heap.size + 1) w' (.slice (some ⟨g, 0, none⟩) ng cg) (printT n css)) ∧ Below (w.heap.size + 1) (w.alloc (.cells #[.int .i64 n, .slice a css.length cap] 24)) w' := by
    intro x hx
    refine (print_yes a cap n css x (hg.below (below_box hx)) hl h2 h1 (HTB.out x (below_box hx))).mono ?_
    rintro e y ⟨v, he, hb, hy⟩
    obtain ⟨g, cg, e2, -⟩ := hb.shape
    exact ⟨g, _, cg, by rw [he, e2], by rw [← e2]; exact hb.mono (by have := hx.size; simp at this; omega), K1 _ _ hx hy⟩
  replace D4 := hide D4
  have D5 : ∀ x, Below (w.heap.size + 1) (w.alloc (.cells #[.int .i64 n, .slice a css.length cap] 24)) x → _ := fun x h => refPrint_any a cap n css x (hg.below (below_box h)) hl h2 h1
  replace D5 := hide D5
  have D6 : ∀ x g ng cg, Br (w.heap.size + 1) x (.slice (some ⟨g, 0, none⟩) ng cg) (printT n css) → Below (w.heap.size + 1) (w.alloc (.cells #[.int .i64 n, .slice a css.length cap] 24)) x → Calls Tryd.prog 9 #[.slice (some ⟨g, 0, none⟩) ng cg] x fun e w' => ∃ av cv, e = .returned (.tuple #[.agg #[.int .i64 n, .slice av css.length cv], .int .i64 0, .int .i64 0]) ∧
      Hid (Grid (w'.alloc (.cells #[.int .i64 n, .slice av css.length cv] 24)) av css) ∧ Hid (Below (w.heap.size + 1) (w.alloc (.cells #[.int .i64 n, .slice a css.length cap] 24)) (w'.alloc (.cells #[.int .i64 n, .slice av css.length cv] 24))) := by
    intro x g ng cg hbr hx
    obtain ⟨g', cg', e, htx, hcg⟩ := hbr.txt
    simp at e
    obtain ⟨rfl, rfl, rfl⟩ := e
    refine (read_any x (some ⟨g, 0, none⟩) cg (printT n css) htx hTL hcg _ hTX rfl rfl rfl).mono ?_
    rintro e y ⟨v, he, hog, hbl⟩
    obtain ⟨av, cv, rfl, hgr, -⟩ := hog.grid
    have hB6 := K1 _ _ hx hbl
    exact ⟨av, cv, he, hgr.below (below_alloc y _), K1 _ _ hB6 (below_alloc y _)⟩
  replace D6 := hide D6
  have CS : ∀ x av cv, Grid x av css → Below (w.heap.size + 1) (w.alloc (.cells #[.int .i64 n, .slice a css.length cap] 24)) x → Calls Tryd.prog 10 #[.agg #[.int .i64 n, .slice a css.length cap], .agg #[.int .i64 n, .slice av css.length cv]] x fun e w' => e = .returned (.bool true) ∧ Below (w.heap.size + 1) (w.alloc (.cells #[.int .i64 n, .slice a css.length cap] 24)) w' := by
    intro x av cv hga hbx
    refine (refSame_any a av cap cv n n css css x (hg.below (below_box hbx)) hga hl hl).mono ?_
    rintro e y ⟨he, hb⟩
    refine ⟨by rw [he]; simp [sameB, listsB], K1 _ _ hbx hb⟩
  replace CS := hide CS
  have KF := hide (fun x (h : Below (w.heap.size + 1) (w.alloc (.cells #[.int .i64 n, .slice a css.length cap] 24)) x) => box_cells (w := w) h)
  have hlb := hl
  unfold maxLen at hlb
  clear hbW hg hsz K1 hTX hTL hfl hhl c4
  generalize printT n css = T at *
  go_enter Tryd.func3, Tryd.ntmps3
  go_wp2_with fail
  refine (unhide D1).mono ?_
  rintro e w1 ⟨rfl, hB1⟩
  obtain ⟨k0, k1⟩ := KF.out w1 hB1
  go_wp2_with fail
  refine (unhide D4 _ hB1).mono ?_
  rintro e w2 ⟨g, ng, cg, rfl, HBR, hB2⟩
  obtain ⟨m0, m1⟩ := KF.out w2 hB2
  go_wp2_with fail
  refine (unhide D2 _ hB2).mono ?_
  rintro e w3 ⟨rfl, hB3'⟩
  have hB3 := HK.out _ _ hB2 hB3'
  have HBR3 := hide (HBR.out.kept hB3')
  obtain ⟨p0, p1⟩ := KF.out w3 hB3
  have hcv3 : (convert 27 9 (.slice (some ⟨g, 0, none⟩) ng cg)).run Tryd.prog w3.drew = .ok (.string (str T)) w3.drew := br_string HBR3.out 1
  clear k0 k1 m0 m1
  go_wp2_with fail
  go_region_law (go_simp; go_at_call 8; refine (unhide D5 _ (below_drewN hB3 1)).mono ?_; rintro e w4 ⟨rfl, hB4'⟩; have hB4 := HK.out _ _ (below_drewN hB3 1) hB4'; have HBR4 := hide (Br.kept (w := w3.drewN 1) HBR3.out hB4'); have hcv4 : (convert 27 9 (.slice (some ⟨g, 0, none⟩) ng cg)).run Tryd.prog w4 = .ok (.string (str T)) w4 := br_string HBR4.out 0; obtain ⟨q0, q1⟩ := KF.out w4 hB4)
  all_goals
    clear hcv3 hcv4 p0 p1 q0 q1
    go_wp2_with fail
    refine (unhide D6 _ g ng cg HBR4.out hB4).mono ?_
    rintro e w5 ⟨av, cv, rfl, HG5, HB5⟩
    obtain ⟨r0, r1⟩ := KF.out _ HB5.out
    go_wp2_with fail
    refine (unhide CS _ av cv HG5.out HB5.out).mono ?_
    rintro e w6 ⟨rfl, hB6⟩
    go_wp2_with fail
    refine (unhide D3 _).mono ?_
    rintro e w7 ⟨rfl, hB7⟩
    go_wp2
    go_ret
    exact ⟨rfl, below_box (HK.out _ _ hB6 hB7)⟩

end Go.Proofs.YtedpngipkaniaaaDoor
