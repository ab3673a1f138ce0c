/- The theorem of a true literal: the law's own text, walked. -/
import Derived.Test.YtiddcpemckifmaaWalkR
import Derived.Test.YtiddcpemckifmaaPlain5
import Derived.Test.YtiddcpemckifmaaLawResolves
set_option linter.unusedVariables false
set_option linter.unusedSimpArgs false
namespace Go.Proofs.Ytiddcpemckifmaa
open Go.RowKit

attribute [local go_sem ↓] Go.wp_at_zero Go.wp_at_succ

set_option maxHeartbeats 1000000 in
theorem given_dark (a am : Option Addr) (cap cm : Nat) (n l : Int) (css : List (List Int)) (m : List Int) (w : World) (hg : Grid w a css) (hl : css.length ≤ maxLen) (h : lightB css = false) :
    Calls Try.prog 7 #[.agg #[.int .i64 n, .slice a css.length cap], .int .i64 l, .slice am m.length cm] w fun e w' => e = .returned (.bool true) ∧ Below w.heap.size w w' := by
  have C8 := hide awake_any
  have hbW := below_alloc w (.cells #[.int .i64 n, .slice a css.length cap] 36)
  have C1 := light_any a cap n css _ (hg.below hbW) hl
  rw [h] at C1
  replace C1 := hide C1
  have HB := hide hbW
  clear hg hl hbW h
  go_enter Try.func7, Try.ntmps7
  go_wp2_with fail
  refine (unhide C1).mono ?_
  rintro e x1 ⟨rfl, hb1⟩
  have hB1 := HB.out.trans (hb1.mono (by simp))
  go_wp2_with fail
  refine (unhide C8 _).mono ?_
  rintro e x2 ⟨rfl, hb2⟩
  go_wp2
  go_ret
  exact ⟨rfl, hB1.trans (hb2.mono hB1.size)⟩

/-- What stays known behind the making of what is given: the two structs' cells, and whose clauses they are. -/
theorem given_frame {w x y : World} {p0 p1 q0 q1 : Value} (h1 : Below (w.heap.size + 1) (w.alloc (.cells #[p0, p1] 36)) x) (h2 : Below (x.heap.size + 1) (x.alloc (.cells #[q0, q1] 36)) y) :
    (y.cell? ⟨w.heap.size, 0, none⟩ = some p0 ∧ y.cell? ⟨w.heap.size, 1, none⟩ = some p1 ∧ y.cell? ⟨x.heap.size, 0, none⟩ = some q0 ∧ y.cell? ⟨x.heap.size, 1, none⟩ = some q1) ∧ Below x.heap.size x y ∧ Below w.heap.size w y := by
  have hx : w.heap.size + 1 ≤ x.heap.size := by have := h1.size; rwa [size_alloc] at this
  have h3 : Below x.heap.size x y := below_box h2
  have h4 := h1.trans (h3.mono hx)
  exact ⟨⟨(box_cells h4).1, (box_cells h4).2, (box_cells h2).1, (box_cells h2).2⟩, h3, below_box h4⟩

set_option maxHeartbeats 2000000 in
theorem given_none_law (a am : Option Addr) (cap cm : Nat) (n l : Int) (css : List (List Int)) (m : List Int) (w : World) (hg : Grid w a css) (hl : css.length ≤ maxLen) (h : lightB css = true) (hc : cnfB n css = false) :
    Calls Try.prog 7 #[.agg #[.int .i64 n, .slice a css.length cap], .int .i64 l, .slice am m.length cm] w fun e w' => e = .returned (.bool true) ∧ Below w.heap.size w w' := by
  have C8 := hide awake_any
  have hbW := below_alloc w (.cells #[.int .i64 n, .slice a css.length cap] 36)
  have C1 := light_any a cap n css _ (hg.below hbW) hl
  rw [h] at C1
  replace C1 := hide C1
  have HG := hide hg
  have HL := hide hl
  have HC := hide hc
  clear hg hl hbW h hc
  go_enter Try.func7, Try.ntmps7
  go_wp2_with fail
  refine (unhide C1).mono ?_
  rintro e x1 ⟨rfl, hb1⟩
  have hbb1 := hb1.mono (B' := w.heap.size + 1) (by simp)
  have f := box_cells hbb1
  have f1 := f.1
  have f2 := f.2
  have C2 := hide (litGiven_no a cap n l css x1 (HG.out.below (below_box hbb1)) HL.out HC.out)
  clear C1 hb1 f
  go_wp2_with fail
  refine (unhide C2).mono ?_
  rintro e x2 ⟨rfl, hb2⟩
  have hbb2 := hbb1.trans (hb2.mono (by have := hbb1.size; rwa [size_alloc] at this))
  have K := fun y (h : Below (x2.heap.size + 1) (x2.alloc (.cells #[.int .i64 0, .slice none 0 0] 36)) y) => given_frame hbb2 h
  have k0 := (K _ (Below.refl _ _)).1
  obtain ⟨e0, e1, e2, e3⟩ := k0
  have C3 := refCnf_any a cap n css _ (HG.out.below (K _ (Below.refl _ _)).2.2) HL.out
  rw [HC.out] at C3
  replace C3 := hide C3
  replace K := hide K
  clear C2 f1 f2 hb2 hbb1 hbb2
  go_wp2_with fail
  refine (unhide C3).mono ?_
  rintro e x3 ⟨rfl, hb3⟩
  rw [size_alloc] at hb3
  obtain ⟨⟨g0, g1, g2, g3⟩, hB3, hB3'⟩ := unhide K x3 hb3
  have C4 := refSame_any none none 0 0 0 0 [] [] x3 (fun i hi => by simp at hi) (fun i hi => by simp at hi) (by simp) (by simp)
  rw [sameB_self] at C4
  replace C4 := hide C4
  clear C3 e0 e1 e2 e3 hb3
  go_wp2_with fail
  refine (unhide C4).mono ?_
  rintro e x4 ⟨rfl, hb4⟩
  have hB4 := hB3'.trans (hb4.mono hB3'.size)
  go_wp2_with fail
  refine (unhide C8 _).mono ?_
  rintro e x5 ⟨rfl, hb5⟩
  go_wp2
  go_ret
  exact ⟨rfl, hB4.trans (hb5.mono hB4.size)⟩

end Go.Proofs.Ytiddcpemckifmaa
