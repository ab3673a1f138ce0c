/- The theorem of a true literal, of what is a formula: the law's own text, walked. -/
import Derived.Test.YtiddcpemckifmaaLawGiven
set_option linter.unusedVariables false
set_option linter.unusedSimpArgs false
namespace Go.Proofs.Ytiddcpemckifmaa
open Go.RowKit

attribute [local go_sem ↓] Go.wp_at_zero Go.wp_at_succ

set_option maxHeartbeats 4000000 in
theorem given_law (a am : Option Addr) (cap cm : Nat) (n l : Int) (hbl : -9223372036854775808 ≤ l ∧ l ≤ 9223372036854775807) (css : List (List Int)) (m : List Int) (w : World) (hg : Grid w a css) (hl : css.length ≤ maxLen) (hq : Row w am m) (hml : m.length ≤ maxLen) (h : lightB css = true) (hc : cnfB n css = true) :
    Calls Try.prog 7 #[.agg #[.int .i64 n, .slice a css.length cap], .int .i64 l, .slice am m.length cm] w fun e w' => e = .returned (.bool true) ∧ Below w.heap.size w w' := by
  have C8 := hide awake_any
  have hbW := below_alloc w (.cells #[.int .i64 n, .slice a css.length cap] 36)
  have C1 := light_any a cap n css _ (hg.below hbW) hl
  rw [h] at C1
  replace C1 := hide C1
  obtain ⟨hl3, hl5⟩ := lightB_parts h
  have HL3 := hide hl3
  have HL5 := hide hl5
  have HG := hide hg
  have HL := hide hl
  have HC := hide hc
  have HQ := hide hq
  have HML := hide hml
  have HBL := hide hbl
  obtain ⟨nl, hnl⟩ : ∃ nl, IntKind.i64.wrap (-l) = nl := ⟨_, rfl⟩
  have HNL := hide hnl
  clear hg hl hbW h hc hq hml hl3 hl5 hnl hbl
  go_enter Try.func7, Try.ntmps7
  go_wp2_with fail
  refine (unhide C1).mono ?_
  rintro e x1 ⟨rfl, hb1⟩
  have hbb1 := hb1.mono (B' := w.heap.size + 1) (by simp)
  have f := box_cells hbb1
  have f1 := f.1
  have f2 := f.2
  have C2 := hide (litGiven_yes a cap n l nl HNL.out css x1 (HG.out.below (below_box hbb1)) HL3.out HL5.out HC.out)
  clear C1 hb1 f
  go_wp2_with fail
  refine (unhide C2).mono ?_
  rintro e x2 ⟨v2, rfl, hog, hb2⟩
  obtain ⟨ag, cg, rfl, hgrid, hglen⟩ := hog.grid
  have hbb2 := hbb1.trans (hb2.mono (by have := hbb1.size; rwa [size_alloc] at this))
  have K := fun y (h : Below (x2.heap.size + 1) (x2.alloc (.cells #[.int .i64 n, .slice ag (given css l nl).length cg] 36)) y) => given_frame hbb2 h
  have KG := fun y (h : Below (x2.heap.size + 1) (x2.alloc (.cells #[.int .i64 n, .slice ag (given css l nl).length cg] 36)) y) => hgrid.below (K y h).2.1
  have K0 := fun y (h : Below (x2.heap.size + 1) (x2.alloc (.cells #[.int .i64 n, .slice ag (given css l nl).length cg] 36)) y) => HG.out.below (K y h).2.2
  have KQ := fun y (h : Below (x2.heap.size + 1) (x2.alloc (.cells #[.int .i64 n, .slice ag (given css l nl).length cg] 36)) y) => HQ.out.below (K y h).2.2
  obtain ⟨e0, e1, e2, e3⟩ := (K _ (Below.refl _ _)).1
  have C3 := refCnf_any a cap n css _ (K0 _ (Below.refl _ _)) HL.out
  rw [HC.out] at C3
  replace C3 := hide C3
  have HK := hide K
  have HKG := hide KG
  have HK0 := hide K0
  have HKQ := hide KQ
  have HGL := hide hglen
  clear C2 f1 f2 hb2 hbb1 hbb2 hog hgrid K KG K0 KQ hglen
  go_wp2_with fail
  refine (unhide C3).mono ?_
  rintro e x3 ⟨rfl, hb3⟩
  rw [size_alloc] at hb3
  obtain ⟨⟨g0, g1, g2, g3⟩, hB3, hB3'⟩ := unhide HK x3 hb3
  have C4 := lit_any l x3
  clear C3 e0 e1 e2 e3 hB3
  by_cases hlit : litB l 1048576 = true
  case neg =>
    have hlit' : litB l 1048576 = false := by simpa using hlit
    rw [hlit'] at C4
    replace C4 := hide C4
    have hgs := given_none HC.out hlit' (neg_none HNL.out HBL.out hlit')
    have C5 := refSame_any ag a cg cap n n (given css l nl) css x3 (HKG.out x3 hb3) (HK0.out x3 hb3) HGL.out HL.out
    have hst : sameB n (given css l nl) n css = true := by rw [hgs, sameB_self]
    rw [hst] at C5
    replace C5 := hide C5
    clear hgs hst hlit hlit'
    generalize (given css l nl).length = gl at *
    go_wp2_with fail
    refine (unhide C4).mono ?_
    rintro e w0 ⟨rfl, hw0⟩
    subst w0
    go_wp2_with fail
    refine (unhide C5).mono ?_
    rintro e x4 ⟨rfl, hb4⟩
    have hB4 := hB3'.trans (hb4.mono hB3'.size)
    go_wp2_with fail
    refine (unhide C8 _).mono ?_
    rintro e x5 ⟨rfl, hb5⟩
    go_wp2
    go_ret
    exact ⟨rfl, hB4.trans (hb5.mono hB4.size)⟩
  rw [hlit] at C4
  replace C4 := hide C4
  have hnl := neg_lit HNL.out hlit
  subst hnl
  clear hlit
  go_wp2_with fail
  refine (unhide C4).mono ?_
  rintro e w0 ⟨rfl, hw0⟩
  subst w0
  clear C4
  have K1 : ∀ x y, Below (x2.heap.size + 1) (x2.alloc (.cells #[.int .i64 n, .slice ag (given css l (-l)).length cg] 36)) x → Below x.heap.size x y → Below (x2.heap.size + 1) (x2.alloc (.cells #[.int .i64 n, .slice ag (given css l (-l)).length cg] 36)) y := fun x y h g => h.trans (g.mono (by have := h.size; rwa [size_alloc] at this))
  have HCG := hide (given_cnf (l := l) (nl := -l) HC.out)
  have HHO := hide (@given_holds m l css)
  have R32 : ∀ x, Below (x2.heap.size + 1) (x2.alloc (.cells #[.int .i64 n, .slice ag (given css l (-l)).length cg] 36)) x → Calls Try.prog 32 #[.agg #[.int .i64 n, .slice a css.length cap], .int .i64 l] x fun e y => ∃ a4 c4, e = .returned (.agg #[.int .i64 n, .slice a4 (given css l (-l)).length c4]) ∧ Grid y a4 (given css l (-l)) ∧ Below (x2.heap.size + 1) (x2.alloc (.cells #[.int .i64 n, .slice ag (given css l (-l)).length cg] 36)) y := by
    intro x h
    refine (refGiven_any a cap n l (-l) HNL.out css x (HK0.out x h) HL3.out HL5.out).mono ?_
    rintro e y ⟨v, he, hv, g⟩
    obtain ⟨a4, c4, rfl, hg4, hl4⟩ := hv.grid
    exact ⟨a4, c4, he, hg4, K1 x y h g⟩
  have R22 := fun x (h : Below (x2.heap.size + 1) (x2.alloc (.cells #[.int .i64 n, .slice ag (given css l (-l)).length cg] 36)) x) a4 c4 (hg4 : Grid x a4 (given css l (-l))) => (refSame_any ag a4 cg c4 n n (given css l (-l)) (given css l (-l)) x (HKG.out x h) hg4 HGL.out HGL.out).mono (fun e y ⟨he, g⟩ => (⟨he, K1 x y h g⟩ : _ ∧ Below (x2.heap.size + 1) (x2.alloc (.cells #[.int .i64 n, .slice ag (given css l (-l)).length cg] 36)) y))
  have R25a := fun x (h : Below (x2.heap.size + 1) (x2.alloc (.cells #[.int .i64 n, .slice ag (given css l (-l)).length cg] 36)) x) => (litHolds_yes a am cap cm n css m x (HK0.out x h) HL.out (HKQ.out x h) HML.out HC.out).mono (fun e y ⟨he, g⟩ => (⟨he, K1 x y h g⟩ : _ ∧ Below (x2.heap.size + 1) (x2.alloc (.cells #[.int .i64 n, .slice ag (given css l (-l)).length cg] 36)) y))
  have R25b := fun x (h : Below (x2.heap.size + 1) (x2.alloc (.cells #[.int .i64 n, .slice ag (given css l (-l)).length cg] 36)) x) => (litHolds_yes ag am cg cm n (given css l (-l)) m x (HKG.out x h) HGL.out (HKQ.out x h) HML.out HCG.out).mono (fun e y ⟨he, g⟩ => (⟨he, K1 x y h g⟩ : _ ∧ Below (x2.heap.size + 1) (x2.alloc (.cells #[.int .i64 n, .slice ag (given css l (-l)).length cg] 36)) y))
  have R17 := fun x (h : Below (x2.heap.size + 1) (x2.alloc (.cells #[.int .i64 n, .slice ag (given css l (-l)).length cg] 36)) x) => refValue_any am cm m l x (HKQ.out x h) HML.out
  have R8 := fun x (h : Below (x2.heap.size + 1) (x2.alloc (.cells #[.int .i64 n, .slice ag (given css l (-l)).length cg] 36)) x) => (awake_any x).mono (fun e y ⟨he, g⟩ => (⟨he, K1 x y h g⟩ : _ ∧ Below (x2.heap.size + 1) (x2.alloc (.cells #[.int .i64 n, .slice ag (given css l (-l)).length cg] 36)) y))
  rw [sameB_self] at R22
  replace R32 := hide R32
  replace R22 := hide R22
  replace R25a := hide R25a
  replace R25b := hide R25b
  replace R17 := hide R17
  replace R8 := hide R8
  clear K1 HNL HKG HK0 HKQ HGL HCG
  generalize given css l (-l) = gs at *
  generalize hWW : x2.alloc (.cells #[.int .i64 n, .slice ag gs.length cg] 36) = W at *
  clear hWW
  go_wp2_with fail
  go_region_held3 (fun x => (x.cell? ⟨w.heap.size, 0, none⟩ = some (.int .i64 n) ∧ x.cell? ⟨w.heap.size, 1, none⟩ = some (.slice a css.length cap) ∧ x.cell? ⟨x2.heap.size, 0, none⟩ = some (.int .i64 n) ∧ x.cell? ⟨x2.heap.size, 1, none⟩ = some (.slice ag gs.length cg)) ∧ Below (x2.heap.size + 1) W x)
    (first | exact ⟨(unhide HK _ hb3).1, hb3⟩ | exact ⟨(unhide HK _ hb3.drew).1, hb3.drew⟩ | exact ⟨(unhide HK _ (by assumption)).1, by assumption⟩)
    (first
      | (go_at_call 32; refine (unhide R32 _ ?_).mono ?_; (simp [*]); rintro e x4 ⟨a4, c4, rfl, hg4, hb4⟩)
      | (go_at_call 22; refine (unhide R22 _ hb4 a4 c4 hg4).mono ?_; rintro e x5 ⟨rfl, hb5⟩))
  clear g0 g1 g2 g3 hb3 hB3' hb4 hg4 R32 R22
  obtain ⟨⟨g0, g1, g2, g3⟩, -, hB5⟩ := unhide HK x5 hb5
  generalize hh1 : holdsB m css = hv1 at *
  generalize hh2 : holdsB m gs = hv2 at *
  generalize valI m l = vv at *
  clear hh1 hh2
  by_cases h1 : vv = 1
  · have hv : (vv != 1) = false := by simp [h1]
    have hee := HHO.out h1
    have he' : (hv1 == hv2) = true := by simp [hee]
    clear h1 hee HHO
    go_wp2_with fail
    go_region_held3 (fun x => (x.cell? ⟨w.heap.size, 0, none⟩ = some (.int .i64 n) ∧ x.cell? ⟨w.heap.size, 1, none⟩ = some (.slice a css.length cap) ∧ x.cell? ⟨x2.heap.size, 0, none⟩ = some (.int .i64 n) ∧ x.cell? ⟨x2.heap.size, 1, none⟩ = some (.slice ag gs.length cg)) ∧ Below (x2.heap.size + 1) W x)
      (first | exact ⟨(unhide HK _ hb5).1, hb5⟩ | exact ⟨(unhide HK _ hb5.drew).1, hb5.drew⟩ | exact ⟨(unhide HK _ (by assumption)).1, by assumption⟩)
      (first
        | (go_at_call 17; refine (unhide R17 _ ?_).mono ?_; (simp [*]); rintro e w0 ⟨rfl, rfl⟩)
        | (go_at_call_of 25 (Value.agg #[Value.int IntKind.i64 n, Value.slice a css.length cap]); refine (unhide R25a _ ?_).mono ?_; (simp [*]); rintro e x6 ⟨rfl, hb6⟩)
        | (go_at_call 25; refine (unhide R25b _ ?_).mono ?_; (simp [*]); rintro e x7 ⟨rfl, hb7⟩)
        | (go_at_call 8; refine (unhide R8 _ ?_).mono ?_; (simp [*]); rintro e x8 ⟨rfl, hb8⟩))
    go_wp2
    go_ret
    exact ⟨rfl, (unhide HK x8 hb8).2.2⟩
  · have hv : (vv != 1) = true := by simp [h1]
    clear h1 HHO
    go_wp2_with fail
    first
      | (go_region_with (first
          | (go_at_call 17; refine (unhide R17 _ hb5.drew).mono ?_; rintro e w0 ⟨rfl, hw0⟩; subst w0)
          | (go_at_call 8; refine (unhide R8 _ hb5.drew).mono ?_; rintro e x8 ⟨rfl, hb8⟩)))
      | fail
    all_goals
      go_wp2
      go_ret
      exact ⟨rfl, (unhide HK x8 hb8).2.2⟩

end Go.Proofs.Ytiddcpemckifmaa
