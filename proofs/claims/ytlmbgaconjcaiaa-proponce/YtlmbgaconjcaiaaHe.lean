/- Contracts: the formula that every promise looks at first. -/
import Derived.Test.YtlmbgaconjcaiaaHd
import Derived.Test.YtlmbgaconjcaiaaHc
import Derived.Test.YtlmbgaconjcaiaaPlainO
set_option linter.unusedVariables false
set_option linter.unusedSimpArgs false
namespace Go.Proofs.Ytlmbgaconjcaiaa
open Go.RowKit

def aw3 (w : World) : World := ((w.alloc (.cells #[.int .i64 (-1), .int .i64 2] 3)).alloc (.cells #[.int .i64 (-2), .int .i64 3] 3)).alloc (.cells #[.slice (some ⟨w.heap.size, 0, none⟩) 2 2, .slice (some ⟨w.heap.size + 1, 0, none⟩) 2 2] 34)

theorem aw3_heap (w : World) : (aw3 w).heap[w.heap.size]? = some (.cells #[.int .i64 (-1), .int .i64 2] 3 (0, 0)) ∧ (aw3 w).heap[w.heap.size + 1]? = some (.cells #[.int .i64 (-2), .int .i64 3] 3 (0, 0)) ∧ (aw3 w).heap[w.heap.size + 1 + 1]? = some (.cells #[.slice (some ⟨w.heap.size, 0, none⟩) 2 2, .slice (some ⟨w.heap.size + 1, 0, none⟩) 2 2] 34 (0, 0)) ∧ Below w.heap.size w (aw3 w) ∧ (aw3 w).heap.size = w.heap.size + 1 + 1 + 1 := by
  obtain ⟨h1, h2, h3, _, _⟩ := heap4 w (.cells #[.int .i64 (-1), .int .i64 2] 3) (.cells #[.int .i64 (-2), .int .i64 3] 3) (.cells #[.slice (some ⟨w.heap.size, 0, none⟩) 2 2, .slice (some ⟨w.heap.size + 1, 0, none⟩) 2 2] 34) (.cells #[] 3)
  have sz : (aw3 w).heap.size = w.heap.size + 1 + 1 + 1 := by simp [aw3]
  have b2 := (below_alloc (w.alloc (.cells #[.int .i64 (-1), .int .i64 2] 3)) (.cells #[.int .i64 (-2), .int .i64 3] 3)).mono (B' := w.heap.size) (by simp)
  have b3 := (below_alloc ((w.alloc (.cells #[.int .i64 (-1), .int .i64 2] 3)).alloc (.cells #[.int .i64 (-2), .int .i64 3] 3)) (.cells #[.slice (some ⟨w.heap.size, 0, none⟩) 2 2, .slice (some ⟨w.heap.size + 1, 0, none⟩) 2 2] 34)).mono (B' := w.heap.size) (by simp; omega)
  have old : ∀ k, k < w.heap.size + 1 + 1 + 1 → ((aw3 w).alloc (.cells #[] 3)).drew.heap[k]? = (aw3 w).heap[k]? := fun k hk => heap_alloc_old (aw3 w) _ (by omega)
  exact ⟨(old _ (by omega)).symm.trans h1, (old _ (by omega)).symm.trans h2, (old _ (by omega)).symm.trans h3, ((below_alloc _ _).trans b2).trans b3, sz⟩

theorem row2 {W : World} {g : Nat} {a b : Int} (h : W.heap[g]? = some (.cells #[.int .i64 a, .int .i64 b] 3 (0, 0))) (hg : g < W.heap.size) : Row W (some ⟨g, 0, none⟩) [a, b] := by
  intro i hi
  refine ⟨g, 0, rfl, hg, cell_of_block h ?_⟩
  match i, hi with
  | 0, _ => rfl
  | 1, _ => rfl
  | i + 2, hi => simp at hi; omega

theorem aw3_grid (w : World) : GridC (aw3 w) (some ⟨w.heap.size + 1 + 1, 0, none⟩) [[-1, 2], [-2, 3]] := by
  obtain ⟨h1, h2, h3, _, sz⟩ := aw3_heap w
  intro i hi
  match i, hi with
  | 0, _ => exact ⟨w.heap.size + 1 + 1, 0, some ⟨w.heap.size, 0, none⟩, 2, rfl, by omega, cell_of_block h3 rfl, row2 h1 (by omega), by simp [maxLen], by simp⟩
  | 1, _ => exact ⟨w.heap.size + 1 + 1, 0, some ⟨w.heap.size + 1, 0, none⟩, 2, rfl, by omega, cell_of_block h3 rfl, row2 h2 (by omega), by simp [maxLen], by simp⟩
  | i + 2, hi => simp at hi; omega

/-- The propagator of that formula, and with its decision. -/
structure Aw1 (s : PS) : Prop where
  inv : Inv s
  vars : s.vars = 3
  keys : s.cls.map key = [([-1, 2], false), ([-2, 3], false)]
  tr : s.trail = []
  lv : s.lvs = []

theorem Aw1.lt {s : PS} (h : Aw1 s) : Lt s.vars 1 := by rw [h.vars]; unfold Lt; omega
theorem Aw1.val {s : PS} (h : Aw1 s) : s.val 1 = 0 := by rw [h.inv.tr.vl 1 h.lt, h.tr]; exact tval_zero.2 (by simp)
theorem Aw1.head {s : PS} (h : Aw1 s) : s.head ≤ 1048576 := by have := h.inv.tr.hd; rw [h.tr] at this; simp at this; omega
theorem Aw1.lits {s : PS} (h : Aw1 s) : ∀ c ∈ s.cls, c.lits.length ≤ 10000 := new_lits (css := [[-1, 2], [-2, 3]]) h.keys (by intro c hc; simp at hc; rcases hc with rfl | rfl <;> simp)
theorem Aw1.dec {s : PS} (h : Aw1 s) : Inv (s.decide 1) ∧ (s.decide 1).dec = [1] ∧ (s.decide 1).cls = s.cls ∧ (s.decide 1).vars = 3 := by
  refine ⟨decide_inv h.inv h.lt (by rw [h.tr]; simp) (by rw [h.tr]; simp), ?_, rfl, h.vars⟩
  rw [dec_decide h.inv]; unfold PS.dec; rw [h.lv]; rfl
theorem aw1 : Aw1 ([[-1, 2], [-2, 3]].foldl PS.attach (PS.zero 3)) := by
  obtain ⟨r1, r2, r3, r4, r5, _⟩ := news 3 (by omega) [[-1, 2], [-2, 3]] (by intro c hc x hx; simp at hc; rcases hc with rfl | rfl <;> (simp at hx; rcases hx with rfl | rfl <;> (unfold Lt; omega))) (by simp)
  exact ⟨r1, r2, r3, r4, r5⟩

set_option maxRecDepth 100000 in
set_option maxHeartbeats 1600000 in
theorem awake_any (w : World) : Calls Try.prog 8 #[] w fun e w' => e = .returned (.bool true) ∧ Below w.heap.size w w' := by
  have NW : Hid (Calls Try.prog 10 #[.agg #[.int .i64 3, .slice (some ⟨w.heap.size + 1 + 1, 0, none⟩) 2 2]] (aw3 w) fun e w' => ∃ B, e = .returned (.tuple #[.pointer (some ⟨B, 0, none⟩), .int .i64 0]) ∧ ∃ s ρ H, Aw1 s ∧ Rep ρ w' B H s ∧ Ev free w ρ w') := by
    have := new_yes (some ⟨w.heap.size + 1 + 1, 0, none⟩) 2 3 [[-1, 2], [-2, 3]] (aw3 w) (aw3_grid w) (by simp) (by decide) (by omega)
    refine Calls.mono this ?_
    rintro e w' ⟨B, rfl, ρ, H, hR, hE⟩
    exact ⟨B, rfl, _, ρ, H, aw1, hR, (Ev.below (aw3_heap w).2.2.2.1).trans hE⟩
  go_enter Try.func8, Try.ntmps8
  go_wp2_with fail
  refine Calls.mono (unhide NW) ?_
  rintro e w1 ⟨B, rfl, s, ρ, H, hA, hR, hb⟩
  have DC := hide (decide_yes hR hA.inv.shp (hA.inv.small hA.lits) 1 hA.lt hA.val hA.head)
  have HA := hide hA
  have HB := hide hb
  clear NW hA hR hb
  go_wp2_with fail
  refine Calls.mono (unhide DC) ?_
  rintro e w2 ⟨rfl, ρ2, H2, hR2, hE2⟩
  obtain ⟨d1, d2, d3, d4⟩ := HA.out.dec
  have RN := hide (run_any hR2 d1 (by rw [d3]; exact HA.out.lits))
  have HE2 := hide (HB.out.trans hE2)
  clear DC hR2 d1 d2 d3 d4 hE2 HB
  go_wp2_with fail
  refine Calls.mono (unhide RN) ?_
  rintro e w3 ⟨n, rfl, ρ3, H3, s3, hR3, hI3, hE3, hF3, hcase⟩
  obtain ⟨d1, d2, d3, d4⟩ := HA.out.dec
  obtain ⟨rfl, e2, e3, e4⟩ := awake_end hI3 (hF3.vars.trans d4) (by rw [hF3.cl, d3]; exact HA.out.keys) ((hF3.dec d1).trans d2) hcase
  have TR := hide (propTrail_any hR3 (by omega))
  have VL : Hid (∀ w', Below w3.heap.size w3 w' → Calls Try.prog 27 #[.pointer (some ⟨B, 0, none⟩), .int .i64 3] w' fun e w'' => e = .returned (.int .i64 1) ∧ ∃ n, w'' = w'.drewN n) := by
    intro w' hb'
    have := propValue_any (hR3.below hb') hI3.shp 3
    rw [e3] at this; exact this
  have RS : Hid (∀ w', Below w3.heap.size w3 w' → Calls Try.prog 28 #[.pointer (some ⟨B, 0, none⟩), .int .i64 2] w' fun e w'' => e = .returned (.int .i64 0) ∧ ∃ n, w'' = w'.drewN n) := by
    intro w' hb'
    have := propReason_any (hR3.below hb') hI3.shp 2
    rw [e4] at this; exact this
  have HE3 := hide (HE2.out.trans hE3)
  have He2 := hide e2
  clear RN HE2 hE3 hR3 hI3 hF3 hcase d1 d2 d3 d4 e2 e3 e4 HA
  go_wp2_with fail
  refine Calls.mono (unhide TR) ?_
  rintro e w4 ⟨v, rfl, ho, hb4⟩
  obtain ⟨a4, c4, rfl, _⟩ := own_form ho
  rw [He2.out]
  have HO := hide ho
  have HB4 := hide hb4
  clear ho hb4 TR
  go_wp2_with fail
  refine Calls.mono (unhide VL w4 HB4.out) ?_
  rintro e w5 ⟨rfl, n5, rfl⟩
  have hb5 : Below w3.heap.size w3 (w4.drewN n5) := ⟨HB4.out.os, HB4.out.tape, HB4.out.output, HB4.out.size, HB4.out.block⟩
  have HB5 := hide hb5
  clear hb5
  go_wp2_with fail
  refine Calls.mono (unhide RS _ HB5.out) ?_
  rintro e w6 ⟨rfl, n6, rfl⟩
  go_wp2_with fail
  all_goals
    go_ret
    have hb6 : Below w3.heap.size w3 (w4.drewN (n5 + n6)) := ⟨HB4.out.os, HB4.out.tape, HB4.out.output, HB4.out.size, HB4.out.block⟩
    exact ⟨ret_bool (by simp), (HE3.out.trans (Ev.below hb6)).bel⟩
end Go.Proofs.Ytlmbgaconjcaiaa
