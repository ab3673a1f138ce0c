/- Contract: a first step is encoded. -/
import Derived.Test.YtgklollpajhmlaaDoorWalkU
set_option linter.unusedVariables false
set_option linter.unusedSimpArgs false
namespace Go.Proofs.YtgklollpajhmlaaDoor
open Go.RowKit Go.Maps

attribute [local go_sem ↓] Go.wp_at_zero Go.wp_at_succ

theorem br_string {base : Nat} {w : World} {g n cap : Nat} {xs : List UInt8} (h : Br base w (.slice (some ⟨g, 0, none⟩) n cap) xs) (k : Nat) : (convert 22 9 (.slice (some ⟨g, 0, none⟩) n cap)).run Tryd.prog (w.drewN k) = .ok (.string (str xs)) (w.drewN k) := by
  have hn : n = xs.length := by
    obtain ⟨g', cap', e, -⟩ := h.shape
    simp at e
    exact e.2.1
  subst hn
  refine run_convert_bytes_back (P := Tryd.prog) (w.drewN k) 22 9 5 ⟨g, 0, none⟩ cap xs Tryd.underlying22 Tryd.underlying5 Tryd.underlying9 ?_
  intro j hj
  exact h.cells j _ (by simp [byteL, hj])

theorem awakeY : encY [(false, [1, -2])] = [97, 2, 5, 0] := by decide

set_option maxHeartbeats 4000000 in
theorem awake_any (w : World) : Calls Tryd.prog 5 #[] w fun e w' => e = .returned (.bool true) ∧ Below w.heap.size w w' := by
  have hS : Steps ((w.alloc (.cells #[.int .i64 1, .int .i64 (-2)] 3)).alloc (.cells #[.bool false, .slice (some ⟨w.heap.size, 0, none⟩) 2 2] 36)) (some ⟨w.heap.size + 1, 0, none⟩) [(false, [1, -2])] := by
    intro i hi
    have h0 : i = 0 := by simp at hi; exact hi
    subst h0
    have hb := heap_alloc_new (w.alloc (.cells #[.int .i64 1, .int .i64 (-2)] 3)) (.cells #[.bool false, .slice (some ⟨w.heap.size, 0, none⟩) 2 2] 36)
    have hsz := size_alloc w (.cells #[.int .i64 1, .int .i64 (-2)] 3)
    rw [hsz] at hb
    obtain ⟨c0, c1, -, -⟩ := two_cells hb
    refine ⟨w.heap.size + 1, 0, some ⟨w.heap.size, 0, none⟩, 2, rfl, by simp, c0, c1, ?_, by simp [maxLen]⟩
    exact (lit_row w [1, -2]).below (below_alloc _ _)
  have C := encode_yes (some ⟨w.heap.size + 1, 0, none⟩) 1 [(false, [1, -2])] _ hS (by decide) (by decide) (by decide)
  rw [awakeY] at C
  have C2 : Calls Tryd.prog 12 #[.slice (some ⟨w.heap.size + 1, 0, none⟩) 1 1] ((w.alloc (.cells #[.int .i64 1, .int .i64 (-2)] 3)).alloc (.cells #[.bool false, .slice (some ⟨w.heap.size, 0, none⟩) 2 2] 36)) fun e w' =>
      ∃ (g n c : Nat), e = .returned (.tuple #[.slice (some ⟨g, 0, none⟩) n c, .int .i64 0]) ∧ (convert 22 9 (.slice (some ⟨g, 0, none⟩) n c)).run Tryd.prog w' = .ok (.string ⟨#[97, 2, 5, 0]⟩) w' ∧ Hid (Below w.heap.size w w') := by
    refine C.mono ?_
    rintro e x ⟨v, he, hbr, hbl⟩
    obtain ⟨g, c, rfl, -⟩ := hbr.shape
    refine ⟨g, _, c, he, br_string hbr 0, ((below_alloc w _).trans ((below_alloc _ _).mono (by simp))).trans (hbl.mono (by simp; omega))⟩
  replace C2 := hide C2
  clear C hS
  go_enter Tryd.func5, Tryd.ntmps5
  go_wp2_with (go_at_call 12; refine (unhide C2).mono ?_; rintro e w2 ⟨g, n, c, rfl, hcv, HB⟩)
  go_ret
  exact ⟨rfl, HB.out⟩

end Go.Proofs.YtgklollpajhmlaaDoor
