/- A formula's text, however it is parted into lines: the law's own text, walked. -/
import Derived.Test.YtedpngipkaniaaaDoorWalkX
import Derived.Test.YtedpngipkaniaaaDoorPlainX
import Derived.Lib.ConvBytes
set_option linter.unusedVariables false
set_option linter.unusedSimpArgs false
namespace Go.Proofs.YtedpngipkaniaaaDoor
open Go.RowKit Go.Maps

attribute [local go_sem ↓] Go.wp_at_zero Go.wp_at_succ

theorem box_cells {w x : World} {p0 p1 : Value} {t1 : TypeId} (h : Below (w.heap.size + 1) (w.alloc (.cells #[p0, p1] t1)) x) :
    x.cell? ⟨w.heap.size, 0, none⟩ = some p0 ∧ x.cell? ⟨w.heap.size, 1, none⟩ = some p1 := by
  have e : x.heap[w.heap.size]? = some (.cells #[p0, p1] t1 (0, 0)) := by rw [h.block _ (by omega)]; exact heap_alloc_new w _
  exact ⟨by simp [World.cell?, e], by simp [World.cell?, e]⟩

theorem below_box {w w' : World} {o : Obj} (h : Below (w.heap.size + 1) (w.alloc o) w') : Below w.heap.size w w' := (below_alloc w o).trans (h.mono (Nat.le_succ _))

end Go.Proofs.YtedpngipkaniaaaDoor
