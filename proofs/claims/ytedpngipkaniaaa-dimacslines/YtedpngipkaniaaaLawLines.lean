/- A formula's text, however it is parted into lines: the law's own text, walked. -/
import Derived.Test.YtedpngipkaniaaaWalkX
import Derived.Test.YtedpngipkaniaaaPlainX
import Derived.Lib.ConvBytes
set_option linter.unusedVariables false
set_option linter.unusedSimpArgs false
namespace Go.Proofs.Ytedpngipkaniaaa
open Go.RowKit Go.Maps

attribute [local go_sem ↓] Go.wp_at_zero Go.wp_at_succ

theorem box_cells {w x : World} {p0 p1 : Value} {t1 : TypeId} (h : Below (w.heap.size + 1) (w.alloc (.cells #[p0, p1] t1)) x) :
    x.cell? ⟨w.heap.size, 0, none⟩ = some p0 ∧ x.cell? ⟨w.heap.size, 1, none⟩ = some p1 := by
  have e : x.heap[w.heap.size]? = some (.cells #[p0, p1] t1 (0, 0)) := by rw [h.block _ (by omega)]; exact heap_alloc_new w _
  exact ⟨by simp [World.cell?, e], by simp [World.cell?, e]⟩

theorem below_box {w w' : World} {o : Obj} (h : Below (w.heap.size + 1) (w.alloc o) w') : Below w.heap.size w w' := (below_alloc w o).trans (h.mono (Nat.le_succ _))

set_option maxHeartbeats 2000000 in
theorem lines_dark (a : Option Addr) (cap : Nat) (n : Int) (css : List (List Int)) (ax : Option Addr) (cx : Nat) (xs : List UInt8) (w : World) (hg : Grid w a css) (hl : css.length ≤ maxLen) (hx : xs.length ≤ maxLen) (hd : lightB css = false ∨ cnfB n css = false ∨ 400 < xs.length) :
    Calls Try.prog 5 #[.agg #[.int .i64 n, .slice a css.length cap], .slice ax xs.length cx] w fun e w' => e = .returned (.bool true) ∧ Below w.heap.size w w' := by
  have hbW := below_alloc w (.cells #[.int .i64 n, .slice a css.length cap] 30)
  have hsz := size_alloc w (.cells #[.int .i64 n, .slice a css.length cap] 30)
  have K1 : ∀ x y, Below (w.heap.size + 1) (w.alloc (.cells #[.int .i64 n, .slice a css.length cap] 30)) x → Below x.heap.size x y → Below (w.heap.size + 1) (w.alloc (.cells #[.int .i64 n, .slice a css.length cap] 30)) y := fun x y h g => h.trans (g.mono (by have := h.size; omega))
  have D1 := light_any a cap n css _ (hg.below hbW) hl
  have D2 : ∀ x, Below (w.heap.size + 1) (w.alloc (.cells #[.int .i64 n, .slice a css.length cap] 30)) x → _ := fun x h => refCnf_any a cap n css x (hg.below (below_box h)) hl
  have D3 : ∀ x, Below (w.heap.size + 1) (w.alloc (.cells #[.int .i64 n, .slice a css.length cap] 30)) x → _ := fun x h => awake_any x
  have KF := fun x (h : Below (w.heap.size + 1) (w.alloc (.cells #[.int .i64 n, .slice a css.length cap] 30)) x) => box_cells (w := w) h
  unfold maxLen at hx hl
  rw [hsz] at D1
  replace D1 := hide D1
  replace D2 := hide D2
  replace D3 := hide D3
  replace KF := hide KF
  have HK := hide K1
  clear K1 hbW hg hsz
  cases h1 : lightB css with
  | false =>
    rw [h1] at D1
    clear hd
    go_enter Try.func5, Try.ntmps5
    go_wp2_with fail
    refine (unhide D1).mono ?_
    rintro e w1 ⟨rfl, hB1⟩
    go_wp2_with fail
    refine (unhide D3 _ hB1).mono ?_
    rintro e w2 ⟨rfl, hB2⟩
    go_wp2
    go_ret
    exact ⟨rfl, below_box (HK.out _ _ hB1 hB2)⟩
  | true =>
    rw [h1] at D1
    cases h2 : cnfB n css with
    | false =>
      rw [h2] at D2
      clear hd
      go_enter Try.func5, Try.ntmps5
      go_wp2_with fail
      refine (unhide D1).mono ?_
      rintro e w1 ⟨rfl, hB1⟩
      obtain ⟨k0, k1⟩ := KF.out w1 hB1
      go_wp2_with fail
      refine (unhide D2 _ hB1).mono ?_
      rintro e w2 ⟨rfl, hB2⟩
      have hB3 := HK.out _ _ hB1 hB2
      go_wp2_with fail
      refine (unhide D3 _ hB3).mono ?_
      rintro e w3 ⟨rfl, hB4⟩
      go_wp2
      go_ret
      exact ⟨rfl, below_box (HK.out _ _ hB3 hB4)⟩
    | true =>
      rw [h2] at D2
      have h3 : 400 < (xs.length : Int) := by
        rcases hd with e | e | e
        · rw [h1] at e; cases e
        · rw [h2] at e; cases e
        · omega
      clear hd
      go_enter Try.func5, Try.ntmps5
      go_wp2_with fail
      refine (unhide D1).mono ?_
      rintro e w1 ⟨rfl, hB1⟩
      obtain ⟨k0, k1⟩ := KF.out w1 hB1
      go_wp2_with fail
      refine (unhide D2 _ hB1).mono ?_
      rintro e w2 ⟨rfl, hB2⟩
      have hB3 := HK.out _ _ hB1 hB2
      go_wp2_with fail
      refine (unhide D3 _ hB3).mono ?_
      rintro e w3 ⟨rfl, hB4⟩
      go_wp2
      go_ret
      exact ⟨rfl, below_box (HK.out _ _ hB3 hB4)⟩

end Go.Proofs.Ytedpngipkaniaaa
