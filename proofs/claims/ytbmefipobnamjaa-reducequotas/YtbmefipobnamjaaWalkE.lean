/- Contract: the places of learned clauses, the best one first. -/
import Derived.Test.YtbmefipobnamjaaWalkS
set_option linter.unusedVariables false
set_option linter.unusedSimpArgs false
namespace Go.Proofs.Ytbmefipobnamjaa
open Go.RowKit

/-- The first k places are laid. -/
def laidP (k i : Nat) : Value := .int .i64 (if i < k then (i : Int) else 0)
theorem laid_next (k : Nat) : upd (laidP k) k (.int .i64 (k : Int)) = laidP (k + 1) := by
  funext i
  unfold upd laidP
  by_cases e : i = k
  · subst e; simp
  · have : (i < k + 1) ↔ i < k := by omega
    simp [e, this]

/-- In the midst of laying places. -/
structure OS (w : World) (bx : Obj) (W : World) (n k : Nat) : Prop where
  bel : Below (w.heap.size + 1) (w.alloc bx) W
  bk : Bk W (w.heap.size + 1) 3 n (laidP k)

theorem os_start (w : World) (bx : Obj) (n : Nat) : OS w bx ((w.alloc bx).alloc (.cells (madeCells #[.int .i64 0] n) 3)) n 0 := by
  have hs : (w.alloc bx).heap.size = w.heap.size + 1 := by simp
  refine ⟨?_, ?_⟩
  · have := below_alloc (w.alloc bx) (.cells (madeCells #[.int .i64 0] n) 3)
    rw [hs] at this; exact this
  · have h : ((w.alloc bx).alloc (.cells (madeCells #[.int .i64 0] n) 3)).heap[w.heap.size + 1]? = some (.cells (madeCells #[.int .i64 0] n) 3) := by
      rw [← hs]; exact heap_alloc_new _ _
    exact (bk_made h).congr (fun i hi => by unfold laidP; simp)

theorem OS.step {w : World} {bx : Obj} {W : World} {n k : Nat} (h : OS w bx W n k) (hk : k < n) : OS w bx (W.setCell ⟨w.heap.size + 1, k, none⟩ (.int .i64 (k : Int))) n (k + 1) := by
  refine ⟨Below.setCell' h.bel (Nat.le_refl _) _, ?_⟩
  rw [← laid_next]
  exact h.bk.set hk _

set_option maxHeartbeats 2000000 in
set_option maxRecDepth 100000 in
theorem order_any (w : World) (a : Option Addr) (cap : Nat) (L : List Ln) (h : Lns w a L) (hl : L.length ≤ 100) :
    Calls Try.prog 14 #[.slice a L.length cap] w fun e w' => ∃ v S, e = .returned v ∧ OrdP w w' L v S := by
  have mk1 : ∀ W : World, (Instr.makeSlice 35 (.int .i64 (L.length : Int)) (.int .i64 (L.length : Int))).run Try.prog W = .ok (.slice (some ⟨W.heap.size, 0, none⟩) L.length L.length) (W.alloc (.cells (madeCells #[.int .i64 0] L.length) 3)) := fun W => run_make_row' 35 3 (.int .i64 0) 8 Try.underlying35 Try.info3 rfl .i64 .i64 L.length (by omega) (by omega) W
  have HS := hide (os_start w (.cells #[.slice a L.length cap] 22) L.length)
  have hs1 : (w.alloc (.cells #[.slice a L.length cap] 22)).heap.size = w.heap.size + 1 := by simp
  have CS := hide (fun (W : World) (hW : OS w (.cells #[.slice a L.length cap] 22) W L.length L.length) => by
    have hb := hW.bel
    rw [← hs1] at hb
    have ho : Own (w.alloc (.cells #[.slice a L.length cap] 22)).heap.size W (.slice (some ⟨w.heap.size + 1, 0, none⟩) L.length L.length) (List.range L.length) :=
      (hW.bk.congr (g := fun i => .int .i64 (i : Int)) (fun i hi => by unfold laidP; simp [hi])).own (by rw [hs1]; exact Nat.le_refl _) (by unfold maxLen; omega)
    have := sort_any W (w.alloc (.cells #[.slice a L.length cap] 22)) w.heap.size (w.heap.size + 1) L.length cap a L (List.range L.length) (h.below (below_alloc w _)) (box_cell w _ 22 rfl) hb (by simpa using ho) (fun l hl => by simpa using hl) (by simpa using hl) hl
    simpa using this)
  have HB := hide (below_alloc w (.cells #[.slice a L.length cap] 22))
  clear h
  go_enter Try.func14, Try.ntmps14
  go_wp2
  go_loopw [4, 10] (fun _ i wr => ∃ k : Nat, k ≤ L.length ∧ i = .int .i64 k ∧ OS w (.cells #[.slice a L.length cap] 22) wr L.length k) (fun _ i _ => L.length - (intOf i).toNat)
  case atStart => exact ⟨0, Nat.zero_le _, rfl, HS.out⟩
  case round =>
    obtain ⟨k, hk, rfl, hos⟩ := hrel
    by_cases hlt : k < L.length
    · have hlt' : (k : Int) < L.length := by omega
      have hc := hos.bk.cell hlt
      have hf := hos.bk.fz k
      have HN := hide (hos.step hlt)
      clear hos mk1 HS
      go_wp2
      go_roundw
      case rel => exact ⟨k + 1, by omega, by go_num, HN.out⟩
      case measure => simp [intOf]; omega
    · have hz : k = L.length := by omega
      subst hz
      have C := hide (unhide CS wr hos)
      clear hos mk1 HS CS
      go_wp2_with (go_at_call 17; refine (unhide C).mono ?_; rintro e w2 ⟨rfl, ys, hys⟩; replace hys := hide hys)
      go_ret
      exact ⟨_, ys, rfl, ordP_of (unhide hys) HB.out (by omega)⟩

end Go.Proofs.Ytbmefipobnamjaa
