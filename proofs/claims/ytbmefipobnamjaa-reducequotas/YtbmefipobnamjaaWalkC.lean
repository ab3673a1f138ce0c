/- Contracts: how two numbers stand to each other; the first of three that is not 0; how two places stand to each other. -/
import Derived.Test.YtbmefipobnamjaaWalkB
import Derived.Deep.RegionHeld3
import Derived.Deep.RegionLaw
set_option linter.unusedVariables false
set_option linter.unusedSimpArgs false
namespace Go.Proofs.Ytbmefipobnamjaa
open Go.RowKit

set_option maxHeartbeats 400000 in
theorem compare_any (x y : Int) (w : World) :
    Calls Try.prog 20 #[.int .i64 x, .int .i64 y] w fun e w' => e = .returned (.int .i64 (cmpI x y)) ∧ w' = w := by
  go_enter Try.func20, Try.ntmps20
  go_wp2
  all_goals
    go_ret
    exact ⟨ret_int (by unfold cmpI; split <;> first | rfl | omega | (split <;> first | rfl | omega)), rfl⟩

theorem box_cell (w : World) (cs : Array Value) (t : TypeId) {j : Nat} {u : Value} (h : cs[j]? = some u) : (w.alloc (.cells cs t)).cell? ⟨w.heap.size, j, none⟩ = some u := by
  have e : (w.alloc (.cells cs t)).heap[w.heap.size]? = some (.cells cs t) := heap_alloc_new w _
  simp only [World.cell?, e]
  exact h

/-- The first of three numbers that is not 0. -/
def or3 (x y z : Int) : Int := orI x (orI y z)

set_option maxHeartbeats 1000000 in
theorem or_any (w : World) (x y z : Int) (b : Nat) (h0 : w.cell? ⟨b, 0, none⟩ = some (.int .i64 x)) (h1 : w.cell? ⟨b, 1, none⟩ = some (.int .i64 y)) (h2 : w.cell? ⟨b, 2, none⟩ = some (.int .i64 z)) :
    Calls Try.prog 19 #[.slice (some ⟨b, 0, none⟩) 3 3] w fun e w' => e = .returned (.int .i64 (or3 x y z)) ∧ w' = w := by
  by_cases e0 : x = 0
  · have g0 : (x != 0) = false := by simp [e0]
    by_cases e1 : y = 0
    · have g1 : (y != 0) = false := by simp [e1]
      have HO : Hid (or3 x y z = z) := by show _ = _; unfold or3 orI; rw [if_pos e0, if_pos e1]
      clear e0 e1
      by_cases e2 : z = 0
      · have g2 : (z != 0) = false := by simp [e2]
        have HZ := hide e2
        clear e2
        generalize or3 x y z = R at *
        go_enter Try.func19, Try.ntmps19
        go_wp2
        refine wp_loop_rounds 4 ?_
        rw [rounds_succ]
        go_wp2
        rw [rounds_succ]
        go_wp2
        rw [rounds_succ]
        go_wp2
        rw [rounds_succ]
        go_wp2
        go_ret
        exact ⟨ret_int (by rw [HO.out, HZ.out]), rfl⟩
      · have g2 : (z != 0) = true := by simp [e2]
        clear e2
        generalize or3 x y z = R at *
        go_enter Try.func19, Try.ntmps19
        go_wp2
        refine wp_loop_rounds 3 ?_
        rw [rounds_succ]
        go_wp2
        rw [rounds_succ]
        go_wp2
        rw [rounds_succ]
        go_wp2
        go_ret
        exact ⟨ret_int HO.out.symm, rfl⟩
    · have g1 : (y != 0) = true := by simp [e1]
      have HO : Hid (or3 x y z = y) := by show _ = _; unfold or3 orI; rw [if_pos e0, if_neg e1]
      clear e0 e1
      generalize or3 x y z = R at *
      go_enter Try.func19, Try.ntmps19
      go_wp2
      refine wp_loop_rounds 2 ?_
      rw [rounds_succ]
      go_wp2
      rw [rounds_succ]
      go_wp2
      go_ret
      exact ⟨ret_int HO.out.symm, rfl⟩
  · have g0 : (x != 0) = true := by simp [e0]
    have HO : Hid (or3 x y z = x) := by show _ = _; unfold or3 orI; rw [if_neg e0]
    clear e0
    generalize or3 x y z = R at *
    go_enter Try.func19, Try.ntmps19
    go_wp2
    refine wp_loop_rounds 1 ?_
    rw [rounds_succ]
    go_wp2
    go_ret
    exact ⟨ret_int HO.out.symm, rfl⟩

set_option maxHeartbeats 4000000 in
theorem cmp_any (W : World) (b2 b off cap : Nat) (L : List Ln) (i j : Nat) (h : Lns W (some ⟨b, off, none⟩) L) (c2 : W.cell? ⟨b2, 0, none⟩ = some (.slice (some ⟨b, off, none⟩) L.length cap)) (hl : L.length ≤ 100) (hi : i < L.length) (hj : j < L.length) :
    Calls Try.prog 18 #[.int .i64 (i : Int), .int .i64 (j : Int), .pointer (some ⟨b2, 0, none⟩)] W fun e w' => e = .returned (.int .i64 (cmpN L i j)) ∧ ∃ q o, w' = (W.drewN q).alloc o := by
  obtain ⟨b1, off1, e1, hA⟩ := h i hi
  obtain ⟨b3, off3, e3, hB⟩ := h j hj
  cases e1
  cases e3
  have a0 := hA.c0
  have a1 := hA.c1
  have d0 := hB.c0
  have d1 := hB.c1
  have hi' : (i : Int) < L.length := by omega
  have hj' : (j : Int) < L.length := by omega
  have CO := hide (fun (w : World) x y z => or_any (w.alloc (.cells #[.int .i64 x, .int .i64 y, .int .i64 z] 3)).drew x y z w.heap.size (box_cell w _ 3 rfl) (box_cell w _ 3 rfl) (box_cell w _ 3 rfl))
  have HR : Hid (cmpN L i j = or3 (cmpI (nth L i).lev (nth L j).lev) (cmpI (nth L i).siz (nth L j).siz) (cmpI (j : Int) (i : Int))) := rfl
  clear h hA hB
  generalize cmpN L i j = R at *
  generalize (nth L i).lev = l1 at *
  generalize (nth L j).lev = l2 at *
  generalize (nth L i).siz = s1 at *
  generalize (nth L j).siz = s2 at *
  generalize L.length = N at *
  go_enter Try.func18, Try.ntmps18
  go_wp2
  go_region_held3 (fun z => z.cell? ⟨b2, 0, none⟩ = some (.slice (some ⟨b, off, none⟩) N cap) ∧ z.cell? ⟨b, off + i * 3, none⟩ = some (.int .i64 l1) ∧ z.cell? ⟨b, off + i * 3 + 1, none⟩ = some (.int .i64 s1) ∧ z.cell? ⟨b, off + j * 3, none⟩ = some (.int .i64 l2) ∧ z.cell? ⟨b, off + j * 3 + 1, none⟩ = some (.int .i64 s2)) (go_keep) (first
    | (go_at_call 20; refine (compare_any _ _ _).mono ?_; rintro e w0 ⟨rfl, hw0⟩; subst w0)
    | (go_at_call 19; refine (unhide CO _ _ _ _).mono ?_; rintro e w0 ⟨rfl, hw0⟩; subst w0))
  go_wp2
  go_ret
  exact ⟨ret_int HR.out.symm, 1, _, rfl⟩

end Go.Proofs.Ytbmefipobnamjaa
