/- The theorem of resolution: the law's own text, walked. -/
import Derived.Test.YtiddcpemckifmaaWalkK
import Derived.Test.YtiddcpemckifmaaPlain4
import Derived.Test.YtiddcpemckifmaaOpen
set_option linter.unusedVariables false
set_option linter.unusedSimpArgs false
namespace Go.Proofs.Ytiddcpemckifmaa
open Go.RowKit

/-- A struct of two cells that was laid, read later. -/
theorem box_cells {w w' : World} {v0 v1 : Value} {t : TypeId} (h : Below (w.heap.size + 1) (w.alloc (.cells #[v0, v1] t)) w') :
    w'.cell? ⟨w.heap.size, 0, none⟩ = some v0 ∧ w'.cell? ⟨w.heap.size, 1, none⟩ = some v1 := by
  constructor
  · rw [h.cell (p := ⟨w.heap.size, 0, none⟩) (Nat.lt_succ_self _), World.cell?_alloc_at _ _ _ _ rfl]; rfl
  · rw [h.cell (p := ⟨w.heap.size, 1, none⟩) (Nat.lt_succ_self _), World.cell?_alloc_at _ _ _ _ rfl]; rfl

theorem below_box {w w' : World} {o : Obj} (h : Below (w.heap.size + 1) (w.alloc o) w') : Below w.heap.size w w' := (below_alloc w o).trans (h.mono (Nat.le_succ _))

set_option maxHeartbeats 1000000 in
theorem resolves_long (a b am : Option Addr) (ca cb cm : Nat) (xs ys m : List Int) (n : Int) (w : World) (hl : xs.length ≤ maxLen) (hm : ys.length ≤ maxLen) (h : 600 < (xs.length : Int) ∨ 600 < (ys.length : Int)) :
    Calls Try.prog 6 #[.slice a xs.length ca, .slice b ys.length cb, .agg #[.slice am m.length cm, .int .i64 n]] w fun e w' => e = .returned (.bool true) ∧ Below w.heap.size w w' := by
  have C8 := hide awake_any
  unfold maxLen at hl hm
  by_cases h1 : 600 < (xs.length : Int)
  · clear h
    go_enter Try.func6, Try.ntmps6
    go_wp2_with fail
    refine (unhide C8 _).mono ?_
    rintro e w1 ⟨rfl, hb⟩
    go_wp2
    go_ret
    exact ⟨rfl, below_box (hb.mono (by simp))⟩
  · have h2 : 600 < (ys.length : Int) := by omega
    clear h
    go_enter Try.func6, Try.ntmps6
    go_wp2_with fail
    refine (unhide C8 _).mono ?_
    rintro e w1 ⟨rfl, hb⟩
    go_wp2
    go_ret
    exact ⟨rfl, below_box (hb.mono (by simp))⟩

set_option maxHeartbeats 1000000 in
theorem resolves_arg (a b am : Option Addr) (ca cb cm : Nat) (xs ys m : List Int) (n : Int) (w : World) (hr : Row w a xs) (hs : Row w b ys) (hl : (xs.length : Int) ≤ 600) (hm : (ys.length : Int) ≤ 600) (h : resArg xs ys n = false) :
    Calls Try.prog 6 #[.slice a xs.length ca, .slice b ys.length cb, .agg #[.slice am m.length cm, .int .i64 n]] w fun e w' => e = .returned (.bool true) ∧ Below w.heap.size w w' := by
  have C8 := hide awake_any
  have hrW := hr.below (below_alloc w (.cells #[.slice am m.length cm, .int .i64 n] 43))
  have hsW := hs.below (below_alloc w (.cells #[.slice am m.length cm, .int .i64 n] 43))
  have C1 := hide (resolve_arg a b ca cb xs ys n _ hrW hsW (by omega) (by omega) h)
  have C2 := may_any a ca xs _ hrW (by unfold maxLen; omega)
  have C3 := may_any b cb ys _ hsW (by unfold maxLen; omega)
  have f := box_cells (Below.refl (w.heap.size + 1) (w.alloc (.cells #[.slice am m.length cm, .int .i64 n] 43)))
  have F1 := f.2
  clear hr hs hrW hsW f
  unfold resArg at h
  by_cases h1 : mayB xs 1048576 = true
  case neg =>
    have h1' : mayB xs 1048576 = false := by simpa using h1
    rw [h1'] at C2
    replace C2 := hide C2
    clear C3 h h1 h1'
    go_enter Try.func6, Try.ntmps6
    go_wp2_with fail
    refine (unhide C1).mono ?_
    rintro e w0 ⟨rfl, hw0⟩
    subst w0
    go_wp2_with fail
    refine (unhide C2).mono ?_
    rintro e w0 ⟨rfl, hw0⟩
    subst w0
    go_wp2_with fail
    refine (unhide C8 _).mono ?_
    rintro e w1 ⟨rfl, hb⟩
    go_wp2
    go_ret
    exact ⟨rfl, below_box (hb.mono (by simp))⟩
  rw [h1] at C2 h
  rw [Bool.true_and] at h
  replace C2 := hide C2
  by_cases h2 : mayB ys 1048576 = true
  case neg =>
    have h2' : mayB ys 1048576 = false := by simpa using h2
    rw [h2'] at C3
    replace C3 := hide C3
    clear h h1 h2 h2'
    go_enter Try.func6, Try.ntmps6
    go_wp2_with fail
    refine (unhide C1).mono ?_
    rintro e w0 ⟨rfl, hw0⟩
    subst w0
    go_wp2_with fail
    refine (unhide C2).mono ?_
    rintro e w0 ⟨rfl, hw0⟩
    subst w0
    go_wp2_with fail
    refine (unhide C3).mono ?_
    rintro e w0 ⟨rfl, hw0⟩
    subst w0
    go_wp2_with fail
    refine (unhide C8 _).mono ?_
    rintro e w1 ⟨rfl, hb⟩
    go_wp2
    go_ret
    exact ⟨rfl, below_box (hb.mono (by simp))⟩
  rw [h2] at C3 h
  replace C3 := hide C3
  rw [Bool.true_and, decide_eq_false_iff_not] at h
  clear h1 h2
  by_cases h3 : n < 1
  · clear h
    go_enter Try.func6, Try.ntmps6
    go_wp2_with fail
    refine (unhide C1).mono ?_
    rintro e w0 ⟨rfl, hw0⟩
    subst w0
    go_wp2_with fail
    refine (unhide C2).mono ?_
    rintro e w0 ⟨rfl, hw0⟩
    subst w0
    go_wp2_with fail
    refine (unhide C3).mono ?_
    rintro e w0 ⟨rfl, hw0⟩
    subst w0
    go_wp2_with fail
    refine (unhide C8 _).mono ?_
    rintro e w1 ⟨rfl, hb⟩
    go_wp2
    go_ret
    exact ⟨rfl, below_box (hb.mono (by simp))⟩
  · have h4 : 1048576 < n := by omega
    clear h
    go_enter Try.func6, Try.ntmps6
    go_wp2_with fail
    refine (unhide C1).mono ?_
    rintro e w0 ⟨rfl, hw0⟩
    subst w0
    go_wp2_with fail
    refine (unhide C2).mono ?_
    rintro e w0 ⟨rfl, hw0⟩
    subst w0
    go_wp2_with fail
    refine (unhide C3).mono ?_
    rintro e w0 ⟨rfl, hw0⟩
    subst w0
    go_wp2_with fail
    refine (unhide C8 _).mono ?_
    rintro e w1 ⟨rfl, hb⟩
    go_wp2
    go_ret
    exact ⟨rfl, below_box (hb.mono (by simp))⟩

end Go.Proofs.Ytiddcpemckifmaa
