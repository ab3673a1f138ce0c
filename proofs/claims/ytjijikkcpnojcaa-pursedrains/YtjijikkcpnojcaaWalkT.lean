/- Contracts of the document's purse: tokens are taken, or given. -/
import Derived.Test.YtjijikkcpnojcaaWalkS
set_option linter.unusedVariables false
set_option linter.unusedSimpArgs false
namespace Go.Proofs.Ytjijikkcpnojcaa
open Go.RowKit Go.Conc

/-- What the document tells, and gives back: a purse, a number. -/
def RTo (w : World) (q off ca N nx : Nat) (room left : Nat → Nat) (c : Int) (e : Ending) (w' : World) : Prop :=
  ∃ b cb, e = .returned (.tuple #[.agg (rv q off ca b cb N nx), .int .i64 c]) ∧ Rf w' q off b cb N room left ∧ Below w.heap.size w w'

theorem ret_same {w W : World} {X Y q off ca b cb N nx : Nat} {room left : Nat → Nat} (HB : Bx2 w W X Y q off ca b cb N nx) (hR : Rf w q off b cb N room left) (m : Nat) (u0 u1 u2 : Value) :
    Rf ((((W.setCell ⟨Y, 0, none⟩ u0).setCell ⟨Y, 1, none⟩ u1).setCell ⟨Y, 2, none⟩ u2).drewN m) q off b cb N room left ∧ Below w.heap.size w ((((W.setCell ⟨Y, 0, none⟩ u0).setCell ⟨Y, 1, none⟩ u1).setCell ⟨Y, 2, none⟩ u2).drewN m) := by
  have hb : Below w.heap.size w ((((W.setCell ⟨Y, 0, none⟩ u0).setCell ⟨Y, 1, none⟩ u1).setCell ⟨Y, 2, none⟩ u2).drewN m) := below_drewN (((HB.bel.setCell HB.ly _).setCell HB.ly _).setCell HB.ly _) m
  exact ⟨hR.below hb, hb⟩

set_option maxHeartbeats 2000000 in
theorem turn_no (w : World) (q off ca b cb N nx : Nat) (room left : Nat → Nat) (k n : Int) (hR : Rf w q off b cb N room left) (hN : N ≤ 8) (hk : kinB N k = false) :
    Calls Try.prog 18 #[.agg (rv q off ca b cb N nx), .int .i64 k, .int .i64 n] w (RTo w q off ca N nx room left 1) := by
  have hk' : k < 0 ∨ (N : Int) ≤ k := by
    simp [kinB] at hk
    omega
  clear hk
  unfold rv
  go_enter Try.func18, Try.ntmps18
  go_upto_region 1 with fail
  refine forget (P := fun W => Code.wp Try.prog _ _ _ W) (fun W => Hid (Bx2 w W w.heap.size (w.heap.size + 1) q off ca b cb N nx)) (bx2_new w q off ca b cb N nx) ?_
  intro W HB
  generalize w.heap.size + 1 = Y at *
  obtain ⟨X, hX⟩ : ∃ X, X = w.heap.size := ⟨_, rfl⟩
  rw [← hX] at HB ⊢
  clear hX
  have c0 := HB.out.c0
  have c1 := HB.out.c1
  have c2 := HB.out.c2
  have d0 := HB.out.d0
  have d1 := HB.out.d1
  have d2 := HB.out.d2
  have e0 := HB.out.fy 0
  have e1 := HB.out.fy 1
  have e2 := HB.out.fy 2
  have hne := HB.out.ne
  have hne' := Ne.symm hne
  obtain ⟨f1, f2⟩ := ret_same HB.out hR 0 (.slice (some ⟨q, off, none⟩) N ca) (.slice (some ⟨b, 0, none⟩) N cb) (.int .i64 (nx : Int))
  have F1 := hide f1
  have F2 := hide f2
  clear f1 f2 hR
  by_cases h0 : k < 0
  · clear hk'
    go_wp2
    exact bodyPost_ret (v := .tuple #[.agg #[.slice (some ⟨q, off, none⟩) N ca, .slice (some ⟨b, 0, none⟩) N cb, .int .i64 (nx : Int)], .int .i64 1]) (by simp [results, Try.results18, go_sem, c0, c1, c2, d0, d1, d2]) rfl ⟨b, cb, rfl, F1.out, F2.out⟩
  · have h1 : (N : Int) ≤ k := by omega
    clear hk'
    go_wp2
    exact bodyPost_ret (v := .tuple #[.agg #[.slice (some ⟨q, off, none⟩) N ca, .slice (some ⟨b, 0, none⟩) N cb, .int .i64 (nx : Int)], .int .i64 1]) (by simp [results, Try.results18, go_sem, c0, c1, c2, d0, d1, d2]) rfl ⟨b, cb, rfl, F1.out, F2.out⟩

set_option maxHeartbeats 2000000 in
theorem turn_out (w : World) (q off ca b cb N nx : Nat) (room left : Nat → Nat) (k : Nat) (n : Int) (hR : Rf w q off b cb N room left) (hN : N ≤ 8) (hk : k < N) (h4 : left k ≤ 4096) (hn1 : -4096 ≤ n) (hn2 : n ≤ 4096) (h : (left k : Int) + n < 0) :
    Calls Try.prog 18 #[.agg (rv q off ca b cb N nx), .int .i64 (k : Int), .int .i64 n] w (RTo w q off ca N nx room left 6) := by
  unfold rv
  go_enter Try.func18, Try.ntmps18
  go_upto_region 1 with fail
  refine forget (P := fun W => Code.wp Try.prog _ _ _ W) (fun W => Hid (Bx2 w W w.heap.size (w.heap.size + 1) q off ca b cb N nx)) (bx2_new w q off ca b cb N nx) ?_
  intro W HB
  generalize w.heap.size + 1 = Y at *
  obtain ⟨X, hX⟩ : ∃ X, X = w.heap.size := ⟨_, rfl⟩
  rw [← hX] at HB ⊢
  clear hX
  have c0 := HB.out.c0
  have c1 := HB.out.c1
  have c2 := HB.out.c2
  have d0 := HB.out.d0
  have d1 := HB.out.d1
  have d2 := HB.out.d2
  have e0 := HB.out.fy 0
  have e1 := HB.out.fy 1
  have e2 := HB.out.fy 2
  have hne := HB.out.ne
  have hne' := Ne.symm hne
  have es := (hR.below HB.out.bel).s.cell hk
  obtain ⟨f1, f2⟩ := ret_same HB.out hR 0 (.slice (some ⟨q, off, none⟩) N ca) (.slice (some ⟨b, 0, none⟩) N cb) (.int .i64 (nx : Int))
  have F1 := hide f1
  have F2 := hide f2
  clear f1 f2 hR
  have hx1 : ¬ (N : Int) ≤ (k : Int) := by omega
  have hx2 : ¬ 4096 < n := by omega
  have hx3 : ¬ n < -4096 := by omega
  generalize left k = y at *
  go_wp2
  exact bodyPost_ret (v := .tuple #[.agg #[.slice (some ⟨q, off, none⟩) N ca, .slice (some ⟨b, 0, none⟩) N cb, .int .i64 (nx : Int)], .int .i64 6]) (by simp [results, Try.results18, go_sem, c0, c1, c2, d0, d1, d2]) rfl ⟨b, cb, rfl, F1.out, F2.out⟩

set_option maxHeartbeats 2000000 in
theorem turn_full (w : World) (q off ca b cb N nx : Nat) (room left : Nat → Nat) (k : Nat) (n : Int) (hR : Rf w q off b cb N room left) (hN : N ≤ 8) (hk : k < N) (h4 : left k ≤ 4096) (h5 : room k ≤ 4096) (hn1 : -4096 ≤ n) (hn2 : n ≤ 4096) (h : (room k : Int) < (left k : Int) + n) :
    Calls Try.prog 18 #[.agg (rv q off ca b cb N nx), .int .i64 (k : Int), .int .i64 n] w (RTo w q off ca N nx room left 5) := by
  unfold rv
  go_enter Try.func18, Try.ntmps18
  go_upto_region 1 with fail
  refine forget (P := fun W => Code.wp Try.prog _ _ _ W) (fun W => Hid (Bx2 w W w.heap.size (w.heap.size + 1) q off ca b cb N nx)) (bx2_new w q off ca b cb N nx) ?_
  intro W HB
  generalize w.heap.size + 1 = Y at *
  obtain ⟨X, hX⟩ : ∃ X, X = w.heap.size := ⟨_, rfl⟩
  rw [← hX] at HB ⊢
  clear hX
  have c0 := HB.out.c0
  have c1 := HB.out.c1
  have c2 := HB.out.c2
  have d0 := HB.out.d0
  have d1 := HB.out.d1
  have d2 := HB.out.d2
  have e0 := HB.out.fy 0
  have e1 := HB.out.fy 1
  have e2 := HB.out.fy 2
  have hne := HB.out.ne
  have hne' := Ne.symm hne
  have hRW := hR.below HB.out.bel
  have es := hRW.s.cell hk
  have er := (hRW.r k hk).2
  have HR := hide hR
  clear hRW hR
  have hx1 : ¬ (N : Int) ≤ (k : Int) := by omega
  have hx2 : ¬ 4096 < n := by omega
  have hx3 : ¬ n < -4096 := by omega
  generalize hl : left k = y at *
  generalize hrr : room k = r at *
  clear hl hrr
  have hx4 : ¬ (y : Int) + n < 0 := by omega
  go_upto_region 5 with fail
  go_quiet (fail)
  obtain ⟨f1, f2⟩ := ret_same HB.out HR.out nq (.slice (some ⟨q, off, none⟩) N ca) (.slice (some ⟨b, 0, none⟩) N cb) (.int .i64 (nx : Int))
  have F1 := hide f1
  have F2 := hide f2
  clear f1 f2
  go_wp2
  exact bodyPost_ret (v := .tuple #[.agg #[.slice (some ⟨q, off, none⟩) N ca, .slice (some ⟨b, 0, none⟩) N cb, .int .i64 (nx : Int)], .int .i64 5]) (by simp [results, Try.results18, go_sem, c0, c1, c2, d0, d1, d2]) rfl ⟨b, cb, rfl, F1.out, F2.out⟩

set_option maxHeartbeats 2000000 in
theorem turn_ok (w : World) (q off ca b cb N nx : Nat) (room left : Nat → Nat) (k : Nat) (n : Int) (x : Nat) (hR : Rf w q off b cb N room left) (hN : N ≤ 8) (hk : k < N) (h4 : left k ≤ 4096) (h5 : room k ≤ 4096) (hn1 : -4096 ≤ n) (hn2 : n ≤ 4096) (hx : (left k : Int) + n = (x : Int)) (h : x ≤ room k) :
    Calls Try.prog 18 #[.agg (rv q off ca b cb N nx), .int .i64 (k : Int), .int .i64 n] w (RTo w q off ca N nx room (upd left k x) 0) := by
  unfold rv
  go_enter Try.func18, Try.ntmps18
  go_upto_region 1 with fail
  refine forget (P := fun W => Code.wp Try.prog _ _ _ W) (fun W => Hid (Bx2 w W w.heap.size (w.heap.size + 1) q off ca b cb N nx)) (bx2_new w q off ca b cb N nx) ?_
  intro W HB
  generalize w.heap.size + 1 = Y at *
  obtain ⟨X, hX⟩ : ∃ X, X = w.heap.size := ⟨_, rfl⟩
  rw [← hX] at HB ⊢
  clear hX
  have c0 := HB.out.c0
  have c1 := HB.out.c1
  have c2 := HB.out.c2
  have hRW := hR.below HB.out.bel
  have es := hRW.s.cell hk
  have er := (hRW.r k hk).2
  have HRW := hide hRW
  have HR0 := hide hR.r
  clear hRW hR
  have hx1 : ¬ (N : Int) ≤ (k : Int) := by omega
  have hx2 : ¬ 4096 < n := by omega
  have hx3 : ¬ n < -4096 := by omega
  generalize hl : left k = y at *
  generalize hrr : room k = r at *
  clear hl hrr
  have hx4 : ¬ (y : Int) + n < 0 := by omega
  have hx5 : ¬ (r : Int) < (y : Int) + n := by omega
  have HX := hide hx
  clear hx
  go_upto_region 5 with fail
  go_quiet (fail)
  go_upto_region 7 with fail
  refine forget (P := fun W => Code.wp Try.prog _ _ _ W) (fun W' => Hid (Bx2 w W' X Y q off ca b cb N nx) ∧ Hid (Rf W' q off b cb N room left) ∧ W'.cell? ⟨b, k, none⟩ = some (.int .i64 (y : Int))) ⟨HB.out.drewN _, HRW.out.below (below_drewN (Below.refl _ _) _), es⟩ ?_
  clear HB HRW c0 c1 c2 es er
  rintro W2 ⟨HB, HRW, es⟩
  have c0 := HB.out.c0
  have c1 := HB.out.c1
  have c2 := HB.out.c2
  have GS : Hid (∀ m, Calls Try.prog 24 #[.agg (rv q off ca b cb N nx), .int .i64 (k : Int), .int .i64 (x : Int)] (W2.drewN m) fun e w' => ∃ g cap, e = .returned (.agg (rv q off ca g cap N nx)) ∧ Rf w' q off g cap N room (upd left k x) ∧ Below (W2.drewN m).heap.size (W2.drewN m) w' ∧ (W2.drewN m).heap.size ≤ g) :=
    fun m => refSet_any (W2.drewN m) q off ca b cb N nx room left k x (HRW.out.below (below_drewN (Below.refl _ _) m)) hN hk (by omega)
  unfold rv at GS
  have hx := HX.out
  have hwx : IntKind.i64.wrap (x : Int) = (x : Int) := by rw [IntKind.wrap_i64]; omega
  have hwy : IntKind.i64.wrap ((y : Int) + n) = (x : Int) := by rw [hx]; exact hwx
  clear hx5 hx4
  go_region_with (first | (go_at_call 24; refine (unhide GS _).mono ?_; rintro e w3 ⟨g, cap, rfl, hr3, hb3, hg3⟩; have P3 := (HB.out.drewN 1).below hb3; have x0 := P3.d0; have x1 := P3.d1; have x2 := P3.d2; have y0 := P3.fy 0; have y1 := P3.fy 1; have y2 := P3.fy 2))
  all_goals
    have hbel : Below w.heap.size w (((w3.setCell ⟨Y, 0, none⟩ (.slice (some ⟨q, off, none⟩) N ca)).setCell ⟨Y, 1, none⟩ (.slice (some ⟨g, 0, none⟩) N cap)).setCell ⟨Y, 2, none⟩ (.int .i64 (nx : Int))) := ((P3.bel.setCell P3.ly _).setCell P3.ly _).setCell P3.ly _
    have hne := P3.ne
    have hne' := Ne.symm hne
    have hgY : g ≠ Y := by have := lt_of_block HB.out.yd; have h2 : W2.heap.size ≤ g := hg3; omega
    have hfin : Rf (((w3.setCell ⟨Y, 0, none⟩ (.slice (some ⟨q, off, none⟩) N ca)).setCell ⟨Y, 1, none⟩ (.slice (some ⟨g, 0, none⟩) N cap)).setCell ⟨Y, 2, none⟩ (.int .i64 (nx : Int))) q off g cap N room (upd left k x) :=
      ⟨HR0.out.below hbel, ((hr3.s.same (hd_far hgY)).same (hd_far hgY)).same (hd_far hgY)⟩
    have F1 := hide hfin
    have F2 := hide hbel
    clear hfin hbel
    go_wp2
    exact bodyPost_ret (v := .tuple #[.agg #[.slice (some ⟨q, off, none⟩) N ca, .slice (some ⟨g, 0, none⟩) N cap, .int .i64 (nx : Int)], .int .i64 0]) (by simp [results, Try.results18, go_sem, x0, x1, x2]) rfl ⟨g, cap, rfl, F1.out, F2.out⟩
end Go.Proofs.Ytjijikkcpnojcaa
