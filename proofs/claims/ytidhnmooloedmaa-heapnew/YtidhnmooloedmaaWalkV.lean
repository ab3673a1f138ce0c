/- Contract of the document's heap: a new one. -/
import Derived.Test.YtidhnmooloedmaaWalkS
import Derived.Test.YtidhnmooloedmaaWalkG
set_option linter.unusedVariables false
set_option linter.unusedSimpArgs false
namespace Go.Proofs.Ytidhnmooloedmaa
open Go.RowKit

def NewR (w wx : World) (n X a b : Nat) : Prop := Hid (Bx2 w wx X w.heap.size a (n + 1) b (n + 1) n 64) ∧ Hid (Rf wx a (n + 1) b (n + 1) n (fun _ => false) (fun _ => 0)) ∧ w.heap.size ≤ a ∧ w.heap.size ≤ b ∧ a ≠ b ∧ a ≠ X ∧ b ≠ X ∧ a ≠ w.heap.size ∧ b ≠ w.heap.size
theorem NewR.of {w W : World} {X a b n N : Nat} (hN : N = n + 1) (hn : n ≤ 1048576) (la : w.heap.size < a) (lb : w.heap.size < b) (lX : w.heap.size < X) (hab : a ≠ b) (haX : a ≠ X) (hbX : b ≠ X)
    (q0 : W.heap[w.heap.size]? = some (.cells #[.slice none 0 0, .slice none 0 0, .int .i64 0] 27)) (qa : W.heap[a]? = some (.cells (madeCells #[.bool false] N) 4)) (qb : W.heap[b]? = some (.cells (madeCells #[.int .i64 0] N) 3))
    (qX : W.heap[X]? = some (.cells #[.slice (some ⟨a, 0, none⟩) N N, .slice (some ⟨b, 0, none⟩) N N, .int .i64 64] 27)) (bel : Below w.heap.size w W) : NewR w W n X a b := by
  subst hN
  exact ⟨⟨qX, q0, bel, by omega, Nat.le_refl _, by omega⟩, ⟨blb_made qa (by unfold maxLen; omega), blk_made qb (by unfold maxLen; omega)⟩, by omega, by omega, hab, haX, hbX, by omega, by omega⟩

/-- As far as they are set. -/
def inTo (k : Nat) : Nat → Bool := fun v => decide (1 ≤ v ∧ v ≤ k)
theorem inTo_next (k : Nat) : upd (inTo k) (k + 1) true = inTo (k + 1) := by
  funext v; unfold upd inTo
  by_cases e : v = k + 1
  · subst e; simp
  · have : (1 ≤ v ∧ v ≤ k + 1) ↔ (1 ≤ v ∧ v ≤ k) := by omega
    simp only [this, e, if_false]

set_option maxHeartbeats 2000000 in
theorem refNew_any (w : World) (n : Nat) (hn : n ≤ 1048576) :
    Calls Try.prog 23 #[.int .i64 (n : Int)] w fun e w' => ∃ a b, e = .returned (.agg (rv a (n + 1) b (n + 1) n 64)) ∧ Rf w' a (n + 1) b (n + 1) n (fun v => decide (v ≠ 0)) (fun _ => 0) ∧ Below w.heap.size w w' ∧ w.heap.size ≤ a ∧ w.heap.size ≤ b := by
  obtain ⟨N, hN⟩ : ∃ N : Nat, N = n + 1 := ⟨_, rfl⟩
  have mk1 : ∀ W : World, (Instr.makeSlice 25 (.int .i64 (N : Int)) (.int .i64 (N : Int))).run Try.prog W = .ok (.slice (some ⟨W.heap.size, 0, none⟩) N N) (W.alloc (.cells (madeCells #[.int .i64 0] N) 3)) := fun W => run_make_row' 25 3 (.int .i64 0) 8 Try.underlying25 Try.info3 rfl .i64 .i64 N (by omega) (by omega) W
  have mk2 : ∀ W : World, (Instr.makeSlice 24 (.int .i64 (N : Int)) (.int .i64 (N : Int))).run Try.prog W = .ok (.slice (some ⟨W.heap.size, 0, none⟩) N N) (W.alloc (.cells (madeCells #[.bool false] N) 4)) := fun W => run_make_row' 24 4 (.bool false) 1 Try.underlying24 Try.info4 rfl .i64 .i64 N (by omega) (by omega) W
  have eN : (n : Int) + 1 = (N : Int) := by omega
  have hwN : IntKind.i64.wrap (N : Int) = N := by rw [IntKind.wrap_i64]; omega
  have HN := hide hN
  clear hN
  go_enter Try.func23, Try.ntmps23
  go_upto_region 1 with fail
  go_cut [3] from 5 to 11 (fun x wx => ∃ X a b, x = .pointer (some ⟨X, 0, none⟩) ∧ NewR w wx n X a b)
  case first =>
    go_region
    all_goals
      go_wp2_with fail
      go_meet
      case rel =>
        clear mk1 mk2 eN hwN
        obtain ⟨q1, q2, q3, q4, q5⟩ := heap4 w _ _ _ _
        first
          | exact ⟨_, _, _, rfl, NewR.of HN.out hn (by omega) (by omega) (by omega) (by omega) (by omega) (by omega) q1 q2 q3 q4 q5⟩
          | exact ⟨_, _, _, rfl, NewR.of HN.out hn (by omega) (by omega) (by omega) (by omega) (by omega) (by omega) q1 q2 q4 q3 q5⟩
          | exact ⟨_, _, _, rfl, NewR.of HN.out hn (by omega) (by omega) (by omega) (by omega) (by omega) (by omega) q1 q3 q2 q4 q5⟩
          | exact ⟨_, _, _, rfl, NewR.of HN.out hn (by omega) (by omega) (by omega) (by omega) (by omega) (by omega) q1 q3 q4 q2 q5⟩
          | exact ⟨_, _, _, rfl, NewR.of HN.out hn (by omega) (by omega) (by omega) (by omega) (by omega) (by omega) q1 q4 q2 q3 q5⟩
          | exact ⟨_, _, _, rfl, NewR.of HN.out hn (by omega) (by omega) (by omega) (by omega) (by omega) (by omega) q1 q4 q3 q2 q5⟩
  case rest =>
  obtain ⟨X, a, b, rfl, HB, HR, la, lb, hab, haX, hbX, haY, hbY⟩ := hcut
  clear mk1 mk2 eN hwN HN
  obtain ⟨Y, hY⟩ : ∃ Y, Y = w.heap.size := ⟨_, rfl⟩
  rw [← hY] at HB haY hbY ⊢
  clear hY
  go_wp2
  go_loopw [4] (fun i wx => ∃ k : Nat, k ≤ n ∧ i = .int .i64 ((k + 1 : Nat) : Int) ∧ Hid (Bx2 w wx X Y a (n + 1) b (n + 1) n 64) ∧ Hid (Rf wx a (n + 1) b (n + 1) n (inTo k) (fun _ => 0))) (fun i _ => n + 1 - (intOf i).toNat)
  case atStart => exact ⟨0, Nat.zero_le _, rfl, HB, HR.out.congr (fun v _ => by simp [inTo]; omega) (fun _ _ => rfl)⟩
  case round =>
    obtain ⟨k, hk, rfl, HB1, HR1⟩ := hrel
    clear HB HR
    have c0 := HB1.out.c0
    by_cases hlt : k < n
    · have ec := HR1.out.i.cell (i := k + 1) (by omega)
      have fc := HR1.out.i.fz (k + 1)
      have HB2 := hide (HB1.out.far (i := k + 1) (u := .bool true) haX haY la)
      have hs2 := HR1.out.i.set (i := k + 1) (by omega) true
      rw [inTo_next] at hs2
      have HR2 : Hid (Rf (wr.setCell ⟨a, k + 1, none⟩ (.bool true)) a (n + 1) b (n + 1) n (inTo (k + 1)) (fun _ => 0)) := ⟨hs2, HR1.out.s.same (hd_far (Ne.symm hab))⟩
      clear hs2 HB1 HR1
      generalize inTo k (k + 1) = xx at *
      go_wp2
      go_roundw
      case rel => exact ⟨k + 1, by omega, by go_num, HB2, HR2⟩
      case measure => simp [intOf]; omega
    · have hkn : k = n := by omega
      have HR2 : Hid (Rf wr a (n + 1) b (n + 1) n (fun v => decide (v ≠ 0)) (fun _ => 0)) := HR1.out.congr (fun v hv => by show decide (v ≠ 0) = decide (1 ≤ v ∧ v ≤ k); rw [decide_eq_decide]; omega) (fun _ _ => rfl)
      clear hkn HR1
      have c1 := HB1.out.c1
      have c2 := HB1.out.c2
      have d0 := HB1.out.d0
      have d1 := HB1.out.d1
      have d2 := HB1.out.d2
      have e0 := HB1.out.fy 0
      have e1 := HB1.out.fy 1
      have e2 := HB1.out.fy 2
      have hne := HB1.out.ne
      have hne' := Ne.symm hne
      go_wp2
      refine bodyPost_ret (v := .agg #[.slice (some ⟨a, 0, none⟩) (n + 1) (n + 1), .slice (some ⟨b, 0, none⟩) (n + 1) (n + 1), .int .i64 64]) (by simp [results, Try.results23, go_sem, c0, c1, c2, d0, d1, d2]) rfl ⟨a, b, rfl, ?_, ?_, la, lb⟩
      · exact ⟨((HR2.out.i.same (hd_far haY)).same (hd_far haY)).same (hd_far haY), ((HR2.out.s.same (hd_far hbY)).same (hd_far hbY)).same (hd_far hbY)⟩
      · exact ((HB1.out.bel.setCell HB1.out.ly _).setCell HB1.out.ly _).setCell HB1.out.ly _
end Go.Proofs.Ytidhnmooloedmaa
