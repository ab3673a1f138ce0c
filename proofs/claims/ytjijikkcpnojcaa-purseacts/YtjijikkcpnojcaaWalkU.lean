/- Contract of the document's purse: a token of the next kind that has one. -/
import Derived.Test.YtjijikkcpnojcaaWalkT
set_option linter.unusedVariables false
set_option linter.unusedSimpArgs false
namespace Go.Proofs.Ytjijikkcpnojcaa
open Go.RowKit Go.Conc

/-- What is told of the next kind. -/
def AnyTo (w : World) (q off ca N d : Nat) (room left : Nat → Nat) (o : Option Nat) (e : Ending) (w' : World) : Prop :=
  match o with
  | none => RTo w q off ca N d room left (-1) e w'
  | some k => RTo w q off ca N ((k + 1) % N) room (upd left k (left k - 1)) (k : Int) e w'

/-- The box is written anew, whole. -/
theorem bx_whole {w W : World} {X Y q off ca b cb N nx g cap : Nat} (h : Bx2 w W X Y q off ca b cb N nx) : Bx2 w (((W.setCell ⟨X, 0, none⟩ (.slice (some ⟨q, off, none⟩) N ca)).setCell ⟨X, 1, none⟩ (.slice (some ⟨g, 0, none⟩) N cap)).setCell ⟨X, 2, none⟩ (.int .i64 (nx : Int))) X Y q off ca g cap N nx :=
  ⟨(hd_set (hd_set (hd_set h.hd))).trans (by simp [rv]), ((hd_far (Ne.symm h.ne)).trans ((hd_far (Ne.symm h.ne)).trans (hd_far (Ne.symm h.ne)))).trans h.yd, ((h.bel.setCell h.lx _).setCell h.lx _).setCell h.lx _, h.lx, h.ly, h.ne⟩

set_option maxHeartbeats 2000000 in
theorem refAny_any (w : World) (q off ca b cb N d : Nat) (room left : Nat → Nat) (hR : Rf w q off b cb N room left) (hN : N ≤ 8) (hN1 : 1 ≤ N) (hd : d ≤ N) (hl : ∀ i, i < N → left i ≤ 4096) :
    Calls Try.prog 19 #[.agg (rv q off ca b cb N d)] w (AnyTo w q off ca N d room left (anyK left N d)) := by
  unfold rv
  go_enter Try.func19, Try.ntmps19
  go_upto_region 1 with fail
  refine forget (P := fun W => Code.wp Try.prog _ _ _ W) (fun W => Hid (Bx2 w W w.heap.size (w.heap.size + 1) q off ca b cb N d)) (bx2_new w q off ca b cb N d) ?_
  intro W HB
  generalize w.heap.size + 1 = Y at *
  obtain ⟨X, hX⟩ : ∃ X, X = w.heap.size := ⟨_, rfl⟩
  rw [← hX] at HB ⊢
  clear hX
  have c0 := HB.out.c0
  have c1 := HB.out.c1
  have c2 := HB.out.c2
  have HR := hide hR
  have hRW := hide (hR.below HB.out.bel)
  clear hR
  go_wp2
  go_loop [4] (fun x => ∃ i : Nat, i ≤ N ∧ x = .int .i64 (i : Int) ∧ Hid (scan left N d i (N - i) = anyK left N d)) (fun x => N - (intOf x).toNat)
  case atStart => exact ⟨0, Nat.zero_le _, rfl, rfl⟩
  case round =>
    obtain ⟨i, hi, rfl, hsc⟩ := hrel
    by_cases hlt : i < N
    · obtain ⟨kd, hkd⟩ : ∃ kd, kd = (d + i) % N := ⟨_, rfl⟩
      have hkN : kd < N := by rw [hkd]; exact Nat.mod_lt _ hN1
      have hmod : ((d : Int) + (i : Int)) % (N : Int) = (kd : Int) := by rw [hkd]; simp
      have hst : Hid (anyK left N d = if 0 < left kd then some kd else scan left N d (i + 1) (N - (i + 1))) := by
        have := hsc.out
        rw [scan_step hlt, ← hkd] at this
        exact this.symm
      clear hkd hsc
      have es := hRW.out.s.cell hkN
      have hlk := hl kd hkN
      by_cases hp : 0 < left kd
      · rw [if_pos hp] at hst
        obtain ⟨x, hx⟩ : ∃ x, x = left kd - 1 := ⟨_, rfl⟩
        obtain ⟨y, hy⟩ : ∃ y, y = left kd := ⟨_, rfl⟩
        have hsx : (y : Int) - 1 = (x : Int) := by omega
        have hwx : IntKind.i64.wrap (x : Int) = (x : Int) := by rw [IntKind.wrap_i64]; omega
        have hwy : IntKind.i64.wrap ((y : Int) - 1) = (x : Int) := by rw [hsx]; exact hwx
        have GS : Hid (∀ m, Calls Try.prog 24 #[.agg (rv q off ca b cb N d), .int .i64 (kd : Int), .int .i64 (x : Int)] (W.drewN m) fun e w' => ∃ g cap, e = .returned (.agg (rv q off ca g cap N d)) ∧ Rf w' q off g cap N room (upd left kd x) ∧ Below (W.drewN m).heap.size (W.drewN m) w' ∧ (W.drewN m).heap.size ≤ g) :=
          fun m => refSet_any (W.drewN m) q off ca b cb N d room left kd x (hRW.out.below (below_drewN (Below.refl _ _) m)) hN hkN (by omega)
        unfold rv at GS
        rw [← hy] at es hp
        have HX := hide hx
        clear hx hy hlk
        have hyp : decide ((y : Int) > 0) = true := by simp; omega
        go_upto_region 6 with fail
        simp only [hmod]
        clear hmod
        go_cut [] from 27 to 35 (fun wx => ∃ g cap, Hid (Bx2 w wx X Y q off ca g cap N d) ∧ Hid (Rf wx q off g cap N room (upd left kd x)) ∧ g ≠ X ∧ g ≠ Y)
        case first =>
          go_region_with (first | (go_at_call 24; refine (unhide GS _).mono ?_; rintro e w3 ⟨g, cap, rfl, hr3, hb3, hg3⟩; have P3 := (HB.out.drewN 1).below hb3; have x0 := P3.c0; have x1 := P3.c1; have x2 := P3.c2; have y0 := P3.fz 0; have y1 := P3.fz 1; have y2 := P3.fz 2))
          all_goals
            go_wp2_with fail
            go_meet
            case rel =>
              have hg3' : W.heap.size ≤ g := hg3
              have l1 := lt_of_block HB.out.hd
              have l2 := lt_of_block HB.out.yd
              exact ⟨g, cap, bx_whole P3, ⟨HR.out.r.below (bx_whole P3 (g := g) (cap := cap)).bel, ((hr3.s.same (hd_far (by omega))).same (hd_far (by omega))).same (hd_far (by omega))⟩, by omega, by omega⟩
        case rest =>
        obtain ⟨g, cap, HB2, HR2, hgX, hgY⟩ := hcut
        clear c0 c1 c2 es GS HB hRW hsx hwx hwy hyp
        have c0 := HB2.out.c0
        have c2 := HB2.out.c2
        have f2 := HB2.out.fz 2
        obtain ⟨nd, hnd⟩ : ∃ nd, nd = (kd + 1) % N := ⟨_, rfl⟩
        have hmod2 : ((kd : Int) + 1) % (N : Int) = (nd : Int) := by rw [hnd]; simp
        have HB3 := hide (HB2.out.set2 nd)
        have HR3 : Hid (Rf (wc.setCell ⟨X, 2, none⟩ (.int .i64 (nd : Int))) q off g cap N room (upd left kd x)) := ⟨HR.out.r.below HB3.out.bel, HR2.out.s.same (hd_far hgX)⟩
        have HND := hide hnd
        clear hnd
        go_upto_region 8 with fail
        simp only [hmod2]
        clear hmod2
        refine forget (P := fun W => Code.wp Try.prog _ _ _ W) (fun W' => Hid (Bx2 w W' X Y q off ca g cap N nd) ∧ Hid (Rf W' q off g cap N room (upd left kd x))) ⟨HB3, HR3⟩ ?_
        clear HB3 HR3 HB2 HR2 c0 c2 f2
        rintro W2 ⟨HB4, HR4⟩
        have c0 := HB4.out.c0
        have c1 := HB4.out.c1
        have c2 := HB4.out.c2
        have d0 := HB4.out.d0
        have d1 := HB4.out.d1
        have d2 := HB4.out.d2
        have e0 := HB4.out.fy 0
        have e1 := HB4.out.fy 1
        have e2 := HB4.out.fy 2
        have hne := HB4.out.ne
        have hne' := Ne.symm hne
        have hbel := hide (((HB4.out.bel.setCell (p := ⟨Y, 0, none⟩) HB4.out.ly (.slice (some ⟨q, off, none⟩) N ca)).setCell (p := ⟨Y, 1, none⟩) HB4.out.ly (.slice (some ⟨g, 0, none⟩) N cap)).setCell (p := ⟨Y, 2, none⟩) HB4.out.ly (.int .i64 (nd : Int)))
        have hfin : Hid (Rf (((W2.setCell ⟨Y, 0, none⟩ (.slice (some ⟨q, off, none⟩) N ca)).setCell ⟨Y, 1, none⟩ (.slice (some ⟨g, 0, none⟩) N cap)).setCell ⟨Y, 2, none⟩ (.int .i64 (nd : Int))) q off g cap N room (upd left kd x)) := ⟨HR.out.r.below hbel.out, ((HR4.out.s.same (hd_far hgY)).same (hd_far hgY)).same (hd_far hgY)⟩
        go_wp2
        refine bodyPost_ret (v := .tuple #[.agg #[.slice (some ⟨q, off, none⟩) N ca, .slice (some ⟨g, 0, none⟩) N cap, .int .i64 (nd : Int)], .int .i64 (kd : Int)]) (by simp [results, Try.results19, go_sem, c0, c1, c2, d0, d1, d2]) rfl ?_
        rw [hst.out]
        show RTo w q off ca N ((kd + 1) % N) room (upd left kd (left kd - 1)) (kd : Int) _ _
        rw [← HND.out, ← HX.out]
        exact ⟨g, cap, rfl, hfin.out, hbel.out⟩
      · rw [if_neg hp] at hst
        have hl0 : left kd = 0 := by omega
        rw [hl0] at es
        clear hl0 hp hlk
        go_wp2
        go_round
        case rel => exact ⟨i + 1, by omega, by go_num, hst.out.symm⟩
        case measure => simp [intOf]; omega
    · have hn : Hid (anyK left N d = none) := by
        have := hsc.out
        have e : N - i = 0 := by omega
        rw [e] at this
        exact this.symm
      have d0 := HB.out.d0
      have d1 := HB.out.d1
      have d2 := HB.out.d2
      have e0 := HB.out.fy 0
      have e1 := HB.out.fy 1
      have e2 := HB.out.fy 2
      have hne := HB.out.ne
      have hne' := Ne.symm hne
      obtain ⟨f1, f2⟩ := ret_same HB.out HR.out 0 (.slice (some ⟨q, off, none⟩) N ca) (.slice (some ⟨b, 0, none⟩) N cb) (.int .i64 (d : Int))
      have F1 := hide f1
      have F2 := hide f2
      clear f1 f2 hsc
      go_wp2
      refine bodyPost_ret (v := .tuple #[.agg #[.slice (some ⟨q, off, none⟩) N ca, .slice (some ⟨b, 0, none⟩) N cb, .int .i64 (d : Int)], .int .i64 (-1)]) (by simp [results, Try.results19, go_sem, c0, c1, c2, d0, d1, d2]) rfl ?_
      rw [hn.out]
      exact ⟨b, cb, rfl, F1.out, F2.out⟩
end Go.Proofs.Ytjijikkcpnojcaa
