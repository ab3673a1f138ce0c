/- Contracts of the document's heap: one is bumped; the step grows; a new one. -/
import Derived.Test.YtidhnmooloedmaaWalkT
set_option linter.unusedVariables false
set_option linter.unusedSimpArgs false
namespace Go.Proofs.Ytidhnmooloedmaa
open Go.RowKit

theorem Bx2.below {w W W' : World} {X Y a ca b cb n : Nat} {st : Int} (h : Bx2 w W X Y a ca b cb n st) (hb : Below W.heap.size W W') : Bx2 w W' X Y a ca b cb n st :=
  ⟨(hb.block _ (lt_of_block h.hd)).trans h.hd, (hb.block _ (lt_of_block h.yd)).trans h.yd, h.bel.trans (hb.mono h.bel.size), h.lx, h.ly, h.ne⟩

def ResP (w : World) (a ca n : Nat) (f : Nat → Bool) (sc : Nat → Int) (st : Int) (bq : Nat → Prop) (e : Ending) (w' : World) : Prop :=
  ∃ b' cb', e = .returned (.agg (rv a ca b' cb' n (stT (mustF sc st (n + 1)) st))) ∧ Rf w' a ca b' cb' n f (scT (mustF sc st (n + 1)) sc) ∧ Below w.heap.size w w' ∧ bq b'

set_option maxHeartbeats 2000000 in
theorem refDecay_any (w : World) (a ca b cb n : Nat) (f : Nat → Bool) (sc : Nat → Int) (st : Int) (hR : Rf w a ca b cb n f sc) (hn : n ≤ 1048576) (hsc : ∀ v, v ≤ n → 0 ≤ sc v ∧ sc v ≤ 1099511627776) (hst : 1 ≤ st ∧ st ≤ 1099511627776) :
    Calls Try.prog 16 #[.agg (rv a ca b cb n st)] w (ResP w a ca n f sc (st + (st / 16 + 1)) (fun b' => b' = b ∨ w.heap.size ≤ b')) := by
  obtain ⟨st2, hs2⟩ : ∃ st2, st2 = st + (st / 16 + 1) := ⟨_, rfl⟩
  rw [← hs2]
  have HS2 := hide hs2
  clear hs2
  unfold rv
  go_enter Try.func16, Try.ntmps16
  go_upto_region 1 with fail
  refine forget (P := fun W => Code.wp Try.prog _ _ _ W) (fun W => Hid (Bx2 w W w.heap.size (w.heap.size + 1) a ca b cb n st)) (bx2_new w a ca b cb n st) ?_
  intro W HX
  generalize w.heap.size + 1 = Y at *
  obtain ⟨X, hX⟩ : ∃ X, X = w.heap.size := ⟨_, rfl⟩
  rw [← hX] at HX ⊢
  clear hX
  have hbb : b < w.heap.size := hR.s.lt
  have haa : a < w.heap.size := hR.i.lt
  have hRW := hR.below HX.out.bel
  have c2 := HX.out.c2
  have f2 := HX.out.fz 2
  have hlx := HX.out.lx
  have HB1 := hide (HX.out.set2 (st + st / 16 + 1))
  have HR1 : Hid (Rf (W.setCell ⟨X, 2, none⟩ (.int .i64 (st + st / 16 + 1))) a ca b cb n f sc) := ⟨hRW.i.same (hd_far (by omega)), hRW.s.same (hd_far (by omega))⟩
  clear hR hRW HX
  go_upto_region 2 with fail
  refine forget (P := fun W => Code.wp Try.prog _ _ _ W) (fun W => Hid (Bx2 w W X Y a ca b cb n (st + st / 16 + 1)) ∧ Hid (Rf W a ca b cb n f sc)) ⟨HB1, HR1⟩ ?_
  rintro W1 ⟨HB, HR⟩
  clear HB1 HR1 c2 f2
  have hs2 := HS2.out
  have hs3 : st + st / 16 + 1 = st2 := by omega
  rw [hs3] at HB
  have G := hide (refScaled_any W1 a ca b cb n f sc st2 HR.out hn (fun v hv => by have := hsc v hv; omega) (by omega))
  unfold rv at G
  have c0 := HB.out.c0
  have c1 := HB.out.c1
  have c2 := HB.out.c2
  clear hs2 hs3 hsc HS2
  go_wp2_with (first | (go_at_call 31; refine (unhide G).mono ?_; rintro e w3 ⟨b', cb', rfl, hR3, hb3, hq3⟩; have hx3 := HB.out.below hb3; have d0 := hx3.d0; have d1 := hx3.d1; have d2 := hx3.d2; have e0 := hx3.fy 0; have e1 := hx3.fy 1; have e2 := hx3.fy 2; unfold rv))
  have hs1 := HB.out.bel.size
  have hly := HB.out.ly
  have hYl := lt_of_block HB.out.yd
  have hbY : b' ≠ Y := by rcases hq3 with h | h <;> omega
  have haY : a ≠ Y := by omega
  refine bodyPost_ret (v := .agg #[.slice (some ⟨a, 0, none⟩) (n + 1) ca, .slice (some ⟨b', 0, none⟩) (n + 1) cb', .int .i64 (stT (mustF sc st2 (n + 1)) st2)]) (by simp [results, Try.results16, go_sem, d0, d1, d2]) rfl ⟨b', cb', rfl, ?_, ?_, ?_⟩
  · exact ⟨((hR3.i.same (hd_far haY)).same (hd_far haY)).same (hd_far haY), ((hR3.s.same (hd_far hbY)).same (hd_far hbY)).same (hd_far hbY)⟩
  · exact ((hx3.bel.setCell hx3.ly _).setCell hx3.ly _).setCell hx3.ly _
  · rcases hq3 with h | h
    · exact .inl h
    · exact .inr (by omega)

set_option maxHeartbeats 2000000 in
theorem refBump_any (w : World) (a ca b cb n : Nat) (f : Nat → Bool) (sc : Nat → Int) (st : Int) (v : Nat) (hR : Rf w a ca b cb n f sc) (hn : n ≤ 1048576) (hv : v ≤ n) (hsc : ∀ v, v ≤ n → 0 ≤ sc v ∧ sc v ≤ 1099511627776) (hst : 1 ≤ st ∧ st ≤ 1099511627776) :
    Calls Try.prog 24 #[.agg (rv a ca b cb n st), .int .i64 (v : Int)] w (ResP w a ca n f (upd sc v (sc v + st)) st (fun b' => w.heap.size ≤ b')) := by
  unfold rv
  go_enter Try.func24, Try.ntmps24
  go_upto_region 1 with fail
  refine forget (P := fun W => Code.wp Try.prog _ _ _ W) (fun W => Hid (Bx2 w W w.heap.size (w.heap.size + 1) a ca b cb n st)) (bx2_new w a ca b cb n st) ?_
  intro W HX
  generalize w.heap.size + 1 = Y at *
  obtain ⟨X, hX⟩ : ∃ X, X = w.heap.size := ⟨_, rfl⟩
  rw [← hX] at HX ⊢
  clear hX
  have hlt := lt_of_block HX.out.hd
  have hlt' := lt_of_block HX.out.yd
  have hRW := hR.below HX.out.bel
  have haa : a < w.heap.size := hR.i.lt
  have HRW := hide hRW
  have c1 := HX.out.c1
  have hnews := hRW.s.news (.cells #[] 3)
  clear hR hRW
  obtain ⟨i0, hi, hz0, hz1, hz2⟩ := info_parts' Try.info3
  go_cut [] from 5 to 9 (fun wx => ∃ g cap, Hid (Bx2 w wx X Y a ca g cap n st) ∧ Hid (Rf wx a ca g cap n f sc) ∧ w.heap.size ≤ g ∧ g ≠ X ∧ g ≠ Y ∧ g ≠ a)
  case first =>
    go_wp2_with (at_builtin; refine wpList_append_lies _ rfl _ _ 25 rfl 0 3 i0 (.int .i64 0) 1 8 Try.underlying25 hi hz0 hz1 hz2 rfl (by decide) _ 0 [] rfl (own_none W 3) ⟨b, 0, none⟩ (n + 1) cb _ rfl (by simp) hnews (by intro u hu; obtain ⟨i, _, rfl⟩ := List.mem_map.1 hu; rfl) (by omega) (by unfold maxLen; omega) (by omega) (Nat.zero_le _) (W.heap.size + 1) (by simp) ?_; intro g1 cap1 w3 hown3 hgrow3 hat3 hlt3; simp only [Nat.zero_add, List.nil_append] at hown3; have hx3 := HX.out.grown hgrow3; have c1' := hx3.c1; have f1' := hx3.fz 1)
    go_meet
    case rel =>
      have hg1 : W.heap.size ≤ g1 := by
        rcases hat3 with e | e
        · have : W.heap.size = g1 := Option.some.inj e; omega
        · omega
      have hs := HX.out.bel.size
      refine ⟨g1, cap1, hx3.set1 g1 cap1, ⟨?_, (blk_of_own hown3).same (hd_far (by omega))⟩, by omega, by omega, by omega, by omega⟩
      exact (HRW.out.i.same (old_of hgrow3 HRW.out.i.lt)).same (hd_far (by have := HX.out.lx; omega))
  case rest =>
  obtain ⟨g, cap, HB, HR2, hg, hgX, hgY, hga⟩ := hcut
  clear c1 hnews hi hz0 hz1 hz2 HX HRW hlt hlt'
  have c1 := HB.out.c1
  have c2 := HB.out.c2
  have eg := HR2.out.s.cell (i := v) (by omega)
  have fg := HR2.out.s.fz v
  have hsv := hsc v hv
  go_upto_region 2 with fail
  go_cut [] from 10 to 21 (fun wx => Hid (Bx2 w wx X Y a ca g cap n st) ∧ Hid (Rf wx a ca g cap n f (upd sc v (sc v + st))))
  case first =>
    go_region
    all_goals
      go_wp2_with fail
      go_meet
      case rel => exact ⟨(HB.out.far hgX hgY hg).drewN 1, ⟨(HR2.out.i.same (hd_far (Ne.symm hga))).same rfl, (HR2.out.s.set (by omega) (sc v + st)).same rfl⟩⟩
  case rest =>
  obtain ⟨HB4, HR4⟩ := hcut
  clear HB HR2 c1 c2 eg fg
  have hsc2 : ∀ u, u ≤ n → 0 ≤ upd sc v (sc v + st) u ∧ upd sc v (sc v + st) u ≤ 2199023255552 := by
    intro u hu
    by_cases e : u = v
    · rw [e, upd_same]; omega
    · rw [upd_other e]; have := hsc u hu; omega
  have G := hide (refScaled_any wc a ca g cap n f (upd sc v (sc v + st)) st HR4.out hn hsc2 (by omega))
  unfold rv at G
  have c0 := HB4.out.c0
  have c1 := HB4.out.c1
  have c2 := HB4.out.c2
  clear hsc hsc2 hsv
  go_wp2_with (first | (go_at_call 31; refine (unhide G).mono ?_; rintro e w3 ⟨b', cb', rfl, hR3, hb3, hq3⟩; have hx3 := HB4.out.below hb3; have d0 := hx3.d0; have d1 := hx3.d1; have d2 := hx3.d2; have e0 := hx3.fy 0; have e1 := hx3.fy 1; have e2 := hx3.fy 2; unfold rv))
  have hs1 := HB4.out.bel.size
  have hly := HB4.out.ly
  have hYl := lt_of_block HB4.out.yd
  have hbY : b' ≠ Y := by rcases hq3 with h | h <;> omega
  have haY : a ≠ Y := by omega
  refine bodyPost_ret (v := .agg #[.slice (some ⟨a, 0, none⟩) (n + 1) ca, .slice (some ⟨b', 0, none⟩) (n + 1) cb', .int .i64 (stT (mustF (upd sc v (sc v + st)) st (n + 1)) st)]) (by simp [results, Try.results24, go_sem, d0, d1, d2]) rfl ⟨b', cb', rfl, ?_, ?_, ?_⟩
  · exact ⟨((hR3.i.same (hd_far haY)).same (hd_far haY)).same (hd_far haY), ((hR3.s.same (hd_far hbY)).same (hd_far hbY)).same (hd_far hbY)⟩
  · exact ((hx3.bel.setCell hx3.ly _).setCell hx3.ly _).setCell hx3.ly _
  · rcases hq3 with h | h
    · omega
    · omega
end Go.Proofs.Ytidhnmooloedmaa
