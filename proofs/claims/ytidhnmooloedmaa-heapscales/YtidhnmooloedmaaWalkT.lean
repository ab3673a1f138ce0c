/- Contracts of the document's heap: it is scaled, if it must; one is bumped; the step grows; a new one. -/
import Derived.Test.YtidhnmooloedmaaWalkS
set_option linter.unusedVariables false
set_option linter.unusedSimpArgs false
namespace Go.Proofs.Ytidhnmooloedmaa
open Go.RowKit

/-- In the midst of dividing: the new scores so far. -/
structure Dv (w W : World) (X Y a ca b cb n : Nat) (st : Int) (f : Nat → Bool) (sc : Nat → Int) (g cap k : Nat) : Prop where
  bx : Bx2 w W X Y a ca b cb n st
  rf : Rf W a ca b cb n f sc
  nw : Blk W g k cap (fun v => sc v / 1048576)
  gX : g ≠ X
  gY : g ≠ Y
  ga : g ≠ a
  gb : g ≠ b
  lg : w.heap.size ≤ g
theorem Dv.next {w W w3 : World} {X Y a ca b cb n : Nat} {st : Int} {f : Nat → Bool} {sc : Nat → Int} {g cap k g1 cap1 : Nat} (h : Dv w W X Y a ca b cb n st f sc g cap k) {o : Obj} (hg : (W.alloc o).grownBy w3 (some g))
    (ho : w3.ownsRow 0 3 1 (.slice (some ⟨g1, 0, none⟩) (k + 1) cap1) (k + 1) (((List.range k).map fun i => .int .i64 (sc i / 1048576)) ++ [.int .i64 (sc k / 1048576)])) (hat : g = g1 ∨ g1 = W.heap.size + 1) : Dv w w3 X Y a ca b cb n st f sc g1 cap1 (k + 1) := by
  have lX := lt_of_block h.bx.hd
  have lY := lt_of_block h.bx.yd
  have la := h.rf.i.lt
  have lb := h.rf.s.lt
  have hs := h.bx.bel.size
  have old : ∀ i, i < W.heap.size → i ≠ g → w3.heap[i]? = W.heap[i]? := fun i hi hne => by rw [hg.block i (by simp; omega) (fun e => hne (by injection e)), heap_alloc_old W _ hi]
  have gX := h.gX
  have gY := h.gY
  have ga := h.ga
  have gb := h.gb
  have lg := h.lg
  refine ⟨⟨(old X lX (Ne.symm gX)).trans h.bx.hd, (old Y lY (Ne.symm gY)).trans h.bx.yd, ⟨hg.os.trans h.bx.bel.os, hg.tape.trans h.bx.bel.tape, hg.output.trans h.bx.bel.output, Nat.le_trans hs (Nat.le_trans (by simp) hg.size), fun i hi => (old i (by omega) (by omega)).trans (h.bx.bel.block i hi)⟩, h.bx.lx, h.bx.ly, h.bx.ne⟩,
    ⟨h.rf.i.same (old a la (Ne.symm ga)), h.rf.s.same (old b lb (Ne.symm gb))⟩, ?_, ?_, ?_, ?_, ?_, ?_⟩
  · apply blk_of_own
    rw [List.range_succ, List.map_append]
    exact ho
  all_goals rcases hat with e | e <;> omega

theorem mustF_next (sc : Nat → Int) (st : Int) (k : Nat) : mustF sc st (k + 1) = (mustF sc st k || decide (sc k > 1099511627776)) := rfl

def ScaledP (w : World) (a ca b cb n : Nat) (f : Nat → Bool) (sc : Nat → Int) (st : Int) (e : Ending) (w' : World) : Prop :=
  ∃ b' cb', e = .returned (.agg (rv a ca b' cb' n (stT (mustF sc st (n + 1)) st))) ∧ Rf w' a ca b' cb' n f (scT (mustF sc st (n + 1)) sc) ∧ Below w.heap.size w w' ∧ (b' = b ∨ w.heap.size ≤ b')

set_option maxHeartbeats 2000000 in
theorem refScaled_any (w : World) (a ca b cb n : Nat) (f : Nat → Bool) (sc : Nat → Int) (st : Int) (hR : Rf w a ca b cb n f sc) (hn : n ≤ 1048576) (hsc : ∀ v, v ≤ n → 0 ≤ sc v ∧ sc v ≤ 2199023255552) (hst : 1 ≤ st ∧ st ≤ 2199023255552) :
    Calls Try.prog 31 #[.agg (rv a ca b cb n st)] w (ScaledP w a ca b cb n f sc st) := by
  unfold rv
  go_enter Try.func31, Try.ntmps31
  go_upto_region 1 with fail
  refine forget (P := fun W => Code.wp Try.prog _ _ _ W) (fun W => Hid (Bx2 w W w.heap.size (w.heap.size + 1) a ca b cb n st)) (bx2_new w a ca b cb n st) ?_
  intro W HX
  generalize w.heap.size + 1 = Y at *
  obtain ⟨X, hX⟩ : ∃ X, X = w.heap.size := ⟨_, rfl⟩
  rw [← hX] at HX ⊢
  clear hX
  have hRW := hR.below HX.out.bel
  have hbb : b < w.heap.size := hR.s.lt
  have haa : a < w.heap.size := hR.i.lt
  have HRW := hide hRW
  have c1 := HX.out.c1
  have c2 := HX.out.c2
  have HSC := hide hsc
  clear hR hRW hsc
  go_wp2
  go_loop [3, 4] (fun x i => ∃ k : Nat, k ≤ n + 1 ∧ i = .int .i64 (k : Int) ∧ x = .bool (mustF sc st k)) (fun _ i => n + 1 - (intOf i).toNat)
  case atStart => exact ⟨0, Nat.zero_le _, rfl, rfl⟩
  case round =>
    obtain ⟨k, hk, rfl, rfl⟩ := hrel
    have hm := mustF_next sc st k
    by_cases hlt : k < n + 1
    · have es := HRW.out.s.cell (i := k) hlt
      cases hb : mustF sc st k with
      | true =>
        rw [hb] at hm
        have HM : Hid (mustF sc st (k + 1) = true) := by rw [hm]; rfl
        clear hm hb
        generalize sc k = y at *
        go_wp2
        go_round
        case rel => exact ⟨k + 1, by omega, by go_num, by rw [HM.out]⟩
        case measure => simp [intOf]; omega
      | false =>
        rw [hb] at hm
        have HM : Hid (mustF sc st (k + 1) = decide (sc k > 1099511627776)) := by rw [hm]; rfl
        clear hm hb
        generalize sc k = y at *
        go_wp2
        go_round
        case rel => exact ⟨k + 1, by omega, by go_num, by rw [HM.out]⟩
        case measure => simp [intOf]; omega
    · have hkn : k = n + 1 := by omega
      have HM : Hid (mustF sc st (n + 1) = mustF sc st k) := by rw [hkn]; rfl
      clear hm
      have d0 := HX.out.d0
      have d1 := HX.out.d1
      have d2 := HX.out.d2
      have e0 := HX.out.fy 0
      have e1 := HX.out.fy 1
      have e2 := HX.out.fy 2
      have hne := HX.out.ne
      have hne' := Ne.symm hne
      have c0 := HX.out.c0
      have haY : a ≠ Y := by have := HX.out.ly; omega
      have hbY : b ≠ Y := by have := HX.out.ly; omega
      clear hkn
      cases hb : mustF sc st k with
      | false =>
        rw [hb] at HM
        clear hb
        go_wp2
        refine bodyPost_ret (v := .agg #[.slice (some ⟨a, 0, none⟩) (n + 1) ca, .slice (some ⟨b, 0, none⟩) (n + 1) cb, .int .i64 st]) (by simp [results, Try.results31, go_sem, c0, c1, c2, d0, d1, d2]) rfl ⟨b, cb, ?_, ?_, ?_, .inl rfl⟩
        · rw [HM.out]; rfl
        · rw [HM.out]
          exact ⟨((HRW.out.i.same (hd_far haY)).same (hd_far haY)).same (hd_far haY), ((HRW.out.s.same (hd_far hbY)).same (hd_far hbY)).same (hd_far hbY)⟩
        · exact ((HX.out.bel.setCell HX.out.ly _).setCell HX.out.ly _).setCell HX.out.ly _
      | true =>
        rw [hb] at HM
        clear hb d0 d1 d2 e0 e1 e2 c0 c2
        have hW0 : Dv w (W.alloc (.cells #[] 3)) X Y a ca b cb n st f sc W.heap.size 0 0 := by
          have lX := lt_of_block HX.out.hd
          have lY := lt_of_block HX.out.yd
          have la := HRW.out.i.lt
          have lb := HRW.out.s.lt
          have hs := HX.out.bel.size
          refine ⟨⟨(heap_alloc_old W _ lX).trans HX.out.hd, (heap_alloc_old W _ lY).trans HX.out.yd, HX.out.bel.alloc hs _, HX.out.lx, HX.out.ly, HX.out.ne⟩, ⟨HRW.out.i.same (heap_alloc_old W _ la), HRW.out.s.same (heap_alloc_old W _ lb)⟩, ⟨#[], heap_alloc_new W _, rfl, Nat.le_refl _, Nat.zero_le _, fun i hi => by omega⟩, by omega, by omega, by omega, by omega, hs⟩
        have HD := hide hW0
        clear hW0 HX HRW
        go_wp2
        refine forget (P := fun W => Code.wp Try.prog _ _ _ W) (fun W1 => Hid (Dv w W1 X Y a ca b cb n st f sc W.heap.size 0 0)) HD ?_
        intro W1 HD1
        obtain ⟨g0, hg0⟩ : ∃ g0, g0 = W.heap.size := ⟨_, rfl⟩
        rw [← hg0] at HD1 ⊢
        clear HD c1 hg0
        obtain ⟨i0, hi, hz0, hz1, hz2⟩ := info_parts' Try.info3
        go_loopw [5, 6] (fun x i wx => ∃ k g cap : Nat, k ≤ n + 1 ∧ i = .int .i64 (k : Int) ∧ x = .slice (some ⟨g, 0, none⟩) k cap ∧ Hid (Dv w wx X Y a ca b cb n st f sc g cap k)) (fun _ i _ => n + 1 - (intOf i).toNat)
        case atStart => exact ⟨0, g0, 0, Nat.zero_le _, rfl, rfl, HD1⟩
        case round =>
          obtain ⟨j, g, cap, hj, rfl, rfl, HD⟩ := hrel
          have c1 := HD.out.bx.c1
          by_cases hlt2 : j < n + 1
          · have es := HD.out.rf.s.cell (i := j) hlt2
            have hb2 := HSC.out j (by omega)
            have hown := HD.out.nw.own
            clear HD1
            obtain ⟨y, hy⟩ : ∃ y, y = sc j := ⟨_, rfl⟩
            rw [← hy] at es hb2
            have HY := hide hy
            clear hy
            go_wp2_with (at_builtin; refine wpList_append_lies _ rfl _ _ 25 rfl 0 3 i0 (.int .i64 0) 1 8 Try.underlying25 hi hz0 hz1 hz2 rfl (by decide) _ j _ rfl (hown.alloc _) ⟨wr.heap.size, 0, none⟩ 1 1 [.int .i64 (y / 1048576)] rfl rfl (World.news_of_block (cs := #[.int .i64 (y / 1048576)]) (heap_alloc_new wr _)) (by simp [Value.oneCell']) (by decide) (by unfold maxLen; omega) (by omega) (Nat.zero_le _) (wr.heap.size + 1) (by simp) ?_; intro g1 cap1 w3 hown3 hgrow3 hat3 hlt3; rw [HY.out] at hown3; have hd3 := HD.out.next (g1 := g1) (cap1 := cap1) hgrow3 hown3 (hat3.elim (fun e => .inl (Option.some.inj e)) .inr))
            go_roundw
            case rel => exact ⟨j + 1, g1, cap1, by omega, by go_num, rfl, hd3⟩
            case measure => simp [intOf]; omega
          · have hjn : j = n + 1 := by omega
            subst hjn
            have f1 := HD.out.bx.fz 1
            have hgX := HD.out.gX
            have hgY := HD.out.gY
            have HB2 := hide (HD.out.bx.set1 g cap)
            have HR2 : Hid (Rf (wr.setCell ⟨X, 1, none⟩ (.slice (some ⟨g, 0, none⟩) (n + 1) cap)) a ca g cap n f (fun v => sc v / 1048576)) := ⟨HD.out.rf.i.same (hd_far (by have := HD.out.bx.lx; omega)), HD.out.nw.same (hd_far hgX)⟩
            have hlg := HD.out.lg
            clear HD1 hi hz0 hz1 hz2 HD
            go_upto_region 14 with fail
            refine forget (P := fun W => Code.wp Try.prog _ _ _ W) (fun W1 => Hid (Bx2 w W1 X Y a ca g cap n st) ∧ Hid (Rf W1 a ca g cap n f (fun v => sc v / 1048576))) ⟨HB2, HR2⟩ ?_
            rintro W2 ⟨HB3, HR3⟩
            clear HB2 HR2 c1 f1
            have c0 := HB3.out.c0
            have c1 := HB3.out.c1
            have c2 := HB3.out.c2
            have f2 := HB3.out.fz 2
            have d0 := HB3.out.d0
            have d1 := HB3.out.d1
            have d2 := HB3.out.d2
            have e0 := HB3.out.fy 0
            have e1 := HB3.out.fy 1
            have e2 := HB3.out.fy 2
            have haX : a ≠ X := by have := HB3.out.lx; omega
            by_cases hs1 : st / 1048576 < 1
            · have hst' : stT true st = 1 := by show max (st / 1048576) 1 = 1; omega
              have HS := hide hst'
              clear hst'
              go_wp2
              refine bodyPost_ret (v := .agg #[.slice (some ⟨a, 0, none⟩) (n + 1) ca, .slice (some ⟨g, 0, none⟩) (n + 1) cap, .int .i64 1]) (by simp [results, Try.results31, go_sem, c0, c1, c2, d0, d1, d2, hne, hne']) rfl ⟨g, cap, ?_, ?_, ?_, .inr hlg⟩
              · rw [HM.out, HS.out]; rfl
              · rw [HM.out]
                exact ⟨((((HR3.out.i.same (hd_far haX)).same (hd_far haX)).same (hd_far haY)).same (hd_far haY)).same (hd_far haY), ((((HR3.out.s.same (hd_far hgX)).same (hd_far hgX)).same (hd_far hgY)).same (hd_far hgY)).same (hd_far hgY)⟩
              · exact ((((HB3.out.bel.setCell HB3.out.lx _).setCell HB3.out.lx _).setCell HB3.out.ly _).setCell HB3.out.ly _).setCell HB3.out.ly _
            · have hst' : stT true st = st / 1048576 := by show max (st / 1048576) 1 = _; omega
              have HS := hide hst'
              clear hst'
              go_wp2
              refine bodyPost_ret (v := .agg #[.slice (some ⟨a, 0, none⟩) (n + 1) ca, .slice (some ⟨g, 0, none⟩) (n + 1) cap, .int .i64 (st / 1048576)]) (by simp [results, Try.results31, go_sem, c0, c1, c2, d0, d1, d2, hne, hne']) rfl ⟨g, cap, ?_, ?_, ?_, .inr hlg⟩
              · rw [HM.out, HS.out]; rfl
              · rw [HM.out]
                exact ⟨(((HR3.out.i.same (hd_far haX)).same (hd_far haY)).same (hd_far haY)).same (hd_far haY), (((HR3.out.s.same (hd_far hgX)).same (hd_far hgY)).same (hd_far hgY)).same (hd_far hgY)⟩
              · exact (((HB3.out.bel.setCell HB3.out.lx _).setCell HB3.out.ly _).setCell HB3.out.ly _).setCell HB3.out.ly _
end Go.Proofs.Ytidhnmooloedmaa
