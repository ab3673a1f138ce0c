/- Joined: Contract: the document's step that puts a clause behind the others, with the room of what it tells. -/
import Derived.Test.YtlmbgaconjcaiaaGreatQaAll
set_option linter.unusedVariables false
set_option linter.unusedSimpArgs false
namespace Go.Proofs.YtlmbgaconjcaiaaGreat
open Go.RowKit

set_option maxHeartbeats 4000000 in
set_option maxRecDepth 100000 in
theorem refDoQ_add (a ac : Option Addr) (cap cac : Nat) (V : Nat) (css : List (List Int)) (c : List Int) (w : World) {N : Nat} (hNN : N ≤ w.heap.size) (hgN : GridN N w a css) (han : a = none → cap = 0) (hl : css.length ≤ 900) (hrN : RowN N w ac c) (hlc : c.length ≤ 4096) (hc : cnfB V css = true) (hm : mayB c 1048576 = true) (hno : (refU css c || refF css c) = true) :
    Calls Tryz.prog 18 #[.agg #[.int .i64 V, .slice a css.length cap], .agg #[.bool false, .slice ac c.length cac]] w (DocQ N w V css false c) := by
  have hg : Grid w a css := hgN.grid
  have hr : Row w ac c := hrN.row
  have HGN := hide hgN
  have HRN := hide hrN
  clear hgN hrN
  have hV : V ≤ 1048576 := by
    unfold cnfB at hc
    simp only [Bool.and_eq_true, decide_eq_true_eq] at hc
    omega
  have hlt := cnf_lt hc
  have hls : ∀ x ∈ c, -1048576 ≤ x ∧ x ≤ 1048576 := fun x hx => (may_lits hm x hx).2
  have GU : Hid (∀ x, Bd w V (.slice a css.length cap) false (.slice ac c.length cac) x → Calls Tryz.prog 13 #[.slice a css.length cap, .slice ac c.length cac] x fun e w' => e = .returned (.bool (refU css c)) ∧ Hid (Bd w V (.slice a css.length cap) false (.slice ac c.length cac) w')) := by
    intro x hx
    refine (refUnit7_any a ac cap cac css c V x (hg.below hx.bel) (hr.below hx.bel) (by omega) hV (fun d hd => ⟨by have := (hlt d hd).1; omega, (hlt d hd).2⟩) (by omega) hls).mono ?_
    rintro e w' ⟨rfl, hb⟩
    exact ⟨rfl, hx.below hb⟩
  have GF : Hid (∀ x, Bd w V (.slice a css.length cap) false (.slice ac c.length cac) x → Calls Tryz.prog 14 #[.slice a css.length cap, .slice ac c.length cac] x fun e w' => e = .returned (.bool (refF css c)) ∧ Hid (Bd w V (.slice a css.length cap) false (.slice ac c.length cac) w')) := by
    intro x hx
    refine (refFirst7_any a ac cap cac css c V x (hg.below hx.bel) (hr.below hx.bel) (by omega) hV hlt (by omega) hls).mono ?_
    rintro e w' ⟨rfl, hb⟩
    exact ⟨rfl, hx.below hb⟩
  have HX := hide (bd_of w V (.slice a css.length cap) false (.slice ac c.length cac))
  have hne : ((css.length : Int) == 262144) = false := by simp; omega
  have e1 : docX V css false c = max V (gtN c) := by simp [docX, hno]
  have e2 : docC css false c = css ++ [c] := by simp [docC, hno]
  have e3 : docE css false c = 0 := by simp [docE, hno]
  have HE := hide (And.intro e1 (And.intro e2 e3))
  have HG := hide hg
  have HR := hide hr
  have HLS := hide hls
  have HNO := hide hno
  clear e1 e2 e3 hg hr hc hm hno hlt hls
  generalize hu : refU css c = u at *
  generalize hf : refF css c = f at *
  clear hu hf
  go_enter Tryz.func18, Tryz.ntmps18
  go_upto_region 12 with fail
  go_cut [67] from 54 to 67 (fun v wx => v = .bool false ∧ Hid (Bd w V (.slice a css.length cap) false (.slice ac c.length cac) wx))
  case first =>
    cases u with
    | true =>
      go_wp2_with (first | (go_at_call 13; refine (GU.out _ HX.out).mono ?_; rintro e w1 ⟨rfl, H1⟩))
      go_meet
      case rel => exact ⟨rfl, H1⟩
    | false =>
      have hf : f = true := by simpa using HNO.out
      subst hf
      go_wp2_with (first | (go_at_call 13; refine (GU.out _ HX.out).mono ?_; rintro e w1 ⟨rfl, H1⟩; have q0 := H1.out.f1; have q1 := H1.out.s1) | (go_at_call 14; refine (GF.out _ H1.out).mono ?_; rintro e w2 ⟨rfl, H2⟩))
      go_meet
      case rel => exact ⟨rfl, H2⟩
  case rest =>
    obtain ⟨rfl, HB⟩ := hcut
    obtain ⟨wd, hwd⟩ : ∃ wd, wd = wc := ⟨wc, rfl⟩
    subst hwd
    clear GU GF HX HNO
    have f0 := HB.out.f0
    have f1 := HB.out.f1
    have s1 := HB.out.s1
    go_upto_region 14 with fail
    obtain ⟨i0, hi, hz0, hz1, hz2⟩ := info_parts Tryz.info25
    obtain ⟨vs, hv, hsrc⟩ := grid_vals HG.out
    have hone := hv.one
    have hvl := hv.len
    have HBW := hide HB.out.bel
    have hMl := HB.out.bel.size
    have HREF : Hid (Below wd.heap.size wd wd) := Below.refl _ _
    have HSRC : Hid (∀ x, Below wd.heap.size wd x → (a = none ∧ css.length = 0 ∧ cap = 0 ∧ vs = []) ∨ ∃ ad, a = some ad ∧ vs.length = css.length * 1 ∧ ∀ j u, vs[j]? = some u → x.cell? (ad.add j) = some u) := fun x hx => src_of han hv hsrc x (HBW.out.trans (hx.mono hMl))
    have hN2 : w.heap.size + 1 + 1 < wd.heap.size := lt_of_block HB.out.b2
    have HVN := hide (gridN_vals HGN.out hv hsrc)
    have HV := hide hv
    clear hsrc hv
    go_cut [9] from 69 to 79 (fun v wx => ∃ X g cp, Hid (AddM wd (vs ++ [.slice ac c.length cac]) (css.length + 1) V v wx X g cp))
    case first =>
      clear HG HR HLS HE HV
      generalize hN : w.heap.size = N at *
      have hNa : N < wd.heap.size := by omega
      have hNb : N + 1 < wd.heap.size := by omega
      go_region_held3 (fun q => q.cell? ⟨N, 0, none⟩ = some (.int .i64 V) ∧ q.cell? ⟨N, 1, none⟩ = some (.slice a css.length cap) ∧ q.cell? ⟨N + 1, 1, none⟩ = some (.slice ac c.length cac)) (first | exact ⟨by assumption, by assumption, by assumption⟩ | exact keep3 r0 r1 r2 (by omega) (by omega) | (refine keepB ?_ f0 f1 s1 hNa hNb; (repeat (first | exact HREF.out | exact HB2.out | exact HB1.out | (refine belD ?_) | (refine belA ?_ (Nat.le_refl _)))); done) | go_keep) (first
        | (refine' step_append_zero ?_ (.tmp 71) (.tmp 73) 22 ?_ wd.heap.size 25 i0 (.slice none 0 0) 1 24 Tryz.underlying22 hi hz0 hz1 hz2 ?_ ?_ _ ?_ (own_lit25 ?_ ?_) ?_ a css.length cap vs ?_ (HSRC.out _ ?_) hone ?_ ?_ ?_ ?_; (focus rfl); (focus rfl); (focus rfl); (focus decide); (focus rfl); (focus (first | exact newAt (by first | rfl | (simp; done)) | exact newAt1 (by first | rfl | (simp; done)) | exact newAt2 (by first | rfl | (simp; done)))); (focus (first | exact Nat.le_refl _ | omega | (simp; done) | (simp; omega))); (focus simp); (focus rfl); (focus (repeat (first | exact HREF.out | (refine belD ?_) | (refine belA ?_ (Nat.le_refl _))))); (focus (unfold maxLen; omega)); (focus omega); (focus (first | exact Nat.le_refl _ | omega | (simp; done) | (simp; omega))); intro g1 cp1 x1 ho1 hgr1 hlt1; have HB1 := hide (grownBel (N := wd.heap.size) (b := wd) hgr1 (by (repeat (first | exact HREF.out | (refine belD ?_) | (refine belA ?_ (Nat.le_refl _))))) (Nat.le_refl _) (by (first | exact Nat.le_refl _ | omega | (simp; done) | (simp; omega)))); (try (refine' litK (sv := .slice ac c.length cac) hgr1 ?_ ?_ ?_; (any_goals (focus (first | exact newAt (by first | rfl | (simp; done)) | exact newAt1 (by first | rfl | (simp; done)) | exact newAt2 (by first | rfl | (simp; done))))); intro HL2; (try simp only [size_alloc] at HL2); replace HL2 := hide HL2)); (try (refine' boxK1 hgr1 ?_ ?_ ?_; (any_goals (focus (first | exact newAt (by first | rfl | (simp; done)) | exact newAt1 (by first | rfl | (simp; done)) | exact newAt2 (by first | rfl | (simp; done))))); intro HBX; (try simp only [size_alloc] at HBX); replace HBX := hide HBX)); have l1 := HB1.out.size; have t0 := (HB1.out.cell (p := ⟨N, 0, none⟩) hNa).trans f0; have t1 := (HB1.out.cell (p := ⟨N, 1, none⟩) hNa).trans f1; have t2 := (HB1.out.cell (p := ⟨N + 1, 1, none⟩) hNb).trans s1)
        | (refine' step_append_any ?_ (.tmp 74) (.tmp 77) 22 ?_ wd.heap.size 25 i0 (.slice none 0 0) 1 24 Tryz.underlying22 hi hz0 hz1 hz2 ?_ ?_ (.slice (some ⟨g1, 0, none⟩) css.length cp1) css.length vs ?_ ?_ ?_ (some ⟨_, 0, none⟩) 1 1 [.slice ac c.length cac] ?_ (Or.inr ⟨_, rfl, rfl, srcBlk ?_⟩) ?_ ?_ ?_ ?_ ?_; (focus rfl); (focus rfl); (focus rfl); (focus decide); (focus rfl); (focus (first | exact ho1 | exact World.ownsRow.alloc ho1 _ | exact World.ownsRow.alloc (World.ownsRow.alloc ho1 _) _)); (focus simp); (focus rfl); (focus (first | exact newAt (by first | rfl | (simp; done)) | exact newAt1 (by first | rfl | (simp; done)) | exact HL2.out | exact (heap_alloc_old _ _ (lt_of_block HL2.out)).trans HL2.out)); (focus (intro u hu; simp at hu; subst hu; rfl)); (focus (unfold maxLen; omega)); (focus omega); (focus (have := HB1.out.size; first | exact this | (simp; done) | (simp; omega) | omega)); intro g2 cp2 x2 ho2 hgr2 hat2 hlt2; have HB2 := hide (grownBel (N := wd.heap.size) (b := wd) hgr2 (by (repeat (first | exact HB1.out | (refine belA ?_ (Nat.le_refl _))))) (Nat.le_refl _) ((World.ownsRow.lt ho1 g1 rfl).1)); (try (refine' boxK2 hgr2 ?_ ?_ ?_; (any_goals (focus (first | exact ho1 | exact World.ownsRow.alloc ho1 _ | exact World.ownsRow.alloc (World.ownsRow.alloc ho1 _) _))); (any_goals (focus (first | exact newAt (by first | rfl | (simp; done)) | exact newAt1 (by first | rfl | (simp; done)) | exact HBX.out | exact (heap_alloc_old _ _ (lt_of_block HBX.out)).trans HBX.out))); intro q0 q1 q2 q3 q4; (try simp only [size_alloc] at q0 q1 q2 q3 q4))); have l2 := HB2.out.size; have r0 := (HB2.out.cell (p := ⟨N, 0, none⟩) hNa).trans f0; have r1 := (HB2.out.cell (p := ⟨N, 1, none⟩) hNa).trans f1; have r2 := (HB2.out.cell (p := ⟨N + 1, 1, none⟩) hNb).trans s1))
      all_goals
        go_wp2_with fail
        go_meet
        case rel =>
          first
            | exact ⟨_, _, _, add_fin1 ho2 HB2.out⟩
            | exact ⟨_, _, _, add_fin2 ho2 HB2.out (by omega) q0⟩
    case rest =>
      obtain ⟨X, g, cp, HA⟩ := hcut
      have hval := HA.out.val
      subst hval
      have HM := hide (am_of HA.out HB.out)
      clear HA HB HREF HSRC HBW f0 f1 s1
      go_upto_region 16 with fail
      go_loopw [10, 11] (fun i _ wr => ∃ k : Nat, k ≤ c.length ∧ i = .int .i64 k ∧ Hid (GrM w wd (vs ++ [.slice ac c.length cac]) (css.length + 1) V (.slice a css.length cap) (.slice ac c.length cac) X g cp (max V (gtN (c.take k))) wr)) (fun i _ _ => c.length - (intOf i).toNat)
      case atStart => exact ⟨0, Nat.zero_le _, rfl, by simpa [gtN] using HM⟩
      case round =>
        obtain ⟨k, hk, rfl, HK⟩ := hrel
        clear HM
        have s1 := HK.out.bd.s1
        by_cases hlt : k < c.length
        · obtain ⟨b, off, rfl, hb, hcell⟩ := HR.out k hlt
          have hck := (HK.out.bd.bel.cell (p := ⟨b, off + k, none⟩) hb).trans hcell
          have hcl := HLS.out c[k] (List.getElem_mem hlt)
          have CV := fun W => var_any c[k] W hcl.1 hcl.2
          rw [varI_abs] at CV
          replace CV := hide CV
          have hlt' : (k : Int) < c.length := by omega
          have x0 := HK.out.c0
          have z0 := HK.out.fz
          have HT : Hid (gtN (c.take (k + 1)) = max (gtN (c.take k)) c[k].natAbs) := by show _ = _; rw [List.take_succ_eq_append_getElem hlt, gtN_snoc]
          by_cases hgt : max V (gtN (c.take k)) < c[k].natAbs
          · have hgi : ((max V (gtN (c.take k)) : Nat) : Int) < (c[k].natAbs : Int) := by omega
            have HN : Hid (GrM w wd (vs ++ [.slice (some ⟨b, off, none⟩) c.length cac]) (css.length + 1) V (.slice a css.length cap) (.slice (some ⟨b, off, none⟩) c.length cac) X g cp (max V (gtN (c.take (k + 1)))) (wr.setCell ⟨X, 0, none⟩ (.int .i64 (c[k].natAbs : Int)))) := by
              have e : max V (gtN (c.take (k + 1))) = c[k].natAbs := by rw [HT.out]; omega
              rw [e]
              exact HK.out.set _
            clear HK hcell hcl hgt HT
            generalize ((max V (gtN (c.take k)) : Nat) : Int) = mm at *
            generalize (c[k].natAbs : Int) = vv at *
            generalize c[k] = ck at *
            go_wp2_with (go_at_call 24; refine (unhide CV _).mono ?_; rintro e w0 ⟨rfl, hw0⟩; subst w0)
            go_roundw
            case rel => exact ⟨k + 1, by omega, by go_num, HN⟩
            case measure => simp [intOf]; omega
          · have hgi : ¬ ((max V (gtN (c.take k)) : Nat) : Int) < (c[k].natAbs : Int) := by omega
            have HN : Hid (GrM w wd (vs ++ [.slice (some ⟨b, off, none⟩) c.length cac]) (css.length + 1) V (.slice a css.length cap) (.slice (some ⟨b, off, none⟩) c.length cac) X g cp (max V (gtN (c.take (k + 1)))) wr) := by
              have e : max V (gtN (c.take (k + 1))) = max V (gtN (c.take k)) := by rw [HT.out]; omega
              rw [e]
              exact HK.out
            clear HK hcell hcl hgt HT
            generalize ((max V (gtN (c.take k)) : Nat) : Int) = mm at *
            generalize (c[k].natAbs : Int) = vv at *
            generalize c[k] = ck at *
            go_wp2_with (go_at_call 24; refine (unhide CV _).mono ?_; rintro e w0 ⟨rfl, hw0⟩; subst w0)
            go_roundw
            case rel => exact ⟨k + 1, by omega, by go_num, HN⟩
            case measure => simp [intOf]; omega
        · have hz : c.take k = c := List.take_of_length_le (by omega)
          rw [hz] at HK
          have x0 := HK.out.c0
          have x1 := HK.out.c1
          have y0 := HK.out.bd.y0
          have y1 := HK.out.bd.y1
          have z0 := HK.out.bd.z0
          have z1 := HK.out.bd.z1
          obtain ⟨q1, q2⟩ := HK.out.finN (HVN.out.snoc (cac := cac) HRN.out (by unfold maxLen; omega)) hNN (.int .i64 ((max V (gtN c) : Nat) : Int)) (.slice (some ⟨g, 0, none⟩) (css.length + 1) cp)
          have Q3 : Hid (css.length + 1 ≤ cp ∧ cp ≤ maxLen) := by
            obtain ⟨g9, c9, e9, h9, h10, _⟩ := own_some HK.out.own (by omega)
            simp at e9
            obtain ⟨_, rfl⟩ := e9
            exact ⟨h9, h10⟩
          have Q1 := hide q1
          have Q2 := hide q2
          clear q1 q2 HK hz
          generalize hmm : ((max V (gtN c) : Nat) : Int) = mm at *
          have HMM := hide hmm
          clear hmm
          go_wp2_with fail
          refine bodyPost_ret (v := .tuple #[.agg #[.int .i64 mm, .slice (some ⟨g, 0, none⟩) (css.length + 1) cp], .int .i64 0]) (by simp [results, Tryz.results18, go_sem, y0, y1]) rfl ?_
          unfold DocQ
          rw [HE.out.1, HE.out.2.1, HE.out.2.2, HMM.out]
          have hlen : (css ++ [c]).length = css.length + 1 := by simp
          rw [hlen]
          exact ⟨some ⟨g, 0, none⟩, cp, rfl, Q1.out, Q2.out, fun h => (by cases h), Q3.out⟩
end Go.Proofs.YtlmbgaconjcaiaaGreat
