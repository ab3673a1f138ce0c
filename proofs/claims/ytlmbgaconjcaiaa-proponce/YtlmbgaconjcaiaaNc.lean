/- Contracts of the law: a trail is as it must be. -/
import Derived.Test.YtlmbgaconjcaiaaNa
import Derived.Test.YtlmbgaconjcaiaaMc
import Derived.Deep.RegionHeld3
import Derived.BigQuiet
set_option linter.unusedVariables false
set_option linter.unusedSimpArgs false
namespace Go.Proofs.Ytlmbgaconjcaiaa
open Go.RowKit

theorem dec_len (s : PS) : s.dec.length = s.lvs.length := by simp [PS.dec]

theorem Row.take {w : World} {a : Option Addr} {xs : List Int} (h : Row w a xs) (k : Nat) : Row w a (xs.take k) := fun i hi => by
  have hi' : i < xs.length := by simp at hi; omega
  obtain ⟨b, off, e, hb, hc⟩ := h i hi'
  exact ⟨b, off, e, hb, by rw [hc]; simp⟩

/-- Where a reason is, no decision is. -/
theorem at_other {s : PS} (h : Inv s) {i : Nat} {x y : Int} (hx : s.trail[i]? = some x) (hno : lvB s.lvs (i + 1) = lvB s.lvs i) (hy : s.dec[lvB s.lvs i]? = some y) : y ≠ x := by
  rintro rfl
  unfold PS.dec at hy
  rw [List.getElem?_map, Option.map_eq_some_iff] at hy
  obtain ⟨v, hv, he⟩ := hy
  have hs := h.tr.sl v (List.mem_of_getElem? hv)
  have hvy : s.trail[v.start]? = some y := by
    rw [List.getElem?_eq_getElem hs]
    rw [List.getD_eq_getElem?_getD, List.getElem?_eq_getElem hs] at he
    simpa using he
  have e := nd_inj h.tr.nd hvy hx
  obtain ⟨k1, k2⟩ := lvB_at s.lvs _ i v h.tr.st hv e
  omega

section
variable {ρ : Nat → Rl} {w : World} {B : Nat} {H : Hd} {s : PS}

set_option maxHeartbeats 40000000 in
set_option maxRecDepth 100000 in
theorem lawSound_any (h : Rep ρ w B H s) (hI : Inv s) (hlits : ∀ c ∈ s.cls, c.lits.length ≤ 5000) (V : Nat) (a2 a3 a4 : Option Addr) (n2 c2 n3 c3 c4 : Nat) (hd : DR ρ w (.slice a4 s.dec.length c4) s.dec.length s.dec) :
    Calls Try.prog 13 #[.agg #[.pointer (some ⟨B, 0, none⟩), .int .i64 V, .slice a2 n2 c2, .slice a3 n3 c3, .slice a4 s.dec.length c4]] w fun e w' => e = .returned (.bool true) ∧ Below w.heap.size w w' := by
  have hVs := hI.sz.vars
  have htl : s.trail.length ≤ 1048576 := by have := trail_len hI.tr; omega
  have hlv := lvs_len hI.tr
  have hdl := dec_len s
  have hcls := hI.sz.cls
  have hbW := below_alloc w (.cells #[.pointer (some ⟨B, 0, none⟩), .int .i64 V, .slice a2 n2 c2, .slice a3 n3 c3, .slice a4 s.dec.length c4] 36)
  have HK := hide (heap_alloc_new w (.cells #[.pointer (some ⟨B, 0, none⟩), .int .i64 V, .slice a2 n2 c2, .slice a3 n3 c3, .slice a4 s.dec.length c4] 36))
  have hlt0 : w.heap.size < (w.alloc (.cells #[.pointer (some ⟨B, 0, none⟩), .int .i64 V, .slice a2 n2 c2, .slice a3 n3 c3, .slice a4 s.dec.length c4] 36)).heap.size := by simp
  have TR := hide (propTrail_any (h.alloc (.cells #[.pointer (some ⟨B, 0, none⟩), .int .i64 V, .slice a2 n2 c2, .slice a3 n3 c3, .slice a4 s.dec.length c4] 36)) htl)
  obtain ⟨_, hrow, _⟩ := own_row3 hd.1
  have HB0 := hide hbW
  have HH := hide h
  have HI := hide hI
  have HS := hide hI.shp
  have HD := hide hrow
  have HLI := hide hlits
  have HEND := hide (at_end hI)
  have HDL := hide hdl
  have HLT0 := hide hlt0
  clear h hI hbW hd hrow hlits hlt0
  have hdl2 : s.dec.length ≤ 1048576 := by omega
  clear hdl hlv
  go_enter Try.func13, Try.ntmps13
  go_wp2_with (go_at_call 15; refine (unhide TR).mono ?_; rintro e w2 ⟨v, rfl, ho, hb⟩; obtain ⟨ta, tc, rfl, hrow, hlen, hcap⟩ := Own.row ho)
  have HB2 := hide (HB0.out.trans (hb.mono HB0.out.size))
  have HK2 : Hid (w2.heap[w.heap.size]? = some (.cells #[.pointer (some ⟨B, 0, none⟩), .int .i64 V, .slice a2 n2 c2, .slice a3 n3 c3, .slice a4 s.dec.length c4] 36 (0, 0))) := (hb.block _ HLT0.out).trans HK.out
  have HROW := hide hrow
  have HTM : Hid (s.trail.length ≤ maxLen) := hide hlen
  clear HK TR HB0 ho hb hrow hlen HLT0
  go_loopw [4, 5] (fun v4 v5 wr => ∃ k : Nat, k ≤ s.trail.length ∧ v5 = .int .i64 k ∧ v4 = .int .i64 ((lvB s.lvs k : Nat) : Int) ∧ Hid (Below w2.heap.size w2 wr)) (fun _ v5 _ => s.trail.length - (intOf v5).toNat)
  case atStart => exact ⟨0, Nat.zero_le _, rfl, by simp [lvB], Below.refl _ _⟩
  case round =>
    obtain ⟨k, hk, rfl, rfl, HB⟩ := hrel
    have HBW := hide (HB2.out.trans (HB.out.mono HB2.out.size))
    have HR := hide (HH.out.below HBW.out)
    have hkb := (HB.out.block _ (lt_of_block HK2.out)).trans HK2.out
    have p0 := cell_of_block hkb (i := 0) rfl
    have p4 := cell_of_block hkb (i := 4) rfl
    have hb1 := lt_of_block hkb
    clear hkb
    by_cases hlt : k < s.trail.length
    · have hxe : s.trail[k]? = some s.trail[k] := List.getElem?_eq_getElem hlt
      have HAT := hide (at_place HI.out hxe)
      have HXE := hide hxe
      obtain ⟨bb, off, rfl, hbb, hcell0⟩ := HROW.out k hlt
      have hcell := (HB.out.cell (p := ⟨bb, off + k, none⟩) hbb).trans hcell0
      have hbbr : bb < wr.heap.size := Nat.lt_of_lt_of_le hbb HB.out.size
      have hki : (k : Int) < s.trail.length := by omega
      have hkc : k ≤ tc := by omega
      have HX : Hid (∀ (n : Int) (W : World), Below wr.heap.size wr W → Calls Try.prog 40 #[.slice (some ⟨bb, off, none⟩) k tc, .int .i64 n] W fun e w' => e = .returned (.bool (hasB (s.trail.take k) n)) ∧ w' = W) := by
        intro n W hW
        have := has_any (some ⟨bb, off, none⟩) tc (s.trail.take k) n W (((HROW.out.below HB.out).below hW).take k) (by have := HTM.out; rw [List.length_take]; omega)
        rw [List.length_take, Nat.min_eq_left hk] at this
        exact this
      have RS : Hid (∀ W, Below wr.heap.size wr W → Calls Try.prog 28 #[.pointer (some ⟨B, 0, none⟩), .int .i64 s.trail[k]] W fun e w' => e = .returned (.int .i64 (s.rsnT s.trail[k])) ∧ ∃ n, w' = W.drewN n) := fun W hW => propReason_any (HR.out.below hW) HS.out _
      have LV : Hid (∀ (y : Int) W, Below wr.heap.size wr W → Calls Try.prog 43 #[.pointer (some ⟨B, 0, none⟩), .int .i64 y] W fun e w' => e = .returned (.int .i64 (s.levT y)) ∧ ∃ n, w' = W.drewN n) := fun y W hW => propLevel_any (HR.out.below hW) HS.out y
      have VL : Hid (∀ (y : Int) W, Below wr.heap.size wr W → Calls Try.prog 27 #[.pointer (some ⟨B, 0, none⟩), .int .i64 y] W fun e w' => e = .returned (.int .i64 (s.valT y)) ∧ ∃ n, w' = W.drewN n) := fun y W hW => propValue_any (HR.out.below hW) HS.out y
      have HXL := hide HAT.out.lt
      have hwr : IntKind.i64.wrap (-s.trail[k]) = -s.trail[k] := by have := HXL.out; unfold Lt at this; exact wrap_neg (by omega) (by omega)
      clear hxe hcell0
      rcases HAT.out.who with ⟨hr, hd1, hd2, hd3⟩ | ⟨i, c, hr, hc, hg, hxc, hbk, hd3⟩
      · obtain ⟨bd, od, rfl, hbd, hcd0⟩ := HD.out (lvB s.lvs k) hd1
        rw [List.getElem?_eq_getElem hd1, Option.some.injEq] at hd2
        rw [hd2] at hcd0
        have hcd := (HBW.out.cell (p := ⟨bd, od + lvB s.lvs k, none⟩) hbd).trans hcd0
        have hd1' : ((lvB s.lvs k : Nat) : Int) < s.dec.length := by omega
        have hdec : decide (lvB s.lvs k < s.dec.length) = true := decide_eq_true hd1
        rw [hr] at RS
        have HL3 := hide hd3
        have q1 : (s.levT s.trail[k] != ((lvB s.lvs k : Nat) : Int) + 1) = false := by rw [HAT.out.lev.1, hd3]; simp
        have q2 : (s.levT (-s.trail[k]) != ((lvB s.lvs k : Nat) : Int) + 1) = false := by rw [HAT.out.lev.2, hd3]; simp
        have q3 : (s.valT s.trail[k] != 1) = false := by rw [HAT.out.val.1]; rfl
        have q4 : (s.valT (-s.trail[k]) != -1) = false := by rw [HAT.out.val.2]; rfl
        have q5 := HAT.out.new.1
        have q6 := HAT.out.new.2
        have hlb : lvB s.lvs k ≤ 1048576 := by omega
        clear hcd0 hd2 hd3 hr HAT HXE HXL
        generalize s.trail[k] = x at *
        generalize s.trail.take k = tk at *
        generalize s.dec.length = ND at *
        go_wp2_with fail
        go_quiet (first | (go_at_call 28; exact Calls.quiet_of (RS.out _ (below_drewN _ _))))
        go_wp2_with fail
        go_quiet (fail)
        go_wp2_with fail
        refine forget (P := fun W => Code.wp Try.prog _ _ _ W) (fun W => Below wr.heap.size wr W) (bquiet (Below.refl _ _) _) ?_
        intro W5 hW5
        have r0 := (hW5.cell (p := ⟨w.heap.size, 0, none⟩) hb1).trans p0
        have rc := (hW5.cell (p := ⟨bb, off + k, none⟩) hbbr).trans hcell
        have HB5 : Hid (Below w2.heap.size w2 W5) := HB.out.trans (hW5.mono HB.out.size)
        have HW5 := hide hW5
        clear p0 p4 hcell hcd hW5
        go_quiet (first | (go_at_call 43; exact Calls.quiet_of (LV.out _ _ (bquiet HW5.out _))) | (go_at_call 27; exact Calls.quiet_of (VL.out _ _ (bquiet HW5.out _))) | (go_at_call 40; exact Calls.quiet_of_same (HX.out _ _ (bquiet HW5.out _))))
        go_wp2_with fail
        go_roundw
        case rel => exact ⟨k + 1, by omega, by go_num, by rw [HL3.out]; go_num, bquiet HB5.out _⟩
        case measure => simp [intOf]; omega
      · have hcn := HLI.out c (List.mem_of_getElem? hc)
        have hil : i < s.cls.length := (List.getElem?_eq_some_iff.1 hc).1
        have HNE : Hid (∀ y, s.dec[lvB s.lvs k]? = some y → y ≠ s.trail[k]) := fun y hy => at_other HI.out HXE.out hd3 hy
        rw [hr] at RS
        have CP : Hid (∀ W, Below wr.heap.size wr W → Calls Try.prog 39 #[.pointer (some ⟨B, 0, none⟩), .int .i64 (i : Int)] W fun e w' => ClauseP W c.lits e w') := fun W hW => propClause_yes (HR.out.below hW) i c hc hg hcls (by omega)
        have HL3 := hide hd3
        have q1 : (s.levT s.trail[k] != ((lvB s.lvs k : Nat) : Int)) = false := by rw [HAT.out.lev.1, hd3]; simp
        have q2 : (s.levT (-s.trail[k]) != ((lvB s.lvs k : Nat) : Int)) = false := by rw [HAT.out.lev.2, hd3]; simp
        have q3 : (s.valT s.trail[k] != 1) = false := by rw [HAT.out.val.1]; rfl
        have q4 : (s.valT (-s.trail[k]) != -1) = false := by rw [HAT.out.val.2]; rfl
        have q5 := HAT.out.new.1
        have q6 := HAT.out.new.2
        have HC : Hid (∀ (xa : Option Addr) (xc : Nat) (W : World), Row W xa c.lits → Calls Try.prog 40 #[.slice xa c.lits.length xc, .int .i64 s.trail[k]] W fun e w' => e = .returned (.bool true) ∧ w' = W) := fun xa xc W hW => by
          have := has_any xa xc c.lits s.trail[k] W hW (by unfold maxLen; omega)
          rw [hasB_true.2 hxc] at this; exact this
        have WO : Hid (∀ (xa : Option Addr) (xc : Nat) (W : World), Row W xa c.lits → Calls Try.prog 42 #[.slice xa c.lits.length xc, .int .i64 s.trail[k]] W fun e w' => ∃ v, e = .returned v ∧ Own W.heap.size w' v (wo c.lits s.trail[k]) ∧ v ≠ .slice none 0 0 ∧ Below W.heap.size W w') := fun xa xc W hW => refWithout_any xa xc c.lits _ W hW hcn
        have BK : Hid (∀ (ya : Option Addr) (yc : Nat) (W : World), Row W ya (wo c.lits s.trail[k]) → Below wr.heap.size wr W → Calls Try.prog 41 #[.slice ya (wo c.lits s.trail[k]).length yc, .slice (some ⟨bb, off, none⟩) k tc] W fun e w' => e = .returned (.bool true) ∧ w' = W) := fun ya yc W hW hB => by
          have hlw : (wo c.lits s.trail[k]).length ≤ 5000 := Nat.le_trans (List.length_filter_le _ _) hcn
          have := refBroken_any ya (some ⟨bb, off, none⟩) yc tc (wo c.lits s.trail[k]) (s.trail.take k) W hW (((HROW.out.below HB.out).below hB).take k) (by omega) (by have := HTM.out; rw [List.length_take]; omega) (fun x hx => by
            have hx' : x ∈ c.lits := (List.mem_filter.1 hx).1
            have := HI.out.wt.ok i c hc x hx'
            unfold Lt at this; omega)
          rw [List.length_take, Nat.min_eq_left hk, hbk] at this
          exact this
        have hlb : lvB s.lvs k ≤ 1048576 := Nat.le_trans (List.countP_le_length) (by have := lvs_len HI.out.tr; omega)
        have hini : (0 : Int) ≤ (i : Int) := by omega
        have him : ((i : Int) == -1) = false := by simp
        clear hd3 hr HAT HXE HXL hc hg hxc hbk
        generalize s.trail[k] = x at *
        generalize s.trail.take k = tk at *
        generalize wo c.lits x = cw at *
        generalize c.lits = cl at *
        by_cases hA : lvB s.lvs k < s.dec.length
        · obtain ⟨bd, od, rfl, hbd, hcd0⟩ := HD.out (lvB s.lvs k) hA
          have hcd := (HBW.out.cell (p := ⟨bd, od + lvB s.lvs k, none⟩) hbd).trans hcd0
          have hd1' : ((lvB s.lvs k : Nat) : Int) < s.dec.length := by omega
          have hdec : decide (lvB s.lvs k < s.dec.length) = true := decide_eq_true hA
          have hyx : (x == s.dec[lvB s.lvs k]) = false := by
            have := HNE.out _ (List.getElem?_eq_getElem hA)
            simp; exact fun e => this e.symm
          clear hcd0 HNE
          generalize s.dec[lvB s.lvs k] = y at *
          generalize s.dec.length = ND at *
          go_wp2_with fail
          go_quiet (first | (go_at_call 28; exact Calls.quiet_of (RS.out _ (below_drewN _ _))))
          go_wp2_with fail
          go_quiet (fail)
          go_wp2_with fail
          refine (CP.out _ (bquiet (Below.refl _ _) _)).mono ?_
          rintro e w5 ⟨v5, rfl, ho5, hb5⟩
          obtain ⟨xa, xc, rfl, hrow5, hlen5, _⟩ := Own.row ho5
          replace hb5 : Below wr.heap.size wr w5 := ⟨hb5.os, hb5.tape, hb5.output, hb5.size, hb5.block⟩
          have HW5 := hide hb5
          have rc := (hb5.cell (p := ⟨bb, off + k, none⟩) hbbr).trans hcell
          have hbb5 : bb < w5.heap.size := Nat.lt_of_lt_of_le hbbr hb5.size
          have HRW5 := hide hrow5
          clear ho5 hb5 hlen5 hrow5 p4 hcd CP RS
          simp only
          go_wp2_with fail
          go_region_held3 (fun q => q.cell? ⟨bb, off + k, none⟩ = some (.int .i64 x)) (first | assumption | go_keep) (first
            | (go_at_call 40; refine (HC.out _ _ _ (HRW5.out.below (by first | exact Below.refl _ _ | exact (Below.refl _ _).drew))).mono ?_; rintro e w0 ⟨rfl, hw0⟩; subst w0)
            | (go_at_call 42; refine (WO.out _ _ _ (HRW5.out.below (by first | exact Below.refl _ _ | exact (Below.refl _ _).drew))).mono ?_; rintro e w6 ⟨v6, rfl, ho6, _, hb6⟩; obtain ⟨ya, yc, rfl, hrow6, hlen6, _⟩ := Own.row ho6; replace hb6 : Below w5.heap.size w5 w6 := ⟨hb6.os, hb6.tape, hb6.output, hb6.size, hb6.block⟩; have rc6 := (hb6.cell (p := ⟨bb, off + k, none⟩) hbb5).trans rc; have hb6w := HW5.out.trans (hb6.mono HW5.out.size))
            | (go_at_call 41; refine (BK.out _ _ _ hrow6 hb6w).mono ?_; rintro e w0 ⟨rfl, hw0⟩; subst w0))
          go_wp2_with fail
          refine forget (P := fun W => Code.wp Try.prog _ _ _ W) (fun W => Below wr.heap.size wr W) (by first | exact hb6w | exact ⟨hb6w.os, hb6w.tape, hb6w.output, hb6w.size, hb6w.block⟩) ?_
          intro W7 hW7
          have r0 := (hW7.cell (p := ⟨w.heap.size, 0, none⟩) hb1).trans p0
          have rk := (hW7.cell (p := ⟨bb, off + k, none⟩) hbbr).trans hcell
          have HB7 : Hid (Below w2.heap.size w2 W7) := HB.out.trans (hW7.mono HB.out.size)
          have HW7 := hide hW7
          clear p0 hcell hW7 hb6 hb6w rc rc6 hrow6 ho6 hlen6 hbb5 HW5 HRW5
          go_quiet (first | (go_at_call 43; exact Calls.quiet_of (LV.out _ _ (bquiet HW7.out _))) | (go_at_call 27; exact Calls.quiet_of (VL.out _ _ (bquiet HW7.out _))) | (go_at_call 40; exact Calls.quiet_of_same (HX.out _ _ (bquiet HW7.out _))))
          go_wp2_with fail
          go_roundw
          case rel => exact ⟨k + 1, by omega, by go_num, by rw [HL3.out], bquiet HB7.out _⟩
          case measure => simp [intOf]; omega
        · have hd1' : ¬ ((lvB s.lvs k : Nat) : Int) < s.dec.length := by omega
          have hdec : decide (lvB s.lvs k < s.dec.length) = false := decide_eq_false hA
          clear HNE
          generalize s.dec.length = ND at *
          go_wp2_with fail
          go_quiet (first | (go_at_call 28; exact Calls.quiet_of (RS.out _ (below_drewN _ _))))
          go_wp2_with fail
          go_quiet (fail)
          go_wp2_with fail
          refine (CP.out _ (bquiet (Below.refl _ _) _)).mono ?_
          rintro e w5 ⟨v5, rfl, ho5, hb5⟩
          obtain ⟨xa, xc, rfl, hrow5, hlen5, _⟩ := Own.row ho5
          replace hb5 : Below wr.heap.size wr w5 := ⟨hb5.os, hb5.tape, hb5.output, hb5.size, hb5.block⟩
          have HW5 := hide hb5
          have rc := (hb5.cell (p := ⟨bb, off + k, none⟩) hbbr).trans hcell
          have hbb5 : bb < w5.heap.size := Nat.lt_of_lt_of_le hbbr hb5.size
          have HRW5 := hide hrow5
          clear ho5 hb5 hlen5 hrow5 p4 CP RS
          simp only
          go_wp2_with fail
          go_region_held3 (fun q => q.cell? ⟨bb, off + k, none⟩ = some (.int .i64 x)) (first | assumption | go_keep) (first
            | (go_at_call 40; refine (HC.out _ _ _ (HRW5.out.below (by first | exact Below.refl _ _ | exact (Below.refl _ _).drew))).mono ?_; rintro e w0 ⟨rfl, hw0⟩; subst w0)
            | (go_at_call 42; refine (WO.out _ _ _ (HRW5.out.below (by first | exact Below.refl _ _ | exact (Below.refl _ _).drew))).mono ?_; rintro e w6 ⟨v6, rfl, ho6, _, hb6⟩; obtain ⟨ya, yc, rfl, hrow6, hlen6, _⟩ := Own.row ho6; replace hb6 : Below w5.heap.size w5 w6 := ⟨hb6.os, hb6.tape, hb6.output, hb6.size, hb6.block⟩; have rc6 := (hb6.cell (p := ⟨bb, off + k, none⟩) hbb5).trans rc; have hb6w := HW5.out.trans (hb6.mono HW5.out.size))
            | (go_at_call 41; refine (BK.out _ _ _ hrow6 hb6w).mono ?_; rintro e w0 ⟨rfl, hw0⟩; subst w0))
          go_wp2_with fail
          refine forget (P := fun W => Code.wp Try.prog _ _ _ W) (fun W => Below wr.heap.size wr W) (by first | exact hb6w | exact ⟨hb6w.os, hb6w.tape, hb6w.output, hb6w.size, hb6w.block⟩) ?_
          intro W7 hW7
          have r0 := (hW7.cell (p := ⟨w.heap.size, 0, none⟩) hb1).trans p0
          have rk := (hW7.cell (p := ⟨bb, off + k, none⟩) hbbr).trans hcell
          have HB7 : Hid (Below w2.heap.size w2 W7) := HB.out.trans (hW7.mono HB.out.size)
          have HW7 := hide hW7
          clear p0 hcell hW7 hb6 hb6w rc rc6 hrow6 ho6 hlen6 hbb5 HW5 HRW5
          go_quiet (first | (go_at_call 43; exact Calls.quiet_of (LV.out _ _ (bquiet HW7.out _))) | (go_at_call 27; exact Calls.quiet_of (VL.out _ _ (bquiet HW7.out _))) | (go_at_call 40; exact Calls.quiet_of_same (HX.out _ _ (bquiet HW7.out _))))
          go_wp2_with fail
          go_roundw
          case rel => exact ⟨k + 1, by omega, by go_num, by rw [HL3.out], bquiet HB7.out _⟩
          case measure => simp [intOf]; omega
    · obtain rfl : k = s.trail.length := by omega
      have hE := HEND.out
      have hD := HDL.out
      have LV := hide (propLevels_any HR.out)
      have e1 : lvB s.lvs s.trail.length = s.dec.length := hE
      have e2 : s.lvs.length = s.dec.length := hD.symm
      rw [e1]
      rw [e2] at LV
      clear e1 e2 hE hD HEND HDL
      go_wp2_with (go_at_call 44; refine (unhide LV).mono ?_; rintro e w0 ⟨rfl, hw0⟩; subst w0)
      go_ret
      exact ⟨rfl, HBW.out⟩
end
end Go.Proofs.Ytlmbgaconjcaiaa
