/- Contracts: all late clauses are settled. -/
import Derived.Test.YtlmbgaconjcaiabGg
import Derived.Test.YtlmbgaconjcaiabGh
import Derived.Test.YtlmbgaconjcaiabPlainK
set_option linter.unusedVariables false
set_option linter.unusedSimpArgs false
namespace Go.Proofs.Ytlmbgaconjcaiab
open Go.RowKit

theorem Inv.shp {s : PS} (h : Inv s) : Shp s := ⟨h.sz.vars, h.sz.vals, h.sz.wat, h.sz.fac, h.sz.bit, h.sz.num⟩
theorem Inv.vld {s : PS} (h : Inv s) : Vld s := ⟨fun q hq p hp => by
  obtain ⟨j, hj⟩ := List.mem_iff_getElem?.1 hq
  exact h.widx hj p hp, h.sz.lv, h.sz.la⟩
theorem Inv.small {s : PS} (h : Inv s) (hl : ∀ c ∈ s.cls, c.lits.length ≤ 10000) : Small s := by
  have h1 := h.sz.cls
  have h2 := h.sz.sum
  have h3 := lvs_len h.tr
  have h4 := trail_len h.tr
  have h5 := h.sz.vars
  have h6 := h.sz.count
  have h7 := h.sz.stale
  refine ⟨h1, fun q hq => ?_, by omega, fun v hv => ?_, by omega, by omega, ⟨h6.1, by omega⟩, ⟨h7.1, by omega⟩, hl⟩
  · obtain ⟨j, hj⟩ := List.mem_iff_getElem?.1 hq
    have := h.wlen hj; omega
  · have := le_sum s.lvs v hv; omega

/-- How many late clauses there are, read off the memory. -/
def hereL (B : Nat) (w : World) : Nat := match w.cell? ⟨B, 11, none⟩ with
  | some (.slice _ n _) => n
  | _ => 0

section
variable {ρ : Nat → Rl} {w : World} {B : Nat} {H : Hd} {s : PS}

theorem Rep.hereL (h : Rep ρ w B H s) : hereL B w = s.late.length := by
  obtain ⟨a, cap, e, _⟩ := own_form (h.hold.own (11, 0) _ rfl)
  simp only at e
  unfold Ytlmbgaconjcaiab.hereL
  rw [h.c11, e]

/-- The last late clause is taken off the list. -/
theorem Rep.latePop (h : Rep ρ w B H s) {pre : List Nat} {i g cap : Nat} (hl : s.late = pre ++ [i]) (eav : H.av = .slice (some ⟨g, 0, none⟩) (pre.length + 1) cap) {w' : World} (hD : DelP w 0 80 1 g pre.length cap (ptrsC H.cb s.late) w') :
    (w'.cell? ⟨B, 11, none⟩ = some (.slice (some ⟨g, 0, none⟩) (pre.length + 1) cap) ∧ w'.frozen? ⟨B, 11, none⟩ = false) ∧
    Rep (rs ρ g (11, 0)) (w'.setCell ⟨B, 11, none⟩ (.slice (some ⟨g, 0, none⟩) pre.length cap)) B { H with av := .slice (some ⟨g, 0, none⟩) pre.length cap } { s with late := pre } ∧ Ev ρ w (rs ρ g (11, 0)) (w'.setCell ⟨B, 11, none⟩ (.slice (some ⟨g, 0, none⟩) pre.length cap)) := by
  obtain ⟨h1, h2⟩ := hD
  have hg : H.av.ownBlock = some g := by rw [eav]; rfl
  have hgB : g ≠ B := h.hold.ne (r := (11, 0)) (q := (0, 0)) rfl hg rfl rfl (by decide)
  have e : w'.heap[B]? = w.heap[B]? := h1.block B h.lt (by simpa using Ne.symm hgB)
  have hgr : w.grownBy w' H.av.ownBlock := by rw [hg]; exact h1
  have ho : w'.ownsRow 0 80 1 (.slice (some ⟨g, 0, none⟩) pre.length cap) pre.length (ptrsC H.cb pre) := by
    have : (ptrsC H.cb s.late).take (pre.length * 1) = ptrsC H.cb pre := by rw [hl]; simp [ptrsC]
    rw [← this]; exact h2
  refine ⟨⟨(World.cell?_of_block (a := ⟨B, 11, none⟩) e).trans (by rw [h.c11, eav]), (World.frozen?_of_block (a := ⟨B, 11, none⟩) e).trans (h.fz 11)⟩, ?_⟩
  exact h.avTurn (gg := g) hgr ho (fun k hk => by simp [Value.ownBlock] at hk; exact hk.symm) (.inl hg)

def SettP (ρ : Nat → Rl) (w : World) (B : Nat) (s : PS) (n : Int) (w' : World) : Prop :=
  ∃ ρ' H' s', Rep ρ' w' B H' s' ∧ Inv s' ∧ Ev ρ w ρ' w' ∧ Frm s s' ∧ ((n = -1 ∧ s'.late = []) ∨ Brk s' n)

set_option maxHeartbeats 4000000 in
set_option maxRecDepth 100000 in
theorem settleLate_any (h : Rep ρ w B H s) (hI : Inv s) (hl : ∀ c ∈ s.cls, c.lits.length ≤ 10000) :
    Calls Try.prog 72 #[.pointer (some ⟨B, 0, none⟩)] w fun e w' => ∃ n, e = .returned (.int .i64 n) ∧ SettP ρ w B s n w' := by
  have HH := hide h
  have HI := hide hI
  clear h hI
  go_enter Try.func72, Try.ntmps72
  go_wp2
  go_loopw [] (fun wr => ∃ ρ1 H1 s1, Rep ρ1 wr B H1 s1 ∧ Inv s1 ∧ Ev ρ w ρ1 wr ∧ Frm s s1) (fun wr => hereL B wr)
  case atStart => exact ⟨ρ, H, s, HH.out, HI.out, Ev.refl _ _, Frm.refl _⟩
  case round =>
    clear HH HI
    obtain ⟨ρ1, H1, s1, hR, hI, hE, hF⟩ := hrel
    have hl1 := hF.lits hl
    have hM := hI.small hl1
    have HF := hide hF
    have HE := hide hE
    have HI := hide hI
    have hlen := hM.late
    have c11 := hR.c11
    have HL := hide hR.hereL
    obtain ⟨aa, ca, ea, _⟩ := own_form (hR.hold.own (11, 0) _ rfl)
    simp only at ea
    by_cases h0 : s1.late = []
    · rw [ea, h0] at c11
      have HR := hide hR
      clear hR ea hM hF hE hI
      go_wp2
      go_ret
      exact ⟨_, rfl, _, _, s1, HR.out, HI.out, HE.out, HF.out, .inl ⟨rfl, h0⟩⟩
    · obtain ⟨pre, i, hpre⟩ := late_pop s1 h0
      have hil : i < s1.cls.length := HI.out.sz.la i (by rw [hpre]; simp)
      obtain ⟨c, hc⟩ : ∃ c, s1.cls[i]? = some c := ⟨_, List.getElem?_eq_getElem hil⟩
      obtain ⟨g, cap, eav, hg, hn1, hn2, hglt, hgB, hcel, _⟩ := hR.row (r := (11, 0)) rfl (by decide) (by simp only [hpre]; simp)
      simp only at eav hn1 hcel
      have hpl : s1.late.length = pre.length + 1 := by rw [hpre]; simp
      rw [hpl] at eav hn1 hlen
      rw [eav] at c11
      have d := hcel pre.length (ptrC H1.cb i) (by rw [hpre]; simp [ptrsC])
      simp only [ptrC] at d
      obtain ⟨o0, _, _, _, o4, _, hol, _⟩ := hR.obj hc
      have hnl : pre.length + 1 ≤ 1048576 := hlen
      have hkl : (0 : Int) < pre.length + 1 := by omega
      have hwk : IntKind.i64.wrap (pre.length : Int) = pre.length := by rw [IntKind.wrap_i64]; omega
      unfold maxLen at hn2
      cases hgone : c.gone with
      | true =>
        rw [hgone] at o4
        have DL := delete61 wr g (pre.length + 1) pre.length cap (ptrsC H1.cb s1.late) (by have := hR.hold.own (11, 0) _ rfl; simp only at this; rw [eav, hpl] at this; exact this) (by omega) hn1 (by unfold maxLen; omega)
        rw [show ((pre.length + 1 : Nat) : Int) = (pre.length : Int) + 1 by omega] at DL
        have FN := hide (fun w' (hD : DelP wr 0 80 1 g pre.length cap (ptrsC H1.cb s1.late) w') => hR.latePop hpre eav hD)
        replace DL := hide DL
        have HC := hide hc
        have HP := hide hpre
        have HGO := hide hgone
        clear hR ea eav hcel hM hF hE hI hc h0 hpre hgone hg
        generalize H1.cb i = b at *
        go_wp2_with fail
        refine (unhide DL).mono ?_
        rintro e w2 ⟨rfl, hD⟩
        obtain ⟨⟨k1, k2⟩, hR2, hE2⟩ := FN.out w2 hD
        have HR2 := hide hR2
        have HE2 := hide hE2
        have HL2 := hide hR2.hereL
        clear hR2 hE2 hD
        go_wp2
        go_roundw
        case rel => exact ⟨_, _, _, HR2.out, late_drop HI.out HP.out HC.out (fun h => by rw [HGO.out] at h; cases h), HE.out.trans HE2.out, HF.out.trans ⟨rfl, rfl, rfl, rfl, rfl, [], by simp⟩⟩
        case measure => rw [HL2.out, HL.out, HP.out]; simp
      | false =>
        rw [hgone] at o4
        have ST := settle_any hR hI.shp hM i c hc (hI.wt.ok i c hc)
        replace ST := hide ST
        have HR := hide hR
        have HC := hide hc
        have HP := hide hpre
        have HGO := hide hgone
        have HCL := hide c11
        cases hr : (s1.settle i c.lits).1 with
        | false =>
          rw [hr] at ST
          obtain ⟨hs1, hs2⟩ := settle_no hI hc hr
          have HS1 := hide hs1
          have HS2 := hide hs2
          clear hR ea eav hcel hM hF hE hI hc h0 hpre hgone hg hr hs1 hs2
          generalize hb : H1.cb i = b at *
          go_wp2_with fail
          refine (unhide ST).mono ?_
          rintro e w2 ⟨rfl, ρ2, H2, hR2, hcb2, hE2⟩
          rw [HS1.out] at hR2
          obtain ⟨p0, _⟩ := hR2.obj HC.out
          rw [hcb2, hb] at p0
          have HR2 := hide hR2
          have HE2 := hide hE2
          clear hR2 hE2 hcb2
          go_wp2
          go_ret
          exact ⟨_, rfl, ρ2, H2, s1, HR2.out, HI.out, HE.out.trans HE2.out, HF.out, .inr ⟨i, c, rfl, HC.out, HGO.out, HS2.out⟩⟩
        | true =>
          rw [hr] at ST
          have HY := hide (settle_yes hI hpre hc hgone hr)
          have HFS := hide (settle_frm (s := s1) i c.lits pre)
          obtain ⟨hsl, hsc⟩ := settle_late (s := s1) i c.lits
          have HSL := hide hsl
          clear hR ea eav hcel hM hF hE hI hc h0 hpre hgone hg hr hsl hsc
          generalize hb : H1.cb i = b at *
          generalize (s1.settle i c.lits).2 = t at *
          go_wp2_with fail
          refine (unhide ST).mono ?_
          rintro e w2 ⟨rfl, ρ2, H2, hR2, hcb2, hE2⟩
          have htl : t.late = pre ++ [i] := HSL.out.trans HP.out
          have htn : t.late.length = pre.length + 1 := by rw [htl]; simp
          obtain ⟨g2, cap2, eav2, hg2, hm1, hm2, hglt2, hgB2, hcel2, _⟩ := hR2.row (r := (11, 0)) rfl (by decide) (by simp only [htl]; simp)
          simp only at eav2 hm1 hcel2
          rw [htn] at eav2 hm1
          have DL := delete61 w2 g2 (pre.length + 1) pre.length cap2 (ptrsC H2.cb t.late) (by have := hR2.hold.own (11, 0) _ rfl; simp only at this; rw [eav2, htn] at this; exact this) (by omega) hm1 hm2
          rw [show ((pre.length + 1 : Nat) : Int) = (pre.length : Int) + 1 by omega] at DL
          have FN := hide (fun w' (hD : DelP w2 0 80 1 g2 pre.length cap2 (ptrsC H2.cb t.late) w') => hR2.latePop htl eav2 hD)
          replace DL := hide DL
          have c11' := hR2.c11
          rw [eav2] at c11'
          have HE2 := hide hE2
          clear hR2 hE2 hcb2 hcel2 eav2 hg2 htl htn c11 d o0 o4
          go_wp2_with fail
          refine (unhide DL).mono ?_
          rintro e w3 ⟨rfl, hD⟩
          obtain ⟨⟨k1, k2⟩, hR3, hE3⟩ := FN.out w3 hD
          have HR3 := hide hR3
          have HE3 := hide hE3
          have HL3 := hide hR3.hereL
          clear hR3 hE3 hD
          go_wp2
          go_roundw
          case rel => exact ⟨_, _, _, HR3.out, HY.out, (HE.out.trans HE2.out).trans HE3.out, HF.out.trans HFS.out⟩
          case measure => rw [HL3.out, HL.out, HP.out]; simp
end

end Go.Proofs.Ytlmbgaconjcaiab
