/- Joined: Contracts: what follows. -/
import Derived.Test.YtlmbgaconjcaiaaGreatGl
import Derived.Test.YtlmbgaconjcaiaaGreatHa
import Derived.Deep.RegionLaw
set_option linter.unusedVariables false
set_option linter.unusedSimpArgs false
namespace Go.Proofs.YtlmbgaconjcaiaaGreat
open Go.RowKit

/-- The head, read off the memory. -/
def hereH (B : Nat) (w : World) : Nat := match w.cell? ⟨B, 9, none⟩ with
  | some (.int _ h) => h.toNat
  | _ => 0

section
variable {ρ : Nat → Rl} {w : World} {B : Nat} {H : Hd} {s : PS}

theorem Rep.hereH (h : Rep ρ w B H s) : hereH B w = s.head := by
  unfold YtlmbgaconjcaiaaGreat.hereH
  rw [h.c9]; simp

set_option maxHeartbeats 4000000 in
set_option maxRecDepth 100000 in
theorem visit_none (h : Rep ρ w B H s) (hI : Inv s) (l : Int) (hl : Lt s.vars l) (hq0 : s.wat[ix s.vars l]? = some []) (hu : H.wr[ix s.vars l]? = some (.slice none 0 0)) :
    Calls Tryz.prog 81 #[.pointer (some ⟨B, 0, none⟩), .int .i64 l] w fun e w' => ∃ n, e = .returned (.int .i64 n) ∧ VisP ρ w B s l n w' := by
  have hV := hI.sz.vars
  have hlt := ix_lt hl
  have hsw := hI.sz.wat
  obtain ⟨u, gw, capw, hu', ewv, hgw, hgwB, d1, z1, hgwlt, hown, hsep, hcm, hcn⟩ := h.wAt hq0
  obtain rfl : u = .slice none 0 0 := Option.some.inj (hu'.symm.trans hu)
  have c6 := h.c6
  rw [ewv] at c6
  have c1 := h.c1
  have AT := fun n => hide (at_any (h.drewN n) l (by omega) (by unfold Lt at hl; omega) (by unfold Lt at hl; omega))
  have hl1 : -1048576 ≤ l := by unfold Lt at hl; omega
  have hl2 : l ≤ 1048576 := by unfold Lt at hl; omega
  have hb0 : (0 : Int) ≤ s.vars + l := by unfold Lt at hl; omega
  have hb1 : (s.vars : Int) + l < s.wat.length := by unfold Lt at hl; omega
  have hix : ((s.vars : Int) + l).toNat = ix s.vars l := rfl
  have hce := fun (A : Option Addr) (c : Nat) (ty : TypeId) (W : World) => clear_none A c ty W
  have HF : Hid (∀ n m, ∃ ρ' H', Rep ρ' (((w.drewN n).drewN m).setCell ⟨gw, ix s.vars l, none⟩ (.slice none 0 0)) B H' s ∧ Ev ρ w ρ' (((w.drewN n).drewN m).setCell ⟨gw, ix s.vars l, none⟩ (.slice none 0 0))) := by
    intro n m
    have hfin := ((h.drewN n).drewN m).wTurn (w' := (w.drewN n).drewN m) (gg := w.heap.size) (v := .slice none 0 0) (q' := []) hq0 hu hgw (World.grownBy.refl _ _) (World.ownsRow_nil _ _ _ _) (fun g hg => by simp [Value.ownBlock] at hg) (.inr (Nat.le_refl _))
    have e : ({ s with wat := s.wat.set (ix s.vars l) [] } : PS) = s := setW_self hq0
    have h1 := hfin.1
    rw [e] at h1
    exact ⟨_, _, h1, ((Ev.drewN _ _ n).trans (Ev.drewN _ _ m)).trans hfin.2⟩
  have HI := hide hI
  have HQ := hide hq0
  clear h ewv hown hsep hu hu' hgw hI hq0 hsw
  generalize hj : ix s.vars l = j at *
  have HJ := hide hj
  clear hj
  generalize s.wat.length = N at *
  go_enter Tryz.func81, Tryz.ntmps81
  go_wp2
  go_step3
  go_wp2_with fail
  go_quiet ((go_at_call 61; exact Calls.quiet_of_same (unhide (AT _))))
  go_wp2
  go_step3
  go_wp2
  go_loopw [6, 7, 27] (fun kp br i wr => kp = .slice none 0 0 ∧ br = .int .i64 (-1) ∧ i = .int .i64 0 ∧ ∃ m, wr = w.drewN m) (fun _ _ _ _ => 0)
  case atStart => exact ⟨rfl, rfl, rfl, _, rfl⟩
  case round =>
    obtain ⟨rfl, rfl, rfl, m, rfl⟩ := hrel
    clear AT
    go_wp2_with fail
    go_region_held3 (fun w' => w'.cell? ⟨B, 6, none⟩ = some (.slice (some ⟨gw, 0, none⟩) N capw) ∧ w'.cell? ⟨B, 1, none⟩ = some (.int .i64 s.vars)) (go_keep) (first | (go_at_call 61; refine (at_cell _ _ s.vars _ ?_ (by omega) (by omega) (by omega)).mono ?_; (simp [*]); rintro e w' ⟨rfl, rfl⟩))
    go_wp2
    (try rw [Exit.noGoto_ret])
    go_ret
    obtain ⟨ρ9, H9, hR9, hE9⟩ := HF.out m 1
    refine ⟨_, rfl, ρ9, H9, s, ?_, HI.out, ?_, Frm.refl _, rfl, rfl, .inl ⟨rfl, [], by rw [HJ.out]; exact HQ.out, by intro p hp; cases hp⟩⟩
    · exact hR9
    · exact hE9

theorem visit_any (h : Rep ρ w B H s) (hI : Inv s) (hlits : ∀ c ∈ s.cls, c.lits.length ≤ 10000) (l : Int) (hl : Lt s.vars l) (hlf : -l ∈ s.trail) :
    Calls Tryz.prog 81 #[.pointer (some ⟨B, 0, none⟩), .int .i64 l] w fun e w' => ∃ n, e = .returned (.int .i64 n) ∧ VisP ρ w B s l n w' := by
  obtain ⟨q, hq⟩ : ∃ q, s.wat[ix s.vars l]? = some q := ⟨_, List.getElem?_eq_getElem (by rw [hI.sz.wat]; exact ix_lt hl)⟩
  obtain ⟨u, _, _, hu, _, _, _, _, _, _, hown, _⟩ := h.wAt hq
  rcases hown.2 with ⟨rfl, h0⟩ | ⟨g, cap, cur, rfl, _⟩
  · have : q = [] := List.eq_nil_of_length_eq_zero h0
    subst this
    exact visit_none h hI l hl hq hu
  · exact visit_some h hI hlits l hl hlf q hq g cap hu

def RunP (ρ : Nat → Rl) (w : World) (B : Nat) (s : PS) (n : Int) (w' : World) : Prop :=
  ∃ ρ' H' s', Rep ρ' w' B H' s' ∧ Inv s' ∧ Ev ρ w ρ' w' ∧ Frm s s' ∧ ((n = -1 ∧ s'.late = [] ∧ s'.head = s'.trail.length) ∨ Brk s' n)

theorem Brk.ne {n : Int} (h : Brk s n) : (n != -1) = true := by
  obtain ⟨i, c, rfl, _⟩ := h
  simp

set_option maxHeartbeats 4000000 in
set_option maxRecDepth 100000 in
theorem run_any (h : Rep ρ w B H s) (hI : Inv s) (hlits : ∀ c ∈ s.cls, c.lits.length ≤ 10000) :
    Calls Tryz.prog 60 #[.pointer (some ⟨B, 0, none⟩)] w fun e w' => ∃ n, e = .returned (.int .i64 n) ∧ RunP ρ w B s n w' := by
  have G := hide (given_any h)
  have SL := hide (settleLate_any h hI hlits)
  clear h
  go_enter Tryz.func60, Tryz.ntmps60
  go_wp2_with fail
  refine (unhide G).mono ?_
  rintro e w0 ⟨rfl, hw0⟩
  subst w0
  go_wp2_with fail
  refine (unhide SL).mono ?_
  rintro e w1 ⟨n, rfl, ρ1, H1, s1, hR, hI1, hE, hF, hcase⟩
  rcases hcase with ⟨rfl, hlate⟩ | hbr
  · have HR := hide hR
    have HI1 := hide hI1
    have HE := hide hE
    have HF := hide hF
    have HLT := hide hlate
    clear hR hI1 hE hF hlate G SL hI
    go_wp2
    go_loopw [] (fun wr => ∃ ρ2 H2 s2, Rep ρ2 wr B H2 s2 ∧ Inv s2 ∧ Ev ρ w ρ2 wr ∧ Frm s s2 ∧ s2.late = []) (fun wr => 1048577 - hereH B wr)
    case atStart => exact ⟨ρ1, H1, s1, HR.out, HI1.out, HE.out, HF.out, HLT.out⟩
    case round =>
      clear HR HI1 HE HF HLT
      obtain ⟨ρ2, H2, s2, hR, hI, hE, hF, hlate⟩ := hrel
      have hl2 := hF.lits hlits
      have htl := trail_len hI.tr
      have hvl := hI.sz.vars
      have hhd := hI.tr.hd
      obtain ⟨a, cap, et, hrow, hrm, _⟩ := hR.trl
      have c8 := hR.c8
      have c9 := hR.c9
      rw [et] at c8
      have HH := hide hR.hereH
      by_cases hlt : s2.head < s2.trail.length
      · obtain ⟨bb, off, rfl, hbb, hcell⟩ := hrow s2.head hlt
        have hx := hI.tr.ok _ (List.getElem_mem hlt)
        have hxm : - - s2.trail[s2.head] ∈ s2.trail := by rw [Int.neg_neg]; exact List.getElem_mem hlt
        have HXG : Hid (s2.trail[s2.head]? = some (- - s2.trail[s2.head])) := by unfold Hid; rw [Int.neg_neg]; exact List.getElem?_eq_getElem hlt
        have VS := hide (fun m => visit_any (hR.drewN m) hI hl2 (- s2.trail[s2.head]) hx.neg hxm)
        have hxb : -1048576 ≤ s2.trail[s2.head] ∧ s2.trail[s2.head] ≤ 1048576 := by unfold Lt at hx; omega
        have hwn : IntKind.i64.wrap (- s2.trail[s2.head]) = - s2.trail[s2.head] := by rw [IntKind.wrap_i64]; omega
        have hhi : (s2.head : Int) < s2.trail.length := by omega
        have HI := hide hI
        have HE := hide hE
        have HF := hide hF
        have HLT := hide hlate
        have HLL := hide htl
        clear hR hI hE hF hlate hrow et hx hxm hhd htl
        generalize hxx : s2.trail[s2.head] = x at *
        clear hxx
        generalize hN : s2.trail.length = N at *
        have HN := hide hN
        clear hN
        generalize hhead : s2.head = hd at *
        have HHD := hide hhead
        clear hhead
        go_wp2_with fail
        go_quiet (fail)
        go_wp2_with fail
        go_region_law (go_simp; go_at_call 81; refine (unhide VS (nq + 1)).mono ?_; rintro e w2 ⟨n2, rfl, hvis⟩; have HVIS := hide hvis; clear hvis)
        all_goals
          obtain ⟨ρ3, H3, s3, hR3, hI3, hE3, hF3, hla3, hhd3, hcase3⟩ := HVIS.out
          clear HVIS VS c8 c9
          rcases hcase3 with ⟨rfl, q, hq, htru⟩ | hbr
          · have hc9 := hR3.c9
            have hf9 := hR3.fz 9
            rw [hhd3] at hc9
            have hgx : s3.trail[s3.head]? = some (- -x) := by
              obtain ⟨mm, em⟩ := hF3.tr
              have h1 := HXG.out
              rw [hhd3, HHD.out, em, List.getElem?_append_left (by rw [HN.out]; exact hlt)]
              exact h1
            have hI4 := head_on hI3 (hla3.trans HLT.out) hgx hq htru
            have hR4 := hR3.setHead (s3.head + 1)
            have HB : Hid (hd ≤ 1048576) := by have h1 := trail_len hI3.tr; have h2 := hI3.sz.vars; have h3 := hI3.tr.hd; rw [hhd3, HHD.out] at h3; unfold Hid; omega
            have HR4 := hide hR4
            have HI4 := hide hI4
            have HE4 := hide ((HE.out.trans ((Ev.drewN _ _ _).trans hE3)).trans (Ev.set hR3.roleB 9 (.int .i64 ((s3.head + 1 : Nat) : Int))))
            have HF4 : Hid (Frm s { s3 with head := s3.head + 1 }) := (HF.out.trans hF3).trans ⟨rfl, rfl, rfl, rfl, rfl, [], by simp⟩
            have HL4 := hide (hla3.trans HLT.out)
            have HS3 := hide hhd3
            rw [HHD.out] at hc9
            clear hR3 hI3 hE3 hF3 hla3 hhd3 hq htru hgx hI4 hR4
            have ehd : ((s3.head + 1 : Nat) : Int) = (hd : Int) + 1 := by have := HS3.out; have := HHD.out; omega
            rw [ehd] at HR4 HE4
            have HH4 := hide HR4.out.hereH
            have hdb : (hd : Int) ≤ 1048576 := by have := HB.out; omega
            go_wp2
            go_roundw
            case rel => exact ⟨ρ3, H3, { s3 with head := s3.head + 1 }, HR4.out, HI4.out, HE4.out, HF4.out, HL4.out⟩
            case measure => rw [HH4.out, HH.out]; show 1048577 - (s3.head + 1) < 1048577 - _; have h1 := HS3.out; have h2 := HHD.out; have h3 := HB.out; omega
          · have hne := hbr.ne
            have HR3 := hide hR3
            have HI3 := hide hI3
            have HE3 := hide (HE.out.trans ((Ev.drewN _ _ _).trans hE3))
            have HF3 := hide (HF.out.trans hF3)
            have HBR := hide hbr
            clear hR3 hI3 hE3 hF3 hla3 hhd3 hbr
            go_wp2
            go_ret
            exact ⟨n2, rfl, ρ3, H3, s3, HR3.out, HI3.out, HE3.out, HF3.out, .inr HBR.out⟩
      · have hhe : s2.head = s2.trail.length := by omega
        have HR := hide hR
        have HI := hide hI
        have HE := hide hE
        have HF := hide hF
        have HLT := hide hlate
        have HHE2 : Hid (s2.head = s2.trail.length) := hhe
        have hhi : ¬ (s2.head : Int) < s2.trail.length := by omega
        clear hR hI hE hF hlate hrow et hhe
        go_wp2_with fail
        go_quiet (fail)
        go_wp2
        go_ret
        exact ⟨_, rfl, ρ2, H2, s2, HR.out.drewN _, HI.out, HE.out.trans (Ev.drewN _ _ _), HF.out, .inl ⟨rfl, HLT.out, HHE2.out⟩⟩
  · have hne := hbr.ne
    go_wp2
    go_ret
    exact ⟨n, rfl, ρ1, H1, s1, hR, hI1, hE, hF, .inr hbr⟩
end

end Go.Proofs.YtlmbgaconjcaiaaGreat
