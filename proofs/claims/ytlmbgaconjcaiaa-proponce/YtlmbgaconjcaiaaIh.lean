/- Contracts: the sweep. -/
import Derived.Test.YtlmbgaconjcaiaaIg
set_option linter.unusedVariables false
set_option linter.unusedSimpArgs false
namespace Go.Proofs.Ytlmbgaconjcaiaa
open Go.RowKit

def SwP (ρ : Nat → Rl) (w : World) (B : Nat) (t : PS) (w' : World) : Prop := ∃ ρ' H', Rep ρ' w' B H' t ∧ Ev ρ w ρ' w'

section
variable {ρ : Nat → Rl} {w : World} {B : Nat} {H : Hd} {s : PS}

set_option maxHeartbeats 40000000 in
set_option maxRecDepth 100000 in
theorem sweep_any (h : Rep ρ w B H s) (hI : Inv s) :
    Calls Try.prog 66 #[.pointer (some ⟨B, 0, none⟩)] w fun e w' => e = .returned (.tuple #[]) ∧ SwP ρ w B s.swept w' := by
  have hwl := hI.sz.wat
  have hVs := hI.sz.vars
  have hll : s.lvs.length ≤ 1048576 := by have := lvs_len hI.tr; have := trail_len hI.tr; omega
  have HWQ : Hid (∀ (j : Nat) q, s.wat[j]? = some q → (∀ p ∈ q, p.1 < s.cls.length) ∧ q.length ≤ 1048576) := fun j q hq => ⟨hI.widx hq, by have := hI.wlen hq; have := hI.sz.cls; omega⟩
  have HLQ : Hid (∀ (j : Nat) p, s.lvs[j]? = some p → (∀ i ∈ p.late, i < s.cls.length) ∧ p.late.length ≤ 1048576) := fun j p hp => ⟨hI.sz.lv p (List.mem_of_getElem? hp), by have := le_sum s.lvs p (List.mem_of_getElem? hp); have := hI.sz.sum; have := hI.sz.cls; omega⟩
  have HAQ : Hid ((∀ i ∈ s.late, i < s.cls.length) ∧ s.late.length ≤ 1048576) := ⟨hI.sz.la, by have := hI.sz.sum; have := hI.sz.cls; omega⟩
  obtain ⟨gw, cw, ew, hgw, hwn, hwm, hws, hwB, _, _⟩ := h.row (r := (5, 0)) rfl (by decide) (by simp only; omega)
  simp only at ew hwn
  have c6 := h.c6
  rw [ew] at c6
  have HH := hide h
  have EW := hide ew
  have hWL : s.wat.length ≤ 3300000 := by omega
  unfold maxLen at hwm
  have hBlt := h.lt
  clear h hI ew hgw hwl
  generalize hNW : s.wat.length = NW at *
  have HNW := hide hNW
  clear hNW
  go_enter Try.func66, Try.ntmps66
  go_wp2_with fail
  go_loopw [10] (fun j wr => ∃ (k : Nat) (ρ1 : Nat → Rl) (H1 : Hd) (L : List (List (Nat × Int))), k ≤ NW ∧ j = .int .i64 k ∧ Hid (H1.wv = .slice (some ⟨gw, 0, none⟩) NW cw) ∧ Hid (Rep ρ1 wr B H1 { s with wat := L }) ∧ Hid (Ev ρ w ρ1 wr) ∧ Hid (Thru (fun q => q.filter (fun p => s.alive p.1)) s.wat L k)) (fun j _ => NW - (intOf j).toNat)
  case atStart => exact ⟨0, ρ, H, s.wat, Nat.zero_le _, rfl, EW, HH, Ev.refl _ _, Thru.zero _ _⟩
  case round =>
    clear c6 HH EW
    obtain ⟨k, ρ1, H1, L, hk, rfl, EW1, HR1, HE1, HT⟩ := hrel
    by_cases hlt : k < NW
    · have hki : (k : Int) < NW := by omega
      have hkl : k < s.wat.length := by rw [HNW.out]; exact hlt
      obtain ⟨q, hq⟩ : ∃ q, s.wat[k]? = some q := ⟨_, List.getElem?_eq_getElem hkl⟩
      have hLq : L[k]? = some q := HT.out.at.trans hq
      obtain ⟨hq1, hq2⟩ := HWQ.out k q hq
      obtain ⟨gw', cw', u, cu, e1, hgB, d1, d2, hgl, CD⟩ := HR1.out.sweepW (j := k) (q := q) hLq hq1 s.alive (fun i _ => rfl) hq2
      simp only at e1
      rw [EW1.out] at e1
      simp at e1
      obtain ⟨e2, eN, e3⟩ := e1
      subst e2
      have c6 := HR1.out.c6
      rw [EW1.out] at c6
      have HST := hide (HT.out.step hq)
      have CD' := hide (CD wr.drew (Ev.drew _ _) (fun _ _ => rfl))
      clear eN e3 CD hLq hq hq1
      have hBg : B ≠ gw := Ne.symm hgB
      have hk3 : k ≤ 3300000 := by omega
      have hlt' := hide hlt
      generalize hfq : q.filter (fun p => s.alive p.1) = fq at *
      clear hfq
      generalize fq.length = mq at *
      generalize q.length = nq0 at *
      go_wp2_with fail
      go_region_held3 (fun x => x.cell? ⟨B, 6, none⟩ = some (.slice (some ⟨gw, 0, none⟩) NW cw)) (first | assumption | go_keep) (first | (go_at_call 78; refine (unhide CD').mono ?_; rintro e w1 ⟨rfl, ⟨t1, t2, t3⟩, ρ2, H2, e4, e5, HR2, HE2⟩; rw [EW1.out] at t1 e4))
      refine forget (P := fun W => Exit.inBlock _ _ Exit.normal _ W) (fun W => Hid (Rep ρ2 W B H2 { s with wat := L.set k fq }) ∧ Hid (Ev ρ w ρ2 W)) ⟨HR2, HE1.out.trans HE2.out⟩ ?_
      rintro W2 ⟨HR3, HE3⟩
      have E4 := hide e4
      clear HR2 HE2 t1 t2 t3 d1 d2 c6 CD' HR1 HE1 e4 e5
      go_wp2_with fail
      go_roundw
      case rel => exact ⟨k + 1, ρ2, H2, L.set k fq, hlt'.out, by go_num, E4, HR3, HE3, HST⟩
      case measure => (have h31 := hlt'.out; simp [intOf]; omega)
    · have hL := HT.out.done (by rw [HNW.out]; omega)
      subst hL
      obtain ⟨al, cl, el, _⟩ := own_form (HR1.out.hold.own (9, 0) _ rfl)
      simp only at el
      have c10 := HR1.out.c10
      (try simp only at c10)
      rw [el] at c10
      have EL := hide el
      clear HT HWQ el
      generalize hLN : s.lvs.length = LN at *
      have HLN := hide hLN
      clear hLN
      go_wp2_with fail
      go_loopw [29] (fun j wr2 => ∃ (k2 : Nat) (ρ2 : Nat → Rl) (H2 : Hd) (M : List Lv), k2 ≤ LN ∧ j = .int .i64 k2 ∧ Hid (H2.lv = .slice al LN cl) ∧ Hid (Rep ρ2 wr2 B H2 { s with wat := s.wat.map (fun q => q.filter (fun p => s.alive p.1)), lvs := M }) ∧ Hid (Ev ρ w ρ2 wr2) ∧ Hid (Thru (fun v => { v with late := v.late.filter s.alive }) s.lvs M k2)) (fun j _ => LN - (intOf j).toNat)
      case atStart => exact ⟨0, ρ1, H1, s.lvs, Nat.zero_le _, rfl, EL, HR1, HE1, Thru.zero _ _⟩
      case round =>
        clear c10 HR1 HE1 EL EW1
        obtain ⟨k2, ρ2, H2, M, hk2, rfl, EL2, HR2, HE2, HT2⟩ := hrel
        by_cases hlt2 : k2 < LN
        · have hki2 : (k2 : Int) < LN := by omega
          have hkl2 : k2 < s.lvs.length := by rw [HLN.out]; exact hlt2
          obtain ⟨p, hp⟩ : ∃ p, s.lvs[k2]? = some p := ⟨_, List.getElem?_eq_getElem hkl2⟩
          have hMp : M[k2]? = some p := HT2.out.at.trans hp
          obtain ⟨hp1, hp2⟩ := HLQ.out k2 p hp
          obtain ⟨gl, cl', u, cu, e1, hgB, d1, d2, hgl, CD⟩ := HR2.out.sweepL (j := k2) (p := p) hMp hp1 s.alive (fun i _ => rfl) hp2
          simp only at e1
          rw [EL2.out] at e1
          simp at e1
          obtain ⟨e2, eN, e3⟩ := e1
          subst e2
          have c10 := HR2.out.c10
          (try simp only at c10)
          rw [EL2.out] at c10
          have HST2 := hide (HT2.out.step hp)
          have CD' := hide (CD wr.drew (Ev.drew _ _) (fun _ _ => rfl))
          have hBg : B ≠ gl := Ne.symm hgB
          have hlt2' := hide hlt2
          clear eN e3 CD hMp hp hp1
          generalize hfq : p.late.filter s.alive = fq at *
          clear hfq
          generalize fq.length = mq at *
          generalize p.late.length = nq0 at *
          go_wp2_with fail
          first | (go_region_with (go_at_call 80; refine (unhide CD').mono ?_; rintro e w1 ⟨rfl, ⟨t1, t2, t3⟩, ρ3, H3, e4, e5, HR3, HE3⟩; rw [EL2.out] at t1 e4)) | fail
          all_goals
            refine forget (P := fun W => Exit.inBlock _ _ Exit.normal _ W) (fun W => Hid (Rep ρ3 W B H3 { s with wat := s.wat.map (fun q => q.filter (fun p => s.alive p.1)), lvs := M.set k2 { p with late := fq } }) ∧ Hid (Ev ρ w ρ3 W)) ⟨HR3, HE2.out.trans HE3.out⟩ ?_
            rintro W3 ⟨HR4, HE4⟩
            have E4 := hide e4
            clear HR3 HE3 t1 t2 t3 d1 d2 c10 CD' HR2 HE2 e4 e5
            go_wp2_with fail
            go_roundw
            case rel => exact ⟨k2 + 1, ρ3, H3, M.set k2 { p with late := fq }, hlt2'.out, by go_num, E4, HR4, HE4, HST2⟩
            case measure => (have h31 := hlt2'.out; simp [intOf]; omega)
        · have hM := HT2.out.done (by rw [HLN.out]; omega)
          subst hM
          obtain ⟨u, cu, eav, CD⟩ := HR2.out.sweepA HAQ.out.1 s.alive (fun i _ => rfl) HAQ.out.2
          have c11 := HR2.out.c11
          rw [eav] at c11
          simp only at c11 CD
          replace CD := hide CD
          clear HT2 HLQ eav
          go_wp2_with fail
          refine (unhide CD).mono ?_
          rintro e w1 ⟨rfl, ⟨t1, t2⟩, ρ3, H3, HR3, HE3⟩
          clear c11 CD
          have HR4 := hide (HR3.out.setStale 0)
          have c4 := HR3.out.c4
          have f4 := HR3.out.fz 4
          simp only at c4
          have HE4 : Hid (Ev ρ w ρ3 ((w1.setCell ⟨B, 11, none⟩ (.slice u (s.late.filter s.alive).length cu)).setCell ⟨B, 4, none⟩ (.int .i64 0))) := (HE2.out.trans HE3.out).trans (Ev.set HR3.out.roleB _ _)
          generalize hmA : (s.late.filter s.alive).length = mA at *
          clear hmA
          simp only
          go_wp2_with fail
          go_end0
          exact ⟨rfl, ρ3, H3, HR4.out, HE4.out⟩
end
end Go.Proofs.Ytlmbgaconjcaiaa
