/- Contracts: a clause is dropped; a clause is added. -/
import Derived.Test.YtlmbgaconjcaiaaIh
import Derived.Test.YtlmbgaconjcaiaaId
import Derived.Test.YtlmbgaconjcaiaaPlainAll
import Derived.Test.YtlmbgaconjcaiaaHd
import Derived.BigQuiet
import Derived.Deep.DeepCutAuto
set_option linter.unusedVariables false
set_option linter.unusedSimpArgs false
namespace Go.Proofs.Ytlmbgaconjcaiaa
open Go.RowKit

section
variable {ρ : Nat → Rl} {w : World} {B : Nat} {H : Hd} {s : PS}

set_option maxRecDepth 100000 in
set_option maxHeartbeats 800000 in
theorem drop_none (h : Rep ρ w B H s) (i : Int) (hno : i < 0 ∨ s.cls.length ≤ i ∨ ∃ c, 0 ≤ i ∧ s.cls[i.toNat]? = some c ∧ c.gone = true) (hn : s.cls.length ≤ 1048576) :
    Calls Try.prog 37 #[.pointer (some ⟨B, 0, none⟩), .int .i64 i] w fun e w' => e = .returned (.int .i64 4) ∧ w' = w := by
  have G := hide (has_no h i hno hn)
  clear h hno
  go_enter Try.func37, Try.ntmps37
  go_wp2_with (go_at_call 64; refine (unhide G).mono ?_; rintro e w0 ⟨rfl, hw0⟩; subst w0)
  go_ret
  exact ⟨rfl, rfl⟩

set_option maxRecDepth 100000 in
set_option maxHeartbeats 800000 in
theorem drop_bad (h : Rep ρ w B H s) (hS : Shp s) (i : Nat) (c : Cl) (hc : s.cls[i]? = some c) (hg : c.gone = false) (hn : s.cls.length ≤ 1048576) (hl : ∀ x ∈ c.lits, Lt s.vars x) (hr : s.rsnB i c.lits = true) :
    Calls Try.prog 37 #[.pointer (some ⟨B, 0, none⟩), .int .i64 i] w fun e w' => e = .returned (.int .i64 7) ∧ ∃ n, w' = w.drewN n := by
  have G := hide (has_yes h i c hc hg hn)
  have R := isReason_any h hS i c hc hl
  rw [hr] at R
  replace R := hide R
  obtain ⟨g, cap, e, _, hB, hcell, _⟩ := h.cvAt hc
  have hlt : i < s.cls.length := (List.getElem?_eq_some_iff.1 hc).1
  have hlt' : (i : Int) < s.cls.length := by omega
  have c2 := h.c2
  rw [e] at c2
  rw [hg] at hcell
  simp only [Bool.false_eq_true, if_false, ptrC] at hcell
  clear h hc e
  generalize s.cls.length = N at *
  generalize H.cb i = b at *
  go_enter Try.func37, Try.ntmps37
  go_wp2_with (first | (go_at_call 64; refine (unhide G).mono ?_; rintro e w0 ⟨rfl, hw0⟩; subst w0) | (go_at_call 65; refine (unhide R).mono ?_; rintro e w0 ⟨rfl, n0, rfl⟩))
  go_ret
  exact ⟨rfl, ⟨_, rfl⟩⟩

set_option maxHeartbeats 8000000 in
set_option maxRecDepth 100000 in
theorem drop_ok (h : Rep ρ w B H s) (hI : Inv s) (hN : Cnt s) (i : Nat) (c : Cl) (hc : s.cls[i]? = some c) (hg : c.gone = false) (hr : s.rsnB i c.lits = false) :
    Calls Try.prog 37 #[.pointer (some ⟨B, 0, none⟩), .int .i64 i] w fun e w' => e = .returned (.int .i64 0) ∧ SwP ρ w B (s.drop i c) w' := by
  have hn := hI.sz.cls
  have hl := hI.wt.ok i c hc
  have hnr : ∀ x ∈ c.lits, s.val x = 1 → (s.fct x).2.2 ≠ (i : Int) := by
    intro x hx hv he
    unfold PS.rsnB at hr
    rw [List.any_eq_false] at hr
    exact hr x hx (by simp [hv, he])
  have hDI := dropped_inv hI hN hc hg hnr
  have G := hide (has_yes h i c hc hg hn)
  have R := isReason_any h hI.shp i c hc hl
  rw [hr] at R
  replace R := hide R
  obtain ⟨g, cap, e, hgo, hB, hcell, hcf, _, hglt⟩ := h.cvAt hc
  obtain ⟨o0, o1, o2, o3, o4, of, hol, hoB⟩ := h.obj hc
  have hlt : i < s.cls.length := (List.getElem?_eq_some_iff.1 hc).1
  have hlt' : (i : Int) < s.cls.length := by omega
  have c2 := h.c2
  rw [e] at c2
  rw [hg] at hcell o4
  simp only [Bool.false_eq_true, if_false, ptrC] at hcell
  have hbg : H.cb i ≠ g := h.cbNe hlt (r := (1, 0)) rfl hgo (by simp)
  have hcount := hI.sz.count
  have hstale := hI.sz.stale
  have c3 := h.c3
  have c4 := h.c4
  have HD : Hid (∀ m, Rep ρ ((((w.drewN m).setCell ⟨H.cb i, 4, none⟩ (.bool true)).setCell ⟨H.cb i, 1, none⟩ (.slice none 0 0)).setCell ⟨g, i, none⟩ (.pointer none)) B { H with cl := fun k => if k = i then .slice none 0 0 else H.cl k } { s with cls := s.cls.set i { c with gone := true, lits := [] } } ∧ Ev ρ w ρ ((((w.drewN m).setCell ⟨H.cb i, 4, none⟩ (.bool true)).setCell ⟨H.cb i, 1, none⟩ (.slice none 0 0)).setCell ⟨g, i, none⟩ (.pointer none))) := by
    intro m
    refine ⟨(h.drewN m).dropCl hc hgo, (((Ev.drewN ρ w m).trans (Ev.set ?_ _ _)).trans (Ev.set ?_ _ _)).trans (Ev.set ?_ _ _)⟩
    · exact h.roleOf (r := (2, i)) (x := ⟨93, 5, obj1 (H.cb i), 1, objC i (H.cl i) c⟩) (by simp [ents, hc]) rfl (by simp [oth])
    · exact h.roleOf (r := (2, i)) (x := ⟨93, 5, obj1 (H.cb i), 1, objC i (H.cl i) c⟩) (by simp [ents, hc]) rfl (by simp [oth])
    · exact h.roleOf (r := (1, 0)) rfl hgo (by decide)
  have f4' := of 4
  have f1' := of 1
  have fi := hcf i
  obtain ⟨acl, ccl, ecl, _⟩ := h.lits hc
  rw [ecl] at o1
  have HH := hide h
  have HSZ := hide hI.sz
  have HDI := hide hDI
  clear h hc e hI hN hl hnr hDI hcf of hr hgo o0 o2 o3 ecl hcount hstale c3 c4
  generalize hb : H.cb i = b at *
  clear hb
  generalize hNN : s.cls.length = N at *
  clear hNN
  go_enter Try.func37, Try.ntmps37
  go_upto_region 9 with (first | (go_at_call 64; refine (unhide G).mono ?_; rintro e w0 ⟨rfl, hw0⟩; subst w0) | (go_at_call 65; refine (unhide R).mono ?_; rintro e w0 ⟨rfl, n0, rfl⟩))
  obtain ⟨hD1, hD2⟩ := HD.out n0
  refine forget (P := fun W => Code.wp Try.prog _ _ _ W) (fun W => Rep ρ W B { H with cl := fun k => if k = i then .slice none 0 0 else H.cl k } { s with cls := s.cls.set i { c with gone := true, lits := [] } } ∧ Ev ρ w ρ W) ⟨hD1, hD2⟩ ?_
  clear hD1 hD2 HD G R hcell o4 o1 f4' f1' fi c2 HH
  rintro W1 ⟨hR1, hE1⟩
  have c3 := hR1.c3
  have c4 := hR1.c4
  have f3 := hR1.fz 3
  have f4 := hR1.fz 4
  simp only at c3 c4
  have hct := HSZ.out.count
  have hst := HSZ.out.stale
  have hcls := HSZ.out.cls
  have HR2 := hide ((hR1.setCount (s.count - 1)).setStale (s.stale + 1))
  have HE2 : Hid (Ev ρ w ρ ((W1.setCell ⟨B, 3, none⟩ (.int .i64 (s.count - 1))).setCell ⟨B, 4, none⟩ (.int .i64 (s.stale + 1)))) := (hE1.trans (Ev.set hR1.roleB _ _)).trans (Ev.set hR1.roleB _ _)
  clear hR1 hE1
  have HDR : Hid (s.dropped i c = { s with cls := s.cls.set i { c with gone := true, lits := [] }, count := s.count - 1, stale := s.stale + 1 }) := rfl
  have HDP : Hid (s.drop i c = if (s.dropped i c).count + (s.dropped i c).wat.length < (s.dropped i c).stale then (s.dropped i c).swept else s.dropped i c) := rfl
  have hc9 : s.count ≤ 1048576 := by omega
  have hs9 : s.stale ≤ 1048576 := by omega
  have hc0 : 0 ≤ s.count := hct.1
  have hs0 : 0 ≤ s.stale := hst.1
  clear hct hst
  generalize hcn : s.count = ct at *
  generalize hsn : s.stale = st at *
  go_upto_region 11 with fail
  refine forget (P := fun W => Code.wp Try.prog _ _ _ W) (fun W => Rep ρ W B { H with cl := fun k => if k = i then .slice none 0 0 else H.cl k } (s.dropped i c) ∧ Ev ρ w ρ W) ⟨by have := HR2.out; rw [HDR.out]; exact this, HE2.out⟩ ?_
  clear HR2 HE2 c3 c4 f3 f4
  rintro W2 ⟨hR2, hE2⟩
  have c3 := hR2.c3
  have c4 := hR2.c4
  have c6 := hR2.c6
  obtain ⟨aw, cw, ew, _⟩ := own_form (hR2.hold.own (5, 0) _ rfl)
  simp only at ew
  rw [ew] at c6
  have SW := hide (fun n => sweep_any (hR2.drewN n) HDI.out.1)
  have HR2 := hide hR2
  have HE2 := hide hE2
  have e1 : (s.dropped i c).count = ct - 1 := by rw [HDR.out]
  have e2 : (s.dropped i c).stale = st + 1 := by rw [HDR.out]
  have e3 : (s.dropped i c).wat.length ≤ 3300000 := by
    rw [HDR.out]; show s.wat.length ≤ 3300000
    have := HSZ.out.wat; have := HSZ.out.vars; omega
  have HDP2 := HDP.out
  rw [e1] at c3
  rw [e2] at c4
  rw [e1, e2] at HDP2
  have HDP3 := hide HDP2
  clear hR2 hE2 HDP HDP2 e1 e2 ew HDR
  generalize (s.dropped i c).wat.length = nw at *
  by_cases hcond : ct - 1 + (nw : Int) < st + 1
  · have hd : Hid (s.drop i c = (s.dropped i c).swept) := by unfold Hid; rw [HDP3.out, if_pos hcond]
    go_wp2_with fail
    go_quiet (fail)
    go_wp2_with (go_at_call 66; refine (unhide SW _).mono ?_; rintro e w5 ⟨rfl, ρ5, H5, hR5, hE5⟩)
    go_ret
    exact ⟨rfl, ρ5, H5, by rw [hd.out]; exact hR5, (HE2.out.trans (Ev.drewN _ _ _)).trans hE5⟩
  · have hd : Hid (s.drop i c = s.dropped i c) := by unfold Hid; rw [HDP3.out, if_neg hcond]
    go_wp2_with fail
    go_quiet (fail)
    go_wp2_with fail
    go_ret
    exact ⟨rfl, ρ, _, by rw [hd.out]; exact HR2.out.drewN _, HE2.out.trans (Ev.drewN _ _ _)⟩

theorem grid_one (w : World) (a : Option Addr) (cap : Nat) (lits : List Int) (hr : Row w a lits) (hl : lits.length ≤ maxLen) : Grid (w.alloc (.cells #[.slice a lits.length cap] 34)) (some ⟨w.heap.size, 0, none⟩) [lits] := by
  intro i hi
  obtain rfl : i = 0 := by simp at hi; omega
  refine ⟨w.heap.size, 0, a, cap, rfl, by simp, ?_, hr.below (below_alloc w _), hl⟩
  exact cell_of_block (heap_alloc_new w (.cells #[.slice a lits.length cap] 34)) (i := 0) rfl

set_option maxRecDepth 100000 in
set_option maxHeartbeats 2000000 in
theorem add_no (h : Rep ρ w B H s) (hV : s.vars ≤ 1048576) (a : Option Addr) (cap : Nat) (lits : List Int) (hr : Row w a lits) (hl : lits.length ≤ maxLen) (hno : cnfB s.vars [lits] = false) :
    Calls Try.prog 36 #[.pointer (some ⟨B, 0, none⟩), .slice a lits.length cap] w fun e w' => e = .returned (.tuple #[.int .i64 0, .int .i64 1]) ∧ Below w.heap.size w w' := by
  have G := hide (given_any h)
  have c1 := h.c1
  have hb := below_alloc w (.cells #[.slice a lits.length cap] 34)
  have C := checkCnf_any (some ⟨w.heap.size, 0, none⟩) 1 s.vars [lits] _ (grid_one w a cap lits hr hl) (by simp [maxLen])
  rw [hno] at C
  simp only [List.length_singleton, errI, Bool.false_eq_true, if_false] at C
  replace C := hide C
  have HB := hide hb
  have hBlt : B ≠ w.heap.size := by have := h.lt; omega
  clear h hr hb hno
  generalize s.vars = V at *
  go_enter Try.func36, Try.ntmps36
  go_wp2_with (first | (go_at_call 45; refine (unhide G).mono ?_; rintro e w0 ⟨rfl, hw0⟩; subst w0) | (go_at_call 31; refine (unhide C).mono ?_; rintro e w1 ⟨rfl, hb1⟩))
  go_ret2
  exact ⟨rfl, HB.out.trans (hb1.mono HB.out.size)⟩

set_option maxRecDepth 100000 in
set_option maxHeartbeats 2000000 in
theorem add_yes (h : Rep ρ w B H s) (hI : Inv s) (hlits : ∀ c ∈ s.cls, c.lits.length ≤ 10000) (hcl : s.cls.length < 262144) (a : Option Addr) (cap : Nat) (lits : List Int) (hr : Row w a lits) (hl : lits.length ≤ maxLen) (hcap : a = none → cap = 0) (hyes : cnfB s.vars [lits] = true) :
    Calls Try.prog 36 #[.pointer (some ⟨B, 0, none⟩), .slice a lits.length cap] w fun e w' => e = .returned (.tuple #[.int .i64 s.cls.length, .int .i64 0]) ∧ AttachP ρ w B s lits w' := by
  have hLt := cnf_lt hyes lits (by simp)
  have hM := hI.small hlits
  have hct := hM.count
  have hct2 : s.count < 262144 := by have := hI.sz.count.2; omega
  have G := hide (given_any h)
  have c1 := h.c1
  have hb := below_alloc w (.cells #[.slice a lits.length cap] 34)
  have C := checkCnf_any (some ⟨w.heap.size, 0, none⟩) 1 s.vars [lits] _ (grid_one w a cap lits hr hl) (by simp [maxLen])
  rw [hyes] at C
  simp only [List.length_singleton, errI, if_true] at C
  replace C := hide C
  have AT : Hid (∀ x, Below w.heap.size w x → Calls Try.prog 32 #[.pointer (some ⟨B, 0, none⟩), .slice a lits.length cap] x fun e w' => e = .returned (.int .i64 s.cls.length) ∧ AttachP ρ w B s lits w') := fun x hx => (attach_any (h.below hx) hI.shp hI.vld hM a cap lits (hr.below hx) hLt.2 (by omega) hcap).mono (fun e w' ⟨he, ρ', H', hR, hE⟩ => ⟨he, ρ', H', hR, (Ev.below hx).trans hE⟩)
  have C3 : Hid (∀ x, Below w.heap.size w x → x.cell? ⟨B, 3, none⟩ = some (.int .i64 s.count)) := fun x hx => (h.below hx).c3
  have HB := hide hb
  have hBlt : B ≠ w.heap.size := by have := h.lt; omega
  clear h hr hb hyes hI hlits hM hLt
  generalize s.vars = V at *
  generalize s.count = ct at *
  go_enter Try.func36, Try.ntmps36
  go_wp2_with (first | (go_at_call 45; refine (unhide G).mono ?_; rintro e w0 ⟨rfl, hw0⟩; subst w0) | (go_at_call 31; refine (unhide C).mono ?_; rintro e w1 ⟨rfl, hb1⟩; have hb1w := HB.out.trans (hb1.mono HB.out.size); have k3 := C3.out _ hb1w) | (go_at_call 32; refine (AT.out _ hb1w).mono ?_; rintro e w2 ⟨rfl, hA⟩))
  go_ret2
  exact ⟨rfl, hA⟩
end
end Go.Proofs.Ytlmbgaconjcaiaa
