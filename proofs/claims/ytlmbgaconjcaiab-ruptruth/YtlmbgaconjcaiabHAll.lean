/- Joined: Contracts: what follows. Contracts: a new propagator. -/
import Derived.Test.YtlmbgaconjcaiabGl
import Derived.Test.YtlmbgaconjcaiabHa
import Derived.Deep.RegionLaw
import Derived.Deep.OwnRows
set_option linter.unusedVariables false
set_option linter.unusedSimpArgs false
namespace Go.Proofs.Ytlmbgaconjcaiab
open Go.RowKit

/-- The head, read off the memory. -/
def hereH (B : Nat) (w : World) : Nat := match w.cell? ⟨B, 9, none⟩ with
  | some (.int _ h) => h.toNat
  | _ => 0

section
variable {ρ : Nat → Rl} {w : World} {B : Nat} {H : Hd} {s : PS}

theorem Rep.hereH (h : Rep ρ w B H s) : hereH B w = s.head := by
  unfold Ytlmbgaconjcaiab.hereH
  rw [h.c9]; simp

set_option maxHeartbeats 4000000 in
set_option maxRecDepth 100000 in
theorem visit_none (h : Rep ρ w B H s) (hI : Inv s) (l : Int) (hl : Lt s.vars l) (hq0 : s.wat[ix s.vars l]? = some []) (hu : H.wr[ix s.vars l]? = some (.slice none 0 0)) :
    Calls Try.prog 73 #[.pointer (some ⟨B, 0, none⟩), .int .i64 l] w fun e w' => ∃ n, e = .returned (.int .i64 n) ∧ VisP ρ w B s l n w' := by
  have hV := hI.sz.vars
  have hlt := ix_lt hl
  have hsw := hI.sz.wat
  obtain ⟨u, gw, capw, hu', ewv, hgw, hgwB, d1, z1, hgwlt, hown, hsep, hcm, hcn⟩ := h.wAt hq0
  obtain rfl : u = .slice none 0 0 := Option.some.inj (hu'.symm.trans hu)
  have c6 := h.c6
  rw [ewv] at c6
  have c1 := h.c1
  have AT := fun n => hide (at_any (h.drewN n) l (by omega) (by unfold Lt at hl; omega) (by unfold Lt at hl; omega))
  have hl1 : -1048576 ≤ l := by unfold Lt at hl; omega
  have hl2 : l ≤ 1048576 := by unfold Lt at hl; omega
  have hb0 : (0 : Int) ≤ s.vars + l := by unfold Lt at hl; omega
  have hb1 : (s.vars : Int) + l < s.wat.length := by unfold Lt at hl; omega
  have hix : ((s.vars : Int) + l).toNat = ix s.vars l := rfl
  have hce := fun (A : Option Addr) (c : Nat) (ty : TypeId) (W : World) => clear_none A c ty W
  have HF : Hid (∀ n m, ∃ ρ' H', Rep ρ' (((w.drewN n).drewN m).setCell ⟨gw, ix s.vars l, none⟩ (.slice none 0 0)) B H' s ∧ Ev ρ w ρ' (((w.drewN n).drewN m).setCell ⟨gw, ix s.vars l, none⟩ (.slice none 0 0))) := by
    intro n m
    have hfin := ((h.drewN n).drewN m).wTurn (w' := (w.drewN n).drewN m) (gg := w.heap.size) (v := .slice none 0 0) (q' := []) hq0 hu hgw (World.grownBy.refl _ _) (World.ownsRow_nil _ _ _ _) (fun g hg => by simp [Value.ownBlock] at hg) (.inr (Nat.le_refl _))
    have e : ({ s with wat := s.wat.set (ix s.vars l) [] } : PS) = s := setW_self hq0
    have h1 := hfin.1
    rw [e] at h1
    exact ⟨_, _, h1, ((Ev.drewN _ _ n).trans (Ev.drewN _ _ m)).trans hfin.2⟩
  have HI := hide hI
  have HQ := hide hq0
  clear h ewv hown hsep hu hu' hgw hI hq0 hsw
  generalize hj : ix s.vars l = j at *
  have HJ := hide hj
  clear hj
  generalize s.wat.length = N at *
  go_enter Try.func73, Try.ntmps73
  go_wp2
  go_step3
  go_wp2_with fail
  go_quiet ((go_at_call 55; exact Calls.quiet_of_same (unhide (AT _))))
  go_wp2
  go_step3
  go_wp2
  go_loopw [6, 7, 27] (fun kp br i wr => kp = .slice none 0 0 ∧ br = .int .i64 (-1) ∧ i = .int .i64 0 ∧ ∃ m, wr = w.drewN m) (fun _ _ _ _ => 0)
  case atStart => exact ⟨rfl, rfl, rfl, _, rfl⟩
  case round =>
    obtain ⟨rfl, rfl, rfl, m, rfl⟩ := hrel
    clear AT
    go_wp2_with fail
    go_region_held3 (fun w' => w'.cell? ⟨B, 6, none⟩ = some (.slice (some ⟨gw, 0, none⟩) N capw) ∧ w'.cell? ⟨B, 1, none⟩ = some (.int .i64 s.vars)) (go_keep) (first | (go_at_call 55; refine (at_cell _ _ s.vars _ ?_ (by omega) (by omega) (by omega)).mono ?_; (simp [*]); rintro e w' ⟨rfl, rfl⟩))
    go_wp2
    (try rw [Exit.noGoto_ret])
    go_ret
    obtain ⟨ρ9, H9, hR9, hE9⟩ := HF.out m 1
    refine ⟨_, rfl, ρ9, H9, s, ?_, HI.out, ?_, Frm.refl _, rfl, rfl, .inl ⟨rfl, [], by rw [HJ.out]; exact HQ.out, by intro p hp; cases hp⟩⟩
    · exact hR9
    · exact hE9

theorem visit_any (h : Rep ρ w B H s) (hI : Inv s) (hlits : ∀ c ∈ s.cls, c.lits.length ≤ 10000) (l : Int) (hl : Lt s.vars l) (hlf : -l ∈ s.trail) :
    Calls Try.prog 73 #[.pointer (some ⟨B, 0, none⟩), .int .i64 l] w fun e w' => ∃ n, e = .returned (.int .i64 n) ∧ VisP ρ w B s l n w' := by
  obtain ⟨q, hq⟩ : ∃ q, s.wat[ix s.vars l]? = some q := ⟨_, List.getElem?_eq_getElem (by rw [hI.sz.wat]; exact ix_lt hl)⟩
  obtain ⟨u, _, _, hu, _, _, _, _, _, _, hown, _⟩ := h.wAt hq
  rcases hown.2 with ⟨rfl, h0⟩ | ⟨g, cap, cur, rfl, _⟩
  · have : q = [] := List.eq_nil_of_length_eq_zero h0
    subst this
    exact visit_none h hI l hl hq hu
  · exact visit_some h hI hlits l hl hlf q hq g cap hu

def RunP (ρ : Nat → Rl) (w : World) (B : Nat) (s : PS) (n : Int) (w' : World) : Prop :=
  ∃ ρ' H' s', Rep ρ' w' B H' s' ∧ Inv s' ∧ Ev ρ w ρ' w' ∧ Frm s s' ∧ ((n = -1 ∧ s'.late = [] ∧ s'.head = s'.trail.length) ∨ Brk s' n)

theorem Brk.ne {n : Int} (h : Brk s n) : (n != -1) = true := by
  obtain ⟨i, c, rfl, _⟩ := h
  simp

set_option maxHeartbeats 4000000 in
set_option maxRecDepth 100000 in
theorem run_any (h : Rep ρ w B H s) (hI : Inv s) (hlits : ∀ c ∈ s.cls, c.lits.length ≤ 10000) :
    Calls Try.prog 58 #[.pointer (some ⟨B, 0, none⟩)] w fun e w' => ∃ n, e = .returned (.int .i64 n) ∧ RunP ρ w B s n w' := by
  have G := hide (given_any h)
  have SL := hide (settleLate_any h hI hlits)
  clear h
  go_enter Try.func58, Try.ntmps58
  go_wp2_with fail
  refine (unhide G).mono ?_
  rintro e w0 ⟨rfl, hw0⟩
  subst w0
  go_wp2_with fail
  refine (unhide SL).mono ?_
  rintro e w1 ⟨n, rfl, ρ1, H1, s1, hR, hI1, hE, hF, hcase⟩
  rcases hcase with ⟨rfl, hlate⟩ | hbr
  · have HR := hide hR
    have HI1 := hide hI1
    have HE := hide hE
    have HF := hide hF
    have HLT := hide hlate
    clear hR hI1 hE hF hlate G SL hI
    go_wp2
    go_loopw [] (fun wr => ∃ ρ2 H2 s2, Rep ρ2 wr B H2 s2 ∧ Inv s2 ∧ Ev ρ w ρ2 wr ∧ Frm s s2 ∧ s2.late = []) (fun wr => 1048577 - hereH B wr)
    case atStart => exact ⟨ρ1, H1, s1, HR.out, HI1.out, HE.out, HF.out, HLT.out⟩
    case round =>
      clear HR HI1 HE HF HLT
      obtain ⟨ρ2, H2, s2, hR, hI, hE, hF, hlate⟩ := hrel
      have hl2 := hF.lits hlits
      have htl := trail_len hI.tr
      have hvl := hI.sz.vars
      have hhd := hI.tr.hd
      obtain ⟨a, cap, et, hrow, hrm, _⟩ := hR.trl
      have c8 := hR.c8
      have c9 := hR.c9
      rw [et] at c8
      have HH := hide hR.hereH
      by_cases hlt : s2.head < s2.trail.length
      · obtain ⟨bb, off, rfl, hbb, hcell⟩ := hrow s2.head hlt
        have hx := hI.tr.ok _ (List.getElem_mem hlt)
        have hxm : - - s2.trail[s2.head] ∈ s2.trail := by rw [Int.neg_neg]; exact List.getElem_mem hlt
        have HXG : Hid (s2.trail[s2.head]? = some (- - s2.trail[s2.head])) := by unfold Hid; rw [Int.neg_neg]; exact List.getElem?_eq_getElem hlt
        have VS := hide (fun m => visit_any (hR.drewN m) hI hl2 (- s2.trail[s2.head]) hx.neg hxm)
        have hxb : -1048576 ≤ s2.trail[s2.head] ∧ s2.trail[s2.head] ≤ 1048576 := by unfold Lt at hx; omega
        have hwn : IntKind.i64.wrap (- s2.trail[s2.head]) = - s2.trail[s2.head] := by rw [IntKind.wrap_i64]; omega
        have hhi : (s2.head : Int) < s2.trail.length := by omega
        have HI := hide hI
        have HE := hide hE
        have HF := hide hF
        have HLT := hide hlate
        have HLL := hide htl
        clear hR hI hE hF hlate hrow et hx hxm hhd htl
        generalize hxx : s2.trail[s2.head] = x at *
        clear hxx
        generalize hN : s2.trail.length = N at *
        have HN := hide hN
        clear hN
        generalize hhead : s2.head = hd at *
        have HHD := hide hhead
        clear hhead
        go_wp2_with fail
        go_quiet (fail)
        go_wp2_with fail
        go_region_law (go_simp; go_at_call 73; refine (unhide VS (nq + 1)).mono ?_; rintro e w2 ⟨n2, rfl, hvis⟩; have HVIS := hide hvis; clear hvis)
        all_goals
          obtain ⟨ρ3, H3, s3, hR3, hI3, hE3, hF3, hla3, hhd3, hcase3⟩ := HVIS.out
          clear HVIS VS c8 c9
          rcases hcase3 with ⟨rfl, q, hq, htru⟩ | hbr
          · have hc9 := hR3.c9
            have hf9 := hR3.fz 9
            rw [hhd3] at hc9
            have hgx : s3.trail[s3.head]? = some (- -x) := by
              obtain ⟨mm, em⟩ := hF3.tr
              have h1 := HXG.out
              rw [hhd3, HHD.out, em, List.getElem?_append_left (by rw [HN.out]; exact hlt)]
              exact h1
            have hI4 := head_on hI3 (hla3.trans HLT.out) hgx hq htru
            have hR4 := hR3.setHead (s3.head + 1)
            have HB : Hid (hd ≤ 1048576) := by have h1 := trail_len hI3.tr; have h2 := hI3.sz.vars; have h3 := hI3.tr.hd; rw [hhd3, HHD.out] at h3; unfold Hid; omega
            have HR4 := hide hR4
            have HI4 := hide hI4
            have HE4 := hide ((HE.out.trans ((Ev.drewN _ _ _).trans hE3)).trans (Ev.set hR3.roleB 9 (.int .i64 ((s3.head + 1 : Nat) : Int))))
            have HF4 : Hid (Frm s { s3 with head := s3.head + 1 }) := (HF.out.trans hF3).trans ⟨rfl, rfl, rfl, rfl, rfl, [], by simp⟩
            have HL4 := hide (hla3.trans HLT.out)
            have HS3 := hide hhd3
            rw [HHD.out] at hc9
            clear hR3 hI3 hE3 hF3 hla3 hhd3 hq htru hgx hI4 hR4
            have ehd : ((s3.head + 1 : Nat) : Int) = (hd : Int) + 1 := by have := HS3.out; have := HHD.out; omega
            rw [ehd] at HR4 HE4
            have HH4 := hide HR4.out.hereH
            have hdb : (hd : Int) ≤ 1048576 := by have := HB.out; omega
            go_wp2
            go_roundw
            case rel => exact ⟨ρ3, H3, { s3 with head := s3.head + 1 }, HR4.out, HI4.out, HE4.out, HF4.out, HL4.out⟩
            case measure => rw [HH4.out, HH.out]; show 1048577 - (s3.head + 1) < 1048577 - _; have h1 := HS3.out; have h2 := HHD.out; have h3 := HB.out; omega
          · have hne := hbr.ne
            have HR3 := hide hR3
            have HI3 := hide hI3
            have HE3 := hide (HE.out.trans ((Ev.drewN _ _ _).trans hE3))
            have HF3 := hide (HF.out.trans hF3)
            have HBR := hide hbr
            clear hR3 hI3 hE3 hF3 hla3 hhd3 hbr
            go_wp2
            go_ret
            exact ⟨n2, rfl, ρ3, H3, s3, HR3.out, HI3.out, HE3.out, HF3.out, .inr HBR.out⟩
      · have hhe : s2.head = s2.trail.length := by omega
        have HR := hide hR
        have HI := hide hI
        have HE := hide hE
        have HF := hide hF
        have HLT := hide hlate
        have HHE2 : Hid (s2.head = s2.trail.length) := hhe
        have hhi : ¬ (s2.head : Int) < s2.trail.length := by omega
        clear hR hI hE hF hlate hrow et hhe
        go_wp2_with fail
        go_quiet (fail)
        go_wp2
        go_ret
        exact ⟨_, rfl, ρ2, H2, s2, HR.out.drewN _, HI.out, HE.out.trans (Ev.drewN _ _ _), HF.out, .inl ⟨rfl, HLT.out, HHE2.out⟩⟩
  · have hne := hbr.ne
    go_wp2
    go_ret
    exact ⟨n, rfl, ρ1, H1, s1, hR, hI1, hE, hF, .inr hbr⟩
end

end Go.Proofs.Ytlmbgaconjcaiab

namespace Go.Proofs.Ytlmbgaconjcaiab
open Go.RowKit

theorem Try.info88 : (Try.prog.info? 88).map (fun i => (i.zero, i.size, i.bytes)) = some (some (.int .i8 0), 1, 1) := by kernel_rfl
theorem Try.info98 : (Try.prog.info? 98).map (fun i => (i.zero, i.size, i.bytes)) = some (some (.slice none 0 0), 1, 24) := by kernel_rfl
theorem Try.info102 : (Try.prog.info? 102).map (fun i => (i.zero, i.size, i.bytes)) = some (some (.agg #[.int .i64 0, .int .i64 0, .int .i64 0]), 3, 24) := by kernel_rfl

theorem cellUp {W : World} {b i : Nat} {v : Value} (o : Obj) (h : W.cell? ⟨b, i, none⟩ = some v) : (W.alloc o).cell? ⟨b, i, none⟩ = some v :=
  (World.cell?_of_block (a := ⟨b, i, none⟩) (heap_alloc_old W o (World.block_lt_of_cell? W ⟨b, i, none⟩ h))).trans h
theorem cellDrew {W : World} {a : Addr} {v : Value} (h : W.cell? a = some v) : W.drew.cell? a = some v := h

set_option maxRecDepth 100000 in
set_option maxHeartbeats 800000 in
theorem new_no (a : Option Addr) (cap : Nat) (n : Int) (css : List (List Int)) (w : World) (hg : Grid w a css) (hl : css.length ≤ maxLen) (hno : cnfB n css = false) :
    Calls Try.prog 23 #[.agg #[.int .i64 n, .slice a css.length cap]] w fun e w' => e = .returned (.tuple #[.pointer none, .int .i64 1]) ∧ Below w.heap.size w w' := by
  have hbW := below_alloc w (.cells #[.int .i64 n, .slice a css.length cap] 24)
  have C := checkCnf_any a cap n css _ (hg.below hbW) hl
  rw [hno] at C
  replace C := hide C
  have HB := hide hbW
  clear hg hbW
  go_enter Try.func23, Try.ntmps23
  go_wp2_with fail
  refine (unhide C).mono ?_
  rintro e w1 ⟨rfl, hb1⟩
  simp only [errI, Bool.false_eq_true, if_false]
  go_wp2
  go_ret2
  exact ⟨rfl, HB.out.trans (hb1.mono (by simp))⟩

/-- All blocks are someone else's. -/
def free : Nat → Rl := fun _ => oth

theorem Row.ev {ρ : Nat → Rl} {w w' : World} {a : Option Addr} {xs : List Int} (h : Row w a xs) (hE : Ev free w ρ w') : Row w' a xs := by
  intro i hi
  obtain ⟨b, off, e, hb, hc⟩ := h i hi
  exact ⟨b, off, e, Nat.lt_of_lt_of_le hb hE.size, (World.cell?_of_block (a := ⟨b, off + i, none⟩) (hE.keep b hb rfl)).trans hc⟩
theorem Ev.bel {ρ : Nat → Rl} {w w' : World} (hE : Ev free w ρ w') : Below w.heap.size w w' := ⟨hE.os, hE.tape, hE.output, hE.size, fun k hk => hE.keep k hk rfl⟩

theorem made_rep (z : Value) (n : Nat) : (madeCells #[z] n).toList = List.replicate n z := by
  apply List.ext_getElem
  · simp [madeCells]
  · intro i h1 h2
    simp [madeCells, Nat.mod_one]
theorem made_rep3 (z : Value) (n : Nat) : (madeCells #[z, z, z] n).toList = List.replicate n z := by
  apply List.ext_getElem
  · simp [madeCells]
  · intro i h1 h2
    simp [madeCells]
    have : i % 3 = 0 ∨ i % 3 = 1 ∨ i % 3 = 2 := by omega
    rcases this with e | e | e <;> rw [e] <;> rfl
theorem facC_rep : ∀ n : Nat, facC (List.replicate n (0, 0, 0)) = List.replicate (n * 3) (.int .i64 0)
  | 0 => rfl
  | n + 1 => by
    rw [List.replicate_succ, show (n + 1) * 3 = n * 3 + 1 + 1 + 1 by omega, List.replicate_succ, List.replicate_succ, List.replicate_succ]
    simp only [facC, facC_rep n]

/-- The blocks of a new propagator, ahead of its clauses. -/
structure NewW (base B V N M : Nat) (w1 W : World) (gv gw gf : Nat) : Prop where
  n1 : gv ≠ gw
  n2 : gv ≠ gf
  n3 : gw ≠ gf
  n4 : B ≠ gv ∧ B ≠ gw ∧ B ≠ gf
  lo : base ≤ gv ∧ base ≤ gw ∧ base ≤ gf ∧ base ≤ B
  vv : W.heap[gv]? = some (.cells (madeCells #[.int .i8 0] N) 88 (0, 0))
  ww : W.heap[gw]? = some (.cells (madeCells #[.slice none 0 0] N) 98 (0, 0))
  ff : W.heap[gf]? = some (.cells (madeCells #[.int .i64 0, .int .i64 0, .int .i64 0] (M * 3)) 102 (0, 0))
  bb : W.heap[B]? = some (.cells #[.pointer none, .int .i64 V, .slice none 0 0, .int .i64 0, .int .i64 0, .slice (some ⟨gv, 0, none⟩) N N, .slice (some ⟨gw, 0, none⟩) N N, .slice (some ⟨gf, 0, none⟩) M M, .slice none 0 0, .int .i64 0, .slice none 0 0, .slice none 0 0] 67 (0, 0))
  bel : Below base w1 W

def hd0 (N gv gw gf M : Nat) : Hd := ⟨.slice none 0 0, .slice (some ⟨gv, 0, none⟩) N N, .slice (some ⟨gw, 0, none⟩) N N, .slice (some ⟨gf, 0, none⟩) M M, .slice none 0 0, .slice none 0 0, .slice none 0 0, fun _ => 0, fun _ => .slice none 0 0, List.replicate N (.slice none 0 0), []⟩

theorem NewW.rep {base B V N M : Nat} {w1 W : World} {gv gw gf : Nat} (h : NewW base B V N M w1 W gv gw gf) (hN : N = 2 * V + 1) (hM : M = V + 1) (hV : V ≤ 1048576) :
    ∃ ρ, Rep ρ (W.setCell ⟨B, 0, none⟩ (.pointer (some ⟨B, 0, none⟩))) B (hd0 N gv gw gf M) (PS.zero V) ∧ (∀ b, b < base → ρ b = oth) := by
  obtain ⟨l1, l2, l3, l4⟩ := h.lo
  obtain ⟨m1, m2, m3⟩ := h.n4
  have e : ∀ k, k ≠ B → (W.setCell ⟨B, 0, none⟩ (.pointer (some ⟨B, 0, none⟩))).heap[k]? = W.heap[k]? := fun k hk => Below.heap_setCell _ _ _ _ hk
  have rowOf : ∀ (g n sz : Nat) (t : TypeId) (cs : Array Value), W.heap[g]? = some (.cells cs t (0, 0)) → g ≠ B → cs.size = n * sz → n ≤ maxLen → (W.setCell ⟨B, 0, none⟩ (.pointer (some ⟨B, 0, none⟩))).ownsRow 0 t sz (.slice (some ⟨g, 0, none⟩) n n) n cs.toList := by
    intro g n sz t cs hg hgB hs hn
    exact ⟨by simpa using hs, .inr ⟨g, n, cs, rfl, Nat.zero_le _, by rw [e g hgB]; exact hg, Nat.le_refl _, hn, hs, by rw [List.take_of_length_le (by simp [hs])]⟩⟩
  refine ⟨rs (rs (rs (rs free B (0, 0)) gv (4, 0)) gw (5, 0)) gf (7, 0), ⟨⟨?_, ?_⟩, by simp [hd0, PS.zero, hN], by simp [hd0, PS.zero]⟩, ?_⟩
  · refine rl_cases ?_ ?_ (fun i x hx => by simp [ents, PS.zero] at hx) (fun i x hx => by simp [ents, PS.zero] at hx) ?_ ?_ (fun i x hx => ?_) ?_ ?_ ?_ (fun i x hx => by simp [ents, PS.zero, hd0, lvlE] at hx) ?_ (fun k i hn _ _ _ _ _ _ _ _ _ _ _ _ x hx => by rw [hn] at hx; cases hx)
    · intro x hx
      simp only [ents, Option.some.injEq] at hx; subst hx
      have h0 := own_of_block h.bb (sz := 12) rfl
      exact own_set (i := 0) h0 (g := B) rfl (.pointer (some ⟨B, 0, none⟩))
    · intro x hx; simp only [ents, Option.some.injEq] at hx; subst hx; exact World.ownsRow_nil _ _ _ _
    · intro x hx
      simp only [ents, Option.some.injEq] at hx; subst hx
      have := rowOf gv N 1 88 _ h.vv (Ne.symm m1) (by simp [size_madeCells]) (by unfold maxLen; omega)
      rw [made_rep] at this
      simpa [hd0, PS.zero, valC, hN] using this
    · intro x hx
      simp only [ents, Option.some.injEq] at hx; subst hx
      have := rowOf gw N 1 98 _ h.ww (Ne.symm m2) (by simp [size_madeCells]) (by unfold maxLen; omega)
      rw [made_rep] at this
      simpa [hd0, PS.zero, hN] using this
    · simp only [ents, PS.zero, hd0, List.getElem?_replicate] at hx
      split at hx
      · split at hx
        · simp only [watE, Option.some.injEq] at hx; subst hx; exact World.ownsRow_nil _ _ _ _
        · simp [watE] at hx
      · simp [watE] at hx
    · intro x hx
      simp only [ents, Option.some.injEq] at hx; subst hx
      have := rowOf gf M 3 102 _ h.ff (Ne.symm m3) (by simp [size_madeCells]) (by unfold maxLen; omega)
      rw [made_rep3] at this
      simpa [hd0, PS.zero, facC_rep, hM] using this
    · intro x hx; simp only [ents, Option.some.injEq] at hx; subst hx; exact World.ownsRow_nil _ _ _ _
    · intro x hx; simp only [ents, Option.some.injEq] at hx; subst hx; exact World.ownsRow_nil _ _ _ _
    · intro x hx; simp only [ents, Option.some.injEq] at hx; subst hx; exact World.ownsRow_nil _ _ _ _
  · have n1 := h.n1
    have n2 := h.n2
    have n3 := h.n3
    refine rl_cases ?_ ?_ (fun i x g hx => by simp [ents, PS.zero] at hx) (fun i x g hx => by simp [ents, PS.zero] at hx) ?_ ?_ (fun i x g hx hg => ?_) ?_ ?_ ?_ (fun i x g hx => by simp [ents, PS.zero, hd0, lvlE] at hx) ?_ (fun k i hn _ _ _ _ _ _ _ _ _ _ _ _ x g hx => by rw [hn] at hx; cases hx)
    · intro x g hx hg
      simp only [ents, Option.some.injEq] at hx; subst hx
      simp [obj1, Value.ownBlock] at hg; subst hg
      rw [rs_other _ _ m3, rs_other _ _ m2, rs_other _ _ m1, rs_same]
    · intro x g hx hg; simp only [ents, Option.some.injEq] at hx; subst hx; simp [hd0, Value.ownBlock] at hg
    · intro x g hx hg
      simp only [ents, Option.some.injEq] at hx; subst hx
      simp [hd0, Value.ownBlock] at hg; subst hg
      rw [rs_other _ _ n2, rs_other _ _ n1, rs_same]
    · intro x g hx hg
      simp only [ents, Option.some.injEq] at hx; subst hx
      simp [hd0, Value.ownBlock] at hg; subst hg
      rw [rs_other _ _ n3, rs_same]
    · simp only [ents, PS.zero, hd0, List.getElem?_replicate] at hx
      split at hx
      · split at hx
        · simp only [watE, Option.some.injEq] at hx; subst hx; simp [Value.ownBlock] at hg
        · simp [watE] at hx
      · simp [watE] at hx
    · intro x g hx hg
      simp only [ents, Option.some.injEq] at hx; subst hx
      simp [hd0, Value.ownBlock] at hg; subst hg
      exact rs_same _ _ _
    · intro x g hx hg; simp only [ents, Option.some.injEq] at hx; subst hx; simp [hd0, Value.ownBlock] at hg
    · intro x g hx hg; simp only [ents, Option.some.injEq] at hx; subst hx; simp [hd0, Value.ownBlock] at hg
    · intro x g hx hg; simp only [ents, Option.some.injEq] at hx; subst hx; simp [hd0, Value.ownBlock] at hg
  · intro b hb
    rw [rs_other _ _ (by omega), rs_other _ _ (by omega), rs_other _ _ (by omega), rs_other _ _ (by omega)]; rfl

theorem frz_of_block {W : World} {g : Nat} {cs : Array Value} {e : TypeId} (h : W.heap[g]? = some (.cells cs e (0, 0))) {i : Nat} : W.frozen? ⟨g, i, none⟩ = false := by
  simp [World.frozen?, h]
theorem cell_of_block {W : World} {g i : Nat} {cs : Array Value} {e : TypeId} {v : Value} (h : W.heap[g]? = some (.cells cs e (0, 0))) (hv : cs[i]? = some v) : W.cell? ⟨g, i, none⟩ = some v := by
  simp [World.cell?, h, hv]

/-- A grid whose nil rows have no room. -/
def GridC (w : World) (a : Option Addr) (css : List (List Int)) : Prop :=
  ∀ i (h : i < css.length), ∃ b off ai ci, a = some ⟨b, off, none⟩ ∧ b < w.heap.size ∧ w.cell? ⟨b, off + i, none⟩ = some (.slice ai css[i].length ci) ∧ Row w ai css[i] ∧ css[i].length ≤ maxLen ∧ (ai = none → ci = 0)

theorem GridC.grid {w : World} {a : Option Addr} {css : List (List Int)} (h : GridC w a css) : Grid w a css := by
  intro i hi
  obtain ⟨b, off, ai, ci, e, hb, hc, hr, hl, _⟩ := h i hi
  exact ⟨b, off, ai, ci, e, hb, hc, hr, hl⟩
theorem GridC.below {w w' : World} {a : Option Addr} {css : List (List Int)} (h : GridC w a css) (hb : Below w.heap.size w w') : GridC w' a css := by
  intro i hi
  obtain ⟨b, off, ai, ci, e, hlt, hc, hr, hl, hn⟩ := h i hi
  refine ⟨b, off, ai, ci, e, Nat.lt_of_lt_of_le hlt hb.size, (World.cell?_of_block (a := ⟨b, off + i, none⟩) (hb.block b hlt)).trans hc, ?_, hl, hn⟩
  intro j hj
  obtain ⟨b', off', e', hb', hc'⟩ := hr j hj
  exact ⟨b', off', e', Nat.lt_of_lt_of_le hb' hb.size, (World.cell?_of_block (a := ⟨b', off' + j, none⟩) (hb.block b' hb')).trans hc'⟩

/-- A propagator made of a formula. -/
def NewP (w : World) (B V : Nat) (css : List (List Int)) (w' : World) : Prop :=
  ∃ ρ H, Rep ρ w' B H (css.foldl PS.attach (PS.zero V)) ∧ Ev free w ρ w'

theorem heap4 (w : World) (o1 o2 o3 o4 : Obj) :
    let W := ((((w.alloc o1).alloc o2).alloc o3).alloc o4).drew
    W.heap[w.heap.size]? = some o1 ∧ W.heap[w.heap.size + 1]? = some o2 ∧ W.heap[w.heap.size + 1 + 1]? = some o3 ∧ W.heap[w.heap.size + 1 + 1 + 1]? = some o4 ∧ Below w.heap.size w W := by
  have s1 : (w.alloc o1).heap.size = w.heap.size + 1 := by simp
  have s2 : ((w.alloc o1).alloc o2).heap.size = w.heap.size + 1 + 1 := by simp
  have s3 : (((w.alloc o1).alloc o2).alloc o3).heap.size = w.heap.size + 1 + 1 + 1 := by simp
  have new : ∀ (w : World) (o : Obj), (w.alloc o).heap[w.heap.size]? = some o := by
    intro w o
    have e : (w.alloc o).heap = w.heap.push o := rfl
    rw [e]; simp
  intro W
  refine ⟨?_, ?_, ?_, ?_, ?_⟩
  · show ((((w.alloc o1).alloc o2).alloc o3).alloc o4).heap[w.heap.size]? = some o1
    rw [heap_alloc_old _ _ (by omega), heap_alloc_old _ _ (by omega), heap_alloc_old _ _ (by omega)]; exact new w o1
  · show ((((w.alloc o1).alloc o2).alloc o3).alloc o4).heap[w.heap.size + 1]? = some o2
    rw [heap_alloc_old _ _ (by omega), heap_alloc_old _ _ (by omega), ← s1]; exact new _ o2
  · show ((((w.alloc o1).alloc o2).alloc o3).alloc o4).heap[w.heap.size + 1 + 1]? = some o3
    rw [heap_alloc_old _ _ (by omega), ← s2]; exact new _ o3
  · show ((((w.alloc o1).alloc o2).alloc o3).alloc o4).heap[w.heap.size + 1 + 1 + 1]? = some o4
    rw [← s3]; exact new _ o4
  · have b1 := below_alloc w o1
    have b2 := (below_alloc (w.alloc o1) o2).mono (B' := w.heap.size) (by omega)
    have b3 := (below_alloc ((w.alloc o1).alloc o2) o3).mono (B' := w.heap.size) (by omega)
    have b4 := (below_alloc (((w.alloc o1).alloc o2).alloc o3) o4).mono (B' := w.heap.size) (by omega)
    have b := ((b1.trans b2).trans b3).trans b4
    exact ⟨b.os, b.tape, b.output, b.size, b.block⟩

theorem NewW.of {base B V N M : Nat} {w1 W : World} (gv gw gf : Nat) (n : gv ≠ gw ∧ gv ≠ gf ∧ gw ≠ gf ∧ (B ≠ gv ∧ B ≠ gw ∧ B ≠ gf) ∧ (base ≤ gv ∧ base ≤ gw ∧ base ≤ gf ∧ base ≤ B))
    (vv : W.heap[gv]? = some (.cells (madeCells #[.int .i8 0] N) 88 (0, 0))) (ww : W.heap[gw]? = some (.cells (madeCells #[.slice none 0 0] N) 98 (0, 0))) (ff : W.heap[gf]? = some (.cells (madeCells #[.int .i64 0, .int .i64 0, .int .i64 0] (M * 3)) 102 (0, 0)))
    (bb : W.heap[B]? = some (.cells #[.pointer none, .int .i64 V, .slice none 0 0, .int .i64 0, .int .i64 0, .slice (some ⟨gv, 0, none⟩) N N, .slice (some ⟨gw, 0, none⟩) N N, .slice (some ⟨gf, 0, none⟩) M M, .slice none 0 0, .int .i64 0, .slice none 0 0, .slice none 0 0] 67 (0, 0)))
    (bel : Below base w1 W) : ∃ gv gw gf, NewW base B V N M w1 W gv gw gf := ⟨gv, gw, gf, n.1, n.2.1, n.2.2.1, n.2.2.2.1, n.2.2.2.2, vv, ww, ff, bb, bel⟩

theorem foldl_attach : ∀ (css : List (List Int)) (s : PS), Inv s → (∀ c ∈ css, ∀ x ∈ c, Lt s.vars x) → s.cls.length + css.length ≤ 1048576 →
    Inv (css.foldl PS.attach s) ∧ (css.foldl PS.attach s).vars = s.vars ∧ (css.foldl PS.attach s).cls.map key = s.cls.map key ++ css.map (fun c => (c, false)) ∧ (css.foldl PS.attach s).trail = s.trail ∧ (css.foldl PS.attach s).lvs = s.lvs ∧ (css.foldl PS.attach s).count = s.count + css.length ∧ (css.foldl PS.attach s).stale = s.stale
  | [], s, h, _, _ => ⟨h, rfl, by simp, rfl, rfl, by simp, rfl⟩
  | c :: cs, s, h, hl, hn => by
    obtain ⟨k1, k2, k3, k4, k5, k6⟩ := attach_cls s c
    simp only [List.length_cons] at hn
    have hlen : (s.attach c).cls.length = s.cls.length + 1 := by
      have := congrArg List.length k1; simpa using this
    obtain ⟨r1, r2, r3, r4, r5, r6, r7⟩ := foldl_attach cs (s.attach c) (attach_inv h (hl c (List.mem_cons_self ..)) (by omega)) (fun d hd => by rw [k2]; exact hl d (List.mem_cons_of_mem _ hd)) (by omega)
    refine ⟨r1, r2.trans k2, ?_, r4.trans k3, r5.trans k4, ?_, r7.trans k6⟩
    · rw [List.foldl_cons, r3, k1]; simp
    · rw [List.foldl_cons, r6, k5]; simp only [List.length_cons]; omega

/-- The clauses of a new propagator, and what else it has. -/
theorem news (V : Nat) (hV : V ≤ 1048576) (css : List (List Int)) (hl : ∀ c ∈ css, ∀ x ∈ c, Lt V x) (hn : css.length ≤ 900) :
    Inv (css.foldl PS.attach (PS.zero V)) ∧ (css.foldl PS.attach (PS.zero V)).vars = V ∧ (css.foldl PS.attach (PS.zero V)).cls.map key = css.map (fun c => (c, false)) ∧ (css.foldl PS.attach (PS.zero V)).trail = [] ∧ (css.foldl PS.attach (PS.zero V)).lvs = [] ∧ (css.foldl PS.attach (PS.zero V)).count = css.length ∧ (css.foldl PS.attach (PS.zero V)).stale = 0 := by
  obtain ⟨r1, r2, r3, r4, r5, r6, r7⟩ := foldl_attach css (PS.zero V) (zero_inv V hV) hl (by simp [PS.zero]; omega)
  exact ⟨r1, r2, by simpa [PS.zero] using r3, r4, r5, by simpa [PS.zero] using r6, r7⟩

theorem cnf_lt {V : Nat} {css : List (List Int)} (h : cnfB V css = true) : ∀ c ∈ css, c.length ≤ 4096 ∧ ∀ x ∈ c, Lt V x := by
  intro c hc
  unfold cnfB at h
  simp only [Bool.and_eq_true, List.all_eq_true] at h
  have := h.2 c hc
  unfold mayB at this
  simp only [Bool.and_eq_true, decide_eq_true_eq, List.all_eq_true] at this
  refine ⟨this.1, fun x hx => ?_⟩
  have := this.2 x hx
  unfold litB at this
  simp only [decide_eq_true_eq] at this
  exact this

theorem new_lits {css : List (List Int)} {s : PS} (h : s.cls.map key = css.map (fun c => (c, false))) (hl : ∀ c ∈ css, c.length ≤ 4096) : ∀ c ∈ s.cls, c.lits.length ≤ 10000 := by
  intro c hc
  have : key c ∈ s.cls.map key := List.mem_map_of_mem hc
  rw [h] at this
  obtain ⟨d, hd, e⟩ := List.mem_map.1 this
  have e1 : d = c.lits := congrArg Prod.fst e
  have := hl d hd
  rw [e1] at this; omega

set_option maxRecDepth 100000 in
set_option maxHeartbeats 4000000 in
theorem new_yes (a : Option Addr) (cap : Nat) (V : Nat) (css : List (List Int)) (w : World) (hg0 : GridC w a css) (hl : css.length ≤ 900) (hyes : cnfB V css = true) (hV : V ≤ 1048576) :
    Calls Try.prog 23 #[.agg #[.int .i64 V, .slice a css.length cap]] w fun e w' => ∃ B, e = .returned (.tuple #[.pointer (some ⟨B, 0, none⟩), .int .i64 0]) ∧ NewP w B V css w' := by
  have hg := hg0.grid
  have hlm : css.length ≤ maxLen := by unfold maxLen; omega
  have hbW := below_alloc w (.cells #[.int .i64 V, .slice a css.length cap] 24)
  have C := checkCnf_any a cap V css _ (hg.below hbW) hlm
  rw [hyes] at C
  replace C := hide C
  have HB := hide hbW
  obtain ⟨N, hN⟩ : ∃ N : Nat, N = 2 * V + 1 := ⟨_, rfl⟩
  obtain ⟨M, hM⟩ : ∃ M : Nat, M = V + 1 := ⟨_, rfl⟩
  obtain ⟨j1, hj1, hj1z, hj1s, hj1b⟩ := info_parts Try.info88
  obtain ⟨j2, hj2, hj2z, hj2s, hj2b⟩ := info_parts Try.info98
  obtain ⟨j3, hj3, hj3z, hj3s, hj3b⟩ := info_parts Try.info102
  have mk1 : ∀ W : World, (Instr.makeSlice 61 (.int .i64 (N : Int)) (.int .i64 (N : Int))).run Try.prog W = .ok (.slice (some ⟨W.heap.size, 0, none⟩) N N) (W.alloc (.cells (madeCells #[.int .i8 0] N) 88)) := fun W => run_make_row 61 88 j1 _ Try.underlying61 hj1 hj1z hj1s rfl .i64 .i64 N (by rw [hj1b]; omega) (by omega) W
  have mk2 : ∀ W : World, (Instr.makeSlice 62 (.int .i64 (N : Int)) (.int .i64 (N : Int))).run Try.prog W = .ok (.slice (some ⟨W.heap.size, 0, none⟩) N N) (W.alloc (.cells (madeCells #[.slice none 0 0] N) 98)) := fun W => run_make_row 62 98 j2 _ Try.underlying62 hj2 hj2z hj2s rfl .i64 .i64 N (by rw [hj2b]; omega) (by omega) W
  have mk3 : ∀ W : World, (Instr.makeSlice 63 (.int .i64 (M : Int)) (.int .i64 (M : Int))).run Try.prog W = .ok (.slice (some ⟨W.heap.size, 0, none⟩) M M) (W.alloc (.cells (madeCells #[.int .i64 0, .int .i64 0, .int .i64 0] (M * 3)) 102)) := by
    intro W
    have h := run_make W 63 102 j3 _ Try.underlying63 hj3 hj3z .i64 .i64 (M : Int) (M : Int) (by omega) (Int.le_refl _) (by rw [hj3b]; omega) (by omega)
    rw [hj3s] at h
    simpa [Value.cells] using h
  have HN := hide hN
  have HM := hide hM
  have HG := hide hg0
  have HY := hide hyes
  have eN : 2 * (V : Int) + 1 = (N : Int) := by omega
  have eM : (V : Int) + 1 = (M : Int) := by omega
  have hw2 : IntKind.i64.wrap (2 * (V : Int)) = 2 * V := by rw [IntKind.wrap_i64]; omega
  have hwN : IntKind.i64.wrap (N : Int) = N := by rw [IntKind.wrap_i64]; omega
  have hwM : IntKind.i64.wrap (M : Int) = M := by rw [IntKind.wrap_i64]; omega
  clear hg hg0 hyes hlm hbW hj1 hj2 hj3 hj1z hj1s hj1b hj2z hj2s hj2b hj3z hj3s hj3b
  go_enter Try.func23, Try.ntmps23
  go_wp2_with fail
  refine (unhide C).mono ?_
  rintro e w1 ⟨rfl, hb1⟩
  simp only [errI, if_true]
  have hcell0 : w1.cell? ⟨w.heap.size, 0, none⟩ = some (.int .i64 V) := by
    rw [hb1.cell (p := ⟨w.heap.size, 0, none⟩) (by simp), World.cell?_alloc_at _ _ _ _ rfl]; rfl
  have hcell1 : w1.cell? ⟨w.heap.size, 1, none⟩ = some (.slice a css.length cap) := by
    rw [hb1.cell (p := ⟨w.heap.size, 1, none⟩) (by simp), World.cell?_alloc_at _ _ _ _ rfl]; rfl
  have hlt1 : w.heap.size < w1.heap.size := by have := hb1.size; simp at this; omega
  have HB1 := hide hb1
  have hnew := World.new_ne w1 ⟨w.heap.size, 0, none⟩ hcell0
  clear hb1 C hN hM
  go_wp2_with fail
  go_region_held3 (fun w' => w'.cell? ⟨w.heap.size, 0, none⟩ = some (.int .i64 V)) (first | (solve | (repeat (first | exact hcell0 | refine cellUp _ ?_ | refine cellDrew ?_))) | (dsimp only; repeat (first | exact hcell0 | refine cellUp _ ?_ | refine cellDrew ?_))) (fail)
  all_goals
    refine forget (P := fun W => Exit.then _ _ Exit.normal _ W) (fun W => ∃ gv gw gf, NewW w1.heap.size (w1.heap.size + 1 + 1 + 1) V N M w1 W gv gw gf) ?_ ?_
    · clear HG HY HB HB1 hcell0 hcell1 hnew mk1 mk2 mk3
      obtain ⟨q1, q2, q3, q4, q5⟩ := heap4 w1 _ _ _ _
      first
        | exact NewW.of _ _ _ (by omega) q1 q2 q3 q4 q5
        | exact NewW.of _ _ _ (by omega) q1 q3 q2 q4 q5
        | exact NewW.of _ _ _ (by omega) q2 q1 q3 q4 q5
        | exact NewW.of _ _ _ (by omega) q2 q3 q1 q4 q5
        | exact NewW.of _ _ _ (by omega) q3 q1 q2 q4 q5
        | exact NewW.of _ _ _ (by omega) q3 q2 q1 q4 q5
    obtain ⟨B, hB⟩ : ∃ B, B = w1.heap.size + 1 + 1 + 1 := ⟨_, rfl⟩
    rw [← hB]
    have hlt2 : w1.heap.size < B := by omega
    clear hB
    rintro W ⟨gv, gw, gf, hW⟩
    clear mk1 mk2 mk3 eN eM hw2 hwN hwM hcell0
    have hbW : Below w.heap.size w W := (HB.out.trans (HB1.out.mono (by simp))).trans (hW.bel.mono (by omega))
    obtain ⟨ρ0, hR0, hlow⟩ := hW.rep HN.out HM.out hV
    have hE0 : Ev free w ρ0 (W.setCell ⟨B, 0, none⟩ (.pointer (some ⟨B, 0, none⟩))) := by
      refine ⟨hbW.os, hbW.tape, hbW.output, by simpa [World.setCell] using hbW.size, fun b hb => hlow b (by omega), fun b hb _ => ?_⟩
      exact (Below.heap_setCell _ ⟨B, 0, none⟩ _ b (by show b ≠ B; omega)).trans (hbW.block b hb)
    have hfz : W.frozen? ⟨B, 0, none⟩ = false := frz_of_block hW.bb
    have hcB : W.cell? ⟨B, 0, none⟩ = some (.pointer none) := cell_of_block hW.bb rfl
    have hc1 : W.cell? ⟨w.heap.size, 1, none⟩ = some (.slice a css.length cap) := by
      rw [hW.bel.cell (p := ⟨w.heap.size, 1, none⟩) (by simp; omega)]; exact hcell1
    have hneB : B ≠ w.heap.size := by omega
    have HW := hide hW
    have HR := hide hR0
    have HE := hide hE0
    clear hW hR0 hE0 hlow hbW HB HB1 hcell1 hnew HN HM
    go_wp2_with fail
    refine forget (P := fun W => Code.wp Try.prog _ _ _ W) (fun W' => ∃ ρ1 H1, Rep ρ1 W' B H1 (([] : List (List Int)).foldl PS.attach (PS.zero V)) ∧ Ev free w ρ1 W') ⟨_, _, HR.out, HE.out⟩ ?_
    rintro W2 HW2
    clear HR HE HW hc1 hcB hfz
    go_loopw [35] (fun i wr => ∃ k : Nat, k ≤ css.length ∧ i = .int .i64 k ∧ ∃ ρ1 H1, Rep ρ1 wr B H1 ((css.take k).foldl PS.attach (PS.zero V)) ∧ Ev free w ρ1 wr) (fun i _ => css.length - (intOf i).toNat)
    case atStart => exact ⟨0, Nat.zero_le _, rfl, by simpa using HW2⟩
    case round =>
      obtain ⟨k, hk, rfl, ρ1, H1, hR, hE⟩ := hrel
      clear HW2
      by_cases hlt : k < css.length
      · obtain ⟨b, off, ai, ci, ea, hb, hc, hr, hm, hn⟩ := (HG.out.below hE.bel) k hlt
        have hlts := cnf_lt HY.out
        obtain ⟨i1, i2, i3, _⟩ := news V hV (css.take k) (fun c hc x hx => (hlts c (List.mem_of_mem_take hc)).2 x hx) (by simp; omega)
        have hsm := i1.small (new_lits i3 (fun c hc => (hlts c (List.mem_of_mem_take hc)).1))
        have A := attach_any hR i1.shp i1.vld hsm ai ci css[k] hr (fun x hx => by rw [i2]; exact (hlts _ (List.getElem_mem hlt)).2 x hx) (by have := (hlts _ (List.getElem_mem hlt)).1; omega) hn
        have e : (css.take (k + 1)).foldl PS.attach (PS.zero V) = ((css.take k).foldl PS.attach (PS.zero V)).attach css[k] := by rw [List.take_succ_eq_append_getElem hlt, List.foldl_append]; rfl
        have HA := hide A
        have HE := hide hE
        have He := hide e
        subst ea
        clear A hE e i1 i2 i3 hsm hlts hr hn hR
        go_wp2_with (go_at_call 31; refine (unhide HA).mono ?_; rintro e0 w2 ⟨rfl, ρ2, H2, hR2, hE2⟩)
        go_roundw
        case rel => exact ⟨k + 1, by omega, by go_num, ρ2, H2, by rw [He.out]; exact hR2, HE.out.trans hE2⟩
        case measure => simp [intOf]; omega
      · have hke : k = css.length := by omega
        subst hke
        have HR := hide hR
        have HE := hide hE
        clear hR hE
        go_wp2_with fail
        go_ret2
        exact ⟨B, rfl, ρ1, H1, by simpa using HR.out, HE.out⟩

end Go.Proofs.Ytlmbgaconjcaiab
