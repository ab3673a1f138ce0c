/- Joined: The law of steps, walked. From data that came in to the numbers, bytes and clauses that they hold. From a formula and clauses that came in to what they hold. From a formula and a step that came in to what they hold. -/
import Derived.Test.YtlmbgaconjcaiaaGreatWjAll
import Derived.Test.YtlmbgaconjcaiaaGreatWfAll
import Derived.Test.YtlmbgaconjcaiaaGreatRkAll
import Derived.Test.YtlmbgaconjcaiaaGreatWalkP
import Derived.Test.YtlmbgaconjcaiaaGreatWalkL
import Derived.OpenShut
import Derived.ProofKit
import Derived.Lib.SmallJoins
import Derived.Deep.Matrix
import Derived.Test.YtlmbgaconjcaiaaGreatHdAll
import Derived.Deep.Slices
import Derived.Deep.Fields
set_option linter.unusedVariables false
set_option linter.unusedSimpArgs false
namespace Go.Proofs.YtlmbgaconjcaiaaGreat
open Go.RowKit

/-- The law's two boxes. -/
structure Bs (w : World) (n : Int) (f : Value) (d : Bool) (u : Value) (x : World) : Prop where
  bel : Below w.heap.size w x
  b0 : x.heap[w.heap.size]? = some (.cells #[.int .i64 n, f] 24 (0, 0))
  b1 : x.heap[w.heap.size + 1]? = some (.cells #[.bool d, u] 32 (0, 0))
section
variable {w x x' : World} {n : Int} {f : Value} {d : Bool} {u : Value}
theorem Bs.below (h : Bs w n f d u x) (hb : Below x.heap.size x x') : Bs w n f d u x' :=
  ⟨h.bel.trans (hb.mono h.bel.size), (hb.block _ (lt_of_block h.b0)).trans h.b0, (hb.block _ (lt_of_block h.b1)).trans h.b1⟩
theorem bs_of (w : World) (n : Int) (f : Value) (d : Bool) (u : Value) : Bs w n f d u ((w.alloc (.cells #[.int .i64 n, f] 24)).alloc (.cells #[.bool d, u] 32)) := by
  have s1 : (w.alloc (.cells #[.int .i64 n, f] 24)).heap.size = w.heap.size + 1 := by simp
  refine ⟨((Below.refl _ _).alloc (Nat.le_refl _) _).alloc (by simp) _, ?_, ?_⟩
  · rw [heap_alloc_old _ _ (by rw [s1]; omega)]
    exact heap_alloc_new w _
  · have := heap_alloc_new (w.alloc (.cells #[.int .i64 n, f] 24)) (.cells #[.bool d, u] 32)
    rwa [s1] at this
theorem Bs.f0 (h : Bs w n f d u x) : x.cell? ⟨w.heap.size, 0, none⟩ = some (.int .i64 n) := cell_of_block h.b0 rfl
theorem Bs.f1 (h : Bs w n f d u x) : x.cell? ⟨w.heap.size, 1, none⟩ = some f := cell_of_block (i := 1) h.b0 rfl
theorem Bs.s0 (h : Bs w n f d u x) : x.cell? ⟨w.heap.size + 1, 0, none⟩ = some (.bool d) := cell_of_block h.b1 rfl
theorem Bs.s1 (h : Bs w n f d u x) : x.cell? ⟨w.heap.size + 1, 1, none⟩ = some u := cell_of_block (i := 1) h.b1 rfl
end

/-- And what the program's step told, in a box. -/
structure B5 (w : World) (n : Int) (f : Value) (d : Bool) (u : Value) (P : Nat) (y : Int) (av : Option Addr) (cs : List (List Int)) (cc : Nat) (x : World) : Prop where
  bs : Bs w n f d u x
  b5 : x.heap[P]? = some (.cells #[.int .i64 y, .slice av cs.length cc] 24 (0, 0))
  gr : Grid x av cs
section
variable {w x x' : World} {n : Int} {f : Value} {d : Bool} {u : Value} {P : Nat} {y : Int} {av : Option Addr} {cs : List (List Int)} {cc : Nat}
theorem B5.below (h : B5 w n f d u P y av cs cc x) (hb : Below x.heap.size x x') : B5 w n f d u P y av cs cc x' := ⟨h.bs.below hb, (hb.block _ (lt_of_block h.b5)).trans h.b5, h.gr.below hb⟩
theorem b5_of (h : Bs w n f d u x) (hg : Grid x av cs) : B5 w n f d u x.heap.size y av cs cc (x.alloc (.cells #[.int .i64 y, .slice av cs.length cc] 24)) := ⟨h.below (below_alloc _ _), heap_alloc_new _ _, hg.below (below_alloc _ _)⟩
theorem B5.c0 (h : B5 w n f d u P y av cs cc x) : x.cell? ⟨P, 0, none⟩ = some (.int .i64 y) := cell_of_block h.b5 rfl
theorem B5.c1 (h : B5 w n f d u P y av cs cc x) : x.cell? ⟨P, 1, none⟩ = some (.slice av cs.length cc) := cell_of_block (i := 1) h.b5 rfl
end

theorem remO_len (c : List Int) : ∀ css : List (List Int), (remO css c).length ≤ css.length
  | [] => Nat.le_refl _
  | d :: r => by
    unfold remO
    split
    · simp
    · simp [remO_len c r]
theorem docC_len (css : List (List Int)) (d : Bool) (c : List Int) : (docC css d c).length ≤ css.length + 1 := by
  unfold docC
  split
  · have := remO_len c css; omega
  · split <;> simp
theorem listsB_refl (xs : List (List Int)) : listsB xs xs = true := by
  unfold listsB
  simp

set_option maxHeartbeats 8000000 in
set_option maxRecDepth 100000 in
theorem does_any (w : World) (a ac : Option Addr) (cap cac : Nat) (n : Int) (css : List (List Int)) (d : Bool) (c : List Int) (hg : GridC w a css) (hl : css.length ≤ maxLen) (han : a = none → cap = 0) (hcap : css.length ≤ cap) (hcm : cap ≤ maxLen) (hr : Row w ac c) (hlc : c.length ≤ maxLen) (hn : ac = none → cac = 0) :
    Calls Tryz.prog 4 #[.agg #[.int .i64 n, .slice a css.length cap], .agg #[.bool d, .slice ac c.length cac]] w fun e w' => e = .returned (.bool true) ∧ Below w.heap.size w w' := by
  have B0 := bs_of w n (.slice a css.length cap) d (.slice ac c.length cac)
  have G1 := small_any a cap n css _ (hg.grid.below B0.bel) hl
  have GS : ∀ W, Calls Tryz.prog 7 #[.slice ac c.length cac] W fun e w' => e = .returned (.bool (decide ((c.length : Int) ≤ 60))) ∧ w' = W := fun W => short_any ac cac c W hlc
  have GA : Hid (∀ W, Calls Tryz.prog 8 #[] W fun e w' => e = .returned (.bool true) ∧ Below W.heap.size W w') := fun W => rupAwake_any W
  have HG := hide hg
  have HR := hide hr
  have HB0 := hide B0
  clear hg hr B0
  cases hsm : (lightB css && decide (css.length ≤ 40)) with
  | false =>
    rw [hsm] at G1
    replace G1 := hide G1
    clear GS hsm
    go_enter Tryz.func4, Tryz.ntmps4
    go_wp2_with (first | (go_at_call 6; refine (unhide G1).mono ?_; rintro e w1 ⟨rfl, hb1⟩) | (go_at_call 8; refine (unhide GA _).mono ?_; rintro e w2 ⟨rfl, hb2⟩))
    go_ret
    have h1 := (HB0.out.below hb1).below hb2
    exact ⟨rfl, h1.bel⟩
  | true =>
    rw [hsm] at G1
    replace G1 := hide G1
    have hcss : css.length ≤ 40 := by simp at hsm; exact hsm.2
    clear hsm
    by_cases hsh : (c.length : Int) ≤ 60
    · have hc60 : c.length ≤ 60 := by omega
      rw [decide_eq_true hsh] at GS
      replace GS := hide GS
      clear hsh
      have GC : ∀ W, Below w.heap.size w W → Calls Tryz.prog 9 #[.agg #[.int .i64 n, .slice a css.length cap]] W fun e w' => e = .returned (.bool (cnfB n css)) ∧ Below W.heap.size W w' := fun W hW => refCnf_any a cap n css W ((HG.out.below hW).grid) hl
      have GM : ∀ W, Below w.heap.size w W → Calls Tryz.prog 10 #[.slice ac c.length cac] W fun e w' => e = .returned (.bool (mayB c 1048576)) ∧ w' = W := fun W hW => may_any ac cac c W (HR.out.below hW) hlc
      by_cases hyes : cnfB n css = true ∧ mayB c 1048576 = true
      · obtain ⟨h1, h2⟩ := hyes
        rw [h1] at GC
        rw [h2] at GM
        replace GC := hide GC
        replace GM := hide GM
        obtain ⟨V, rfl⟩ : ∃ V : Nat, n = (V : Int) := ⟨n.toNat, by unfold cnfB at h1; simp only [Bool.and_eq_true, decide_eq_true_eq] at h1; omega⟩
        have GP : Hid (∀ W, Bs w V (.slice a css.length cap) d (.slice ac c.length cac) W → Calls Tryz.prog 16 #[.agg #[.int .i64 V, .slice a css.length cap], .agg #[.bool d, .slice ac c.length cac]] W fun e w' => ∃ av cc, e = .returned (.tuple #[.agg #[.int .i64 (docX V css d c : Nat), .slice av (docC css d c).length cc], .int .i64 (docE css d c)]) ∧ Grid w' av (docC css d c) ∧ Below W.heap.size W w') := fun W hW => by
          refine (rupDo_yes a ac cap cac V css d c W (HG.out.below hW.bel) (by omega) (HR.out.below hW.bel) (by omega) hn h1 h2).mono ?_
          rintro e w' ⟨x1, cv, r, css', rfl, hO, hE, hb⟩
          obtain ⟨e1, e2, e3⟩ := doe_ref hE (by omega) h1 h2
          subst e1 e2 e3
          obtain ⟨av, cc, rfl, hgr, _⟩ := hO.grid
          exact ⟨av, cc, rfl, hgr, hb⟩
        have GD : Hid (∀ W, Below w.heap.size w W → Calls Tryz.prog 18 #[.agg #[.int .i64 V, .slice a css.length cap], .agg #[.bool d, .slice ac c.length cac]] W fun e w' => ∃ av cc, e = .returned (.tuple #[.agg #[.int .i64 (docX V css d c : Nat), .slice av (docC css d c).length cc], .int .i64 (docE css d c)]) ∧ Grid w' av (docC css d c) ∧ Below W.heap.size W w') := fun W hW => by
          cases d with
          | true => exact refDo_del a ac cap cac V css c W ((HG.out.below hW).grid) hcap hcm (by omega) (HR.out.below hW) (by omega) h1 h2
          | false =>
            by_cases hno : (refU css c || refF css c) = true
            · exact refDo_add a ac cap cac V css c W ((HG.out.below hW).grid) han (by omega) (HR.out.below hW) (by omega) h1 h2 hno
            · exact refDo_bad a ac cap cac V css c W ((HG.out.below hW).grid) (by omega) (HR.out.below hW) (by omega) h1 h2 (by simpa using hno)
        have hdl : (docC css d c).length ≤ maxLen := by have := docC_len css d c; unfold maxLen; omega
        have GE : Hid (∀ W av cc av2 cc2, Grid W av (docC css d c) → Grid W av2 (docC css d c) → Calls Tryz.prog 17 #[.agg #[.int .i64 (docX V css d c : Nat), .slice av (docC css d c).length cc], .agg #[.int .i64 (docX V css d c : Nat), .slice av2 (docC css d c).length cc2]] W fun e w' => e = .returned (.bool true) ∧ Below W.heap.size W w') := fun W av cc av2 cc2 h1 h2 => by
          refine (refSame_any av av2 cc cc2 _ _ _ _ W h1 h2 hdl hdl).mono ?_
          rintro e w' ⟨rfl, hb⟩
          exact ⟨by unfold sameB; rw [listsB_refl]; simp, hb⟩
        have heq : (docE css d c == docE css d c) = true := by simp
        clear h1 h2 hdl
        generalize docC css d c = D at *
        generalize docE css d c = E at *
        generalize ((docX V css d c : Nat) : Int) = Y at *
        go_enter Tryz.func4, Tryz.ntmps4
        go_upto_region 3 with (first
          | (go_at_call 6; refine (unhide G1).mono ?_; rintro e w1 ⟨rfl, hb1⟩; have B1 := hide (HB0.out.below hb1); have x0 := B1.out.f0; have x1 := B1.out.f1; have x2 := B1.out.s0; have x3 := B1.out.s1; clear hb1)
          | (go_at_call 7; refine (unhide GS _).mono ?_; rintro e w0 ⟨rfl, hw0⟩; subst w0))
        clear G1 GS HB0
        go_upto_region 4 with (go_at_call 16; refine (GP.out _ B1.out).mono ?_; rintro e w2 ⟨av, cc, rfl, hgr, hb2⟩; have B2 := hide (b5_of (y := Y) (cc := cc) (B1.out.below hb2) hgr); clear hb2 hgr)
        clear x0 x1 x2 x3 GP
        have x0 := B2.out.bs.f0
        have x1 := B2.out.bs.f1
        have x2 := B2.out.bs.s0
        have x3 := B2.out.bs.s1
        generalize hw5 : w2.alloc (.cells #[.int .i64 Y, .slice av D.length cc] 24) = w5 at *
        generalize w2.heap.size = P at *
        clear hw5
        go_upto_region 6 with (first
          | (go_at_call 9; refine (unhide GC _ B2.out.bs.bel).mono ?_; rintro e w6 ⟨rfl, hb6⟩; have B6 := hide (B2.out.below hb6); have v0 := B6.out.bs.f0; have v1 := B6.out.bs.f1; have v2 := B6.out.bs.s0; have v3 := B6.out.bs.s1; clear hb6)
          | (go_at_call 10; refine (unhide GM _ B6.out.bs.bel).mono ?_; rintro e w0 ⟨rfl, hw0⟩; subst w0))
        clear x0 x1 x2 x3 GC GM B2
        go_upto_region 7 with (go_at_call 18; refine (GD.out _ B6.out.bs.bel).mono ?_; rintro e w7 ⟨av2, cc2, rfl, hgr2, hb7⟩; have B7 := hide (B6.out.below hb7); have HG2 := hide hgr2; clear hb7 hgr2)
        clear v0 v1 v2 v3 GD B6
        have B8 := hide (B7.out.below (below_alloc w7 (.cells #[.int .i64 Y, .slice av2 D.length cc2] 24)))
        have HG3 := hide (HG2.out.below (below_alloc w7 (.cells #[.int .i64 Y, .slice av2 D.length cc2] 24)))
        have k0 := B8.out.c0
        have k1 := B8.out.c1
        have k2 : (w7.alloc (.cells #[.int .i64 Y, .slice av2 D.length cc2] 24)).cell? ⟨w7.heap.size, 0, none⟩ = some (.int .i64 Y) := cell_of_block (heap_alloc_new _ _) rfl
        have k3 : (w7.alloc (.cells #[.int .i64 Y, .slice av2 D.length cc2] 24)).cell? ⟨w7.heap.size, 1, none⟩ = some (.slice av2 D.length cc2) := cell_of_block (i := 1) (heap_alloc_new _ _) rfl
        generalize hw8 : w7.alloc (.cells #[.int .i64 Y, .slice av2 D.length cc2] 24) = w8 at *
        generalize w7.heap.size = P2 at *
        clear hw8 B7 HG2
        go_wp2_with (first
          | (go_at_call 17; refine (GE.out _ _ _ _ _ B8.out.gr HG3.out).mono ?_; rintro e w9 ⟨rfl, hb9⟩)
          | (go_at_call 8; refine (unhide GA _).mono ?_; rintro e w10 ⟨rfl, hb10⟩))
        go_ret
        exact ⟨rfl, ((B8.out.below hb9).below hb10).bs.bel⟩
      · have hno : cnfB n css = false ∨ (cnfB n css = true ∧ mayB c 1048576 = false) := by
          cases h1 : cnfB n css
          · exact .inl rfl
          · cases h2 : mayB c 1048576
            · exact .inr ⟨rfl, rfl⟩
            · exact absurd ⟨h1, h2⟩ hyes
        have GP : Hid (∀ W, Bs w n (.slice a css.length cap) d (.slice ac c.length cac) W → Calls Tryz.prog 16 #[.agg #[.int .i64 n, .slice a css.length cap], .agg #[.bool d, .slice ac c.length cac]] W fun e w' => e = .returned (.tuple #[.agg #[.int .i64 0, .slice none 0 0], .int .i64 1]) ∧ Below W.heap.size W w') := fun W hW => rupDo_no a ac cap cac n css d c W ((HG.out.below hW.bel).grid) hl (HR.out.below hW.bel) hlc hn hno
        have GE : Hid (∀ W, Calls Tryz.prog 17 #[.agg #[.int .i64 0, .slice none 0 0], .agg #[.int .i64 0, .slice none 0 0]] W fun e w' => e = .returned (.bool true) ∧ Below W.heap.size W w') := fun W => by
          refine (refSame_any none none 0 0 0 0 [] [] W (fun i hi => by simp at hi) (fun i hi => by simp at hi) (by simp) (by simp)).mono ?_
          rintro e w' ⟨rfl, hb⟩
          exact ⟨by unfold sameB; rw [listsB_refl]; simp, hb⟩
        rcases hno with h1 | ⟨h1, h2⟩
        · rw [h1] at GC
          replace GC := hide GC
          clear h1 GM hyes
          go_enter Tryz.func4, Tryz.ntmps4
          go_upto_region 3 with (first
            | (go_at_call 6; refine (unhide G1).mono ?_; rintro e w1 ⟨rfl, hb1⟩; have B1 := hide (HB0.out.below hb1); have x0 := B1.out.f0; have x1 := B1.out.f1; have x2 := B1.out.s0; have x3 := B1.out.s1; clear hb1)
            | (go_at_call 7; refine (unhide GS _).mono ?_; rintro e w0 ⟨rfl, hw0⟩; subst w0))
          clear G1 GS HB0
          go_upto_region 4 with (go_at_call 16; refine (GP.out _ B1.out).mono ?_; rintro e w2 ⟨rfl, hb2⟩; have B2 := hide (b5_of (y := 0) (cs := []) (av := none) (cc := 0) (B1.out.below hb2) (fun i hi => by simp at hi)); clear hb2)
          clear x0 x1 x2 x3 GP
          have B2' : Hid (B5 w n (.slice a css.length cap) d (.slice ac c.length cac) w2.heap.size 0 none [] 0 (w2.alloc (.cells #[.int .i64 0, .slice none 0 0] 24))) := B2
          clear B2
          have x0 := B2'.out.bs.f0
          have x1 := B2'.out.bs.f1
          have x2 := B2'.out.bs.s0
          have x3 := B2'.out.bs.s1
          generalize hw5 : w2.alloc (.cells #[.int .i64 0, .slice none 0 0] 24) = w5 at *
          generalize w2.heap.size = P at *
          clear hw5
          go_wp2_with (first
            | (go_at_call 9; refine (unhide GC _ B2'.out.bs.bel).mono ?_; rintro e w6 ⟨rfl, hb6⟩; have B6 := hide (B2'.out.below hb6); have v0 := B6.out.c0; have v1 : w6.cell? ⟨P, 1, none⟩ = some (.slice none 0 0) := B6.out.c1; clear hb6)
            | (go_at_call 17; refine (GE.out _).mono ?_; rintro e w7 ⟨rfl, hb7⟩; have B7 := hide (B6.out.below hb7); clear hb7)
            | (go_at_call 8; refine (unhide GA _).mono ?_; rintro e w8 ⟨rfl, hb8⟩))
          go_ret
          exact ⟨rfl, (B7.out.below hb8).bs.bel⟩
        · rw [h1] at GC
          rw [h2] at GM
          replace GC := hide GC
          replace GM := hide GM
          clear h1 h2 hyes
          go_enter Tryz.func4, Tryz.ntmps4
          go_upto_region 3 with (first
            | (go_at_call 6; refine (unhide G1).mono ?_; rintro e w1 ⟨rfl, hb1⟩; have B1 := hide (HB0.out.below hb1); have x0 := B1.out.f0; have x1 := B1.out.f1; have x2 := B1.out.s0; have x3 := B1.out.s1; clear hb1)
            | (go_at_call 7; refine (unhide GS _).mono ?_; rintro e w0 ⟨rfl, hw0⟩; subst w0))
          clear G1 GS HB0
          go_upto_region 4 with (go_at_call 16; refine (GP.out _ B1.out).mono ?_; rintro e w2 ⟨rfl, hb2⟩; have B2 := hide (b5_of (y := 0) (cs := []) (av := none) (cc := 0) (B1.out.below hb2) (fun i hi => by simp at hi)); clear hb2)
          clear x0 x1 x2 x3 GP
          have B2' : Hid (B5 w n (.slice a css.length cap) d (.slice ac c.length cac) w2.heap.size 0 none [] 0 (w2.alloc (.cells #[.int .i64 0, .slice none 0 0] 24))) := B2
          clear B2
          have x0 := B2'.out.bs.f0
          have x1 := B2'.out.bs.f1
          have x2 := B2'.out.bs.s0
          have x3 := B2'.out.bs.s1
          generalize hw5 : w2.alloc (.cells #[.int .i64 0, .slice none 0 0] 24) = w5 at *
          generalize w2.heap.size = P at *
          clear hw5
          go_wp2_with (first
            | (go_at_call 9; refine (unhide GC _ B2'.out.bs.bel).mono ?_; rintro e w6 ⟨rfl, hb6⟩; have B6 := hide (B2'.out.below hb6); have v0 := B6.out.c0; have v1 : w6.cell? ⟨P, 1, none⟩ = some (.slice none 0 0) := B6.out.c1; have v3 := B6.out.bs.s1; clear hb6)
            | (go_at_call 10; refine (unhide GM _ B6.out.bs.bel).mono ?_; rintro e w0 ⟨rfl, hw0⟩; subst w0)
            | (go_at_call 17; refine (GE.out _).mono ?_; rintro e w7 ⟨rfl, hb7⟩; have B7 := hide (B6.out.below hb7); clear hb7)
            | (go_at_call 8; refine (unhide GA _).mono ?_; rintro e w8 ⟨rfl, hb8⟩))
          go_ret
          exact ⟨rfl, (B7.out.below hb8).bs.bel⟩
    · rw [decide_eq_false hsh] at GS
      replace GS := hide GS
      clear hsh
      go_enter Tryz.func4, Tryz.ntmps4
      go_wp2_with (first | (go_at_call 6; refine (unhide G1).mono ?_; rintro e w1 ⟨rfl, hb1⟩; have B1 := hide (HB0.out.below hb1); have x0 := B1.out.f0; have x1 := B1.out.f1; have x2 := B1.out.s0; have x3 := B1.out.s1) | (go_at_call 7; refine (unhide GS _).mono ?_; rintro e w0 ⟨rfl, hw0⟩; subst w0) | (go_at_call 8; refine (unhide GA _).mono ?_; rintro e w2 ⟨rfl, hb2⟩))
      go_ret
      exact ⟨rfl, (B1.out.below hb2).bel⟩
end Go.Proofs.YtlmbgaconjcaiaaGreat

namespace Go.Proofs.YtlmbgaconjcaiaaGreat
open Go.ChangeShapes Go.WideShapes Go.ChangeAt Go.RowKit Go.Joins Go.Deep

theorem row_of {w : World} {a : Option Addr} {len cap : Nat} {zs : List Int}
    (h : (a = none ∧ len = 0 ∧ cap = 0 ∧ zs = []) ∨ ∃ x, a = some x ∧ len ≤ cap ∧ cap ≤ maxLen ∧ zs.length = cap ∧ (∀ i, i < zs.length → w.cell? (x.add i) = some (.int .i64 (zs.getD i 0))) ∧ ∀ n ∈ zs, (Lit.int .i64 n).wf = true) :
    ∃ xs, len = xs.length ∧ Row w a xs ∧ xs.length ≤ maxLen := by
  rcases h with ⟨rfl, rfl, rfl, rfl⟩ | ⟨x, rfl, hl, hm, hz, hc, hw⟩
  · exact ⟨[], rfl, fun i hi => by simp at hi, by simp⟩
  · have hlen : (zs.take len).length = len := by simp; omega
    refine ⟨zs.take len, hlen.symm, ?_, by omega⟩
    intro i hi
    have hi' : i < zs.length := by omega
    obtain ⟨b, off, rfl, hc'⟩ := ints_at hc (by omega)
    have := hc' i hi'
    refine ⟨b, off, rfl, World.block_lt_of_cell? w _ this, ?_⟩
    rw [this, List.getElem_take, List.getD_eq_getElem?_getD, List.getElem?_eq_getElem hi']; rfl

theorem Tryz.cells3 : Tryz.prog.cellsOf 3 = 1 := by kernel_rfl

theorem Tryz.cells25 : Tryz.prog.cellsOf 25 = 1 := by kernel_rfl

set_option maxRecDepth 100000 in
theorem slice_row {H : Type} {enc : TypeId × Value → H} {W : World} {fuel : Nat} {cs : List Value} {y : DataW H × List MemPlace} (hf : DataW.trod enc Tryz.prog W 0 (fun _ => true) true fuel 25 cs = some y) :
    ∃ a xs cap, cs = [.slice a xs.length cap] ∧ Row W a xs ∧ xs.length ≤ maxLen := by
  rcases open_ints Tryz.underlying25 Tryz.underlying3 Tryz.cells3 hf with ⟨hcs, _⟩ | ⟨x, l, c, zs, hcs, _, hl, hm, hz, _, hcell, hwz⟩
  · exact ⟨none, [], 0, hcs, fun i hi => by simp at hi, by simp⟩
  · obtain ⟨xs, e, hr, hx⟩ := row_of (w := W) (a := some x) (len := l) (cap := c) (zs := zs) (.inr ⟨_, rfl, hl, hm, by simpa using hz, hcell, hwz⟩)
    subst e
    exact ⟨some x, xs, c, hcs, hr, hx⟩

set_option maxRecDepth 100000 in
theorem slice_open {H : Type} {enc : TypeId × Value → H} {W : World} {base : Nat} {v : Value} {d : DataW H} {p : List MemPlace} (hv : Value.okWide Tryz.prog W .any base 25 v) (h : DataW.Trod enc Tryz.prog W 0 (fun _ => true) true 25 v d p) :
    ∃ a xs cap, v = .slice a xs.length cap ∧ Row W a xs ∧ xs.length ≤ maxLen := by
  obtain ⟨a0, len0, cap0, rfl⟩ := okWide_slice Tryz.underlying25 hv
  obtain ⟨fuel, hf⟩ := h
  obtain ⟨a, xs, cap, hcs, hr, hl⟩ := slice_row hf
  simp [Value.cells] at hcs
  obtain ⟨rfl, rfl, rfl⟩ := hcs
  exact ⟨_, _, _, rfl, hr, hl⟩

theorem Tryz.cells24 : Tryz.prog.cellsOf 24 = 2 := by kernel_rfl

set_option maxRecDepth 100000 in
theorem grid_row {H : Type} {enc : TypeId × Value → H} {W : World} {fuel : Nat} {cs : List Value} {y : DataW H × List MemPlace} (hf : DataW.trod enc Tryz.prog W 0 (fun _ => true) true fuel 22 cs = some y) :
    ∃ a css cap, cs = [.slice a css.length cap] ∧ Grid W a css ∧ css.length ≤ maxLen := by
  rcases open_int_rows Tryz.underlying22 Tryz.underlying25 Tryz.underlying3 Tryz.cells25 Tryz.cells3 hf with ⟨hcs, _⟩ | ⟨a, len, cap, A, L, C, Z, hcs, _, hl, hm, _, hall⟩
  · exact ⟨none, [], 0, hcs, fun i hi => by simp at hi, by simp⟩
  · have hlen : ((List.range len).map fun r => (Z r).take (L r)).length = len := by simp
    refine ⟨some a, (List.range len).map fun r => (Z r).take (L r), cap, by rw [hlen]; exact hcs, ?_, by omega⟩
    intro i hi
    have hi' : i < len := by omega
    have hic : i < cap := by omega
    obtain ⟨hc0, -⟩ := hall 0 (by omega)
    obtain ⟨b, off, spot⟩ := a
    have hspot : spot = none := by simpa [Addr.add] using World.cell?_spot hc0
    subst hspot
    obtain ⟨hc, h1, h2, h3, h4, h5, h6⟩ := hall i hic
    rw [add_plain] at hc
    have ei : ((List.range len).map fun r => (Z r).take (L r))[i] = (Z i).take (L i) := by simp
    obtain ⟨xs, e, hr, hx⟩ : ∃ xs, L i = xs.length ∧ Row W (A i) xs ∧ xs = (Z i).take (L i) := by
      have hlt : ((Z i).take (L i)).length = L i := by simp; omega
      refine ⟨_, hlt.symm, ?_, rfl⟩
      intro j hj
      cases hA : A i with
      | none => have := h5 hA; omega
      | some a' =>
        obtain ⟨-, hcell⟩ := h6 a' hA
        have hc' : ∀ c, c < (Z i).length → W.cell? (a'.add c) = some (.int .i64 ((Z i).getD c 0)) := fun c h => hcell c (by omega)
        obtain ⟨b', off', rfl, hc''⟩ := ints_at hc' (by omega)
        have hj' : j < (Z i).length := by omega
        have := hc'' j hj'
        refine ⟨b', off', rfl, World.block_lt_of_cell? W _ this, ?_⟩
        rw [this, List.getElem_take, List.getD_eq_getElem?_getD, List.getElem?_eq_getElem hj']; rfl
    refine ⟨b, off, A i, C i, rfl, World.block_lt_of_cell? W _ hc, ?_, ?_, ?_⟩
    · rw [ei, ← hx, ← e]; exact hc
    · rw [ei, ← hx]; exact hr
    · rw [ei, ← hx, ← e]; omega

set_option maxRecDepth 100000 in
theorem cnf_open {H : Type} {enc : TypeId × Value → H} {W : World} {base : Nat} {v : Value} {d : DataW H} {p : List MemPlace} (hv : Value.okWide Tryz.prog W .any base 24 v) (h : DataW.Trod enc Tryz.prog W 0 (fun _ => true) true 24 v d p) :
    ∃ (n : Int) (a : Option Addr) (css : List (List Int)) (cap : Nat), v = .agg #[.int .i64 n, .slice a css.length cap] ∧ Grid W a css ∧ css.length ≤ maxLen := by
  obtain ⟨c0, c1, y0, y1, f, rfl, -, -, hy0, hy1⟩ := open_agg2 Tryz.underlying24 (by kernel_rfl) Tryz.cells24 hv h
  obtain ⟨n, e0, -, wn⟩ := DataW.trod_int Tryz.underlying3 hy0
  obtain ⟨a, css, cap, e1, hg, hl⟩ := grid_row hy1
  simp at e0 e1
  subst e0 e1
  exact ⟨n, a, css, cap, rfl, hg, hl⟩

theorem Tryz.cells5 : Tryz.prog.cellsOf 5 = 1 := by kernel_rfl

end Go.Proofs.YtlmbgaconjcaiaaGreat

namespace Go.Proofs.YtlmbgaconjcaiaaGreat
open Go.ChangeShapes Go.WideShapes Go.ChangeAt Go.RowKit Go.Joins Go.Deep

theorem slice_rowC {H : Type} {enc : TypeId × Value → H} {W : World} {fuel : Nat} {cs : List Value} {y : DataW H × List MemPlace} (hf : DataW.trod enc Tryz.prog W 0 (fun _ => true) true fuel 25 cs = some y) :
    ∃ a xs cap, cs = [.slice a xs.length cap] ∧ Row W a xs ∧ xs.length ≤ maxLen ∧ (a = none → cap = 0) := by
  rcases open_ints Tryz.underlying25 Tryz.underlying3 Tryz.cells3 hf with ⟨hcs, _⟩ | ⟨x, l, c, zs, hcs, _, hl, hm, hz, _, hcell, hwz⟩
  · exact ⟨none, [], 0, hcs, fun i hi => by simp at hi, by simp, fun _ => rfl⟩
  · obtain ⟨xs, e, hr, hx⟩ := row_of (w := W) (a := some x) (len := l) (cap := c) (zs := zs) (.inr ⟨_, rfl, hl, hm, by simpa using hz, hcell, hwz⟩)
    subst e
    exact ⟨some x, xs, c, hcs, hr, hx, by simp⟩

set_option maxRecDepth 100000 in
theorem grid_rowC {H : Type} {enc : TypeId × Value → H} {W : World} {fuel : Nat} {cs : List Value} {y : DataW H × List MemPlace} (hf : DataW.trod enc Tryz.prog W 0 (fun _ => true) true fuel 22 cs = some y) :
    ∃ a css cap, cs = [.slice a css.length cap] ∧ GridC W a css ∧ css.length ≤ maxLen ∧ (a = none → cap = 0) := by
  rcases open_int_rows Tryz.underlying22 Tryz.underlying25 Tryz.underlying3 Tryz.cells25 Tryz.cells3 hf with ⟨hcs, _⟩ | ⟨a, len, cap, A, L, C, Z, hcs, _, hl, hm, _, hall⟩
  · exact ⟨none, [], 0, hcs, fun i hi => by simp at hi, by simp, fun _ => rfl⟩
  · have hlen : ((List.range len).map fun r => (Z r).take (L r)).length = len := by simp
    refine ⟨some a, (List.range len).map fun r => (Z r).take (L r), cap, by rw [hlen]; exact hcs, ?_, by omega, by simp⟩
    intro i hi
    have hi' : i < len := by omega
    have hic : i < cap := by omega
    obtain ⟨hc0, -⟩ := hall 0 (by omega)
    obtain ⟨b, off, spot⟩ := a
    have hspot : spot = none := by simpa [Addr.add] using World.cell?_spot hc0
    subst hspot
    obtain ⟨hc, h1, h2, h3, h4, h5, h6⟩ := hall i hic
    rw [add_plain] at hc
    have ei : ((List.range len).map fun r => (Z r).take (L r))[i] = (Z i).take (L i) := by simp
    obtain ⟨xs, e, hr, hx⟩ : ∃ xs, L i = xs.length ∧ Row W (A i) xs ∧ xs = (Z i).take (L i) := by
      have hlt : ((Z i).take (L i)).length = L i := by simp; omega
      refine ⟨_, hlt.symm, ?_, rfl⟩
      intro j hj
      cases hA : A i with
      | none => have := h5 hA; omega
      | some a' =>
        obtain ⟨-, hcell⟩ := h6 a' hA
        have hc' : ∀ c, c < (Z i).length → W.cell? (a'.add c) = some (.int .i64 ((Z i).getD c 0)) := fun c h => hcell c (by omega)
        obtain ⟨b', off', rfl, hc''⟩ := ints_at hc' (by omega)
        have hj' : j < (Z i).length := by omega
        have := hc'' j hj'
        refine ⟨b', off', rfl, World.block_lt_of_cell? W _ this, ?_⟩
        rw [this, List.getElem_take, List.getD_eq_getElem?_getD, List.getElem?_eq_getElem hj']; rfl
    refine ⟨b, off, A i, C i, rfl, World.block_lt_of_cell? W _ hc, ?_, ?_, ?_, h5⟩
    · rw [ei, ← hx, ← e]; exact hc
    · rw [ei, ← hx]; exact hr
    · rw [ei, ← hx, ← e]; omega

set_option maxRecDepth 100000 in
theorem cnf_openC {H : Type} {enc : TypeId × Value → H} {W : World} {base : Nat} {v : Value} {d : DataW H} {p : List MemPlace} (hv : Value.okWide Tryz.prog W .any base 24 v) (h : DataW.Trod enc Tryz.prog W 0 (fun _ => true) true 24 v d p) :
    ∃ (n : Int) (a : Option Addr) (css : List (List Int)) (cap : Nat), v = .agg #[.int .i64 n, .slice a css.length cap] ∧ GridC W a css ∧ css.length ≤ maxLen ∧ (a = none → cap = 0) := by
  obtain ⟨c0, c1, y0, y1, f, rfl, -, -, hy0, hy1⟩ := open_agg2 Tryz.underlying24 (by kernel_rfl) Tryz.cells24 hv h
  obtain ⟨n, e0, -, wn⟩ := DataW.trod_int Tryz.underlying3 hy0
  obtain ⟨a, css, cap, e1, hg, hl, hn⟩ := grid_rowC hy1
  simp at e0 e1
  subst e0 e1
  exact ⟨n, a, css, cap, rfl, hg, hl, hn⟩

set_option maxRecDepth 100000 in
theorem slice_openC {H : Type} {enc : TypeId × Value → H} {W : World} {base : Nat} {v : Value} {d : DataW H} {p : List MemPlace} (hv : Value.okWide Tryz.prog W .any base 25 v) (h : DataW.Trod enc Tryz.prog W 0 (fun _ => true) true 25 v d p) :
    ∃ a xs cap, v = .slice a xs.length cap ∧ Row W a xs ∧ xs.length ≤ maxLen ∧ (a = none → cap = 0) := by
  obtain ⟨a0, len0, cap0, rfl⟩ := okWide_slice Tryz.underlying25 hv
  obtain ⟨fuel, hf⟩ := h
  obtain ⟨a, xs, cap, hcs, hr, hl, hn⟩ := slice_rowC hf
  simp [Value.cells] at hcs
  obtain ⟨rfl, rfl, rfl⟩ := hcs
  exact ⟨_, _, _, rfl, hr, hl, hn⟩
end Go.Proofs.YtlmbgaconjcaiaaGreat

namespace Go.Proofs.YtlmbgaconjcaiaaGreat
open Go.ChangeShapes Go.WideShapes Go.ChangeAt Go.RowKit Go.Joins Go.Deep

theorem Tryz.cells32 : Tryz.prog.cellsOf 32 = 2 := by kernel_rfl

set_option maxRecDepth 100000 in
theorem grid_rowD {H : Type} {enc : TypeId × Value → H} {W : World} {fuel : Nat} {cs : List Value} {y : DataW H × List MemPlace} (hf : DataW.trod enc Tryz.prog W 0 (fun _ => true) true fuel 22 cs = some y) :
    ∃ a css cap, cs = [.slice a css.length cap] ∧ GridC W a css ∧ css.length ≤ maxLen ∧ (a = none → cap = 0) ∧ css.length ≤ cap ∧ cap ≤ maxLen := by
  rcases open_int_rows Tryz.underlying22 Tryz.underlying25 Tryz.underlying3 Tryz.cells25 Tryz.cells3 hf with ⟨hcs, _⟩ | ⟨a, len, cap, A, L, C, Z, hcs, _, hl, hm, _, hall⟩
  · exact ⟨none, [], 0, hcs, fun i hi => by simp at hi, by simp, fun _ => rfl, by simp, by simp⟩
  · have hlen : ((List.range len).map fun r => (Z r).take (L r)).length = len := by simp
    refine ⟨some a, (List.range len).map fun r => (Z r).take (L r), cap, by rw [hlen]; exact hcs, ?_, by omega, by simp, by omega, by omega⟩
    intro i hi
    have hi' : i < len := by omega
    have hic : i < cap := by omega
    obtain ⟨hc0, -⟩ := hall 0 (by omega)
    obtain ⟨b, off, spot⟩ := a
    have hspot : spot = none := by simpa [Addr.add] using World.cell?_spot hc0
    subst hspot
    obtain ⟨hc, h1, h2, h3, h4, h5, h6⟩ := hall i hic
    rw [add_plain] at hc
    have ei : ((List.range len).map fun r => (Z r).take (L r))[i] = (Z i).take (L i) := by simp
    obtain ⟨xs, e, hr, hx⟩ : ∃ xs, L i = xs.length ∧ Row W (A i) xs ∧ xs = (Z i).take (L i) := by
      have hlt : ((Z i).take (L i)).length = L i := by simp; omega
      refine ⟨_, hlt.symm, ?_, rfl⟩
      intro j hj
      cases hA : A i with
      | none => have := h5 hA; omega
      | some a' =>
        obtain ⟨-, hcell⟩ := h6 a' hA
        have hc' : ∀ c, c < (Z i).length → W.cell? (a'.add c) = some (.int .i64 ((Z i).getD c 0)) := fun c h => hcell c (by omega)
        obtain ⟨b', off', rfl, hc''⟩ := ints_at hc' (by omega)
        have hj' : j < (Z i).length := by omega
        have := hc'' j hj'
        refine ⟨b', off', rfl, World.block_lt_of_cell? W _ this, ?_⟩
        rw [this, List.getElem_take, List.getD_eq_getElem?_getD, List.getElem?_eq_getElem hj']; rfl
    refine ⟨b, off, A i, C i, rfl, World.block_lt_of_cell? W _ hc, ?_, ?_, ?_, h5⟩
    · rw [ei, ← hx, ← e]; exact hc
    · rw [ei, ← hx]; exact hr
    · rw [ei, ← hx, ← e]; omega

set_option maxRecDepth 100000 in
theorem cnf_openD {H : Type} {enc : TypeId × Value → H} {W : World} {base : Nat} {v : Value} {d : DataW H} {p : List MemPlace} (hv : Value.okWide Tryz.prog W .any base 24 v) (h : DataW.Trod enc Tryz.prog W 0 (fun _ => true) true 24 v d p) :
    ∃ (n : Int) (a : Option Addr) (css : List (List Int)) (cap : Nat), v = .agg #[.int .i64 n, .slice a css.length cap] ∧ GridC W a css ∧ css.length ≤ maxLen ∧ (a = none → cap = 0) ∧ css.length ≤ cap ∧ cap ≤ maxLen := by
  obtain ⟨c0, c1, y0, y1, f, rfl, -, -, hy0, hy1⟩ := open_agg2 Tryz.underlying24 (by kernel_rfl) Tryz.cells24 hv h
  obtain ⟨n, e0, -, wn⟩ := DataW.trod_int Tryz.underlying3 hy0
  obtain ⟨a, css, cap, e1, hg, hl, hn, h1, h2⟩ := grid_rowD hy1
  simp at e0 e1
  subst e0 e1
  exact ⟨n, a, css, cap, rfl, hg, hl, hn, h1, h2⟩

set_option maxRecDepth 100000 in
theorem step_openD {H : Type} {enc : TypeId × Value → H} {W : World} {base : Nat} {v : Value} {d : DataW H} {p : List MemPlace} (hv : Value.okWide Tryz.prog W .any base 32 v) (h : DataW.Trod enc Tryz.prog W 0 (fun _ => true) true 32 v d p) :
    ∃ (b : Bool) (a : Option Addr) (c : List Int) (cap : Nat), v = .agg #[.bool b, .slice a c.length cap] ∧ Row W a c ∧ c.length ≤ maxLen ∧ (a = none → cap = 0) := by
  obtain ⟨c0, c1, y0, y1, f, rfl, -, -, hy0, hy1⟩ := open_agg2 Tryz.underlying32 (by kernel_rfl) Tryz.cells32 hv h
  obtain ⟨b, e0, -⟩ := DataW.trod_bool Tryz.underlying4 hy0
  obtain ⟨a, c, cap, e1, hr, hl, hn⟩ := slice_rowC hy1
  simp at e0 e1
  subst e0 e1
  exact ⟨b, a, c, cap, rfl, hr, hl, hn⟩
end Go.Proofs.YtlmbgaconjcaiaaGreat
