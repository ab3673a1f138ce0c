/- Joined: Contracts of the law: acts that leave what they found. Contracts of the law: a run. Contracts of the law: levels are taken back. Contracts of the law: a clause is dropped. -/
import Derived.Test.YtlmbgaconjcaiaaNa
import Derived.Test.YtlmbgaconjcaiaaMa
import Derived.Test.YtlmbgaconjcaiaaMc
import Derived.Deep.RegionHeld3
import Derived.Deep.RegionWith
import Derived.BigQuiet
import Derived.Test.YtlmbgaconjcaiaaIb
import Derived.Test.YtlmbgaconjcaiaaIi
set_option linter.unusedVariables false
set_option linter.unusedSimpArgs false
namespace Go.Proofs.Ytlmbgaconjcaiaa
open Go.RowKit


section
variable {ρ : Nat → Rl} {N : Nat} {w : World} {B V : Nat} {s : PS} {css : List (List Int)} {gs : List Bool} {a2 a3 a4 : Option Addr} {c2 c3 c4 : Nat}

set_option maxHeartbeats 4000000 in
set_option maxRecDepth 100000 in
theorem act_none (h : LW ρ N w B V s css gs a2 a3 a4 c2 c3 c4) (hN : N ≤ w.heap.size) (ac : Option Addr) (nc cc : Nat) (d l : Int) (hd : ¬ (d = 0) ∧ ¬ (d = 1) ∧ ¬ (d = 2) ∧ ¬ (d = 3) ∧ ¬ (d = 4)) :
    Calls Try.prog 12 #[.agg #[.pointer (some ⟨B, 0, none⟩), .int .i64 V, .slice a2 css.length c2, .slice a3 gs.length c3, .slice a4 s.dec.length c4], .agg #[.int .i64 d, .int .i64 l, .slice ac nc cc]] w fun e w' => ActR ρ N w B V (css.length + 1) e w' := by
  have hA := act_set h #[.pointer (some ⟨B, 0, none⟩), .int .i64 V, .slice a2 css.length c2, .slice a3 gs.length c3, .slice a4 s.dec.length c4] #[.int .i64 d, .int .i64 l, .slice ac nc cc] #[.pointer none, .int .i64 0, .slice none 0 0, .slice none 0 0, .slice none 0 0]
  have HA := hide hA
  have q0 : (d == 0) = false := by simpa using hd.1
  have q1 : (d == 1) = false := by simpa using hd.2.1
  have q2 : (d == 2) = false := by simpa using hd.2.2.1
  have q3 : (d == 3) = false := by simpa using hd.2.2.2.1
  have q4 : (d == 4) = false := by simpa using hd.2.2.2.2
  clear h hA hd
  go_enter Try.func12, Try.ntmps12
  go_upto_block 0 with fail
  generalize hW0 : (((w.alloc (.cells #[.pointer (some ⟨B, 0, none⟩), .int .i64 V, .slice a2 css.length c2, .slice a3 gs.length c3, .slice a4 s.dec.length c4] 36)).alloc (.cells #[.int .i64 d, .int .i64 l, .slice ac nc cc] 41)).alloc (.cells #[.pointer none, .int .i64 0, .slice none 0 0, .slice none 0 0, .slice none 0 0] 36)) = W0 at *
  clear hW0
  have hge4 : w.heap.size ≤ w.heap.size + 1 + 1 := by omega
  have x24 : w.heap.size ≠ w.heap.size + 1 + 1 := by omega
  have x34 : w.heap.size + 1 ≠ w.heap.size + 1 + 1 := by omega
  generalize hb4 : w.heap.size + 1 + 1 = b4 at *
  generalize hb3 : w.heap.size + 1 = b3 at *
  have HGE := hide hge4
  have HN := hide hN
  clear hb4 hb3 hge4 hN
  obtain ⟨b2, hb2⟩ : ∃ b2, w.heap.size = b2 := ⟨_, rfl⟩
  rw [hb2] at HA x24
  simp only [hb2]
  clear hb2
  have p0 := cell_of_block HA.out.bx.k2 (i := 0) rfl
  have p1 := cell_of_block HA.out.bx.k2 (i := 1) rfl
  have p2 := cell_of_block HA.out.bx.k2 (i := 2) rfl
  have p3 := cell_of_block HA.out.bx.k2 (i := 3) rfl
  have p4 := cell_of_block HA.out.bx.k2 (i := 4) rfl
  have z0 := cell_of_block HA.out.bx.k4 (i := 0) rfl
  have z1 := cell_of_block HA.out.bx.k4 (i := 1) rfl
  have z2 := cell_of_block HA.out.bx.k4 (i := 2) rfl
  have z3 := cell_of_block HA.out.bx.k4 (i := 3) rfl
  have z4 := cell_of_block HA.out.bx.k4 (i := 4) rfl
  have f0 := frz_of_block HA.out.bx.k4 (i := 0)
  have f1 := frz_of_block HA.out.bx.k4 (i := 1)
  have f2 := frz_of_block HA.out.bx.k4 (i := 2)
  have f3 := frz_of_block HA.out.bx.k4 (i := 3)
  have f4 := frz_of_block HA.out.bx.k4 (i := 4)
  go_wp2
  have hU := (((((U5.first rfl HA.out.bx.k4).set 0 (.pointer (some ⟨B, 0, none⟩))).set 1 (.int .i64 V)).set 2 (.slice a2 css.length c2)).set 3 (.slice a3 gs.length c3)).set 4 (.slice a4 s.dec.length c4)
  refine forget (P := fun W => bodyPost _ _ _ Exit.ret _ W) (fun W => (W.cell? ⟨b4, 0, none⟩ = some (.pointer (some ⟨B, 0, none⟩)) ∧ W.cell? ⟨b4, 1, none⟩ = some (.int .i64 V) ∧ W.cell? ⟨b4, 2, none⟩ = some (.slice a2 css.length c2) ∧ W.cell? ⟨b4, 3, none⟩ = some (.slice a3 gs.length c3) ∧ W.cell? ⟨b4, 4, none⟩ = some (.slice a4 s.dec.length c4)) ∧ Hid (ActR ρ N w B V (css.length + 1) (.returned (.tuple #[.agg #[.pointer (some ⟨B, 0, none⟩), .int .i64 V, .slice a2 css.length c2, .slice a3 gs.length c3, .slice a4 s.dec.length c4], .bool true])) W)) ⟨⟨hU.cell rfl, hU.cell rfl, hU.cell rfl, hU.cell rfl, hU.cell rfl⟩, HA.out.fin hU HN.out HGE.out (Nat.le_succ _)⟩ ?_
  clear hU z0 z1 z2 z3 z4 f0 f1 f2 f3 f4 p0 p1 p2 p3 p4
  rintro W6 ⟨⟨r0, r1, r2, r3, r4⟩, HR6⟩
  refine bodyPost_ret (v := .tuple #[.agg #[.pointer (some ⟨B, 0, none⟩), .int .i64 V, .slice a2 css.length c2, .slice a3 gs.length c3, .slice a4 s.dec.length c4], .bool true]) (by simp [results, Try.results12, go_sem, r0, r1, r2, r3, r4]) rfl ?_
  exact HR6.out

set_option maxHeartbeats 4000000 in
set_option maxRecDepth 100000 in
theorem act0_no (h : LW ρ N w B V s css gs a2 a3 a4 c2 c3 c4) (hN : N ≤ w.heap.size) (ac : Option Addr) (nc cc : Nat) (l : Int) (ho : openB V s.trail l = false) :
    Calls Try.prog 12 #[.agg #[.pointer (some ⟨B, 0, none⟩), .int .i64 V, .slice a2 css.length c2, .slice a3 gs.length c3, .slice a4 s.dec.length c4], .agg #[.int .i64 0, .int .i64 l, .slice ac nc cc]] w fun e w' => ActR ρ N w B V (css.length + 1) e w' := by
  have hA := act_set h #[.pointer (some ⟨B, 0, none⟩), .int .i64 V, .slice a2 css.length c2, .slice a3 gs.length c3, .slice a4 s.dec.length c4] #[.int .i64 0, .int .i64 l, .slice ac nc cc] #[.pointer none, .int .i64 0, .slice none 0 0, .slice none 0 0, .slice none 0 0]
  have hVs := h.inv.sz.vars
  have htr : s.trail.length ≤ 1048576 := by have := trail_len h.inv.tr; omega
  obtain ⟨H, hR⟩ := hA.lw.rep
  have OP := open_any hR htr V (by have := h.vars; omega) a2 a3 a4 css.length c2 gs.length c3 s.dec.length c4 l
  rw [ho] at OP
  replace OP := hide OP
  have hno := open_no h.inv hVs (l := l) (by rw [h.vars]; exact ho)
  have DC : Hid (∀ W, Below _ _ W → Calls Try.prog 26 #[.pointer (some ⟨B, 0, none⟩), .int .i64 l] W fun e w' => e = .returned (.int .i64 1) ∧ ∃ n, w' = W.drewN n) := fun W hW => decide_no (hR.below hW) h.inv.shp l hno
  have HA := hide hA
  clear h hA hR hno htr ho hVs
  go_enter Try.func12, Try.ntmps12
  go_upto_block 0 with fail
  generalize hW0 : (((w.alloc (.cells #[.pointer (some ⟨B, 0, none⟩), .int .i64 V, .slice a2 css.length c2, .slice a3 gs.length c3, .slice a4 s.dec.length c4] 36)).alloc (.cells #[.int .i64 0, .int .i64 l, .slice ac nc cc] 41)).alloc (.cells #[.pointer none, .int .i64 0, .slice none 0 0, .slice none 0 0, .slice none 0 0] 36)) = W0 at *
  clear hW0
  have hge4 : w.heap.size ≤ w.heap.size + 1 + 1 := by omega
  have x23 : w.heap.size ≠ w.heap.size + 1 := by omega
  have x24 : w.heap.size ≠ w.heap.size + 1 + 1 := by omega
  have x34 : w.heap.size + 1 ≠ w.heap.size + 1 + 1 := by omega
  generalize hb4 : w.heap.size + 1 + 1 = b4 at *
  generalize hb3 : w.heap.size + 1 = b3 at *
  have HGE := hide hge4
  have HN := hide hN
  clear hb4 hb3 hge4 hN
  obtain ⟨b2, hb2⟩ : ∃ b2, w.heap.size = b2 := ⟨_, rfl⟩
  rw [hb2] at HA x23 x24
  simp only [hb2]
  clear hb2
  have p0 := cell_of_block HA.out.bx.k2 (i := 0) rfl
  have p1 := cell_of_block HA.out.bx.k2 (i := 1) rfl
  have p2 := cell_of_block HA.out.bx.k2 (i := 2) rfl
  have p3 := cell_of_block HA.out.bx.k2 (i := 3) rfl
  have p4 := cell_of_block HA.out.bx.k2 (i := 4) rfl
  have y0 := cell_of_block HA.out.bx.k3 (i := 0) rfl
  have y1 := cell_of_block HA.out.bx.k3 (i := 1) rfl
  have y2 := cell_of_block HA.out.bx.k3 (i := 2) rfl
  go_wp2_with fail
  refine Calls.mono (unhide OP) ?_
  rintro e w1 ⟨rfl, hb1⟩
  have HA1 := hide (HA.out.below hb1)
  have DC1 := hide (DC.out w1 hb1)
  clear p0 p1 p2 p3 p4 y0 y1 y2 OP DC HA hb1
  have p0 := cell_of_block HA1.out.bx.k2 (i := 0) rfl
  have p1 := cell_of_block HA1.out.bx.k2 (i := 1) rfl
  have p2 := cell_of_block HA1.out.bx.k2 (i := 2) rfl
  have p3 := cell_of_block HA1.out.bx.k2 (i := 3) rfl
  have p4 := cell_of_block HA1.out.bx.k2 (i := 4) rfl
  have y0 := cell_of_block HA1.out.bx.k3 (i := 0) rfl
  have y1 := cell_of_block HA1.out.bx.k3 (i := 1) rfl
  have y2 := cell_of_block HA1.out.bx.k3 (i := 2) rfl
  go_wp2_with fail
  refine Calls.mono (unhide DC1) ?_
  rintro e w2 ⟨rfl, n2, rfl⟩
  have HA2 := hide (HA1.out.below (bquiet (Below.refl _ _) n2))
  clear p0 p1 p2 p3 p4 y0 y1 y2 DC1 HA1
  generalize w1.drewN n2 = w3 at *
  have p0 := cell_of_block HA2.out.bx.k2 (i := 0) rfl
  have p1 := cell_of_block HA2.out.bx.k2 (i := 1) rfl
  have p2 := cell_of_block HA2.out.bx.k2 (i := 2) rfl
  have p3 := cell_of_block HA2.out.bx.k2 (i := 3) rfl
  have p4 := cell_of_block HA2.out.bx.k2 (i := 4) rfl
  have z0 := cell_of_block HA2.out.bx.k4 (i := 0) rfl
  have z1 := cell_of_block HA2.out.bx.k4 (i := 1) rfl
  have z2 := cell_of_block HA2.out.bx.k4 (i := 2) rfl
  have z3 := cell_of_block HA2.out.bx.k4 (i := 3) rfl
  have z4 := cell_of_block HA2.out.bx.k4 (i := 4) rfl
  have f0 := frz_of_block HA2.out.bx.k4 (i := 0)
  have f1 := frz_of_block HA2.out.bx.k4 (i := 1)
  have f2 := frz_of_block HA2.out.bx.k4 (i := 2)
  have f3 := frz_of_block HA2.out.bx.k4 (i := 3)
  have f4 := frz_of_block HA2.out.bx.k4 (i := 4)
  go_wp2
  have hU := (((((U5.first rfl HA2.out.bx.k4).set 0 (.pointer (some ⟨B, 0, none⟩))).set 1 (.int .i64 V)).set 2 (.slice a2 css.length c2)).set 3 (.slice a3 gs.length c3)).set 4 (.slice a4 s.dec.length c4)
  refine forget (P := fun W => bodyPost _ _ _ Exit.ret _ W) (fun W => (W.cell? ⟨b4, 0, none⟩ = some (.pointer (some ⟨B, 0, none⟩)) ∧ W.cell? ⟨b4, 1, none⟩ = some (.int .i64 V) ∧ W.cell? ⟨b4, 2, none⟩ = some (.slice a2 css.length c2) ∧ W.cell? ⟨b4, 3, none⟩ = some (.slice a3 gs.length c3) ∧ W.cell? ⟨b4, 4, none⟩ = some (.slice a4 s.dec.length c4)) ∧ Hid (ActR ρ N w B V (css.length + 1) (.returned (.tuple #[.agg #[.pointer (some ⟨B, 0, none⟩), .int .i64 V, .slice a2 css.length c2, .slice a3 gs.length c3, .slice a4 s.dec.length c4], .bool true])) W)) ⟨⟨hU.cell rfl, hU.cell rfl, hU.cell rfl, hU.cell rfl, hU.cell rfl⟩, HA2.out.fin hU HN.out HGE.out (Nat.le_succ _)⟩ ?_
  clear hU z0 z1 z2 z3 z4 f0 f1 f2 f3 f4 p0 p1 p2 p3 p4
  rintro W6 ⟨⟨r0, r1, r2, r3, r4⟩, HR6⟩
  refine bodyPost_ret (v := .tuple #[.agg #[.pointer (some ⟨B, 0, none⟩), .int .i64 V, .slice a2 css.length c2, .slice a3 gs.length c3, .slice a4 s.dec.length c4], .bool true]) (by simp [results, Try.results12, go_sem, r0, r1, r2, r3, r4]) rfl ?_
  exact HR6.out
end
end Go.Proofs.Ytlmbgaconjcaiaa

namespace Go.Proofs.Ytlmbgaconjcaiaa
open Go.RowKit

section
variable {ρ : Nat → Rl} {N : Nat} {w : World} {B V : Nat} {s : PS} {css : List (List Int)} {gs : List Bool} {a2 a3 a4 : Option Addr} {c2 c3 c4 : Nat}

theorem Frm.litsN {s s' : PS} {n : Nat} (h : Frm s s') (hl : ∀ c ∈ s.cls, c.lits.length ≤ n) : ∀ c ∈ s'.cls, c.lits.length ≤ n := by
  intro c hc
  have : key c ∈ s.cls.map key := by rw [← h.cl]; exact List.mem_map_of_mem hc
  obtain ⟨c', hc', e⟩ := List.mem_map.1 this
  simp only [key, Prod.mk.injEq] at e
  rw [← e.1]; exact hl c' hc'

/-- Behind a run. -/
theorem LW.run {w1 : World} {n : Int} (h : LW ρ N w B V s css gs a2 a3 a4 c2 c3 c4) (hP : RunP ρ w B s n w1) : ∃ ρ1 s1, LW ρ1 N w1 B V s1 css gs a2 a3 a4 c2 c3 c4 ∧ Ev ρ w ρ1 w1 ∧ s1.dec = s.dec ∧ Frm s s1 ∧ ((n = -1 ∧ s1.late = [] ∧ s1.head = s1.trail.length) ∨ Brk s1 n) := by
  obtain ⟨ρ1, H1, s1, hR, hI, hE, hF, hn⟩ := hP
  obtain ⟨vs, hg⟩ := h.g
  have hd := hF.dec h.inv
  refine ⟨ρ1, s1, ⟨⟨H1, hR⟩, hI, h.cnt.frm hF, hF.vars.trans h.vars, h.kys.same hF.cl, hF.litsN h.lits, ⟨vs, hg.ev hE⟩, h.n2, h.b.ev hE, by rw [hd]; exact h.d.ev hE⟩, hE, hd, hF, hn⟩

theorem LW.ran (h : LW ρ N w B V s css gs a2 a3 a4 c2 c3 c4) (hV : V ≤ 1000) (hn : css.length ≤ 1000) (n : Int) (hrun : (n = -1 ∧ s.late = [] ∧ s.head = s.trail.length) ∨ Brk s n) :
    Calls Try.prog 34 #[.agg #[.pointer (some ⟨B, 0, none⟩), .int .i64 V, .slice a2 css.length c2, .slice a3 gs.length c3, .slice a4 s.dec.length c4], .int .i64 n] w fun e w' => e = .returned (.bool true) ∧ Below w.heap.size w w' := by
  obtain ⟨H, hR⟩ := h.rep
  obtain ⟨vs, hg⟩ := h.g
  have hl := thereL_len css gs
  exact ran_any hR h.inv (fun c hc => by have := h.lits c hc; omega) V h.vars (by rw [h.vars]; exact hV) a2 a3 a4 c2 c3 c4 css gs hg.grid h.b.rowB h.kys.glen (by omega) h.d h.kys.alv (by omega) n hrun

set_option maxHeartbeats 40000000 in
set_option maxRecDepth 100000 in
theorem act1_any (h : LW ρ N w B V s css gs a2 a3 a4 c2 c3 c4) (hN : N ≤ w.heap.size) (hV : V ≤ 1000) (hn : css.length ≤ 1000) (ac : Option Addr) (nc cc : Nat) (l : Int) :
    Calls Try.prog 12 #[.agg #[.pointer (some ⟨B, 0, none⟩), .int .i64 V, .slice a2 css.length c2, .slice a3 gs.length c3, .slice a4 s.dec.length c4], .agg #[.int .i64 1, .int .i64 l, .slice ac nc cc]] w fun e w' => ActR ρ N w B V (css.length + 1) e w' := by
  have hA := act_set h #[.pointer (some ⟨B, 0, none⟩), .int .i64 V, .slice a2 css.length c2, .slice a3 gs.length c3, .slice a4 s.dec.length c4] #[.int .i64 1, .int .i64 l, .slice ac nc cc] #[.pointer none, .int .i64 0, .slice none 0 0, .slice none 0 0, .slice none 0 0]
  have HA := hide hA
  clear h hA
  go_enter Try.func12, Try.ntmps12
  go_upto_block 0 with fail
  generalize hW0 : (((w.alloc (.cells #[.pointer (some ⟨B, 0, none⟩), .int .i64 V, .slice a2 css.length c2, .slice a3 gs.length c3, .slice a4 s.dec.length c4] 36)).alloc (.cells #[.int .i64 1, .int .i64 l, .slice ac nc cc] 41)).alloc (.cells #[.pointer none, .int .i64 0, .slice none 0 0, .slice none 0 0, .slice none 0 0] 36)) = W0 at *
  clear hW0
  have hge4 : w.heap.size ≤ w.heap.size + 1 + 1 := by omega
  have x23 : w.heap.size ≠ w.heap.size + 1 := by omega
  have x24 : w.heap.size ≠ w.heap.size + 1 + 1 := by omega
  have x34 : w.heap.size + 1 ≠ w.heap.size + 1 + 1 := by omega
  generalize hb4 : w.heap.size + 1 + 1 = b4 at *
  generalize hb3 : w.heap.size + 1 = b3 at *
  have HGE := hide hge4
  have HN := hide hN
  clear hb4 hb3 hge4 hN
  obtain ⟨b2, hb2⟩ : ∃ b2, w.heap.size = b2 := ⟨_, rfl⟩
  rw [hb2] at HA x23 x24
  simp only [hb2]
  clear hb2
  have x42 : b4 ≠ b2 := Ne.symm x24
  have HV := hide hV
  have HNN := hide hn
  clear hV hn
  generalize fr ρ b2 = ρ0 at *
  have RN : Hid (∀ W, Below W0.heap.size W0 W → Calls Try.prog 14 #[.pointer (some ⟨B, 0, none⟩)] W fun e w' => ∃ n, e = .returned (.int .i64 n) ∧ RunP ρ0 W B s n w') := fun W hW => by
    obtain ⟨H, hR⟩ := HA.out.lw.rep
    exact run_any (hR.below hW) HA.out.lw.inv (fun c hc => by have := HA.out.lw.lits c hc; omega)
  have HRUN : Hid (∀ W n w1, Below W0.heap.size W0 W → RunP ρ0 W B s n w1 → ∃ ρ1 s1, Hid (AS ρ N w ρ1 w1 B V s1 css gs a2 a3 a4 c2 c3 c4 b2 b3 b4 #[.pointer (some ⟨B, 0, none⟩), .int .i64 V, .slice a2 css.length c2, .slice a3 gs.length c3, .slice a4 s.dec.length c4] #[.int .i64 1, .int .i64 l, .slice ac nc cc] #[.pointer none, .int .i64 0, .slice none 0 0, .slice none 0 0, .slice none 0 0]) ∧ Hid (s1.dec = s.dec) ∧ Hid (∀ x, Below w1.heap.size w1 x → Calls Try.prog 34 #[.agg #[.pointer (some ⟨B, 0, none⟩), .int .i64 V, .slice a2 css.length c2, .slice a3 gs.length c3, .slice a4 s.dec.length c4], .int .i64 n] x fun e w' => e = .returned (.bool true) ∧ Below x.heap.size x w')) := by
    intro W n w1 hW hP
    obtain ⟨ρ1, s1, hL, hE, hd, _, hr⟩ := (HA.out.below hW).lw.run hP
    refine ⟨ρ1, s1, (HA.out.below hW).ev2 hE hL, hd, fun x hx => ?_⟩
    have := (hL.below hx).ran HV.out HNN.out n hr
    rw [hd] at this
    exact this
  have p0 := cell_of_block HA.out.bx.k2 (i := 0) rfl
  have p1 := cell_of_block HA.out.bx.k2 (i := 1) rfl
  have p2 := cell_of_block HA.out.bx.k2 (i := 2) rfl
  have p3 := cell_of_block HA.out.bx.k2 (i := 3) rfl
  have p4 := cell_of_block HA.out.bx.k2 (i := 4) rfl
  have y0 := cell_of_block HA.out.bx.k3 (i := 0) rfl
  have y1 := cell_of_block HA.out.bx.k3 (i := 1) rfl
  have y2 := cell_of_block HA.out.bx.k3 (i := 2) rfl
  go_wp2_with fail
  go_region_held3 (fun q => q.cell? ⟨b2, 0, none⟩ = some (.pointer (some ⟨B, 0, none⟩)) ∧ q.cell? ⟨b2, 1, none⟩ = some (.int .i64 V) ∧ q.cell? ⟨b2, 2, none⟩ = some (.slice a2 css.length c2) ∧ q.cell? ⟨b2, 3, none⟩ = some (.slice a3 gs.length c3) ∧ q.cell? ⟨b2, 4, none⟩ = some (.slice a4 s.dec.length c4)) (go_keep) (first
    | (go_at_call 14; refine (RN.out _ (by first | exact Below.refl _ _ | exact (Below.refl _ _).drew)).mono ?_; rintro e w1 ⟨nn, rfl, hRP⟩; obtain ⟨ρ1, s1, hA1, hd1, RAN⟩ := HRUN.out _ _ _ (by first | exact Below.refl _ _ | exact (Below.refl _ _).drew) hRP; have s0 := cell_of_block hA1.out.bx.k2 (i := 0) rfl; have s1' := cell_of_block hA1.out.bx.k2 (i := 1) rfl; have s2 := cell_of_block hA1.out.bx.k2 (i := 2) rfl; have s3 := cell_of_block hA1.out.bx.k2 (i := 3) rfl; have s4 := cell_of_block hA1.out.bx.k2 (i := 4) rfl)
    | (go_at_call 34; refine (RAN.out _ (by first | exact Below.refl _ _ | exact (Below.refl _ _).drew)).mono ?_; rintro e w2 ⟨rfl, hb2⟩; replace hb2 : Below w1.heap.size w1 w2 := ⟨hb2.os, hb2.tape, hb2.output, hb2.size, hb2.block⟩; have hA2 := hide (hA1.out.below hb2); clear hA1; have t0 := cell_of_block hA2.out.bx.k2 (i := 0) rfl; have t1 := cell_of_block hA2.out.bx.k2 (i := 1) rfl; have t2 := cell_of_block hA2.out.bx.k2 (i := 2) rfl; have t3 := cell_of_block hA2.out.bx.k2 (i := 3) rfl; have t4 := cell_of_block hA2.out.bx.k2 (i := 4) rfl; have z0 := cell_of_block hA2.out.bx.k4 (i := 0) rfl; have z1 := cell_of_block hA2.out.bx.k4 (i := 1) rfl; have z2 := cell_of_block hA2.out.bx.k4 (i := 2) rfl; have z3 := cell_of_block hA2.out.bx.k4 (i := 3) rfl; have z4 := cell_of_block hA2.out.bx.k4 (i := 4) rfl; have f0 := frz_of_block hA2.out.bx.k4 (i := 0); have f1 := frz_of_block hA2.out.bx.k4 (i := 1); have f2 := frz_of_block hA2.out.bx.k4 (i := 2); have f3 := frz_of_block hA2.out.bx.k4 (i := 3); have f4 := frz_of_block hA2.out.bx.k4 (i := 4)))
  all_goals
    have hU := (((((U5.first rfl hA2.out.bx.k4).set 0 (.pointer (some ⟨B, 0, none⟩))).set 1 (.int .i64 V)).set 2 (.slice a2 css.length c2)).set 3 (.slice a3 gs.length c3)).set 4 (.slice a4 s.dec.length c4)
    have hfin := hA2.out.fin hU HN.out HGE.out (Nat.le_succ _)
    rw [hd1.out] at hfin
    refine forget (P := fun W => Exit.then _ _ Exit.normal _ W) (fun W => (W.cell? ⟨b4, 0, none⟩ = some (.pointer (some ⟨B, 0, none⟩)) ∧ W.cell? ⟨b4, 1, none⟩ = some (.int .i64 V) ∧ W.cell? ⟨b4, 2, none⟩ = some (.slice a2 css.length c2) ∧ W.cell? ⟨b4, 3, none⟩ = some (.slice a3 gs.length c3) ∧ W.cell? ⟨b4, 4, none⟩ = some (.slice a4 s.dec.length c4)) ∧ Hid (ActR ρ N w B V (css.length + 1) (.returned (.tuple #[.agg #[.pointer (some ⟨B, 0, none⟩), .int .i64 V, .slice a2 css.length c2, .slice a3 gs.length c3, .slice a4 s.dec.length c4], .bool true])) W)) ⟨⟨hU.cell rfl, hU.cell rfl, hU.cell rfl, hU.cell rfl, hU.cell rfl⟩, by first | exact hfin | exact actR_drew hfin⟩ ?_
    clear hU hfin z0 z1 z2 z3 z4 f0 f1 f2 f3 f4 t0 t1 t2 t3 t4 s0 s1' s2 s3 s4
    rintro W6 ⟨⟨r0, r1, r2, r3, r4⟩, HR6⟩
    go_wp2_with fail
    refine bodyPost_ret (v := .tuple #[.agg #[.pointer (some ⟨B, 0, none⟩), .int .i64 V, .slice a2 css.length c2, .slice a3 gs.length c3, .slice a4 s.dec.length c4], .bool true]) (by simp [results, Try.results12, go_sem, r0, r1, r2, r3, r4]) rfl ?_
    exact HR6.out
end
end Go.Proofs.Ytlmbgaconjcaiaa

namespace Go.Proofs.Ytlmbgaconjcaiaa
open Go.RowKit

section
variable {ρ : Nat → Rl} {N : Nat} {w : World} {B V : Nat} {s : PS} {css : List (List Int)} {gs : List Bool} {a2 a3 a4 : Option Addr} {c2 c3 c4 : Nat}

/-- Behind a Back. -/
theorem LW.back {w1 : World} {kn : Nat} {lv : Lv} (h : LW ρ N w B V s css gs a2 a3 a4 c2 c3 c4) (hk : s.lvs[kn]? = some lv) (hP : BackP ρ w B (s.back kn lv) w1) : ∃ ρ1, LW ρ1 N w1 B V (s.back kn lv) css gs a2 a3 a4 c2 c3 c4 ∧ Ev ρ w ρ1 w1 := by
  obtain ⟨ρ1, H1, hR, hE⟩ := hP
  obtain ⟨vs, hg⟩ := h.g
  have hd := back_dec h.inv hk
  have hkl : kn < s.lvs.length := (List.getElem?_eq_some_iff.1 hk).1
  have hdl : kn ≤ s.dec.length := by simp [PS.dec]; omega
  have hlen : (s.dec.take kn).length = kn := by rw [List.length_take]; exact Nat.min_eq_left hdl
  have hD := h.d.ev hE
  have hcut := own_cut hD.1 hdl
  have e2 : intC (s.dec.take kn) = (intC s.dec).take (kn * 1) := by simp [intC]
  refine ⟨ρ1, ⟨⟨H1, hR⟩, back_inv h.inv hk, h.cnt.back kn lv, by rw [back_eq]; exact h.vars, h.kys.same (by rw [back_eq]), by rw [back_eq]; exact h.lits, ⟨vs, hg.ev hE⟩, h.n2, h.b.ev hE, ?_⟩, hE⟩
  rw [hd, hlen]
  refine ⟨by rw [e2]; exact hcut, fun g hg => hD.2 g ?_⟩
  cases a4 with
  | none => simp [Value.ownBlock] at hg
  | some ad => simpa [Value.ownBlock] using hg


set_option maxHeartbeats 40000000 in
set_option maxRecDepth 100000 in
theorem act2_no (h : LW ρ N w B V s css gs a2 a3 a4 c2 c3 c4) (hN : N ≤ w.heap.size) (ac : Option Addr) (nc cc : Nat) (l : Int) (hk : s.lvs.length ≤ l.toNat) :
    Calls Try.prog 12 #[.agg #[.pointer (some ⟨B, 0, none⟩), .int .i64 V, .slice a2 css.length c2, .slice a3 gs.length c3, .slice a4 s.dec.length c4], .agg #[.int .i64 2, .int .i64 l, .slice ac nc cc]] w fun e w' => ActR ρ N w B V (css.length + 1) e w' := by
  have hA := act_set h #[.pointer (some ⟨B, 0, none⟩), .int .i64 V, .slice a2 css.length c2, .slice a3 gs.length c3, .slice a4 s.dec.length c4] #[.int .i64 2, .int .i64 l, .slice ac nc cc] #[.pointer none, .int .i64 0, .slice none 0 0, .slice none 0 0, .slice none 0 0]
  have hdl : s.dec.length = s.lvs.length := by simp [PS.dec]
  have hlv := lvs_len h.inv.tr
  have htl := trail_len h.inv.tr
  have hVs := h.inv.sz.vars
  obtain ⟨H, hR⟩ := hA.lw.rep
  have BK := hide (back_no hR l hk)
  have hk2 : s.dec.length ≤ l.toNat := by omega
  clear hR hk hdl hlv htl hVs
  have HA := hide hA
  clear h hA
  go_enter Try.func12, Try.ntmps12
  go_upto_block 0 with fail
  generalize hW0 : (((w.alloc (.cells #[.pointer (some ⟨B, 0, none⟩), .int .i64 V, .slice a2 css.length c2, .slice a3 gs.length c3, .slice a4 s.dec.length c4] 36)).alloc (.cells #[.int .i64 2, .int .i64 l, .slice ac nc cc] 41)).alloc (.cells #[.pointer none, .int .i64 0, .slice none 0 0, .slice none 0 0, .slice none 0 0] 36)) = W0 at *
  clear hW0
  have hge4 : w.heap.size ≤ w.heap.size + 1 + 1 := by omega
  have x23 : w.heap.size ≠ w.heap.size + 1 := by omega
  have x24 : w.heap.size ≠ w.heap.size + 1 + 1 := by omega
  have x34 : w.heap.size + 1 ≠ w.heap.size + 1 + 1 := by omega
  generalize hb4 : w.heap.size + 1 + 1 = b4 at *
  generalize hb3 : w.heap.size + 1 = b3 at *
  have HGE := hide hge4
  have HN := hide hN
  have HGE3 : Hid (w.heap.size ≤ b3) := by unfold Hid; omega
  have HGE2 : Hid (w.heap.size ≤ w.heap.size) := Nat.le_refl _
  clear hb4 hb3 hge4 hN
  obtain ⟨b2, hb2⟩ : ∃ b2, w.heap.size = b2 := ⟨_, rfl⟩
  have HGE2' : Hid (w.heap.size ≤ b2) := by unfold Hid; omega
  rw [hb2] at HA x23 x24
  simp only [hb2]
  clear hb2
  generalize fr ρ b2 = ρ0 at *
  have p0 := cell_of_block HA.out.bx.k2 (i := 0) rfl
  have p1 := cell_of_block HA.out.bx.k2 (i := 1) rfl
  have p2 := cell_of_block HA.out.bx.k2 (i := 2) rfl
  have p3 := cell_of_block HA.out.bx.k2 (i := 3) rfl
  have p4 := cell_of_block HA.out.bx.k2 (i := 4) rfl
  have y0 := cell_of_block HA.out.bx.k3 (i := 0) rfl
  have y1 := cell_of_block HA.out.bx.k3 (i := 1) rfl
  have y2 := cell_of_block HA.out.bx.k3 (i := 2) rfl
  have g1 := frz_of_block HA.out.bx.k3 (i := 1)
  by_cases hl : l < 0
  · have hlt : ¬ (0 : Int) < s.dec.length := by omega
    have hld : decide (0 < s.dec.length) = false := decide_eq_false (by omega)
    clear hk2
    go_wp2_with fail
    refine Calls.mono (unhide BK) ?_
    rintro e w1 ⟨rfl, hw1⟩
    subst w1
    simp only
    go_upto_region 14 with fail
    have hU3 := (U3.first rfl HA.out.bx.k3).set 1 (.int .i64 0)
    refine forget (P := fun W => Code.wp Try.prog _ _ _ W) (fun W => AS ρ N w ρ0 W B V s css gs a2 a3 a4 c2 c3 c4 b2 b3 b4 #[.pointer (some ⟨B, 0, none⟩), .int .i64 V, .slice a2 css.length c2, .slice a3 gs.length c3, .slice a4 s.dec.length c4] #[.int .i64 2, .int .i64 0, .slice ac nc cc] #[.pointer none, .int .i64 0, .slice none 0 0, .slice none 0 0, .slice none 0 0]) (HA.out.up3 hU3 HN.out HGE3.out x23 x34) ?_
    clear hU3 p0 p1 p2 p3 p4 y0 y1 y2 g1 BK
    intro W1 hA1
    have HA1 := hide hA1
    clear hA1
    have p0 := cell_of_block HA1.out.bx.k2 (i := 0) rfl
    have p1 := cell_of_block HA1.out.bx.k2 (i := 1) rfl
    have p2 := cell_of_block HA1.out.bx.k2 (i := 2) rfl
    have p3 := cell_of_block HA1.out.bx.k2 (i := 3) rfl
    have p4 := cell_of_block HA1.out.bx.k2 (i := 4) rfl
    have y0 := cell_of_block HA1.out.bx.k3 (i := 0) rfl
    have y1 := cell_of_block HA1.out.bx.k3 (i := 1) rfl
    have y2 := cell_of_block HA1.out.bx.k3 (i := 2) rfl
    have z0 := cell_of_block HA1.out.bx.k4 (i := 0) rfl
    have z1 := cell_of_block HA1.out.bx.k4 (i := 1) rfl
    have z2 := cell_of_block HA1.out.bx.k4 (i := 2) rfl
    have z3 := cell_of_block HA1.out.bx.k4 (i := 3) rfl
    have z4 := cell_of_block HA1.out.bx.k4 (i := 4) rfl
    have f0 := frz_of_block HA1.out.bx.k4 (i := 0)
    have f1 := frz_of_block HA1.out.bx.k4 (i := 1)
    have f2 := frz_of_block HA1.out.bx.k4 (i := 2)
    have f3 := frz_of_block HA1.out.bx.k4 (i := 3)
    have f4 := frz_of_block HA1.out.bx.k4 (i := 4)
    go_wp2
    have hU := (((((U5.first rfl HA1.out.bx.k4).set 0 (.pointer (some ⟨B, 0, none⟩))).set 1 (.int .i64 V)).set 2 (.slice a2 css.length c2)).set 3 (.slice a3 gs.length c3)).set 4 (.slice a4 s.dec.length c4)
    refine forget (P := fun W => bodyPost _ _ _ Exit.ret _ W) (fun W => (W.cell? ⟨b4, 0, none⟩ = some (.pointer (some ⟨B, 0, none⟩)) ∧ W.cell? ⟨b4, 1, none⟩ = some (.int .i64 V) ∧ W.cell? ⟨b4, 2, none⟩ = some (.slice a2 css.length c2) ∧ W.cell? ⟨b4, 3, none⟩ = some (.slice a3 gs.length c3) ∧ W.cell? ⟨b4, 4, none⟩ = some (.slice a4 s.dec.length c4)) ∧ Hid (ActR ρ N w B V (css.length + 1) (.returned (.tuple #[.agg #[.pointer (some ⟨B, 0, none⟩), .int .i64 V, .slice a2 css.length c2, .slice a3 gs.length c3, .slice a4 s.dec.length c4], .bool true])) W)) ⟨⟨hU.cell rfl, hU.cell rfl, hU.cell rfl, hU.cell rfl, hU.cell rfl⟩, HA1.out.fin hU HN.out HGE.out (Nat.le_succ _)⟩ ?_
    clear hU z0 z1 z2 z3 z4 f0 f1 f2 f3 f4 p0 p1 p2 p3 p4
    rintro W6 ⟨⟨r0, r1, r2, r3, r4⟩, HR6⟩
    refine bodyPost_ret (v := .tuple #[.agg #[.pointer (some ⟨B, 0, none⟩), .int .i64 V, .slice a2 css.length c2, .slice a3 gs.length c3, .slice a4 s.dec.length c4], .bool true]) (by simp [results, Try.results12, go_sem, r0, r1, r2, r3, r4]) rfl ?_
    exact HR6.out
  · have hlt : ¬ l < s.dec.length := by omega
    have hld : decide (l < s.dec.length) = false := by simpa using hlt
    clear hk2
    go_wp2_with fail
    refine Calls.mono (unhide BK) ?_
    rintro e w1 ⟨rfl, hw1⟩
    subst w1
    simp only
    have z0 := cell_of_block HA.out.bx.k4 (i := 0) rfl
    have z1 := cell_of_block HA.out.bx.k4 (i := 1) rfl
    have z2 := cell_of_block HA.out.bx.k4 (i := 2) rfl
    have z3 := cell_of_block HA.out.bx.k4 (i := 3) rfl
    have z4 := cell_of_block HA.out.bx.k4 (i := 4) rfl
    have f0 := frz_of_block HA.out.bx.k4 (i := 0)
    have f1 := frz_of_block HA.out.bx.k4 (i := 1)
    have f2 := frz_of_block HA.out.bx.k4 (i := 2)
    have f3 := frz_of_block HA.out.bx.k4 (i := 3)
    have f4 := frz_of_block HA.out.bx.k4 (i := 4)
    go_wp2
    have hU := (((((U5.first rfl HA.out.bx.k4).set 0 (.pointer (some ⟨B, 0, none⟩))).set 1 (.int .i64 V)).set 2 (.slice a2 css.length c2)).set 3 (.slice a3 gs.length c3)).set 4 (.slice a4 s.dec.length c4)
    refine forget (P := fun W => bodyPost _ _ _ Exit.ret _ W) (fun W => (W.cell? ⟨b4, 0, none⟩ = some (.pointer (some ⟨B, 0, none⟩)) ∧ W.cell? ⟨b4, 1, none⟩ = some (.int .i64 V) ∧ W.cell? ⟨b4, 2, none⟩ = some (.slice a2 css.length c2) ∧ W.cell? ⟨b4, 3, none⟩ = some (.slice a3 gs.length c3) ∧ W.cell? ⟨b4, 4, none⟩ = some (.slice a4 s.dec.length c4)) ∧ Hid (ActR ρ N w B V (css.length + 1) (.returned (.tuple #[.agg #[.pointer (some ⟨B, 0, none⟩), .int .i64 V, .slice a2 css.length c2, .slice a3 gs.length c3, .slice a4 s.dec.length c4], .bool true])) W)) ⟨⟨hU.cell rfl, hU.cell rfl, hU.cell rfl, hU.cell rfl, hU.cell rfl⟩, HA.out.fin hU HN.out HGE.out (Nat.le_succ _)⟩ ?_
    clear hU z0 z1 z2 z3 z4 f0 f1 f2 f3 f4 p0 p1 p2 p3 p4
    rintro W6 ⟨⟨r0, r1, r2, r3, r4⟩, HR6⟩
    refine bodyPost_ret (v := .tuple #[.agg #[.pointer (some ⟨B, 0, none⟩), .int .i64 V, .slice a2 css.length c2, .slice a3 gs.length c3, .slice a4 s.dec.length c4], .bool true]) (by simp [results, Try.results12, go_sem, r0, r1, r2, r3, r4]) rfl ?_
    exact HR6.out

set_option maxHeartbeats 40000000 in
set_option maxRecDepth 100000 in
theorem act2_some (gd : Nat) (h : LW ρ N w B V s css gs a2 a3 (some ⟨gd, 0, none⟩) c2 c3 c4) (hN : N ≤ w.heap.size) (ac : Option Addr) (nc cc : Nat) (l : Int) (kn : Nat) (hkn : l.toNat = kn) (lv : Lv) (hk : s.lvs[kn]? = some lv) :
    Calls Try.prog 12 #[.agg #[.pointer (some ⟨B, 0, none⟩), .int .i64 V, .slice a2 css.length c2, .slice a3 gs.length c3, .slice (some ⟨gd, 0, none⟩) s.dec.length c4], .agg #[.int .i64 2, .int .i64 l, .slice ac nc cc]] w fun e w' => ActR ρ N w B V (css.length + 1) e w' := by
  have hA := act_set h #[.pointer (some ⟨B, 0, none⟩), .int .i64 V, .slice a2 css.length c2, .slice a3 gs.length c3, .slice (some ⟨gd, 0, none⟩) s.dec.length c4] #[.int .i64 2, .int .i64 l, .slice ac nc cc] #[.pointer none, .int .i64 0, .slice none 0 0, .slice none 0 0, .slice none 0 0]
  have hdl : s.dec.length = s.lvs.length := by simp [PS.dec]
  have hlv := lvs_len h.inv.tr
  have htl := trail_len h.inv.tr
  have hVs := h.inv.sz.vars
  have hkl : kn < s.dec.length := by rw [hdl]; exact (List.getElem?_eq_some_iff.1 hk).1
  obtain ⟨H, hR⟩ := hA.lw.rep
  have BK := hide (back_yes hR hA.lw.inv l kn hkn lv hk)
  have HBK : Hid (∀ w1, BackP (fr ρ w.heap.size) _ B (s.back kn lv) w1 → ∃ ρ1, AS ρ N w ρ1 w1 B V (s.back kn lv) css gs a2 a3 (some ⟨gd, 0, none⟩) c2 c3 c4 w.heap.size (w.heap.size + 1) (w.heap.size + 1 + 1) #[.pointer (some ⟨B, 0, none⟩), .int .i64 V, .slice a2 css.length c2, .slice a3 gs.length c3, .slice (some ⟨gd, 0, none⟩) s.dec.length c4] #[.int .i64 2, .int .i64 l, .slice ac nc cc] #[.pointer none, .int .i64 0, .slice none 0 0, .slice none 0 0, .slice none 0 0]) := fun w1 hP => by
    obtain ⟨ρ1, hL, hE⟩ := hA.lw.back hk hP
    exact ⟨ρ1, hA.ev2 hE hL⟩
  have HDN : Hid ((s.back kn lv).dec.length = kn) := by
    unfold Hid
    rw [back_dec hA.lw.inv hk, List.length_take]; exact Nat.min_eq_left (by omega)
  obtain ⟨ad, cd, ed, hcap, hcm, hform⟩ := own_form hA.lw.d.1
  simp at ed
  obtain ⟨rfl, rfl⟩ := ed
  unfold maxLen at hcm
  have hkd : s.dec.length ≤ 1048576 := by omega
  clear hR hk hdl hlv htl hVs hform
  have HA := hide hA
  clear h hA
  go_enter Try.func12, Try.ntmps12
  go_upto_block 0 with fail
  generalize hW0 : (((w.alloc (.cells #[.pointer (some ⟨B, 0, none⟩), .int .i64 V, .slice a2 css.length c2, .slice a3 gs.length c3, .slice (some ⟨gd, 0, none⟩) s.dec.length c4] 36)).alloc (.cells #[.int .i64 2, .int .i64 l, .slice ac nc cc] 41)).alloc (.cells #[.pointer none, .int .i64 0, .slice none 0 0, .slice none 0 0, .slice none 0 0] 36)) = W0 at *
  clear hW0
  have hge4 : w.heap.size ≤ w.heap.size + 1 + 1 := by omega
  have x23 : w.heap.size ≠ w.heap.size + 1 := by omega
  have x24 : w.heap.size ≠ w.heap.size + 1 + 1 := by omega
  have x34 : w.heap.size + 1 ≠ w.heap.size + 1 + 1 := by omega
  generalize hb4 : w.heap.size + 1 + 1 = b4 at *
  generalize hb3 : w.heap.size + 1 = b3 at *
  have HGE := hide hge4
  have HN := hide hN
  have HGE3 : Hid (w.heap.size ≤ b3) := by unfold Hid; omega
  have HGE2 : Hid (w.heap.size ≤ w.heap.size) := Nat.le_refl _
  clear hb4 hb3 hge4 hN
  obtain ⟨b2, hb2⟩ : ∃ b2, w.heap.size = b2 := ⟨_, rfl⟩
  have HGE2' : Hid (w.heap.size ≤ b2) := by unfold Hid; omega
  rw [hb2] at HA HBK BK x23 x24
  simp only [hb2]
  clear hb2
  generalize fr ρ b2 = ρ0 at *
  have p0 := cell_of_block HA.out.bx.k2 (i := 0) rfl
  have p1 := cell_of_block HA.out.bx.k2 (i := 1) rfl
  have p2 := cell_of_block HA.out.bx.k2 (i := 2) rfl
  have p3 := cell_of_block HA.out.bx.k2 (i := 3) rfl
  have p4 := cell_of_block HA.out.bx.k2 (i := 4) rfl
  have y0 := cell_of_block HA.out.bx.k3 (i := 0) rfl
  have y1 := cell_of_block HA.out.bx.k3 (i := 1) rfl
  have y2 := cell_of_block HA.out.bx.k3 (i := 2) rfl
  go_wp2_with fail
  refine Calls.mono (unhide BK) ?_
  rintro e w1 ⟨rfl, hP⟩
  obtain ⟨ρ1, hA1⟩ := HBK.out w1 hP
  have HA1 := hide hA1
  clear hA1 hP BK HBK HA p0 p1 p2 p3 p4 y0 y1 y2
  simp only
  have p0 := cell_of_block HA1.out.bx.k2 (i := 0) rfl
  have p1 := cell_of_block HA1.out.bx.k2 (i := 1) rfl
  have p2 := cell_of_block HA1.out.bx.k2 (i := 2) rfl
  have p3 := cell_of_block HA1.out.bx.k2 (i := 3) rfl
  have p4 := cell_of_block HA1.out.bx.k2 (i := 4) rfl
  have y0 := cell_of_block HA1.out.bx.k3 (i := 0) rfl
  have y1 := cell_of_block HA1.out.bx.k3 (i := 1) rfl
  have y2 := cell_of_block HA1.out.bx.k3 (i := 2) rfl
  have g1 := frz_of_block HA1.out.bx.k3 (i := 1)
  have f24 := frz_of_block HA1.out.bx.k2 (i := 4)
  generalize s.back kn lv = t at *
  by_cases hl : l < 0
  · obtain rfl : kn = 0 := by omega
    have hd0 : (0 : Int) < s.dec.length := by omega
    have hdd : decide (0 < s.dec.length) = true := decide_eq_true hkl
    clear hkn
    go_upto_region 14 with fail
    have hU3 := (U3.first rfl HA1.out.bx.k3).set 1 (.int .i64 0)
    refine forget (P := fun W => Code.wp Try.prog _ _ _ W) (fun W => AS ρ N w ρ1 W B V t css gs a2 a3 (some ⟨gd, 0, none⟩) c2 c3 c4 b2 b3 b4 #[.pointer (some ⟨B, 0, none⟩), .int .i64 V, .slice a2 css.length c2, .slice a3 gs.length c3, .slice (some ⟨gd, 0, none⟩) s.dec.length c4] #[.int .i64 2, .int .i64 0, .slice ac nc cc] #[.pointer none, .int .i64 0, .slice none 0 0, .slice none 0 0, .slice none 0 0]) (HA1.out.up3 hU3 HN.out HGE3.out x23 x34) ?_
    clear hU3 p0 p1 p2 p3 p4 y0 y1 y2 g1 f24
    intro W1 hA1
    have HA3 := hide hA1
    clear hA1 HA1
    have p0 := cell_of_block HA3.out.bx.k2 (i := 0) rfl
    have p1 := cell_of_block HA3.out.bx.k2 (i := 1) rfl
    have p2 := cell_of_block HA3.out.bx.k2 (i := 2) rfl
    have p3 := cell_of_block HA3.out.bx.k2 (i := 3) rfl
    have p4 := cell_of_block HA3.out.bx.k2 (i := 4) rfl
    have y0 := cell_of_block HA3.out.bx.k3 (i := 0) rfl
    have y1 := cell_of_block HA3.out.bx.k3 (i := 1) rfl
    have y2 := cell_of_block HA3.out.bx.k3 (i := 2) rfl
    have f24 := frz_of_block HA3.out.bx.k2 (i := 4)
    go_upto_region 35 with fail
    have hU2 := (U5.first rfl HA3.out.bx.k2).set 4 (.slice (some ⟨gd, 0, none⟩) 0 c4)
    refine forget (P := fun W => Code.wp Try.prog _ _ _ W) (fun W => AS ρ N w ρ1 W B V t css gs a2 a3 (some ⟨gd, 0, none⟩) c2 c3 c4 b2 b3 b4 #[.pointer (some ⟨B, 0, none⟩), .int .i64 V, .slice a2 css.length c2, .slice a3 gs.length c3, .slice (some ⟨gd, 0, none⟩) 0 c4] #[.int .i64 2, .int .i64 0, .slice ac nc cc] #[.pointer none, .int .i64 0, .slice none 0 0, .slice none 0 0, .slice none 0 0]) (HA3.out.up2 hU2 HN.out HGE2'.out x23 x24) ?_
    clear hU2 p0 p1 p2 p3 p4 y0 y1 y2 f24
    intro W2 hA2
    have HA2 := hide hA2
    clear hA2
    have p0 := cell_of_block HA2.out.bx.k2 (i := 0) rfl
    have p1 := cell_of_block HA2.out.bx.k2 (i := 1) rfl
    have p2 := cell_of_block HA2.out.bx.k2 (i := 2) rfl
    have p3 := cell_of_block HA2.out.bx.k2 (i := 3) rfl
    have p4 := cell_of_block HA2.out.bx.k2 (i := 4) rfl
    have z0 := cell_of_block HA2.out.bx.k4 (i := 0) rfl
    have z1 := cell_of_block HA2.out.bx.k4 (i := 1) rfl
    have z2 := cell_of_block HA2.out.bx.k4 (i := 2) rfl
    have z3 := cell_of_block HA2.out.bx.k4 (i := 3) rfl
    have z4 := cell_of_block HA2.out.bx.k4 (i := 4) rfl
    have f0 := frz_of_block HA2.out.bx.k4 (i := 0)
    have f1 := frz_of_block HA2.out.bx.k4 (i := 1)
    have f2 := frz_of_block HA2.out.bx.k4 (i := 2)
    have f3 := frz_of_block HA2.out.bx.k4 (i := 3)
    have f4 := frz_of_block HA2.out.bx.k4 (i := 4)
    go_wp2
    have hU := (((((U5.first rfl HA2.out.bx.k4).set 0 (.pointer (some ⟨B, 0, none⟩))).set 1 (.int .i64 V)).set 2 (.slice a2 css.length c2)).set 3 (.slice a3 gs.length c3)).set 4 (.slice (some ⟨gd, 0, none⟩) 0 c4)
    refine forget (P := fun W => bodyPost _ _ _ Exit.ret _ W) (fun W => (W.cell? ⟨b4, 0, none⟩ = some (.pointer (some ⟨B, 0, none⟩)) ∧ W.cell? ⟨b4, 1, none⟩ = some (.int .i64 V) ∧ W.cell? ⟨b4, 2, none⟩ = some (.slice a2 css.length c2) ∧ W.cell? ⟨b4, 3, none⟩ = some (.slice a3 gs.length c3) ∧ W.cell? ⟨b4, 4, none⟩ = some (.slice (some ⟨gd, 0, none⟩) 0 c4)) ∧ Hid (ActR ρ N w B V (css.length + 1) (.returned (.tuple #[.agg #[.pointer (some ⟨B, 0, none⟩), .int .i64 V, .slice a2 css.length c2, .slice a3 gs.length c3, .slice (some ⟨gd, 0, none⟩) 0 c4], .bool true])) W)) ⟨⟨hU.cell rfl, hU.cell rfl, hU.cell rfl, hU.cell rfl, hU.cell rfl⟩, (by have q := HA2.out.fin hU HN.out HGE.out (Nat.le_succ _); rw [HDN.out] at q; exact q)⟩ ?_
    clear hU z0 z1 z2 z3 z4 f0 f1 f2 f3 f4 p0 p1 p2 p3 p4
    rintro W6 ⟨⟨r0, r1, r2, r3, r4⟩, HR6⟩
    refine bodyPost_ret (v := .tuple #[.agg #[.pointer (some ⟨B, 0, none⟩), .int .i64 V, .slice a2 css.length c2, .slice a3 gs.length c3, .slice (some ⟨gd, 0, none⟩) 0 c4], .bool true]) (by simp [results, Try.results12, go_sem, r0, r1, r2, r3, r4]) rfl ?_
    exact HR6.out
  · have hd0 : l < s.dec.length := by omega
    have hdd : decide (l < s.dec.length) = true := by simpa using hd0
    obtain rfl : l = (kn : Int) := by omega
    clear hkn
    go_upto_region 35 with fail
    have hU2 := (U5.first rfl HA1.out.bx.k2).set 4 (.slice (some ⟨gd, 0, none⟩) kn c4)
    refine forget (P := fun W => Code.wp Try.prog _ _ _ W) (fun W => AS ρ N w ρ1 W B V t css gs a2 a3 (some ⟨gd, 0, none⟩) c2 c3 c4 b2 b3 b4 #[.pointer (some ⟨B, 0, none⟩), .int .i64 V, .slice a2 css.length c2, .slice a3 gs.length c3, .slice (some ⟨gd, 0, none⟩) kn c4] #[.int .i64 2, .int .i64 kn, .slice ac nc cc] #[.pointer none, .int .i64 0, .slice none 0 0, .slice none 0 0, .slice none 0 0]) (HA1.out.up2 hU2 HN.out HGE2'.out x23 x24) ?_
    clear hU2 p0 p1 p2 p3 p4 y0 y1 y2 f24
    intro W2 hA2
    have HA2 := hide hA2
    clear hA2
    have p0 := cell_of_block HA2.out.bx.k2 (i := 0) rfl
    have p1 := cell_of_block HA2.out.bx.k2 (i := 1) rfl
    have p2 := cell_of_block HA2.out.bx.k2 (i := 2) rfl
    have p3 := cell_of_block HA2.out.bx.k2 (i := 3) rfl
    have p4 := cell_of_block HA2.out.bx.k2 (i := 4) rfl
    have z0 := cell_of_block HA2.out.bx.k4 (i := 0) rfl
    have z1 := cell_of_block HA2.out.bx.k4 (i := 1) rfl
    have z2 := cell_of_block HA2.out.bx.k4 (i := 2) rfl
    have z3 := cell_of_block HA2.out.bx.k4 (i := 3) rfl
    have z4 := cell_of_block HA2.out.bx.k4 (i := 4) rfl
    have f0 := frz_of_block HA2.out.bx.k4 (i := 0)
    have f1 := frz_of_block HA2.out.bx.k4 (i := 1)
    have f2 := frz_of_block HA2.out.bx.k4 (i := 2)
    have f3 := frz_of_block HA2.out.bx.k4 (i := 3)
    have f4 := frz_of_block HA2.out.bx.k4 (i := 4)
    go_wp2
    have hU := (((((U5.first rfl HA2.out.bx.k4).set 0 (.pointer (some ⟨B, 0, none⟩))).set 1 (.int .i64 V)).set 2 (.slice a2 css.length c2)).set 3 (.slice a3 gs.length c3)).set 4 (.slice (some ⟨gd, 0, none⟩) kn c4)
    refine forget (P := fun W => bodyPost _ _ _ Exit.ret _ W) (fun W => (W.cell? ⟨b4, 0, none⟩ = some (.pointer (some ⟨B, 0, none⟩)) ∧ W.cell? ⟨b4, 1, none⟩ = some (.int .i64 V) ∧ W.cell? ⟨b4, 2, none⟩ = some (.slice a2 css.length c2) ∧ W.cell? ⟨b4, 3, none⟩ = some (.slice a3 gs.length c3) ∧ W.cell? ⟨b4, 4, none⟩ = some (.slice (some ⟨gd, 0, none⟩) kn c4)) ∧ Hid (ActR ρ N w B V (css.length + 1) (.returned (.tuple #[.agg #[.pointer (some ⟨B, 0, none⟩), .int .i64 V, .slice a2 css.length c2, .slice a3 gs.length c3, .slice (some ⟨gd, 0, none⟩) kn c4], .bool true])) W)) ⟨⟨hU.cell rfl, hU.cell rfl, hU.cell rfl, hU.cell rfl, hU.cell rfl⟩, (by have q := HA2.out.fin hU HN.out HGE.out (Nat.le_succ _); rw [HDN.out] at q; exact q)⟩ ?_
    clear hU z0 z1 z2 z3 z4 f0 f1 f2 f3 f4 p0 p1 p2 p3 p4
    rintro W6 ⟨⟨r0, r1, r2, r3, r4⟩, HR6⟩
    refine bodyPost_ret (v := .tuple #[.agg #[.pointer (some ⟨B, 0, none⟩), .int .i64 V, .slice a2 css.length c2, .slice a3 gs.length c3, .slice (some ⟨gd, 0, none⟩) kn c4], .bool true]) (by simp [results, Try.results12, go_sem, r0, r1, r2, r3, r4]) rfl ?_
    exact HR6.out

theorem act2_any (h : LW ρ N w B V s css gs a2 a3 a4 c2 c3 c4) (hN : N ≤ w.heap.size) (ac : Option Addr) (nc cc : Nat) (l : Int) :
    Calls Try.prog 12 #[.agg #[.pointer (some ⟨B, 0, none⟩), .int .i64 V, .slice a2 css.length c2, .slice a3 gs.length c3, .slice a4 s.dec.length c4], .agg #[.int .i64 2, .int .i64 l, .slice ac nc cc]] w fun e w' => ActR ρ N w B V (css.length + 1) e w' := by
  rcases Nat.lt_or_ge l.toNat s.lvs.length with hk | hk
  · have hdl : s.dec.length = s.lvs.length := by simp [PS.dec]
    obtain ⟨g, cap, e, _⟩ := own_some h.d.1 (by omega)
    simp at e
    obtain ⟨rfl, rfl⟩ := e
    exact act2_some g h hN ac nc cc l l.toNat rfl _ (List.getElem?_eq_getElem hk)
  · exact act2_no h hN ac nc cc l hk

end
end Go.Proofs.Ytlmbgaconjcaiaa

namespace Go.Proofs.Ytlmbgaconjcaiaa
open Go.RowKit

section
variable {ρ : Nat → Rl} {N : Nat} {w : World} {B V : Nat} {s : PS} {css : List (List Int)} {gs : List Bool} {a2 a3 a4 : Option Addr} {c2 c3 c4 : Nat}


set_option maxHeartbeats 40000000 in
set_option maxRecDepth 100000 in
theorem act4_no (h : LW ρ N w B V s css gs a2 a3 a4 c2 c3 c4) (hN : N ≤ w.heap.size) (ac : Option Addr) (nc cc : Nat) (l : Int) (hq : l < 0 ∨ (css.length : Int) ≤ l ∨ ∃ i : Nat, l = i ∧ ∃ hi : i < gs.length, gs[i] = true) :
    Calls Try.prog 12 #[.agg #[.pointer (some ⟨B, 0, none⟩), .int .i64 V, .slice a2 css.length c2, .slice a3 gs.length c3, .slice a4 s.dec.length c4], .agg #[.int .i64 4, .int .i64 l, .slice ac nc cc]] w fun e w' => ActR ρ N w B V (css.length + 1) e w' := by
  have hA := act_set h #[.pointer (some ⟨B, 0, none⟩), .int .i64 V, .slice a2 css.length c2, .slice a3 gs.length c3, .slice a4 s.dec.length c4] #[.int .i64 4, .int .i64 l, .slice ac nc cc] #[.pointer none, .int .i64 0, .slice none 0 0, .slice none 0 0, .slice none 0 0]
  obtain ⟨H, hR⟩ := hA.lw.rep
  have hgl := h.kys.glen
  have hcl := h.kys.len
  have hno : l < 0 ∨ s.cls.length ≤ l ∨ ∃ c, 0 ≤ l ∧ s.cls[l.toNat]? = some c ∧ c.gone = true := by
    rcases hq with hq | hq | ⟨i, rfl, hi, hq⟩
    · exact .inl hq
    · exact .inr (.inl (by omega))
    · have hi' : i < s.cls.length := by omega
      refine .inr (.inr ⟨s.cls[i], by omega, by simp [hi'], ?_⟩)
      have := h.kys.at (List.getElem?_eq_getElem hi')
      rw [List.getElem?_eq_getElem hi, hq] at this
      simpa using this.symm
  have DR := hide (drop_none hR l hno hA.lw.inv.sz.cls)
  have HRB := hide hA.lw.b.rowB
  have HGL := hide hgl
  clear hR hno hcl hgl
  have HA := hide hA
  clear h hA
  go_enter Try.func12, Try.ntmps12
  go_upto_block 0 with fail
  generalize hW0 : (((w.alloc (.cells #[.pointer (some ⟨B, 0, none⟩), .int .i64 V, .slice a2 css.length c2, .slice a3 gs.length c3, .slice a4 s.dec.length c4] 36)).alloc (.cells #[.int .i64 4, .int .i64 l, .slice ac nc cc] 41)).alloc (.cells #[.pointer none, .int .i64 0, .slice none 0 0, .slice none 0 0, .slice none 0 0] 36)) = W0 at *
  clear hW0
  have hge4 : w.heap.size ≤ w.heap.size + 1 + 1 := by omega
  have x23 : w.heap.size ≠ w.heap.size + 1 := by omega
  have x24 : w.heap.size ≠ w.heap.size + 1 + 1 := by omega
  have x34 : w.heap.size + 1 ≠ w.heap.size + 1 + 1 := by omega
  generalize hb4 : w.heap.size + 1 + 1 = b4 at *
  generalize hb3 : w.heap.size + 1 = b3 at *
  have HGE := hide hge4
  have HN := hide hN
  clear hb4 hb3 hge4 hN
  obtain ⟨b2, hb2⟩ : ∃ b2, w.heap.size = b2 := ⟨_, rfl⟩
  have HGE2' : Hid (w.heap.size ≤ b2) := by unfold Hid; omega
  rw [hb2] at HA x23 x24
  simp only [hb2]
  clear hb2
  generalize fr ρ b2 = ρ0 at *
  have p0 := cell_of_block HA.out.bx.k2 (i := 0) rfl
  have p1 := cell_of_block HA.out.bx.k2 (i := 1) rfl
  have p2 := cell_of_block HA.out.bx.k2 (i := 2) rfl
  have p3 := cell_of_block HA.out.bx.k2 (i := 3) rfl
  have p4 := cell_of_block HA.out.bx.k2 (i := 4) rfl
  have y0 := cell_of_block HA.out.bx.k3 (i := 0) rfl
  have y1 := cell_of_block HA.out.bx.k3 (i := 1) rfl
  have y2 := cell_of_block HA.out.bx.k3 (i := 2) rfl
  have z0 := cell_of_block HA.out.bx.k4 (i := 0) rfl
  have z1 := cell_of_block HA.out.bx.k4 (i := 1) rfl
  have z2 := cell_of_block HA.out.bx.k4 (i := 2) rfl
  have z3 := cell_of_block HA.out.bx.k4 (i := 3) rfl
  have z4 := cell_of_block HA.out.bx.k4 (i := 4) rfl
  have f0 := frz_of_block HA.out.bx.k4 (i := 0)
  have f1 := frz_of_block HA.out.bx.k4 (i := 1)
  have f2 := frz_of_block HA.out.bx.k4 (i := 2)
  have f3 := frz_of_block HA.out.bx.k4 (i := 3)
  have f4 := frz_of_block HA.out.bx.k4 (i := 4)
  rcases hq with hq | hq | ⟨i, rfl, hi, hq⟩
  · have hd0 : decide (0 ≤ l) = false := decide_eq_false (by omega)
    go_wp2_with fail
    refine Calls.mono (unhide DR) ?_
    rintro e w1 ⟨rfl, hw1⟩
    subst w1
    simp only
    go_wp2
    have hU := (((((U5.first rfl HA.out.bx.k4).set 0 (.pointer (some ⟨B, 0, none⟩))).set 1 (.int .i64 V)).set 2 (.slice a2 css.length c2)).set 3 (.slice a3 gs.length c3)).set 4 (.slice a4 s.dec.length c4)
    refine forget (P := fun W => bodyPost _ _ _ Exit.ret _ W) (fun W => (W.cell? ⟨b4, 0, none⟩ = some (.pointer (some ⟨B, 0, none⟩)) ∧ W.cell? ⟨b4, 1, none⟩ = some (.int .i64 V) ∧ W.cell? ⟨b4, 2, none⟩ = some (.slice a2 css.length c2) ∧ W.cell? ⟨b4, 3, none⟩ = some (.slice a3 gs.length c3) ∧ W.cell? ⟨b4, 4, none⟩ = some (.slice a4 s.dec.length c4)) ∧ Hid (ActR ρ N w B V (css.length + 1) (.returned (.tuple #[.agg #[.pointer (some ⟨B, 0, none⟩), .int .i64 V, .slice a2 css.length c2, .slice a3 gs.length c3, .slice a4 s.dec.length c4], .bool true])) W)) ⟨⟨hU.cell rfl, hU.cell rfl, hU.cell rfl, hU.cell rfl, hU.cell rfl⟩, HA.out.fin hU HN.out HGE.out (Nat.le_succ _)⟩ ?_
    clear hU z0 z1 z2 z3 z4 f0 f1 f2 f3 f4 p0 p1 p2 p3 p4
    rintro W6 ⟨⟨r0, r1, r2, r3, r4⟩, HR6⟩
    refine bodyPost_ret (v := .tuple #[.agg #[.pointer (some ⟨B, 0, none⟩), .int .i64 V, .slice a2 css.length c2, .slice a3 gs.length c3, .slice a4 s.dec.length c4], .bool true]) (by simp [results, Try.results12, go_sem, r0, r1, r2, r3, r4]) rfl ?_
    exact HR6.out
  · have hd0 : decide (0 ≤ l) = true := decide_eq_true (by omega)
    have hd1 : decide (l < (css.length : Int)) = false := decide_eq_false (by omega)
    have hl0 : 0 ≤ l := by omega
    go_wp2_with fail
    refine Calls.mono (unhide DR) ?_
    rintro e w1 ⟨rfl, hw1⟩
    subst w1
    simp only
    go_wp2
    have hU := (((((U5.first rfl HA.out.bx.k4).set 0 (.pointer (some ⟨B, 0, none⟩))).set 1 (.int .i64 V)).set 2 (.slice a2 css.length c2)).set 3 (.slice a3 gs.length c3)).set 4 (.slice a4 s.dec.length c4)
    refine forget (P := fun W => bodyPost _ _ _ Exit.ret _ W) (fun W => (W.cell? ⟨b4, 0, none⟩ = some (.pointer (some ⟨B, 0, none⟩)) ∧ W.cell? ⟨b4, 1, none⟩ = some (.int .i64 V) ∧ W.cell? ⟨b4, 2, none⟩ = some (.slice a2 css.length c2) ∧ W.cell? ⟨b4, 3, none⟩ = some (.slice a3 gs.length c3) ∧ W.cell? ⟨b4, 4, none⟩ = some (.slice a4 s.dec.length c4)) ∧ Hid (ActR ρ N w B V (css.length + 1) (.returned (.tuple #[.agg #[.pointer (some ⟨B, 0, none⟩), .int .i64 V, .slice a2 css.length c2, .slice a3 gs.length c3, .slice a4 s.dec.length c4], .bool true])) W)) ⟨⟨hU.cell rfl, hU.cell rfl, hU.cell rfl, hU.cell rfl, hU.cell rfl⟩, HA.out.fin hU HN.out HGE.out (Nat.le_succ _)⟩ ?_
    clear hU z0 z1 z2 z3 z4 f0 f1 f2 f3 f4 p0 p1 p2 p3 p4
    rintro W6 ⟨⟨r0, r1, r2, r3, r4⟩, HR6⟩
    refine bodyPost_ret (v := .tuple #[.agg #[.pointer (some ⟨B, 0, none⟩), .int .i64 V, .slice a2 css.length c2, .slice a3 gs.length c3, .slice a4 s.dec.length c4], .bool true]) (by simp [results, Try.results12, go_sem, r0, r1, r2, r3, r4]) rfl ?_
    exact HR6.out
  · obtain ⟨bg, og, rfl, hbg, hcg⟩ := HRB.out i hi
    rw [hq] at hcg
    have hic : i < css.length := by have := HGL.out; omega
    have hii : (i : Int) < gs.length := by omega
    have hii2 : (i : Int) < css.length := by omega
    have hd1 : decide (i < css.length) = true := decide_eq_true hic
    go_wp2_with fail
    refine Calls.mono (unhide DR) ?_
    rintro e w1 ⟨rfl, hw1⟩
    subst w1
    simp only
    go_wp2
    have hU := (((((U5.first rfl HA.out.bx.k4).set 0 (.pointer (some ⟨B, 0, none⟩))).set 1 (.int .i64 V)).set 2 (.slice a2 css.length c2)).set 3 (.slice (some ⟨bg, og, none⟩) gs.length c3)).set 4 (.slice a4 s.dec.length c4)
    refine forget (P := fun W => bodyPost _ _ _ Exit.ret _ W) (fun W => (W.cell? ⟨b4, 0, none⟩ = some (.pointer (some ⟨B, 0, none⟩)) ∧ W.cell? ⟨b4, 1, none⟩ = some (.int .i64 V) ∧ W.cell? ⟨b4, 2, none⟩ = some (.slice a2 css.length c2) ∧ W.cell? ⟨b4, 3, none⟩ = some (.slice (some ⟨bg, og, none⟩) gs.length c3) ∧ W.cell? ⟨b4, 4, none⟩ = some (.slice a4 s.dec.length c4)) ∧ Hid (ActR ρ N w B V (css.length + 1) (.returned (.tuple #[.agg #[.pointer (some ⟨B, 0, none⟩), .int .i64 V, .slice a2 css.length c2, .slice (some ⟨bg, og, none⟩) gs.length c3, .slice a4 s.dec.length c4], .bool true])) W)) ⟨⟨hU.cell rfl, hU.cell rfl, hU.cell rfl, hU.cell rfl, hU.cell rfl⟩, HA.out.fin hU HN.out HGE.out (Nat.le_succ _)⟩ ?_
    clear hU z0 z1 z2 z3 z4 f0 f1 f2 f3 f4 p0 p1 p2 p3 p4
    rintro W6 ⟨⟨r0, r1, r2, r3, r4⟩, HR6⟩
    refine bodyPost_ret (v := .tuple #[.agg #[.pointer (some ⟨B, 0, none⟩), .int .i64 V, .slice a2 css.length c2, .slice (some ⟨bg, og, none⟩) gs.length c3, .slice a4 s.dec.length c4], .bool true]) (by simp [results, Try.results12, go_sem, r0, r1, r2, r3, r4]) rfl ?_
    exact HR6.out

set_option maxHeartbeats 40000000 in
set_option maxRecDepth 100000 in
theorem act4_bad (bg : Nat) (h : LW ρ N w B V s css gs a2 (some ⟨bg, 0, none⟩) a4 c2 c3 c4) (hN : N ≤ w.heap.size) (ac : Option Addr) (nc cc : Nat) (i : Nat) (c : Cl) (hc : s.cls[i]? = some c) (hg : c.gone = false) (hr : s.rsnB i c.lits = true) :
    Calls Try.prog 12 #[.agg #[.pointer (some ⟨B, 0, none⟩), .int .i64 V, .slice a2 css.length c2, .slice (some ⟨bg, 0, none⟩) gs.length c3, .slice a4 s.dec.length c4], .agg #[.int .i64 4, .int .i64 i, .slice ac nc cc]] w fun e w' => ActR ρ N w B V (css.length + 1) e w' := by
  have hA := act_set h #[.pointer (some ⟨B, 0, none⟩), .int .i64 V, .slice a2 css.length c2, .slice (some ⟨bg, 0, none⟩) gs.length c3, .slice a4 s.dec.length c4] #[.int .i64 4, .int .i64 i, .slice ac nc cc] #[.pointer none, .int .i64 0, .slice none 0 0, .slice none 0 0, .slice none 0 0]
  obtain ⟨H, hR⟩ := hA.lw.rep
  have hgl := h.kys.glen
  have hcl := h.kys.len
  have hil : i < s.cls.length := (List.getElem?_eq_some_iff.1 hc).1
  have hic : i < css.length := by omega
  have hig : i < gs.length := by omega
  have hgi : gs[i] = false := by
    have := h.kys.at hc
    rw [List.getElem?_eq_getElem hig, hg] at this
    simpa using this
  have DR := hide (drop_bad hR hA.lw.inv.shp i c hc hg hA.lw.inv.sz.cls (hA.lw.inv.wt.ok i c hc) hr)
  have hrt := rsn_trail hA.lw.inv hc hr
  have hcg := own_cell (i := i) hA.lw.b.1 rfl (boolC_get hig)
  rw [hgi] at hcg
  clear hgi
  have LR : Hid (∀ x, Below _ _ x → Calls Try.prog 38 #[.agg #[.pointer (some ⟨B, 0, none⟩), .int .i64 V, .slice a2 css.length c2, .slice (some ⟨bg, 0, none⟩) gs.length c3, .slice a4 s.dec.length c4], .int .i64 i] x fun e w' => e = .returned (.bool true) ∧ Below x.heap.size x w') := fun x hx => lawReason_any (hR.below hx) hA.lw.inv V a2 (some ⟨bg, 0, none⟩) a4 css.length c2 gs.length c3 s.dec.length c4 i hrt
  clear hR hcl hgl hrt hil hc hg hr
  have HA := hide hA
  clear h hA
  go_enter Try.func12, Try.ntmps12
  go_upto_block 0 with fail
  generalize hW0 : (((w.alloc (.cells #[.pointer (some ⟨B, 0, none⟩), .int .i64 V, .slice a2 css.length c2, .slice (some ⟨bg, 0, none⟩) gs.length c3, .slice a4 s.dec.length c4] 36)).alloc (.cells #[.int .i64 4, .int .i64 i, .slice ac nc cc] 41)).alloc (.cells #[.pointer none, .int .i64 0, .slice none 0 0, .slice none 0 0, .slice none 0 0] 36)) = W0 at *
  clear hW0
  have hge4 : w.heap.size ≤ w.heap.size + 1 + 1 := by omega
  have x23 : w.heap.size ≠ w.heap.size + 1 := by omega
  have x24 : w.heap.size ≠ w.heap.size + 1 + 1 := by omega
  have x34 : w.heap.size + 1 ≠ w.heap.size + 1 + 1 := by omega
  generalize hb4 : w.heap.size + 1 + 1 = b4 at *
  generalize hb3 : w.heap.size + 1 = b3 at *
  have HGE := hide hge4
  have HN := hide hN
  clear hb4 hb3 hge4 hN
  obtain ⟨b2, hb2⟩ : ∃ b2, w.heap.size = b2 := ⟨_, rfl⟩
  have HGE2' : Hid (w.heap.size ≤ b2) := by unfold Hid; omega
  rw [hb2] at HA x23 x24
  simp only [hb2]
  clear hb2
  generalize fr ρ b2 = ρ0 at *
  have x42 : b4 ≠ b2 := Ne.symm x24
  have x43 : b4 ≠ b3 := Ne.symm x34
  have hii : (i : Int) < gs.length := by omega
  have hii2 : (i : Int) < css.length := by omega
  have hd1 : decide (i < css.length) = true := decide_eq_true hic
  have p0 := cell_of_block HA.out.bx.k2 (i := 0) rfl
  have p1 := cell_of_block HA.out.bx.k2 (i := 1) rfl
  have p2 := cell_of_block HA.out.bx.k2 (i := 2) rfl
  have p3 := cell_of_block HA.out.bx.k2 (i := 3) rfl
  have p4 := cell_of_block HA.out.bx.k2 (i := 4) rfl
  have y0 := cell_of_block HA.out.bx.k3 (i := 0) rfl
  have y1 := cell_of_block HA.out.bx.k3 (i := 1) rfl
  have y2 := cell_of_block HA.out.bx.k3 (i := 2) rfl
  go_wp2_with fail
  refine Calls.mono (unhide DR) ?_
  rintro e w1 ⟨rfl, n1, rfl⟩
  have HA1 := hide (HA.out.below (bquiet (Below.refl _ _) n1))
  have LR1 : Hid (∀ x, Below (W0.drewN n1).heap.size (W0.drewN n1) x → Calls Try.prog 38 #[.agg #[.pointer (some ⟨B, 0, none⟩), .int .i64 V, .slice a2 css.length c2, .slice (some ⟨bg, 0, none⟩) gs.length c3, .slice a4 s.dec.length c4], .int .i64 i] x fun e w' => e = .returned (.bool true) ∧ Below x.heap.size x w') := fun x hx => LR.out x ((bquiet (Below.refl _ _) n1).trans hx)
  clear p0 p1 p2 p3 p4 y0 y1 y2 DR HA LR hcg
  generalize W0.drewN n1 = W1 at *
  have p0 := cell_of_block HA1.out.bx.k2 (i := 0) rfl
  have p1 := cell_of_block HA1.out.bx.k2 (i := 1) rfl
  have p2 := cell_of_block HA1.out.bx.k2 (i := 2) rfl
  have p3 := cell_of_block HA1.out.bx.k2 (i := 3) rfl
  have p4 := cell_of_block HA1.out.bx.k2 (i := 4) rfl
  have y0 := cell_of_block HA1.out.bx.k3 (i := 0) rfl
  have y1 := cell_of_block HA1.out.bx.k3 (i := 1) rfl
  have y2 := cell_of_block HA1.out.bx.k3 (i := 2) rfl
  simp only
  go_wp2_with fail
  go_region_held3 (fun q => q.cell? ⟨b2, 0, none⟩ = some (.pointer (some ⟨B, 0, none⟩)) ∧ q.cell? ⟨b2, 1, none⟩ = some (.int .i64 V) ∧ q.cell? ⟨b2, 2, none⟩ = some (.slice a2 css.length c2) ∧ q.cell? ⟨b2, 3, none⟩ = some (.slice (some ⟨bg, 0, none⟩) gs.length c3) ∧ q.cell? ⟨b2, 4, none⟩ = some (.slice a4 s.dec.length c4) ∧ q.cell? ⟨b3, 1, none⟩ = some (.int .i64 i)) (go_keep) (first
    | (go_at_call 38; refine (LR1.out _ (by first | exact Below.refl _ _ | exact (Below.refl _ _).drew)).mono ?_; rintro e w2 ⟨rfl, hb2⟩; replace hb2 : Below W1.heap.size W1 w2 := ⟨hb2.os, hb2.tape, hb2.output, hb2.size, hb2.block⟩; have hA2 := hide (HA1.out.below hb2); have t0 := cell_of_block hA2.out.bx.k2 (i := 0) rfl; have t1 := cell_of_block hA2.out.bx.k2 (i := 1) rfl; have t2 := cell_of_block hA2.out.bx.k2 (i := 2) rfl; have t3 := cell_of_block hA2.out.bx.k2 (i := 3) rfl; have t4 := cell_of_block hA2.out.bx.k2 (i := 4) rfl; have t5 := cell_of_block hA2.out.bx.k3 (i := 1) rfl; have z0 := cell_of_block hA2.out.bx.k4 (i := 0) rfl; have z1 := cell_of_block hA2.out.bx.k4 (i := 1) rfl; have z2 := cell_of_block hA2.out.bx.k4 (i := 2) rfl; have z3 := cell_of_block hA2.out.bx.k4 (i := 3) rfl; have z4 := cell_of_block hA2.out.bx.k4 (i := 4) rfl; have f0 := frz_of_block hA2.out.bx.k4 (i := 0); have f1 := frz_of_block hA2.out.bx.k4 (i := 1); have f2 := frz_of_block hA2.out.bx.k4 (i := 2); have f3 := frz_of_block hA2.out.bx.k4 (i := 3); have f4 := frz_of_block hA2.out.bx.k4 (i := 4)))
  all_goals
    have hU := (((((U5.first rfl hA2.out.bx.k4).set 0 (.pointer (some ⟨B, 0, none⟩))).set 1 (.int .i64 V)).set 2 (.slice a2 css.length c2)).set 3 (.slice (some ⟨bg, 0, none⟩) gs.length c3)).set 4 (.slice a4 s.dec.length c4)
    have hfin := hA2.out.fin hU HN.out HGE.out (Nat.le_succ _)
    refine forget (P := fun W => Exit.then _ _ Exit.normal _ W) (fun W => (W.cell? ⟨b4, 0, none⟩ = some (.pointer (some ⟨B, 0, none⟩)) ∧ W.cell? ⟨b4, 1, none⟩ = some (.int .i64 V) ∧ W.cell? ⟨b4, 2, none⟩ = some (.slice a2 css.length c2) ∧ W.cell? ⟨b4, 3, none⟩ = some (.slice (some ⟨bg, 0, none⟩) gs.length c3) ∧ W.cell? ⟨b4, 4, none⟩ = some (.slice a4 s.dec.length c4)) ∧ Hid (ActR ρ N w B V (css.length + 1) (.returned (.tuple #[.agg #[.pointer (some ⟨B, 0, none⟩), .int .i64 V, .slice a2 css.length c2, .slice (some ⟨bg, 0, none⟩) gs.length c3, .slice a4 s.dec.length c4], .bool true])) W)) ⟨⟨hU.cell rfl, hU.cell rfl, hU.cell rfl, hU.cell rfl, hU.cell rfl⟩, hfin⟩ ?_
    clear hU hfin z0 z1 z2 z3 z4 f0 f1 f2 f3 f4 t0 t1 t2 t3 t4 p0 p1 p2 p3 p4
    rintro W6 ⟨⟨r0, r1, r2, r3, r4⟩, HR6⟩
    go_wp2_with fail
    refine bodyPost_ret (v := .tuple #[.agg #[.pointer (some ⟨B, 0, none⟩), .int .i64 V, .slice a2 css.length c2, .slice (some ⟨bg, 0, none⟩) gs.length c3, .slice a4 s.dec.length c4], .bool true]) (by simp [results, Try.results12, go_sem, r0, r1, r2, r3, r4]) rfl ?_
    exact HR6.out

set_option maxHeartbeats 40000000 in
set_option maxRecDepth 100000 in
theorem act4_ok (bg : Nat) (h : LW ρ N w B V s css gs a2 (some ⟨bg, 0, none⟩) a4 c2 c3 c4) (hN : N ≤ w.heap.size) (ac : Option Addr) (nc cc : Nat) (i : Nat) (c : Cl) (hc : s.cls[i]? = some c) (hg : c.gone = false) (hr : s.rsnB i c.lits = false) :
    Calls Try.prog 12 #[.agg #[.pointer (some ⟨B, 0, none⟩), .int .i64 V, .slice a2 css.length c2, .slice (some ⟨bg, 0, none⟩) gs.length c3, .slice a4 s.dec.length c4], .agg #[.int .i64 4, .int .i64 i, .slice ac nc cc]] w fun e w' => ActR ρ N w B V (css.length + 1) e w' := by
  have hA := act_set h #[.pointer (some ⟨B, 0, none⟩), .int .i64 V, .slice a2 css.length c2, .slice (some ⟨bg, 0, none⟩) gs.length c3, .slice a4 s.dec.length c4] #[.int .i64 4, .int .i64 i, .slice ac nc cc] #[.pointer none, .int .i64 0, .slice none 0 0, .slice none 0 0, .slice none 0 0]
  obtain ⟨H, hR⟩ := hA.lw.rep
  have hgl := h.kys.glen
  have hcl := h.kys.len
  have hsz := h.inv.sz.cls
  have hil : i < s.cls.length := (List.getElem?_eq_some_iff.1 hc).1
  have hic : i < css.length := by omega
  have hig : i < gs.length := by omega
  have hgi : gs[i] = false := by
    have := h.kys.at hc
    rw [List.getElem?_eq_getElem hig, hg] at this
    simpa using this
  have DR := hide (drop_ok hR hA.lw.inv hA.lw.cnt i c hc hg hr)
  have hnr : ∀ x ∈ c.lits, s.val x = 1 → (s.fct x).2.2 ≠ (i : Int) := by
    intro x hx hv he
    unfold PS.rsnB at hr
    rw [List.any_eq_false] at hr
    exact hr x hx (by simp [hv, he])
  have HINV := hide (drop_inv h.inv h.cnt hc hg hnr)
  have HVR : Hid ((s.drop i c).vars = V) := by unfold Hid; rw [← h.vars]; unfold PS.drop; simp only; split <;> rfl
  have HDC : Hid ((s.drop i c).dec = s.dec) := by
    have e1 : ∀ q : PS, q.swept.dec = q.dec := by intro q; unfold PS.dec PS.swept; simp
    unfold Hid PS.drop; simp only; split
    · rw [e1]; rfl
    · rfl
  have HKY := hide (h.kys.drop hc)
  have HLT : Hid (∀ d ∈ (s.drop i c).cls, d.lits.length ≤ 4096) := by
    intro d hd
    rw [drop_cls] at hd
    rcases List.mem_or_eq_of_mem_set hd with h' | rfl
    · exact h.lits d h'
    · simp
  have HN2 := hide h.n2
  have hcg := own_cell (i := i) hA.lw.b.1 rfl (boolC_get hig)
  rw [hgi] at hcg
  have hgn : gs.length ≤ 1048576 := by omega
  clear hgi hR hcl hgl hil hc hg hr hnr hsz
  have HA := hide hA
  clear h hA
  go_enter Try.func12, Try.ntmps12
  go_upto_block 0 with fail
  generalize hW0 : (((w.alloc (.cells #[.pointer (some ⟨B, 0, none⟩), .int .i64 V, .slice a2 css.length c2, .slice (some ⟨bg, 0, none⟩) gs.length c3, .slice a4 s.dec.length c4] 36)).alloc (.cells #[.int .i64 4, .int .i64 i, .slice ac nc cc] 41)).alloc (.cells #[.pointer none, .int .i64 0, .slice none 0 0, .slice none 0 0, .slice none 0 0] 36)) = W0 at *
  clear hW0
  have hge4 : w.heap.size ≤ w.heap.size + 1 + 1 := by omega
  have x23 : w.heap.size ≠ w.heap.size + 1 := by omega
  have x24 : w.heap.size ≠ w.heap.size + 1 + 1 := by omega
  have x34 : w.heap.size + 1 ≠ w.heap.size + 1 + 1 := by omega
  generalize hb4 : w.heap.size + 1 + 1 = b4 at *
  generalize hb3 : w.heap.size + 1 = b3 at *
  have HGE := hide hge4
  have HN := hide hN
  clear hb4 hb3 hge4 hN
  obtain ⟨b2, hb2⟩ : ∃ b2, w.heap.size = b2 := ⟨_, rfl⟩
  have HGE2' : Hid (w.heap.size ≤ b2) := by unfold Hid; omega
  rw [hb2] at HA DR x23 x24
  simp only [hb2]
  clear hb2
  generalize fr ρ b2 = ρ0 at *
  have hii : (i : Int) < gs.length := by omega
  have hii2 : (i : Int) < css.length := by omega
  have hd1 : decide (i < css.length) = true := decide_eq_true hic
  obtain ⟨j0, hj, hz0, hz1, hz2⟩ := info_parts Try.info4b
  have p0 := cell_of_block HA.out.bx.k2 (i := 0) rfl
  have p1 := cell_of_block HA.out.bx.k2 (i := 1) rfl
  have p2 := cell_of_block HA.out.bx.k2 (i := 2) rfl
  have p3 := cell_of_block HA.out.bx.k2 (i := 3) rfl
  have p4 := cell_of_block HA.out.bx.k2 (i := 4) rfl
  have y0 := cell_of_block HA.out.bx.k3 (i := 0) rfl
  have y1 := cell_of_block HA.out.bx.k3 (i := 1) rfl
  have y2 := cell_of_block HA.out.bx.k3 (i := 2) rfl
  go_wp2_with fail
  refine Calls.mono (unhide DR) ?_
  rintro e w1 ⟨rfl, ρ1, H1, hR1, hE1⟩
  have HM := hide (HA.out.am.call ⟨H1, hR1⟩ hE1)
  clear p0 p1 p2 p3 p4 y0 y1 y2 DR HA hcg hR1 hE1
  have p0 := cell_of_block HM.out.bx.k2 (i := 0) rfl
  have p1 := cell_of_block HM.out.bx.k2 (i := 1) rfl
  have p2 := cell_of_block HM.out.bx.k2 (i := 2) rfl
  have p3 := cell_of_block HM.out.bx.k2 (i := 3) rfl
  have p4 := cell_of_block HM.out.bx.k2 (i := 4) rfl
  have y0 := cell_of_block HM.out.bx.k3 (i := 0) rfl
  have y1 := cell_of_block HM.out.bx.k3 (i := 1) rfl
  have y2 := cell_of_block HM.out.bx.k3 (i := 2) rfl
  have yb2 : b2 ≠ w1.heap.size := Nat.ne_of_lt (lt_of_block HM.out.bx.k2)
  have yb3 : b3 ≠ w1.heap.size := Nat.ne_of_lt (lt_of_block HM.out.bx.k3)
  have ac3 : (w1.alloc (.cells #[] 4)).cell? ⟨b2, 3, none⟩ = some (.slice (some ⟨bg, 0, none⟩) gs.length c3) := cell_of_block ((heap_alloc_old w1 _ (lt_of_block HM.out.bx.k2)).trans HM.out.bx.k2) (i := 3) rfl
  have HSRC := hide (own_src (HM.out.b.1.alloc (.cells #[] 4)))
  have HONE : Hid (∀ u ∈ boolC gs, u.oneCell' = true) := by intro u hu; simp only [boolC, List.mem_map] at hu; obtain ⟨x, _, rfl⟩ := hu; rfl
  have HB3 : Hid (∀ (g3 cap3 : Nat) (w3 : World), w3.ownsRow w1.heap.size 4 1 (.slice (some ⟨g3, 0, none⟩) (0 + gs.length) cap3) (0 + gs.length) ([] ++ boolC gs) → (w1.alloc (.cells #[] 4)).grownBy w3 (Value.slice (some ⟨w1.heap.size, 0, none⟩) 0 0).ownBlock → AM ρ N w (fr ρ1 w1.heap.size) w3 B (s.drop i c) css gs s.dec a2 (some ⟨g3, 0, none⟩) a4 cap3 c4 b2 b3 b4 #[.pointer (some ⟨B, 0, none⟩), .int .i64 V, .slice a2 css.length c2, .slice (some ⟨bg, 0, none⟩) gs.length c3, .slice a4 s.dec.length c4] #[.int .i64 4, .int .i64 i, .slice ac nc cc] #[.pointer none, .int .i64 0, .slice none 0 0, .slice none 0 0, .slice none 0 0] ∧ w1.heap.size ≤ g3) := by
    intro g3 cap3 w3 ho hgr
    simp only [Nat.zero_add, List.nil_append] at ho
    exact ⟨HM.out.newB ((below_alloc w1 _).grown hgr (by simp) (fun k hk => by simp [Value.ownBlock] at hk; omega)) ho, (World.ownsRow.lt ho g3 rfl).1⟩
  have HSZ1 : Hid (w.heap.size ≤ w1.heap.size) := HM.out.ev.size
  clear HM
  simp only
  go_upto_region 34 with (at_builtin; refine wpList_append_any rfl _ _ 33 rfl w1.heap.size 4 j0 (.bool false) 1 1 Try.underlying33 hj hz0 hz1 hz2 rfl (by decide) (.slice (some ⟨w1.heap.size, 0, none⟩) 0 0) 0 [] rfl (World.ownsRow_made w1 #[] 0 (Nat.le_refl _) (Nat.zero_le _) rfl) (by simp) (some ⟨bg, 0, none⟩) gs.length c3 (boolC gs) rfl HSRC.out HONE.out (by unfold maxLen; omega) (by omega) (by simp) ?_; intro g3 cap3 w3 hown3 hgrow3 hat3 hlt3; obtain ⟨hM3, hg3⟩ := HB3.out g3 cap3 w3 hown3 hgrow3; have k3 := cell_of_block hM3.bx.k2 (i := 3) rfl; have kf := frz_of_block hM3.bx.k2 (i := 3))
  have hU2 := (U5.first rfl hM3.bx.k2).set 3 (.slice (some ⟨g3, 0, none⟩) gs.length cap3)
  refine forget (P := fun W => Code.wp Try.prog _ _ _ W) (fun W => AM ρ N w (fr ρ1 w1.heap.size) W B (s.drop i c) css gs s.dec a2 (some ⟨g3, 0, none⟩) a4 cap3 c4 b2 b3 b4 #[.pointer (some ⟨B, 0, none⟩), .int .i64 V, .slice a2 css.length c2, .slice (some ⟨g3, 0, none⟩) gs.length cap3, .slice a4 s.dec.length c4] #[.int .i64 4, .int .i64 i, .slice ac nc cc] #[.pointer none, .int .i64 0, .slice none 0 0, .slice none 0 0, .slice none 0 0]) (hM3.up2 hU2 HN.out HGE2'.out x23 x24) ?_
  have HG3 := hide hg3
  clear hU2 p0 p1 p2 p3 p4 y0 y1 y2 k3 kf hM3 hown3 hgrow3 hat3 hlt3 hg3 HB3 HSRC HONE yb2 yb3 ac3
  intro W4 hM4
  have HM4 := hide hM4
  have hcb := own_cell (i := i) hM4.b.1 rfl (boolC_get hig)
  have hcf := own_fz hM4.b.1 rfl i
  clear hM4
  have p0 := cell_of_block HM4.out.bx.k2 (i := 0) rfl
  have p1 := cell_of_block HM4.out.bx.k2 (i := 1) rfl
  have p2 := cell_of_block HM4.out.bx.k2 (i := 2) rfl
  have p3 := cell_of_block HM4.out.bx.k2 (i := 3) rfl
  have p4 := cell_of_block HM4.out.bx.k2 (i := 4) rfl
  have y0 := cell_of_block HM4.out.bx.k3 (i := 0) rfl
  have y1 := cell_of_block HM4.out.bx.k3 (i := 1) rfl
  have y2 := cell_of_block HM4.out.bx.k3 (i := 2) rfl
  go_upto_region 35 with fail
  have hAS : AS ρ N w (fr ρ1 w1.heap.size) (W4.setCell ⟨g3, i, none⟩ (.bool true)) B V (s.drop i c) css (gs.set i true) a2 (some ⟨g3, 0, none⟩) a4 c2 cap3 c4 b2 b3 b4 #[.pointer (some ⟨B, 0, none⟩), .int .i64 V, .slice a2 css.length c2, .slice (some ⟨g3, 0, none⟩) gs.length cap3, .slice a4 s.dec.length c4] #[.int .i64 4, .int .i64 i, .slice ac nc cc] #[.pointer none, .int .i64 0, .slice none 0 0, .slice none 0 0, .slice none 0 0] := by
    have q := HM4.out.setB (i := i) (by have := HN.out; have := HSZ1.out; have := HG3.out; omega) (by have := HSZ1.out; have := HG3.out; omega) true
    rw [← HDC.out] at q
    have q2 := q.as HINV.out.1 HINV.out.2 HVR.out HKY.out HLT.out HN2.out
    rw [HDC.out] at q2
    exact q2
  refine forget (P := fun W => Code.wp Try.prog _ _ _ W) (fun W => AS ρ N w (fr ρ1 w1.heap.size) W B V (s.drop i c) css (gs.set i true) a2 (some ⟨g3, 0, none⟩) a4 c2 cap3 c4 b2 b3 b4 #[.pointer (some ⟨B, 0, none⟩), .int .i64 V, .slice a2 css.length c2, .slice (some ⟨g3, 0, none⟩) gs.length cap3, .slice a4 s.dec.length c4] #[.int .i64 4, .int .i64 i, .slice ac nc cc] #[.pointer none, .int .i64 0, .slice none 0 0, .slice none 0 0, .slice none 0 0]) hAS ?_
  clear hAS hcb hcf p0 p1 p2 p3 p4 y0 y1 y2 HM4
  intro W5 hA5
  have HA5 := hide hA5
  clear hA5
  have p0 := cell_of_block HA5.out.bx.k2 (i := 0) rfl
  have p1 := cell_of_block HA5.out.bx.k2 (i := 1) rfl
  have p2 := cell_of_block HA5.out.bx.k2 (i := 2) rfl
  have p3 := cell_of_block HA5.out.bx.k2 (i := 3) rfl
  have p4 := cell_of_block HA5.out.bx.k2 (i := 4) rfl
  have z0 := cell_of_block HA5.out.bx.k4 (i := 0) rfl
  have z1 := cell_of_block HA5.out.bx.k4 (i := 1) rfl
  have z2 := cell_of_block HA5.out.bx.k4 (i := 2) rfl
  have z3 := cell_of_block HA5.out.bx.k4 (i := 3) rfl
  have z4 := cell_of_block HA5.out.bx.k4 (i := 4) rfl
  have f0 := frz_of_block HA5.out.bx.k4 (i := 0)
  have f1 := frz_of_block HA5.out.bx.k4 (i := 1)
  have f2 := frz_of_block HA5.out.bx.k4 (i := 2)
  have f3 := frz_of_block HA5.out.bx.k4 (i := 3)
  have f4 := frz_of_block HA5.out.bx.k4 (i := 4)
  go_wp2
  have hU := (((((U5.first rfl HA5.out.bx.k4).set 0 (.pointer (some ⟨B, 0, none⟩))).set 1 (.int .i64 V)).set 2 (.slice a2 css.length c2)).set 3 (.slice (some ⟨g3, 0, none⟩) gs.length cap3)).set 4 (.slice a4 s.dec.length c4)
  refine forget (P := fun W => bodyPost _ _ _ Exit.ret _ W) (fun W => (W.cell? ⟨b4, 0, none⟩ = some (.pointer (some ⟨B, 0, none⟩)) ∧ W.cell? ⟨b4, 1, none⟩ = some (.int .i64 V) ∧ W.cell? ⟨b4, 2, none⟩ = some (.slice a2 css.length c2) ∧ W.cell? ⟨b4, 3, none⟩ = some (.slice (some ⟨g3, 0, none⟩) gs.length cap3) ∧ W.cell? ⟨b4, 4, none⟩ = some (.slice a4 s.dec.length c4)) ∧ Hid (ActR ρ N w B V (css.length + 1) (.returned (.tuple #[.agg #[.pointer (some ⟨B, 0, none⟩), .int .i64 V, .slice a2 css.length c2, .slice (some ⟨g3, 0, none⟩) gs.length cap3, .slice a4 s.dec.length c4], .bool true])) W)) ⟨⟨hU.cell rfl, hU.cell rfl, hU.cell rfl, hU.cell rfl, hU.cell rfl⟩, (by have q := HA5.out.fin hU HN.out HGE.out (Nat.le_succ _); rw [HDC.out, List.length_set] at q; exact q)⟩ ?_
  clear hU z0 z1 z2 z3 z4 f0 f1 f2 f3 f4 p0 p1 p2 p3 p4
  rintro W6 ⟨⟨r0, r1, r2, r3, r4⟩, HR6⟩
  refine bodyPost_ret (v := .tuple #[.agg #[.pointer (some ⟨B, 0, none⟩), .int .i64 V, .slice a2 css.length c2, .slice (some ⟨g3, 0, none⟩) gs.length cap3, .slice a4 s.dec.length c4], .bool true]) (by simp [results, Try.results12, go_sem, r0, r1, r2, r3, r4]) rfl ?_
  exact HR6.out

theorem act4_any (h : LW ρ N w B V s css gs a2 a3 a4 c2 c3 c4) (hN : N ≤ w.heap.size) (ac : Option Addr) (nc cc : Nat) (l : Int) :
    Calls Try.prog 12 #[.agg #[.pointer (some ⟨B, 0, none⟩), .int .i64 V, .slice a2 css.length c2, .slice a3 gs.length c3, .slice a4 s.dec.length c4], .agg #[.int .i64 4, .int .i64 l, .slice ac nc cc]] w fun e w' => ActR ρ N w B V (css.length + 1) e w' := by
  by_cases h1 : l < 0
  · exact act4_no h hN ac nc cc l (.inl h1)
  · by_cases h2 : (css.length : Int) ≤ l
    · exact act4_no h hN ac nc cc l (.inr (.inl h2))
    · obtain ⟨i, rfl⟩ : ∃ i : Nat, l = i := ⟨l.toNat, by omega⟩
      have hgl := h.kys.glen
      have hcl := h.kys.len
      have hig : i < gs.length := by omega
      have hil : i < s.cls.length := by omega
      have hc := List.getElem?_eq_getElem hil
      cases hb : gs[i] with
      | true => exact act4_no h hN ac nc cc i (.inr (.inr ⟨i, rfl, hig, hb⟩))
      | false =>
        have hg : s.cls[i].gone = false := by
          have := h.kys.at hc
          rw [List.getElem?_eq_getElem hig, hb] at this
          simpa using this.symm
        obtain ⟨g, cap, e, _⟩ := own_some h.b.1 (by omega)
        simp at e
        obtain ⟨rfl, rfl⟩ := e
        cases hr : s.rsnB i s.cls[i].lits with
        | true => exact act4_bad g h hN ac nc cc i _ hc hg hr
        | false => exact act4_ok g h hN ac nc cc i _ hc hg hr

end
end Go.Proofs.Ytlmbgaconjcaiaa
