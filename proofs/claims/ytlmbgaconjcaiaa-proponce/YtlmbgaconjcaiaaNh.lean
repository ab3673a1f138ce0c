/- Contracts of the law: a clause is added. -/
import Derived.Test.YtlmbgaconjcaiaaNa
import Derived.Test.YtlmbgaconjcaiaaIi
import Derived.Deep.RegionHeld3
import Derived.Deep.RegionLaw
import Derived.Deep.AppendLies
import Derived.Deep.DeepCutAuto
import Derived.BigQuiet
set_option linter.unusedVariables false
set_option linter.unusedSimpArgs false
namespace Go.Proofs.Ytlmbgaconjcaiaa
open Go.RowKit

theorem own_lit34b (W : World) (o : Obj) (base : Nat) (hb : base ≤ W.heap.size) : ((W.alloc o).alloc (.cells #[] 34)).ownsRow base 34 1 (.slice (some ⟨W.heap.size + 1, 0, none⟩) 0 0) 0 [] := by
  have := own_lit34 (W.alloc o) base (by simp; omega)
  simpa using this

section
variable {ρ : Nat → Rl} {N : Nat} {w : World} {B V : Nat} {s : PS} {css : List (List Int)} {gs : List Bool} {a2 a3 a4 : Option Addr} {c2 c3 c4 : Nat}

theorem attach_dec (s : PS) (ls : List Int) : (s.attach ls).dec = s.dec := by
  obtain ⟨_, _, h3, h4, _⟩ := attach_cls s ls
  unfold PS.dec
  rw [h3, h4]


set_option maxHeartbeats 40000000 in
set_option maxRecDepth 100000 in
theorem act3_no (h : LW ρ N w B V s css gs a2 a3 a4 c2 c3 c4) (hN : N ≤ w.heap.size) (ac : Option Addr) (cl : List Int) (cc : Nat) (l : Int) (hr : RowO ρ N w ac cl) (hcl : cl.length ≤ maxLen) (hcc : ac = none → cc = 0) (hno : cnfB V [cl] = false) :
    Calls Try.prog 12 #[.agg #[.pointer (some ⟨B, 0, none⟩), .int .i64 V, .slice a2 css.length c2, .slice a3 gs.length c3, .slice a4 s.dec.length c4], .agg #[.int .i64 3, .int .i64 l, .slice ac cl.length cc]] w fun e w' => ActR ρ N w B V (css.length + 1) e w' := by
  have hA := act_set h #[.pointer (some ⟨B, 0, none⟩), .int .i64 V, .slice a2 css.length c2, .slice a3 gs.length c3, .slice a4 s.dec.length c4] #[.int .i64 3, .int .i64 l, .slice ac cl.length cc] #[.pointer none, .int .i64 0, .slice none 0 0, .slice none 0 0, .slice none 0 0]
  obtain ⟨H, hR⟩ := hA.lw.rep
  have hrow := (hr.ev hA.ev).row
  have hb0 := below_alloc (((w.alloc (.cells #[.pointer (some ⟨B, 0, none⟩), .int .i64 V, .slice a2 css.length c2, .slice a3 gs.length c3, .slice a4 s.dec.length c4] 36)).alloc (.cells #[.int .i64 3, .int .i64 l, .slice ac cl.length cc] 41)).alloc (.cells #[.pointer none, .int .i64 0, .slice none 0 0, .slice none 0 0, .slice none 0 0] 36)) (.cells #[.slice ac cl.length cc] 34)
  have RC := refCnf_any (some ⟨(((w.alloc (.cells #[.pointer (some ⟨B, 0, none⟩), .int .i64 V, .slice a2 css.length c2, .slice a3 gs.length c3, .slice a4 s.dec.length c4] 36)).alloc (.cells #[.int .i64 3, .int .i64 l, .slice ac cl.length cc] 41)).alloc (.cells #[.pointer none, .int .i64 0, .slice none 0 0, .slice none 0 0, .slice none 0 0] 36)).heap.size, 0, none⟩) 1 V [cl] _ (grid_one _ ac cc cl hrow hcl) (by simp [maxLen])
  rw [hno] at RC
  simp only [List.length_singleton] at RC
  replace RC := hide RC
  have AD : Hid (∀ x, Below _ _ x → Calls Try.prog 36 #[.pointer (some ⟨B, 0, none⟩), .slice ac cl.length cc] x fun e w' => e = .returned (.tuple #[.int .i64 0, .int .i64 1]) ∧ Below x.heap.size x w') := fun x hx => add_no (hR.below hx) hA.lw.inv.sz.vars ac cc cl (hrow.below hx) hcl (by rw [hA.lw.vars]; exact hno)
  have HB0 := hide hb0
  clear hR hrow hno hr hcl hcc hb0
  have HA := hide hA
  clear h hA
  go_enter Try.func12, Try.ntmps12
  go_upto_block 0 with fail
  generalize hW0 : (((w.alloc (.cells #[.pointer (some ⟨B, 0, none⟩), .int .i64 V, .slice a2 css.length c2, .slice a3 gs.length c3, .slice a4 s.dec.length c4] 36)).alloc (.cells #[.int .i64 3, .int .i64 l, .slice ac cl.length cc] 41)).alloc (.cells #[.pointer none, .int .i64 0, .slice none 0 0, .slice none 0 0, .slice none 0 0] 36)) = W0 at *
  clear hW0
  have hge4 : w.heap.size ≤ w.heap.size + 1 + 1 := by omega
  have x23 : w.heap.size ≠ w.heap.size + 1 := by omega
  have x24 : w.heap.size ≠ w.heap.size + 1 + 1 := by omega
  have x34 : w.heap.size + 1 ≠ w.heap.size + 1 + 1 := by omega
  generalize hb4 : w.heap.size + 1 + 1 = b4 at *
  generalize hb3 : w.heap.size + 1 = b3 at *
  have HGE := hide hge4
  have HN := hide hN
  clear hb4 hb3 hge4 hN
  obtain ⟨b2, hb2⟩ : ∃ b2, w.heap.size = b2 := ⟨_, rfl⟩
  have HGE2' : Hid (w.heap.size ≤ b2) := by unfold Hid; omega
  rw [hb2] at HA x23 x24
  simp only [hb2]
  clear hb2
  generalize fr ρ b2 = ρ0 at *
  have p0 := cell_of_block HA.out.bx.k2 (i := 0) rfl
  have p1 := cell_of_block HA.out.bx.k2 (i := 1) rfl
  have p2 := cell_of_block HA.out.bx.k2 (i := 2) rfl
  have p3 := cell_of_block HA.out.bx.k2 (i := 3) rfl
  have p4 := cell_of_block HA.out.bx.k2 (i := 4) rfl
  have y0 := cell_of_block HA.out.bx.k3 (i := 0) rfl
  have y1 := cell_of_block HA.out.bx.k3 (i := 1) rfl
  have y2 := cell_of_block HA.out.bx.k3 (i := 2) rfl
  have yb2 : b2 ≠ W0.heap.size := Nat.ne_of_lt (lt_of_block HA.out.bx.k2)
  have yb3 : b3 ≠ W0.heap.size := Nat.ne_of_lt (lt_of_block HA.out.bx.k3)
  go_wp2_with fail
  refine Calls.mono (unhide RC) ?_
  rintro e w1 ⟨rfl, hb1⟩
  have hb1w := HB0.out.trans (hb1.mono HB0.out.size)
  have HA1 := hide (HA.out.below hb1w)
  have AD1 := hide (AD.out w1 hb1w)
  clear p0 p1 p2 p3 p4 y0 y1 y2 RC AD HA hb1 hb1w HB0 yb2 yb3
  have p0 := cell_of_block HA1.out.bx.k2 (i := 0) rfl
  have p1 := cell_of_block HA1.out.bx.k2 (i := 1) rfl
  have p2 := cell_of_block HA1.out.bx.k2 (i := 2) rfl
  have p3 := cell_of_block HA1.out.bx.k2 (i := 3) rfl
  have p4 := cell_of_block HA1.out.bx.k2 (i := 4) rfl
  have y0 := cell_of_block HA1.out.bx.k3 (i := 0) rfl
  have y1 := cell_of_block HA1.out.bx.k3 (i := 1) rfl
  have y2 := cell_of_block HA1.out.bx.k3 (i := 2) rfl
  go_wp2_with fail
  refine Calls.mono (unhide AD1) ?_
  rintro e w2 ⟨rfl, hb2⟩
  have HA2 := hide (HA1.out.below hb2)
  clear p0 p1 p2 p3 p4 y0 y1 y2 AD1 HA1 hb2
  have p0 := cell_of_block HA2.out.bx.k2 (i := 0) rfl
  have p1 := cell_of_block HA2.out.bx.k2 (i := 1) rfl
  have p2 := cell_of_block HA2.out.bx.k2 (i := 2) rfl
  have p3 := cell_of_block HA2.out.bx.k2 (i := 3) rfl
  have p4 := cell_of_block HA2.out.bx.k2 (i := 4) rfl
  have z0 := cell_of_block HA2.out.bx.k4 (i := 0) rfl
  have z1 := cell_of_block HA2.out.bx.k4 (i := 1) rfl
  have z2 := cell_of_block HA2.out.bx.k4 (i := 2) rfl
  have z3 := cell_of_block HA2.out.bx.k4 (i := 3) rfl
  have z4 := cell_of_block HA2.out.bx.k4 (i := 4) rfl
  have f0 := frz_of_block HA2.out.bx.k4 (i := 0)
  have f1 := frz_of_block HA2.out.bx.k4 (i := 1)
  have f2 := frz_of_block HA2.out.bx.k4 (i := 2)
  have f3 := frz_of_block HA2.out.bx.k4 (i := 3)
  have f4 := frz_of_block HA2.out.bx.k4 (i := 4)
  go_wp2
  have hU := (((((U5.first rfl HA2.out.bx.k4).set 0 (.pointer (some ⟨B, 0, none⟩))).set 1 (.int .i64 V)).set 2 (.slice a2 css.length c2)).set 3 (.slice a3 gs.length c3)).set 4 (.slice a4 s.dec.length c4)
  refine forget (P := fun W => bodyPost _ _ _ Exit.ret _ W) (fun W => (W.cell? ⟨b4, 0, none⟩ = some (.pointer (some ⟨B, 0, none⟩)) ∧ W.cell? ⟨b4, 1, none⟩ = some (.int .i64 V) ∧ W.cell? ⟨b4, 2, none⟩ = some (.slice a2 css.length c2) ∧ W.cell? ⟨b4, 3, none⟩ = some (.slice a3 gs.length c3) ∧ W.cell? ⟨b4, 4, none⟩ = some (.slice a4 s.dec.length c4)) ∧ Hid (ActR ρ N w B V (css.length + 1) (.returned (.tuple #[.agg #[.pointer (some ⟨B, 0, none⟩), .int .i64 V, .slice a2 css.length c2, .slice a3 gs.length c3, .slice a4 s.dec.length c4], .bool true])) W)) ⟨⟨hU.cell rfl, hU.cell rfl, hU.cell rfl, hU.cell rfl, hU.cell rfl⟩, HA2.out.fin hU HN.out HGE.out (Nat.le_succ _)⟩ ?_
  clear hU z0 z1 z2 z3 z4 f0 f1 f2 f3 f4 p0 p1 p2 p3 p4
  rintro W6 ⟨⟨r0, r1, r2, r3, r4⟩, HR6⟩
  refine bodyPost_ret (v := .tuple #[.agg #[.pointer (some ⟨B, 0, none⟩), .int .i64 V, .slice a2 css.length c2, .slice a3 gs.length c3, .slice a4 s.dec.length c4], .bool true]) (by simp [results, Try.results12, go_sem, r0, r1, r2, r3, r4]) rfl ?_
  exact HR6.out

set_option maxHeartbeats 40000000 in
set_option maxRecDepth 100000 in
theorem act3_yes (h : LW ρ N w B V s css gs a2 a3 a4 c2 c3 c4) (hN : N ≤ w.heap.size) (ac : Option Addr) (cl : List Int) (cc : Nat) (l : Int) (hr : RowO ρ N w ac cl) (hcl : cl.length ≤ maxLen) (hcc : ac = none → cc = 0) (hn : css.length ≤ 1000) (hyes : cnfB V [cl] = true) :
    Calls Try.prog 12 #[.agg #[.pointer (some ⟨B, 0, none⟩), .int .i64 V, .slice a2 css.length c2, .slice a3 gs.length c3, .slice a4 s.dec.length c4], .agg #[.int .i64 3, .int .i64 l, .slice ac cl.length cc]] w fun e w' => ActR ρ N w B V (css.length + 1) e w' := by
  have hA := act_set h #[.pointer (some ⟨B, 0, none⟩), .int .i64 V, .slice a2 css.length c2, .slice a3 gs.length c3, .slice a4 s.dec.length c4] #[.int .i64 3, .int .i64 l, .slice ac cl.length cc] #[.pointer none, .int .i64 0, .slice none 0 0, .slice none 0 0, .slice none 0 0]
  obtain ⟨H, hR⟩ := hA.lw.rep
  have hrow := (hr.ev hA.ev).row
  have hb0 := below_alloc (((w.alloc (.cells #[.pointer (some ⟨B, 0, none⟩), .int .i64 V, .slice a2 css.length c2, .slice a3 gs.length c3, .slice a4 s.dec.length c4] 36)).alloc (.cells #[.int .i64 3, .int .i64 l, .slice ac cl.length cc] 41)).alloc (.cells #[.pointer none, .int .i64 0, .slice none 0 0, .slice none 0 0, .slice none 0 0] 36)) (.cells #[.slice ac cl.length cc] 34)
  have RC := refCnf_any (some ⟨(((w.alloc (.cells #[.pointer (some ⟨B, 0, none⟩), .int .i64 V, .slice a2 css.length c2, .slice a3 gs.length c3, .slice a4 s.dec.length c4] 36)).alloc (.cells #[.int .i64 3, .int .i64 l, .slice ac cl.length cc] 41)).alloc (.cells #[.pointer none, .int .i64 0, .slice none 0 0, .slice none 0 0, .slice none 0 0] 36)).heap.size, 0, none⟩) 1 V [cl] _ (grid_one _ ac cc cl hrow hcl) (by simp [maxLen])
  rw [hyes] at RC
  simp only [List.length_singleton] at RC
  replace RC := hide RC
  have hkl := h.kys.len
  have hgl := h.kys.glen
  have hLt := cnf_lt (V := V) hyes cl (by simp)
  have hLt2 : ∀ x ∈ cl, Lt s.vars x := by rw [h.vars]; exact hLt.2
  have AD : Hid (∀ x, Below _ _ x → Calls Try.prog 36 #[.pointer (some ⟨B, 0, none⟩), .slice ac cl.length cc] x fun e w' => e = .returned (.tuple #[.int .i64 css.length, .int .i64 0]) ∧ AttachP (fr ρ w.heap.size) x B s cl w') := fun x hx => by
    have q := add_yes (hR.below hx) hA.lw.inv (fun c hc => by have := hA.lw.lits c hc; omega) (by omega) ac cc cl (hrow.below hx) hcl hcc (by rw [hA.lw.vars]; exact hyes)
    rw [hkl] at q
    exact q
  have HINV := hide (attach_inv h.inv hLt2 (by omega))
  have HCNT := hide (h.cnt.attach cl)
  have HVR : Hid ((s.attach cl).vars = V) := by unfold Hid; rw [(attach_cls s cl).2.1]; exact h.vars
  have HDC := hide (attach_dec s cl)
  have HKY := hide (h.kys.attach cl)
  have HLT : Hid (∀ d ∈ (s.attach cl).cls, d.lits.length ≤ 4096) := by
    intro d hd
    have hk : key d ∈ (s.attach cl).cls.map key := List.mem_map_of_mem hd
    rw [(attach_cls s cl).1, List.mem_append] at hk
    rcases hk with hk | hk
    · obtain ⟨d', hd', e⟩ := List.mem_map.1 hk
      simp only [key, Prod.mk.injEq] at e
      rw [← e.1]; exact h.lits d' hd'
    · simp [key] at hk
      rw [hk.1]; omega
  have HRC := hide (hr.ev hA.ev)
  have HCL := hide hcl
  have HCC := hide hcc
  have HN2 := hide h.n2
  have HB0 := hide hb0
  have hgn : gs.length ≤ 1000 := by omega
  clear hR hrow hyes hr hcl hcc hb0 hkl hgl hLt hLt2
  have HA := hide hA
  clear h hA
  go_enter Try.func12, Try.ntmps12
  go_upto_block 0 with fail
  generalize hW0 : (((w.alloc (.cells #[.pointer (some ⟨B, 0, none⟩), .int .i64 V, .slice a2 css.length c2, .slice a3 gs.length c3, .slice a4 s.dec.length c4] 36)).alloc (.cells #[.int .i64 3, .int .i64 l, .slice ac cl.length cc] 41)).alloc (.cells #[.pointer none, .int .i64 0, .slice none 0 0, .slice none 0 0, .slice none 0 0] 36)) = W0 at *
  clear hW0
  have hge4 : w.heap.size ≤ w.heap.size + 1 + 1 := by omega
  have x23 : w.heap.size ≠ w.heap.size + 1 := by omega
  have x24 : w.heap.size ≠ w.heap.size + 1 + 1 := by omega
  have x34 : w.heap.size + 1 ≠ w.heap.size + 1 + 1 := by omega
  generalize hb4 : w.heap.size + 1 + 1 = b4 at *
  generalize hb3 : w.heap.size + 1 = b3 at *
  have HGE := hide hge4
  have HN := hide hN
  clear hb4 hb3 hge4 hN
  obtain ⟨b2, hb2⟩ : ∃ b2, w.heap.size = b2 := ⟨_, rfl⟩
  have HGE2' : Hid (w.heap.size ≤ b2) := by unfold Hid; omega
  rw [hb2] at HA AD HRC x23 x24
  simp only [hb2]
  clear hb2
  generalize fr ρ b2 = ρ0 at *
  have p0 := cell_of_block HA.out.bx.k2 (i := 0) rfl
  have p1 := cell_of_block HA.out.bx.k2 (i := 1) rfl
  have p2 := cell_of_block HA.out.bx.k2 (i := 2) rfl
  have p3 := cell_of_block HA.out.bx.k2 (i := 3) rfl
  have p4 := cell_of_block HA.out.bx.k2 (i := 4) rfl
  have y0 := cell_of_block HA.out.bx.k3 (i := 0) rfl
  have y1 := cell_of_block HA.out.bx.k3 (i := 1) rfl
  have y2 := cell_of_block HA.out.bx.k3 (i := 2) rfl
  have yb2 : b2 ≠ W0.heap.size := Nat.ne_of_lt (lt_of_block HA.out.bx.k2)
  have yb3 : b3 ≠ W0.heap.size := Nat.ne_of_lt (lt_of_block HA.out.bx.k3)
  go_wp2_with fail
  refine Calls.mono (unhide RC) ?_
  rintro e w1 ⟨rfl, hb1⟩
  have hb1w := HB0.out.trans (hb1.mono HB0.out.size)
  have HA1 := hide (HA.out.below hb1w)
  have AD1 := hide (AD.out w1 hb1w)
  have HRC1 := hide (HRC.out.ev (Ev.below hb1w))
  clear p0 p1 p2 p3 p4 y0 y1 y2 RC AD HA hb1 hb1w HB0 yb2 yb3 HRC
  have p0 := cell_of_block HA1.out.bx.k2 (i := 0) rfl
  have p1 := cell_of_block HA1.out.bx.k2 (i := 1) rfl
  have p2 := cell_of_block HA1.out.bx.k2 (i := 2) rfl
  have p3 := cell_of_block HA1.out.bx.k2 (i := 3) rfl
  have p4 := cell_of_block HA1.out.bx.k2 (i := 4) rfl
  have y0 := cell_of_block HA1.out.bx.k3 (i := 0) rfl
  have y1 := cell_of_block HA1.out.bx.k3 (i := 1) rfl
  have y2 := cell_of_block HA1.out.bx.k3 (i := 2) rfl
  go_wp2_with fail
  refine Calls.mono (unhide AD1) ?_
  rintro e w2 ⟨rfl, ρ2, H2, hR2, hE2⟩
  have HM2 := hide (HA1.out.am.call ⟨H2, hR2⟩ hE2)
  have HRC2 := hide (HRC1.out.ev hE2)
  clear p0 p1 p2 p3 p4 y0 y1 y2 AD1 HA1 hR2 hE2 HRC1
  have p0 := cell_of_block HM2.out.bx.k2 (i := 0) rfl
  have p1 := cell_of_block HM2.out.bx.k2 (i := 1) rfl
  have p2 := cell_of_block HM2.out.bx.k2 (i := 2) rfl
  have p3 := cell_of_block HM2.out.bx.k2 (i := 3) rfl
  have p4 := cell_of_block HM2.out.bx.k2 (i := 4) rfl
  have y0 := cell_of_block HM2.out.bx.k3 (i := 0) rfl
  have y1 := cell_of_block HM2.out.bx.k3 (i := 1) rfl
  have y2 := cell_of_block HM2.out.bx.k3 (i := 2) rfl
  simp only
  obtain ⟨i0, hi, hz0, hz1, hz2⟩ := info_parts Try.info34
  obtain ⟨vs, hG⟩ := HM2.out.g
  go_upto_region 22 with fail
  go_cut [] from 103 to 111 (fun wx => ∃ (ρ4 : Nat → Rl) (g2 cap2 : Nat), Hid (AM ρ N w ρ4 wx B (s.attach cl) (css ++ [cl]) gs s.dec (some ⟨g2, 0, none⟩) a3 a4 c3 c4 b2 b3 b4 #[.pointer (some ⟨B, 0, none⟩), .int .i64 V, .slice (some ⟨g2, 0, none⟩) (css.length + 1) cap2, .slice a3 gs.length c3, .slice a4 s.dec.length c4] #[.int .i64 3, .int .i64 l, .slice ac cl.length cc] #[.pointer none, .int .i64 0, .slice none 0 0, .slice none 0 0, .slice none 0 0]))
  case first =>
    have pf := frz_of_block HM2.out.bx.k2 (i := 2)
    have hl2' := lt_of_block HM2.out.bx.k2
    have hl3 := lt_of_block HM2.out.bx.k3
    have HSRC : Hid (∀ x, Below w2.heap.size w2 x → (a2 = none ∧ css.length = 0 ∧ c2 = 0 ∧ vs = []) ∨ ∃ ad, a2 = some ad ∧ vs.length = css.length * 1 ∧ ∀ j u, vs[j]? = some u → x.cell? (ad.add j) = some u) := fun x hx => hG.src HN2.out x hx
    have HONE := hide hG.one
    have HFACT : Hid (∀ x, Below w2.heap.size w2 x → x.cell? ⟨b2, 2, none⟩ = some (.slice a2 css.length c2) ∧ x.frozen? ⟨b2, 2, none⟩ = false ∧ x.cell? ⟨b3, 2, none⟩ = some (.slice ac cl.length cc) ∧ b2 < x.heap.size ∧ b3 < x.heap.size) := fun x hx =>
      ⟨(hx.cell (p := ⟨b2, 2, none⟩) hl2').trans p2, (hx.frozen (p := ⟨b2, 2, none⟩) hl2').trans pf, (hx.cell (p := ⟨b3, 2, none⟩) hl3).trans y2, Nat.lt_of_lt_of_le hl2' hx.size, Nat.lt_of_lt_of_le hl3 hx.size⟩
    have hWW := hide (Below.refl w2.heap.size w2)
    have hb65 : Hid (((w2.alloc (.cells #[] 34)).alloc (.cells #[.slice ac cl.length cc] 34)).heap[w2.heap.size + 1]? = some (.cells #[.slice ac cl.length cc] 34 (0, 0))) := by
      have := heap_alloc_new (w2.alloc (.cells #[] 34)) (.cells #[.slice ac cl.length cc] 34)
      rw [show (w2.alloc (.cells #[] 34)).heap.size = w2.heap.size + 1 by simp] at this
      exact this
    have hb64 : Hid (((w2.alloc (.cells #[.slice ac cl.length cc] 34)).alloc (.cells #[] 34)).heap[w2.heap.size]? = some (.cells #[.slice ac cl.length cc] 34 (0, 0))) := (heap_alloc_old _ _ (by simp)).trans (heap_alloc_new w2 _)
    have hz2b : b2 ≠ w2.heap.size := by omega
    have hz3b : b3 ≠ w2.heap.size := by omega
    have hz2c : b2 ≠ w2.heap.size + 1 := by omega
    have hz3c : b3 ≠ w2.heap.size + 1 := by omega
    have HG := hide hG
    clear hG p0 p1 p3 p4 y0 y1
    go_region_law (first
        | (refine step_append_any (by rfl) (.tmp 103) (.tmp 105) 22 (by rfl) w2.heap.size 34 i0 (.slice none 0 0) 1 24 Try.underlying22 hi hz0 hz1 hz2 rfl (by decide) (.slice (some ⟨w2.heap.size, 0, none⟩) 0 0) 0 [] (by rfl) (own_lit34 w2 w2.heap.size (Nat.le_refl _)) (by simp) a2 css.length c2 vs (by rfl) (HSRC.out _ (hWW.out.alloc (Nat.le_refl _) _).drew) HONE.out (by unfold maxLen; omega) (by omega) (by simp [World.drew]) ?_; intro g1 cap1 w3 ho1 hgr1 hat1 hlt1; simp only [Nat.zero_add, List.nil_append] at ho1; have hg1 := (ho1.lt g1 rfl).1; have hbl1 := (hWW.out.alloc (Nat.le_refl _) _).drew.grown hgr1 (by simp [World.drew]) (fun k e => by simp [Value.ownBlock] at e; omega); obtain ⟨s1, s2, s3, s4, s5⟩ := HFACT.out _ hbl1)
        | (refine step_append_any (by rfl) (.tmp 103) (.tmp 105) 22 (by rfl) w2.heap.size 34 i0 (.slice none 0 0) 1 24 Try.underlying22 hi hz0 hz1 hz2 rfl (by decide) (.slice (some ⟨w2.heap.size, 0, none⟩) 0 0) 0 [] (by rfl) ((own_lit34 w2 w2.heap.size (Nat.le_refl _)).alloc _) (by simp) a2 css.length c2 vs (by rfl) (HSRC.out _ ((hWW.out.alloc (Nat.le_refl _) _).alloc (by simp) _).drew) HONE.out (by unfold maxLen; omega) (by omega) (by simp [World.drew]; omega) ?_; intro g1 cap1 w3 ho1 hgr1 hat1 hlt1; simp only [Nat.zero_add, List.nil_append] at ho1; have hg1 := (ho1.lt g1 rfl).1; have hbl1 := ((hWW.out.alloc (Nat.le_refl _) _).alloc (by simp) _).drew.grown hgr1 (by simp [World.drew]; omega) (fun k e => by simp [Value.ownBlock] at e; omega); have hb25 := (hgr1.block (w2.heap.size + 1) (by simp [World.drew]) (by simp [Value.ownBlock])).trans hb65.out; obtain ⟨s1, s2, s3, s4, s5⟩ := HFACT.out _ hbl1)
        | (refine step_append_any (by rfl) (.tmp 103) (.tmp 105) 22 (by rfl) w2.heap.size 34 i0 (.slice none 0 0) 1 24 Try.underlying22 hi hz0 hz1 hz2 rfl (by decide) (.slice (some ⟨w2.heap.size + 1, 0, none⟩) 0 0) 0 [] (by rfl) (own_lit34b w2 _ w2.heap.size (Nat.le_refl _)) (by simp) a2 css.length c2 vs (by rfl) (HSRC.out _ ((hWW.out.alloc (Nat.le_refl _) _).alloc (by simp) _).drew) HONE.out (by unfold maxLen; omega) (by omega) (by simp [World.drew]; omega) ?_; intro g1 cap1 w3 ho1 hgr1 hat1 hlt1; simp only [Nat.zero_add, List.nil_append] at ho1; have hg1 := (ho1.lt g1 rfl).1; have hbl1 := ((hWW.out.alloc (Nat.le_refl _) _).alloc (by simp) _).drew.grown hgr1 (by simp [World.drew]; omega) (fun k e => by simp [Value.ownBlock] at e; omega); have hb24 := (hgr1.block w2.heap.size (by simp [World.drew]; omega) (by simp [Value.ownBlock])).trans hb64.out; obtain ⟨s1, s2, s3, s4, s5⟩ := HFACT.out _ hbl1)
        | (refine step_append_lies _ (by rfl) (.tmp 106) (.tmp 109) 22 (by rfl) w2.heap.size 34 i0 (.slice none 0 0) 1 24 Try.underlying22 hi hz0 hz1 hz2 rfl (by decide) (.slice (some ⟨g1, 0, none⟩) css.length cap1) css.length vs (by simp [Act.eval, Act.put]) (ho1.alloc _) ⟨w3.heap.size, 0, none⟩ 1 1 [.slice ac cl.length cc] (by rfl) (by rfl) (World.news_of_block (cs := #[.slice ac cl.length cc]) (t := 34) (fr := (0, 0)) (heap_alloc_new w3 _)) (by simp [Value.oneCell']) (by decide) (by unfold maxLen; omega) (by omega) (by have := hbl1.size; simp; omega) (w3.heap.size + 1) (by simp) ?_; intro g2 cap2 w4 ho2 hgr2 hat2 hlt2; have hbl2 := (hbl1.alloc hbl1.size _).grown hgr2 (by have := hbl1.size; simp; omega) (fun k e => by simp [Value.ownBlock] at e; omega); obtain ⟨t1, t2, t3, t4, t5⟩ := HFACT.out _ hbl2)
        | (refine step_append_lies _ (by rfl) (.tmp 106) (.tmp 109) 22 (by rfl) w2.heap.size 34 i0 (.slice none 0 0) 1 24 Try.underlying22 hi hz0 hz1 hz2 rfl (by decide) (.slice (some ⟨g1, 0, none⟩) css.length cap1) css.length vs (by simp [Act.eval, Act.put]) ho1 ⟨w2.heap.size + 1, 0, none⟩ 1 1 [.slice ac cl.length cc] (by rfl) (by rfl) (World.news_of_block (cs := #[.slice ac cl.length cc]) (t := 34) (fr := (0, 0)) hb25) (by simp [Value.oneCell']) (by decide) (by unfold maxLen; omega) (by omega) hbl1.size w3.heap.size rfl ?_; intro g2 cap2 w4 ho2 hgr2 hat2 hlt2; have hbl2 := hbl1.grown hgr2 hbl1.size (fun k e => by simp [Value.ownBlock] at e; omega); obtain ⟨t1, t2, t3, t4, t5⟩ := HFACT.out _ hbl2)
        | (refine step_append_lies _ (by rfl) (.tmp 106) (.tmp 109) 22 (by rfl) w2.heap.size 34 i0 (.slice none 0 0) 1 24 Try.underlying22 hi hz0 hz1 hz2 rfl (by decide) (.slice (some ⟨g1, 0, none⟩) css.length cap1) css.length vs (by simp [Act.eval, Act.put]) ho1 ⟨w2.heap.size, 0, none⟩ 1 1 [.slice ac cl.length cc] (by rfl) (by rfl) (World.news_of_block (cs := #[.slice ac cl.length cc]) (t := 34) (fr := (0, 0)) hb24) (by simp [Value.oneCell']) (by decide) (by unfold maxLen; omega) (by omega) hbl1.size w3.heap.size rfl ?_; intro g2 cap2 w4 ho2 hgr2 hat2 hlt2; have hbl2 := hbl1.grown hgr2 hbl1.size (fun k e => by simp [Value.ownBlock] at e; omega); obtain ⟨t1, t2, t3, t4, t5⟩ := HFACT.out _ hbl2))
    all_goals
      have hM4 := HM2.out.newG HG.out HRC2.out HCL.out HCC.out hbl2 ho2
      have hU2 := (U5.first rfl hM4.bx.k2).set 2 (.slice (some ⟨g2, 0, none⟩) (css.length + 1) cap2)
      have HFIN := hide (hM4.up2 hU2 HN.out HGE2'.out x23 x24)
      clear hM4 hU2 t1 t2 t3 t4 t5 s1 s2 s3 s4 s5 hbl2 hbl1 ho2 ho1 hgr2 hgr1 HSRC HONE HFACT hWW hb65 hb64 hz2b hz3b hz2c hz3c p2 pf y2 hl2' hl3
      go_wp2_with fail
      go_meet
      case rel => exact ⟨_, _, _, HFIN⟩
  case rest =>
    obtain ⟨ρ4, g2, cap2, HM4⟩ := hcut
    clear HM2 HRC2 HCL HCC p0 p1 p2 p3 p4 y0 y1 y2 hG hi hz0 hz1 hz2
    obtain ⟨j0, hj, hw0, hw1, hw2⟩ := info_parts Try.info4b
    have p0 := cell_of_block HM4.out.bx.k2 (i := 0) rfl
    have p1 := cell_of_block HM4.out.bx.k2 (i := 1) rfl
    have p2 := cell_of_block HM4.out.bx.k2 (i := 2) rfl
    have p3 := cell_of_block HM4.out.bx.k2 (i := 3) rfl
    have p4 := cell_of_block HM4.out.bx.k2 (i := 4) rfl
    have yb2 : b2 ≠ wc.heap.size := Nat.ne_of_lt (lt_of_block HM4.out.bx.k2)
    have ac3 : (wc.alloc (.cells #[] 4)).cell? ⟨b2, 3, none⟩ = some (.slice a3 gs.length c3) := cell_of_block ((heap_alloc_old wc _ (lt_of_block HM4.out.bx.k2)).trans HM4.out.bx.k2) (i := 3) rfl
    have HSRC := hide (own_src (HM4.out.b.1.alloc (.cells #[] 4)))
    have HONE : Hid (∀ u ∈ boolC gs, u.oneCell' = true) := by intro u hu; simp only [boolC, List.mem_map] at hu; obtain ⟨x, _, rfl⟩ := hu; rfl
    have HB3 : Hid (∀ (g3 cap3 : Nat) (w5 : World), w5.ownsRow wc.heap.size 4 1 (.slice (some ⟨g3, 0, none⟩) (gs.length + 1) cap3) (gs.length + 1) (boolC gs ++ [.bool false]) → Below wc.heap.size wc w5 → AM ρ N w (fr ρ4 wc.heap.size) w5 B (s.attach cl) (css ++ [cl]) (gs ++ [false]) s.dec (some ⟨g2, 0, none⟩) (some ⟨g3, 0, none⟩) a4 cap3 c4 b2 b3 b4 #[.pointer (some ⟨B, 0, none⟩), .int .i64 V, .slice (some ⟨g2, 0, none⟩) (css.length + 1) cap2, .slice a3 gs.length c3, .slice a4 s.dec.length c4] #[.int .i64 3, .int .i64 l, .slice ac cl.length cc] #[.pointer none, .int .i64 0, .slice none 0 0, .slice none 0 0, .slice none 0 0]) := by
      intro g3 cap3 w5 ho hb
      refine HM4.out.newB hb ?_
      have e1 : (gs ++ [false]).length = gs.length + 1 := by simp
      have e2 : boolC (gs ++ [false]) = boolC gs ++ [.bool false] := by simp [boolC]
      rw [e1, e2]; exact ho
    have hWW := hide (below_alloc wc (.cells #[] 4))
    go_upto_region 35 with (first
      | (at_builtin; refine wpList_append_any rfl (.tmp 112) (.tmp 114) 33 rfl wc.heap.size 4 j0 (.bool false) 1 1 Try.underlying33 hj hw0 hw1 hw2 rfl (by decide) (.slice (some ⟨wc.heap.size, 0, none⟩) 0 0) 0 [] rfl (World.ownsRow_made wc #[] 0 (Nat.le_refl _) (Nat.zero_le _) rfl) (by simp) a3 gs.length c3 (boolC gs) rfl HSRC.out HONE.out (by unfold maxLen; omega) (by omega) (by simp) ?_; intro g1 cap1 w3 ho1 hgr1 hat1 hlt1; simp only [Nat.zero_add, List.nil_append] at ho1; have hg1 := (ho1.lt g1 rfl).1; have hbl1 := hWW.out.grown hgr1 (by simp) (fun k e => by simp [Value.ownBlock] at e; omega))
      | (at_builtin; refine wpList_append_lies _ rfl (.tmp 115) (.tmp 116) 33 rfl wc.heap.size 4 j0 (.bool false) 1 1 Try.underlying33 hj hw0 hw1 hw2 rfl (by decide) (.slice (some ⟨g1, 0, none⟩) gs.length cap1) gs.length (boolC gs) (by simp [Act.eval, Act.put]) (ho1.alloc _) ⟨w3.heap.size, 0, none⟩ 1 1 [.bool false] rfl rfl (World.news_of_block (cs := #[.bool false]) (heap_alloc_new w3 _)) (by simp [Value.oneCell']) (by decide) (by unfold maxLen; omega) (by omega) (by have := hbl1.size; simp; omega) (w3.heap.size + 1) (by simp) ?_; intro g3 cap3 w5 ho2 hgr2 hat2 hlt2; have hbl2 := (hbl1.alloc hbl1.size _).grown hgr2 (by have := hbl1.size; simp; omega) (fun k e => by simp [Value.ownBlock] at e; omega); have hM5 := HB3.out g3 cap3 w5 ho2 hbl2; have k3 := cell_of_block hM5.bx.k2 (i := 3) rfl; have kf := frz_of_block hM5.bx.k2 (i := 3)))
    have hU3 := (U5.first rfl hM5.bx.k2).set 3 (.slice (some ⟨g3, 0, none⟩) (gs.length + 1) cap3)
    have hAS : AS ρ N w (fr ρ4 wc.heap.size) (w5.setCell ⟨b2, 3, none⟩ (.slice (some ⟨g3, 0, none⟩) (gs.length + 1) cap3)) B V (s.attach cl) (css ++ [cl]) (gs ++ [false]) (some ⟨g2, 0, none⟩) (some ⟨g3, 0, none⟩) a4 cap2 cap3 c4 b2 b3 b4 #[.pointer (some ⟨B, 0, none⟩), .int .i64 V, .slice (some ⟨g2, 0, none⟩) (css.length + 1) cap2, .slice (some ⟨g3, 0, none⟩) (gs.length + 1) cap3, .slice a4 s.dec.length c4] #[.int .i64 3, .int .i64 l, .slice ac cl.length cc] #[.pointer none, .int .i64 0, .slice none 0 0, .slice none 0 0, .slice none 0 0] := by
      have q := hM5.up2 hU3 HN.out HGE2'.out x23 x24
      rw [← HDC.out] at q
      have q2 := q.as (V := V) (c2 := cap2) HINV.out HCNT.out HVR.out HKY.out HLT.out (fun e => by cases e)
      rw [HDC.out] at q2
      exact q2
    refine forget (P := fun W => Code.wp Try.prog _ _ _ W) (fun W => AS ρ N w (fr ρ4 wc.heap.size) W B V (s.attach cl) (css ++ [cl]) (gs ++ [false]) (some ⟨g2, 0, none⟩) (some ⟨g3, 0, none⟩) a4 cap2 cap3 c4 b2 b3 b4 #[.pointer (some ⟨B, 0, none⟩), .int .i64 V, .slice (some ⟨g2, 0, none⟩) (css.length + 1) cap2, .slice (some ⟨g3, 0, none⟩) (gs.length + 1) cap3, .slice a4 s.dec.length c4] #[.int .i64 3, .int .i64 l, .slice ac cl.length cc] #[.pointer none, .int .i64 0, .slice none 0 0, .slice none 0 0, .slice none 0 0]) hAS ?_
    clear hAS hU3 hM5 k3 kf hbl2 hbl1 ho2 ho1 hgr2 hgr1 p0 p1 p2 p3 p4 HB3 HSRC HONE hWW ac3 yb2 HM4 hat1 hlt1 hat2 hlt2 hg1
    intro W6 hA6
    have HA6 := hide hA6
    clear hA6
    have p0 := cell_of_block HA6.out.bx.k2 (i := 0) rfl
    have p1 := cell_of_block HA6.out.bx.k2 (i := 1) rfl
    have p2 := cell_of_block HA6.out.bx.k2 (i := 2) rfl
    have p3 := cell_of_block HA6.out.bx.k2 (i := 3) rfl
    have p4 := cell_of_block HA6.out.bx.k2 (i := 4) rfl
    have z0 := cell_of_block HA6.out.bx.k4 (i := 0) rfl
    have z1 := cell_of_block HA6.out.bx.k4 (i := 1) rfl
    have z2 := cell_of_block HA6.out.bx.k4 (i := 2) rfl
    have z3 := cell_of_block HA6.out.bx.k4 (i := 3) rfl
    have z4 := cell_of_block HA6.out.bx.k4 (i := 4) rfl
    have f0 := frz_of_block HA6.out.bx.k4 (i := 0)
    have f1 := frz_of_block HA6.out.bx.k4 (i := 1)
    have f2 := frz_of_block HA6.out.bx.k4 (i := 2)
    have f3 := frz_of_block HA6.out.bx.k4 (i := 3)
    have f4 := frz_of_block HA6.out.bx.k4 (i := 4)
    go_wp2
    have hU := (((((U5.first rfl HA6.out.bx.k4).set 0 (.pointer (some ⟨B, 0, none⟩))).set 1 (.int .i64 V)).set 2 (.slice (some ⟨g2, 0, none⟩) (css.length + 1) cap2)).set 3 (.slice (some ⟨g3, 0, none⟩) (gs.length + 1) cap3)).set 4 (.slice a4 s.dec.length c4)
    refine forget (P := fun W => bodyPost _ _ _ Exit.ret _ W) (fun W => (W.cell? ⟨b4, 0, none⟩ = some (.pointer (some ⟨B, 0, none⟩)) ∧ W.cell? ⟨b4, 1, none⟩ = some (.int .i64 V) ∧ W.cell? ⟨b4, 2, none⟩ = some (.slice (some ⟨g2, 0, none⟩) (css.length + 1) cap2) ∧ W.cell? ⟨b4, 3, none⟩ = some (.slice (some ⟨g3, 0, none⟩) (gs.length + 1) cap3) ∧ W.cell? ⟨b4, 4, none⟩ = some (.slice a4 s.dec.length c4)) ∧ Hid (ActR ρ N w B V (css.length + 1) (.returned (.tuple #[.agg #[.pointer (some ⟨B, 0, none⟩), .int .i64 V, .slice (some ⟨g2, 0, none⟩) (css.length + 1) cap2, .slice (some ⟨g3, 0, none⟩) (gs.length + 1) cap3, .slice a4 s.dec.length c4], .bool true])) W)) ⟨⟨hU.cell rfl, hU.cell rfl, hU.cell rfl, hU.cell rfl, hU.cell rfl⟩, (by have q := HA6.out.fin hU HN.out HGE.out (M := css.length + 1) (by simp); rw [HDC.out, List.length_append, List.length_append] at q; exact q)⟩ ?_
    clear hU z0 z1 z2 z3 z4 f0 f1 f2 f3 f4 p0 p1 p2 p3 p4
    rintro W6 ⟨⟨r0, r1, r2, r3, r4⟩, HR6⟩
    refine bodyPost_ret (v := .tuple #[.agg #[.pointer (some ⟨B, 0, none⟩), .int .i64 V, .slice (some ⟨g2, 0, none⟩) (css.length + 1) cap2, .slice (some ⟨g3, 0, none⟩) (gs.length + 1) cap3, .slice a4 s.dec.length c4], .bool true]) (by simp [results, Try.results12, go_sem, r0, r1, r2, r3, r4]) rfl ?_
    exact HR6.out

theorem act3_any (h : LW ρ N w B V s css gs a2 a3 a4 c2 c3 c4) (hN : N ≤ w.heap.size) (ac : Option Addr) (cl : List Int) (cc : Nat) (l : Int) (hr : RowO ρ N w ac cl) (hcl : cl.length ≤ maxLen) (hcc : ac = none → cc = 0) (hn : css.length ≤ 1000) :
    Calls Try.prog 12 #[.agg #[.pointer (some ⟨B, 0, none⟩), .int .i64 V, .slice a2 css.length c2, .slice a3 gs.length c3, .slice a4 s.dec.length c4], .agg #[.int .i64 3, .int .i64 l, .slice ac cl.length cc]] w fun e w' => ActR ρ N w B V (css.length + 1) e w' := by
  cases hc : cnfB V [cl] with
  | true => exact act3_yes h hN ac cl cc l hr hcl hcc hn hc
  | false => exact act3_no h hN ac cl cc l hr hcl hcc hc

end
end Go.Proofs.Ytlmbgaconjcaiaa
