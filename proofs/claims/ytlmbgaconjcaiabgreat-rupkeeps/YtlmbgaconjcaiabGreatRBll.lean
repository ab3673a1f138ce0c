/- Joined: Contracts: a clause is put behind the others; a step that is at hand is done. Contracts: a step that is at hand is done; the short proof. Contracts: the short proof proves; its formula is not broken by units alone. Contract: the short proof that every promise looks at first. -/
import Derived.Test.YtlmbgaconjcaiabGreatRAll
import Derived.Test.YtlmbgaconjcaiabGreatIAll
import Derived.Test.YtlmbgaconjcaiabGreatPlainU
set_option linter.unusedVariables false
set_option linter.unusedSimpArgs false
namespace Go.Proofs.YtlmbgaconjcaiabGreat
open Go.RowKit

/-- What is nobody's stayed, but for one block. -/
structure EvN (k : Nat) (ρ : Nat → Rl) (w : World) (ρ' : Nat → Rl) (w' : World) : Prop where
  os : w'.os = w.os
  tape : w'.tape = w.tape
  output : w'.output = w.output
  size : w.heap.size ≤ w'.heap.size
  agree : ∀ b, b < w.heap.size → ρ' b = ρ b
  keep : ∀ b, b < w.heap.size → b ≠ k → ρ b = oth → w'.heap[b]? = w.heap[b]?
section
variable {N : Nat} {ρ ρ' ρ'' : Nat → Rl} {w w' w'' : World}
theorem Ev.evN (h : Ev ρ w ρ' w') (k : Nat) : EvN k ρ w ρ' w' := ⟨h.os, h.tape, h.output, h.size, h.agree, fun b a _ c => h.keep b a c⟩
theorem EvN.trans (h : EvN N ρ w ρ' w') (k : EvN N ρ' w' ρ'' w'') : EvN N ρ w ρ'' w'' :=
  ⟨k.os.trans h.os, k.tape.trans h.tape, k.output.trans h.output, Nat.le_trans h.size k.size,
   fun b hb => (k.agree b (Nat.lt_of_lt_of_le hb h.size)).trans (h.agree b hb),
   fun b hb hN hr => (k.keep b (Nat.lt_of_lt_of_le hb h.size) hN ((h.agree b hb).trans hr)).trans (h.keep b hb hN hr)⟩
theorem EvN.setCell {k : Nat} (h : EvN k ρ w ρ' w') {i : Nat} (u : Value) : EvN k ρ w ρ' (w'.setCell ⟨k, i, none⟩ u) :=
  ⟨h.os, h.tape, h.output, by simpa [World.setCell] using h.size, h.agree, fun b a c d => (Below.heap_setCell _ _ _ _ c).trans (h.keep b a c d)⟩
theorem EvN.drewN (h : EvN N ρ w ρ' w') (m : Nat) : EvN N ρ w ρ' (w'.drewN m) := ⟨h.os, h.tape, h.output, h.size, h.agree, h.keep⟩
end

theorem KP.set {ρ : Nat → Rl} {w : World} {k B : Nat} {s : PS} {x1 x2 x3 x4 : Int} {m1 m2 : Value} (h : KP ρ w k B s x1 x2 x3 x4 m1 m2) {i : Nat} {u : Value} {y1 y2 y3 : Int}
    (he : (#[.pointer (some ⟨B, 0, none⟩), .int .i64 x1, .int .i64 x2, .int .i64 x3, .int .i64 x4, m1, m2] : Array Value).setIfInBounds i u = #[.pointer (some ⟨B, 0, none⟩), .int .i64 y1, .int .i64 y2, .int .i64 y3, .int .i64 x4, m1, m2]) :
    KP ρ (w.setCell ⟨k, i, none⟩ u) k B s y1 y2 y3 x4 m1 m2 := by
  obtain ⟨H, hR⟩ := h.rep
  obtain ⟨o1, o2⟩ := setOff w k i u
  exact ⟨⟨H, hR.off (fun b hb' hr => o1 b (by rintro rfl; exact hr h.ro))⟩, (setBlk h.blk u).trans (by rw [he]), h.ro, h.inv, h.cnt, h.lits⟩
theorem KP.drewN {ρ : Nat → Rl} {w : World} {k B : Nat} {s : PS} {x1 x2 x3 x4 : Int} {m1 m2 : Value} (h : KP ρ w k B s x1 x2 x3 x4 m1 m2) (m : Nat) : KP ρ (w.drewN m) k B s x1 x2 x3 x4 m1 m2 :=
  h.below ⟨rfl, rfl, rfl, Nat.le_refl _, fun _ _ => rfl⟩

def AddK (ρ : Nat → Rl) (w : World) (k B : Nat) (s : PS) (x1 : Nat) (x2 x3 x4 : Int) (c : List Int) (e : Ending) (w' : World) : Prop :=
  e = .returned (.tuple #[]) ∧ ∃ ρ', KP ρ' w' k B (s.attach c) ((max x1 (gtN c) : Nat) : Int) (x2 + 1) (x3 + 1) x4 (.map none) (.map none) ∧ EvN k ρ w ρ' w'

set_option maxHeartbeats 4000000 in
set_option maxRecDepth 100000 in
theorem add_k {N : Nat} {ρ : Nat → Rl} {w : World} {k B : Nat} {s : PS} {x1 : Nat} {x2 x3 x4 : Int} (h : KP ρ w k B s x1 x2 x3 x4 (.map none) (.map none)) (a : Option Addr) (cap : Nat) (c : List Int) (hr : RowO ρ N w a c) (hl : c.length ≤ 4096) (hcap : a = none → cap = 0)
    (hyes : cnfB s.vars [c] = true) (hcl : s.cls.length < 262144) (hx1 : x1 ≤ 1048576) (hx2 : 0 ≤ x2 ∧ x2 ≤ 262144) (hx3 : 0 ≤ x3 ∧ x3 ≤ 1048576) (hc : ∀ x ∈ c, -1048576 ≤ x ∧ x ≤ 1048576) :
    Calls Tryz.prog 51 #[.pointer (some ⟨k, 0, none⟩), .slice a c.length cap] w (AddK ρ w k B s x1 x2 x3 x4 c) := by
  obtain ⟨H, hR⟩ := h.rep
  have GA := hide (add_yes hR h.inv (fun d hd => by have := h.lits d hd; omega) hcl a cap c hr.row (by unfold maxLen; omega) hcap hyes)
  have e0 : w.cell? ⟨k, 0, none⟩ = some (.pointer (some ⟨B, 0, none⟩)) := cell_of_block h.blk rfl
  have HK := hide h
  have HR := hide hr
  have HC := hide hc
  have hlts := (cnf_lt hyes c (by simp)).2
  have HLT := hide hlts
  clear hR h hr hc hyes hlts
  go_enter Tryz.func51, Tryz.ntmps51
  go_upto_region 1 with (first | (go_at_call 65; refine (unhide GA).mono ?_; rintro e w1 ⟨rfl, ρ1, H1, hR1, hE1⟩))
  have hlits1 : ∀ d ∈ (s.attach c).cls, d.lits.length ≤ 4096 := by
    have hk := (attach_cls s c).1
    intro d hd
    have : key d ∈ (s.attach c).cls.map key := List.mem_map_of_mem hd
    rw [hk, List.mem_append] at this
    rcases this with h1 | h1
    · obtain ⟨d', hd', e⟩ := List.mem_map.1 h1
      have e9 : d'.lits = d.lits := congrArg Prod.fst e
      rw [← e9]; exact HK.out.lits d' hd'
    · simp at h1
      have e9 : d.lits = c := congrArg Prod.fst h1
      rw [e9]; exact hl
  have K1 := hide (HK.out.ev hR1 (attach_inv HK.out.inv HLT.out (by omega)) (HK.out.cnt.attach c) hlits1 hE1)
  have E1 := hide (hE1.evN k)
  have R1 := hide (HR.out.ev hE1).row
  clear hR1 hE1 hlits1 GA HK HR e0
  have c1 : w1.cell? ⟨k, 1, none⟩ = some (.int .i64 (x1 : Int)) := cell_of_block K1.out.blk rfl
  have z1 : w1.frozen? ⟨k, 1, none⟩ = false := frz_of_block K1.out.blk
  have GG : Hid (∀ m, Calls Tryz.prog 22 #[.slice a c.length cap] (w1.drewN m) fun e w' => e = .returned (.int .i64 (gtN c)) ∧ w' = w1.drewN m) := fun m => greatest_any a cap c (w1.drewN m) R1.out (by unfold maxLen; omega) HC.out
  have hmx := max2n x1 (gtN c)
  go_cut [] from 15 to 24 (fun wx => Hid (KP ρ1 wx k B (s.attach c) ((max x1 (gtN c) : Nat) : Int) x2 x3 x4 (.map none) (.map none)) ∧ Hid (EvN k ρ w ρ1 wx))
  case first =>
    go_region_with (first | (go_at_call 22; refine (unhide GG _).mono ?_; rintro e w0 ⟨rfl, hw0⟩; subst w0))
    all_goals
      go_wp2_with fail
      go_meet
      case rel => exact ⟨(K1.out.drewN 1).set rfl, (E1.out.drewN 1).setCell _⟩
  case rest =>
  obtain ⟨K2, E2⟩ := hcut
  clear K1 E1 R1 c1 z1 GG hmx HLT HC
  generalize hxm : ((max x1 (gtN c) : Nat) : Int) = xm at K2
  have HXM := hide hxm
  clear hxm
  have c2 : wc.cell? ⟨k, 2, none⟩ = some (.int .i64 x2) := cell_of_block K2.out.blk rfl
  have z2 : wc.frozen? ⟨k, 2, none⟩ = false := frz_of_block K2.out.blk
  have K3 : Hid (KP ρ1 (wc.setCell ⟨k, 2, none⟩ (.int .i64 (x2 + 1))) k B (s.attach c) xm (x2 + 1) x3 x4 (.map none) (.map none)) := K2.out.set rfl
  have E3 := hide (E2.out.setCell (i := 2) (.int .i64 (x2 + 1)))
  clear K2 E2
  go_upto_region 3 with fail
  refine forget (P := fun W => Code.wp Tryz.prog _ _ _ W) (fun W => Hid (KP ρ1 W k B (s.attach c) xm (x2 + 1) x3 x4 (.map none) (.map none)) ∧ Hid (EvN k ρ w ρ1 W)) ⟨K3, E3⟩ ?_
  rintro W4 ⟨K4, E4⟩
  clear K3 E3 c2 z2
  have c3 : W4.cell? ⟨k, 3, none⟩ = some (.int .i64 x3) := cell_of_block K4.out.blk rfl
  have z3 : W4.frozen? ⟨k, 3, none⟩ = false := frz_of_block K4.out.blk
  have K5 : Hid (KP ρ1 (W4.setCell ⟨k, 3, none⟩ (.int .i64 (x3 + 1))) k B (s.attach c) xm (x2 + 1) (x3 + 1) x4 (.map none) (.map none)) := K4.out.set rfl
  have E5 := hide (E4.out.setCell (i := 3) (.int .i64 (x3 + 1)))
  clear K4 E4
  go_upto_region 4 with fail
  refine forget (P := fun W => Code.wp Tryz.prog _ _ _ W) (fun W => Hid (KP ρ1 W k B (s.attach c) xm (x2 + 1) (x3 + 1) x4 (.map none) (.map none)) ∧ Hid (EvN k ρ w ρ1 W)) ⟨K5, E5⟩ ?_
  rintro W6 ⟨K6, E6⟩
  clear K5 E5 c3 z3
  have c5 : W6.cell? ⟨k, 5, none⟩ = some (.map none) := cell_of_block K6.out.blk rfl
  have c6 : W6.cell? ⟨k, 6, none⟩ = some (.map none) := cell_of_block K6.out.blk rfl
  have q5 := run_neq_map_nil (P := Tryz.prog) W6 47 _ _ none Tryz.underlying47
  have q6 := run_neq_map_nil (P := Tryz.prog) W6 48 _ _ none Tryz.underlying48
  go_wp2
  go_end0
  exact ⟨rfl, ρ1, by rw [HXM.out]; exact K6.out, E6.out⟩
end Go.Proofs.YtlmbgaconjcaiabGreat

namespace Go.Proofs.YtlmbgaconjcaiabGreat
open Go.RowKit

def DoP (ρ : Nat → Rl) (w : World) (k B : Nat) (s : PS) (x1 : Nat) (x2 x3 : Int) (sp : Nat) (c : List Int) (e : Ending) (w' : World) : Prop :=
  e = .returned (.int .i64 0) ∧ ∃ (ρ' : Nat → Rl) (u : PS), KP ρ' w' k B (u.attach c) ((max x1 (gtN c) : Nat) : Int) (x2 + 1) (x3 + 1) sp (.map none) (.map none) ∧ EvN k ρ w ρ' w' ∧ u.vars = s.vars ∧ u.cls.map key = s.cls.map key ∧ u.lvs ≠ []

theorem KP.fr {ρ : Nat → Rl} {w w' : World} {k B : Nat} {s : PS} {x1 x2 x3 x4 : Int} {m1 m2 : Value} (h : KP ρ w k B s x1 x2 x3 x4 m1 m2) (hb : Below w.heap.size w w') : KP (fr ρ w.heap.size) w' k B s x1 x2 x3 x4 m1 m2 := by
  obtain ⟨H, hR⟩ := h.rep
  exact ⟨⟨H, hR.fr hb⟩, (hb.block k (lt_of_block h.blk)).trans h.blk, (fr_old (lt_of_block h.blk)).trans h.ro, h.inv, h.cnt, h.lits⟩

set_option maxHeartbeats 4000000 in
set_option maxRecDepth 100000 in
theorem do_yes {N : Nat} {ρ : Nat → Rl} {w : World} {k B : Nat} {s : PS} {x1 sp : Nat} {x2 x3 : Int} (h : KP ρ w k B s x1 x2 x3 sp (.map none) (.map none)) (a : Option Addr) (cap : Nat) (c : List Int) (hr : RowO ρ N w a c) (hl : c.length ≤ 4096) (hcap : a = none → cap = 0)
    (hyes : cnfB s.vars [c] = true) (hcl : s.cls.length < 262144) (hx1 : x1 ≤ 1048576) (hx2 : 0 ≤ x2 ∧ x2 < 262144) (hx3 : 0 ≤ x3 ∧ x3 ≤ 1000000) (hc : ∀ x ∈ c, -1048576 ≤ x ∧ x ≤ 1048576)
    (hsp : sp ≤ s.vars) (hsp0 : sp ≠ 0) (h0 : s.lvs = [] → s.trail = []) (hT : ∀ t b, Inv t → t.cls.map key = s.cls.map key → Told t c b → b = true) :
    Calls Tryz.prog 32 #[.pointer (some ⟨k, 0, none⟩), .agg #[.bool false, .slice a c.length cap]] w (DoP ρ w k B s x1 x2 x3 sp c) := by
  have hlt := (cnf_lt hyes c (by simp)).2
  have hb0 : Below w.heap.size w (w.alloc (.cells #[.bool false, .slice a c.length cap] 38)) := below_alloc w _
  have K0 := h.fr hb0
  have R0 := hr.ev (Ev.fr hb0)
  have GU := hide (byUnits_any K0 hsp (fun _ => h0) a cap c R0 (by omega) hlt)
  have E0 := hide ((Ev.fr (ρ := ρ) hb0).evN k)
  have hbx : (w.alloc (.cells #[.bool false, .slice a c.length cap] 38)).heap[w.heap.size]? = some (.cells #[.bool false, .slice a c.length cap] 38) := heap_alloc_new w _
  have HBX := hide hbx
  have HR0 := hide R0
  have cB : (w.alloc (.cells #[.bool false, .slice a c.length cap] 38)).cell? ⟨k, 2, none⟩ = some (.int .i64 x2) := cell_of_block K0.blk rfl
  have HT := hide hT
  have HY := hide hyes
  have HC := hide hc
  have hxne : ((x2 : Int) == 262144) = false := by simp; omega
  clear K0 R0 h hr hT hyes hc hb0 hlt hbx
  go_enter Tryz.func32, Tryz.ntmps32
  go_wp2_with (first | (go_at_call 31; refine (unhide GU).mono ?_; rintro e w1 ⟨b, rfl, ρ1, u, ds0, K1, E1, G1, _, g2, t, ds, hI, Gt, hds, hTl⟩; obtain rfl := HT.out t b hI Gt.cl hTl; have hb1 := (E1.keep w.heap.size (lt_of_block HBX.out) (fr_new (Nat.le_refl _))).trans HBX.out; have cb1 : w1.cell? ⟨w.heap.size, 1, none⟩ = some (.slice a c.length cap) := cell_of_block hb1 rfl; clear hb1; replace K1 := hide K1; replace E1 := hide E1; replace G1 := hide G1; replace g2 := hide g2; clear hI Gt hds hTl) | (go_at_call 51; refine (add_k (N := N) (x2 := x2) (x3 := x3) K1.out a cap c (HR0.out.ev E1.out) hl hcap (by rw [G1.out.vars]; exact HY.out) (by have := congrArg List.length G1.out.cl; simp at this; omega) hx1 ⟨hx2.1, by omega⟩ ⟨hx3.1, by omega⟩ HC.out).mono ?_; rintro e w2 ⟨rfl, ρ2, K2, E2⟩))
  go_ret
  exact ⟨rfl, ρ2, u, K2, (E0.out.trans (E1.out.evN k)).trans E2, G1.out.vars, G1.out.cl, (g2.out hsp0).2.2⟩

theorem Row.rowN {w wr : World} {ρ : Nat → Rl} {a : Option Addr} {xs : List Int} {k : Nat} (h : Row w a xs) (hE : EvN k free w ρ wr) (hk : w.heap.size ≤ k) : RowO ρ w.heap.size wr a xs := fun i hi => by
  obtain ⟨b, off, e, hb, hc⟩ := h i hi
  exact ⟨b, off, e, Nat.lt_of_lt_of_le hb hE.size, hE.agree b hb, .inl hb, (World.cell?_of_block (a := ⟨b, off + i, none⟩) (hE.keep b hb (by omega) rfl)).trans hc⟩

def steps2 : List StD := [⟨false, [2]⟩, ⟨false, []⟩]
theorem spare2 : spareN 2 steps2 = 3 := by decide
theorem vars2 : varsN 2 steps2 = 3 := by decide

/-- In the midst of the short proof. -/
def Sh (W0 W : World) (k B : Nat) : Nat → Prop
  | 0 => ∃ ρ s, KP ρ W k B s (2 : Nat) 4 4 (3 : Nat) (.map none) (.map none) ∧ EvN k free W0 ρ W ∧ s.vars = 3 ∧ s.cls.map key = css4.map (fun c => (c, false)) ∧ s.trail = [] ∧ s.lvs = []
  | _ => ∃ ρ s, KP ρ W k B s (2 : Nat) 5 5 (3 : Nat) (.map none) (.map none) ∧ EvN k free W0 ρ W ∧ s.vars = 3 ∧ s.cls.map key = css5.map (fun c => (c, false)) ∧ s.lvs ≠ []

theorem sh_alloc {W0 W W' : World} {k B i : Nat} (h : Sh W0 W k B i) (hb : Below W.heap.size W W') (hN : W0.heap.size ≤ W.heap.size) : Sh W0 W' k B i := by
  match i, h with
  | 0, ⟨ρ, s, hK, hE, r⟩ => exact ⟨ρ, s, hK.below hb, hE.trans ((Ev.below hb).evN _), r⟩
  | i + 1, ⟨ρ, s, hK, hE, r⟩ => exact ⟨ρ, s, hK.below hb, hE.trans ((Ev.below hb).evN _), r⟩
theorem Sh.ev {W0 W : World} {k B i : Nat} (h : Sh W0 W k B i) : ∃ ρ, EvN k free W0 ρ W := by
  match i, h with
  | 0, ⟨ρ, s, hK, hE, r⟩ => exact ⟨ρ, hE⟩
  | i + 1, ⟨ρ, s, hK, hE, r⟩ => exact ⟨ρ, hE⟩
theorem told_one {t : PS} {b : Bool} (hI : Inv t) (hk : t.cls.map key = css4.map (fun c => (c, false))) (h : Told t [2] b) : b = true := by
  rcases h with ⟨h, _⟩ | ⟨_, hl, hh, hc⟩
  · exact h
  · exact (aw_one hI hl hh hk (hc 2 (by simp))).elim
theorem told_two {t : PS} {b : Bool} (hI : Inv t) (hk : t.cls.map key = css5.map (fun c => (c, false))) (h : Told t [] b) : b = true := by
  rcases h with ⟨h, _⟩ | ⟨_, hl, hh, hc⟩
  · exact h
  · exact (aw_two hI hl hh hk).elim

theorem box_kept {ρ ρ' : Nat → Rl} {W w' : World} {k : Nat} {o : Obj} (hk : k < W.heap.size) (h : EvN k (fr ρ W.heap.size) (W.alloc o) ρ' w') : w'.heap[W.heap.size]? = some o :=
  (h.keep W.heap.size (by simp) (by omega) (fr_new (Nat.le_refl _))).trans (heap_alloc_new W o)

theorem do_one {W0 W : World} {k B : Nat} (h : Sh W0 W k B 0) (hN : W0.heap.size ≤ k) (o : Obj) (a : Option Addr) (cap : Nat) (hr : Row W0 a [2]) (hcap : a = none → cap = 0) :
    Calls Tryz.prog 32 #[.pointer (some ⟨k, 0, none⟩), .agg #[.bool false, .slice a 1 cap]] (W.alloc o) fun e w' => e = .returned (.int .i64 0) ∧ Sh W0 w' k B 1 ∧ w'.heap[W.heap.size]? = some o := by
  obtain ⟨ρ, s, hK0, hE0, hv, hk, ht, hl⟩ := h
  have hkl := lt_of_block hK0.blk
  have hb := below_alloc W o
  have hK := hK0.fr hb
  have hE := hE0.trans ((Ev.fr (ρ := ρ) hb).evN k)
  have hlen : s.cls.length = 4 := by have := congrArg List.length hk; simpa [css4] using this
  refine (do_yes (N := W0.heap.size) hK a cap [2] (hr.rowN hE hN) (by simp) hcap (by rw [hv]; decide) (by omega) (by omega) ⟨by omega, by omega⟩ ⟨by omega, by omega⟩ (by simp) (by omega) (by omega) (fun _ => ht) (fun t b hI hkk hT => told_one hI (hkk.trans hk) hT)).mono ?_
  rintro e w' ⟨rfl, ρ', u, hK', hE', hv', hk', hl'⟩
  obtain ⟨a1, a2, a3, a4, _⟩ := attach_cls u [2]
  refine ⟨rfl, ⟨ρ', u.attach [2], ?_, hE.trans hE', a2.trans (hv'.trans hv), ?_, by rw [a4]; exact hl'⟩, box_kept hkl hE'⟩
  · have hg : ((max 2 (gtN [2]) : Nat) : Int) = ((2 : Nat) : Int) := by decide
    rw [hg] at hK'; exact hK'
  · rw [a1, hk', hk]; rfl
theorem do_two {W0 W : World} {k B : Nat} (h : Sh W0 W k B 1) (hN : W0.heap.size ≤ k) (o : Obj) (a : Option Addr) (cap : Nat) (hcap : a = none → cap = 0) :
    Calls Tryz.prog 32 #[.pointer (some ⟨k, 0, none⟩), .agg #[.bool false, .slice a 0 cap]] (W.alloc o) fun e w' => e = .returned (.int .i64 0) ∧ (∃ ρ', EvN k free W0 ρ' w') ∧ w'.heap[W.heap.size]? = some o := by
  obtain ⟨ρ, s, hK0, hE0, hv, hk, hl⟩ := h
  have hkl := lt_of_block hK0.blk
  have hb := below_alloc W o
  have hK := hK0.fr hb
  have hE := hE0.trans ((Ev.fr (ρ := ρ) hb).evN k)
  have hlen : s.cls.length = 5 := by have := congrArg List.length hk; simpa [css5] using this
  refine (do_yes (N := W0.heap.size) hK a cap [] (fun i hi => by simp at hi) (by simp) hcap (by rw [hv]; decide) (by omega) (by omega) ⟨by omega, by omega⟩ ⟨by omega, by omega⟩ (by simp) (by omega) (by omega) (fun h => absurd h hl) (fun t b hI hkk hT => told_two hI (hkk.trans hk) hT)).mono ?_
  rintro e w' ⟨rfl, ρ', u, hK', hE', _⟩
  exact ⟨rfl, ⟨ρ', hE.trans hE'⟩, box_kept hkl hE'⟩
end Go.Proofs.YtlmbgaconjcaiabGreat

namespace Go.Proofs.YtlmbgaconjcaiabGreat
open Go.RowKit

theorem open_sh {W0 w1 : World} {k B : Nat} (h : OpenP W0 2 css4 steps2 k B w1) : Sh W0 w1 k B 0 ∧ W0.heap.size ≤ k := by
  obtain ⟨ρ, s, hK, hE, e1, e2, e3, e4, hk⟩ := h
  rw [spare2] at hK
  exact ⟨⟨ρ, s, hK, hE.evN k, e1.trans vars2, e2, e3, e4⟩, hk⟩
theorem evN_bel {w W0 w' : World} {ρ : Nat → Rl} {k : Nat} (h : EvN k free W0 ρ w') (hb : Below w.heap.size w W0) (hk : W0.heap.size ≤ k) : Below w.heap.size w w' := by
  have hs := hb.size
  exact ⟨h.os.trans hb.os, h.tape.trans hb.tape, h.output.trans hb.output, Nat.le_trans hs h.size, fun b hb' => (h.keep b (by omega) (by omega) rfl).trans (hb.block b hb')⟩
theorem evN_cell {W0 w' : World} {ρ : Nat → Rl} {k b i : Nat} {v : Value} (h : EvN k free W0 ρ w') (hk : W0.heap.size ≤ k) (hb : b < W0.heap.size) (hc : W0.cell? ⟨b, i, none⟩ = some v) : w'.cell? ⟨b, i, none⟩ = some v :=
  (World.cell?_of_block (a := ⟨b, i, none⟩) (h.keep b hb (by omega) rfl)).trans hc

set_option maxHeartbeats 4000000 in
set_option maxRecDepth 100000 in
theorem proves_aw (w : World) (a al : Option Addr) (cap cal : Nat) (hg : GridC w a css4) (hs : Sts w al steps2) :
    Calls Tryz.prog 15 #[.agg #[.int .i64 2, .slice a 4 cap], .slice al 2 cal] w fun e w' => e = .returned (.tuple #[.int .i64 1, .int .i64 0]) ∧ Below w.heap.size w w' := by
  have hb0 : Below w.heap.size w (w.alloc (.cells #[.int .i64 2, .slice a 4 cap] 24)) := below_alloc w _
  have GO := hide (open_yes a al cap cal 2 css4 steps2 (w.alloc (.cells #[.int .i64 2, .slice a 4 cap] 24)) (hg.below hb0) (by decide) (hs.below hb0) (by decide) (by decide) (by decide))
  have HS := hide (hs.below hb0)
  have HB0 := hide hb0
  clear hb0 hg hs
  go_enter Tryz.func15, Tryz.ntmps15
  go_upto_region 4 with (first | (go_at_call 13; refine (unhide GO).mono ?_; rintro e w1 ⟨k, B, rfl, hO⟩; replace hO := hide hO))
  generalize w.alloc (.cells #[.int .i64 2, .slice a 4 cap] 24) = W0 at *
  obtain ⟨hsh, hk⟩ := open_sh hO.out
  have H0 := hide hsh
  clear hsh hO GO
  obtain ⟨b0, off, a0, c0, rfl, hb, S0⟩ := HS.out 0 (by decide)
  obtain ⟨b1, off1, a1, c1, e1, _, S1⟩ := HS.out 1 (by decide)
  simp at e1
  obtain ⟨rfl, rfl⟩ := e1
  have p0 : W0.cell? ⟨b0, off, none⟩ = some (.bool false) := by simpa [steps2] using S0.c0
  have p1 : W0.cell? ⟨b0, off + 1, none⟩ = some (.slice a0 1 c0) := by simpa [steps2] using S0.c1
  have p2 : W0.cell? ⟨b0, off + 2, none⟩ = some (.bool false) := by simpa [steps2] using S1.c0
  have p3 : W0.cell? ⟨b0, off + 3, none⟩ = some (.slice a1 0 c1) := by simpa [steps2] using S1.c1
  have R0 : Hid (Row W0 a0 [2]) := S0.row
  have N0 := S0.nil
  have N1 := S1.nil
  clear S0 S1 HS
  go_wp2
  go_loopw [22] (fun x W => ∃ i : Nat, i ≤ 1 ∧ x = .int .i64 (i : Int) ∧ Hid (Sh W0 W k B i)) (fun x _ => 2 - (intOf x).toNat)
  case atStart => exact ⟨0, by omega, rfl, H0⟩
  case round =>
    obtain ⟨i, hi, rfl, HI⟩ := hrel
    clear H0
    obtain ⟨ρ, hE⟩ := HI.out.ev
    have q0 := evN_cell hE hk hb p0
    have q1 := evN_cell hE hk hb p1
    have q2 := evN_cell hE hk hb p2
    have q3 := evN_cell hE hk hb p3
    have hsz := hE.size
    clear hE
    by_cases hi0 : i = 0
    · subst hi0
      have G := hide (do_one HI.out hk (.cells #[.bool false, .slice a0 1 c0] 38) a0 c0 R0.out N0)
      clear HI
      go_wp2_with (first | (go_at_call 32; refine (unhide G).mono ?_; rintro e w2 ⟨rfl, hsh2, hbx⟩; replace hsh2 := hide hsh2; have x0 : w2.cell? ⟨wr.heap.size, 0, none⟩ = some (.bool false) := cell_of_block hbx rfl; have x1 : w2.cell? ⟨wr.heap.size, 1, none⟩ = some (.slice a0 1 c0) := cell_of_block hbx rfl; clear hbx))
      go_roundw
      case rel => exact ⟨1, by omega, by go_num, hsh2⟩
      case measure => simp [intOf]
    · obtain rfl : i = 1 := by omega
      have G := hide (do_two HI.out hk (.cells #[.bool false, .slice a1 0 c1] 38) a1 c1 N1)
      clear HI
      go_wp2_with (first | (go_at_call 32; refine (unhide G).mono ?_; rintro e w2 ⟨rfl, ⟨ρ2, hE2⟩, hbx⟩; replace hE2 := hide hE2; have x0 : w2.cell? ⟨wr.heap.size, 0, none⟩ = some (.bool false) := cell_of_block hbx rfl; have x1 : w2.cell? ⟨wr.heap.size, 1, none⟩ = some (.slice a1 0 c1) := cell_of_block hbx rfl; clear hbx))
      go_ret2
      exact ⟨rfl, evN_bel hE2.out HB0.out hk⟩

/-- Units alone don't break it. -/
theorem unit_aw {b : Bool} (h : UnitE 2 css4 [] b) : b = false := by
  obtain ⟨t, ds, hI, hk, hd, _, hds, hT⟩ := h
  have hs3 : spareN 2 [⟨false, []⟩] = 3 := by decide
  rw [hs3] at hd
  have hnil : ds = [] := by
    cases ds with
    | nil => rfl
    | cons d r => have := hds d (by simp); simp at this
  have hdec : t.dec = [3] := by rw [hd (by omega), hnil]; rfl
  rcases hT with ⟨_, h⟩ | ⟨h, _⟩
  · rcases h with ⟨l, hl, _⟩ | ⟨n, hn⟩
    · simp at hl
    · exact (aw_three hI hk hdec hn).elim
  · exact h

set_option maxHeartbeats 4000000 in
set_option maxRecDepth 100000 in
theorem broken_aw (w : World) (a : Option Addr) (cap : Nat) (hg : GridC w a css4) :
    Calls Tryz.prog 16 #[.agg #[.int .i64 2, .slice a 4 cap]] w fun e w' => e = .returned (.bool false) ∧ Below w.heap.size w w' := by
  have hb0 : Below w.heap.size w (w.alloc (.cells #[.int .i64 2, .slice a 4 cap] 24)) := below_alloc w _
  have GU : Hid (Calls Tryz.prog 33 #[.agg #[.int .i64 2, .slice a 4 cap], .slice none 0 0] (w.alloc (.cells #[.int .i64 2, .slice a 4 cap] 24)) fun e w' => e = .returned (.bool false) ∧ Below w.heap.size w w') := by
    refine (unit_yes a none cap 0 2 css4 [] _ (hg.below hb0) (by decide) (fun i hi => by simp at hi) (by simp) (fun _ => rfl) (by decide) (by decide)).mono ?_
    rintro e w' ⟨b, rfl, ⟨_, hE⟩, hb⟩
    rw [unit_aw hE]
    exact ⟨rfl, hb0.trans (hb.mono hb0.size)⟩
  clear hg hb0
  go_enter Tryz.func16, Tryz.ntmps16
  go_wp2_with (first | (go_at_call 33; refine (unhide GU).mono ?_; rintro e w1 ⟨rfl, hb1⟩))
  go_ret
  exact ⟨rfl, hb1⟩
end Go.Proofs.YtlmbgaconjcaiabGreat

namespace Go.Proofs.YtlmbgaconjcaiabGreat
open Go.RowKit

theorem heap_at {w W : World} {os : List Obj} (h : W.heap = w.heap ++ os.toArray) {i : Nat} {o : Obj} (hi : os[i]? = some o) : W.heap[w.heap.size + i]? = some o := by
  rw [h, Array.getElem?_append_right (by omega)]
  simpa using hi
theorem row_two {W : World} {g : Nat} {a b : Int} (h : W.heap[g]? = some (.cells #[.int .i64 a, .int .i64 b] 3 (0, 0))) : Row W (some ⟨g, 0, none⟩) [a, b] := by
  have hg := lt_of_block h
  intro i hi
  refine ⟨g, 0, rfl, hg, cell_of_block h ?_⟩
  match i, hi with
  | 0, _ => rfl
  | 1, _ => rfl
  | i + 2, hi => simp at hi; omega
theorem row_one {W : World} {g : Nat} {a : Int} (h : W.heap[g]? = some (.cells #[.int .i64 a] 3 (0, 0))) : Row W (some ⟨g, 0, none⟩) [a] := by
  have hg := lt_of_block h
  intro i hi
  refine ⟨g, 0, rfl, hg, cell_of_block h ?_⟩
  match i, hi with
  | 0, _ => rfl
  | i + 1, hi => simp at hi

def awRow (n : Nat) : Obj := .cells #[.slice (some ⟨n, 0, none⟩) 2 2, .slice (some ⟨n + 1, 0, none⟩) 2 2, .slice (some ⟨n + 2, 0, none⟩) 2 2, .slice (some ⟨n + 3, 0, none⟩) 2 2] 25
def awObjs (n : Nat) : List Obj := [.cells #[.int .i64 1, .int .i64 2] 3, .cells #[.int .i64 (-1), .int .i64 2] 3, .cells #[.int .i64 1, .int .i64 (-2)] 3, .cells #[.int .i64 (-1), .int .i64 (-2)] 3, awRow n, .cells #[.int .i64 2, .slice (some ⟨n + 4, 0, none⟩) 4 4] 24, .cells #[.int .i64 2] 3, .cells #[.bool false, .slice (some ⟨n + 6, 0, none⟩) 1 1, .bool false, .slice none 0 0] 38]
def awW (w : World) : World := (awObjs w.heap.size).foldl World.alloc w
theorem awW_heap (w : World) : (awW w).heap = w.heap ++ (awObjs w.heap.size).toArray := by
  unfold awW awObjs
  simp only [List.foldl]
  show ((((((((w.heap.push _).push _).push _).push _).push _).push _).push _).push _) = _
  apply Array.ext'
  simp
theorem awW_bel (w : World) : Below w.heap.size w (awW w) := by
  have h : ∀ (os : List Obj) (W : World), Below w.heap.size w W → Below w.heap.size w (os.foldl World.alloc W) := by
    intro os
    induction os with
    | nil => intro W h; exact h
    | cons o r ih => intro W h; exact ih _ (h.alloc h.size _)
  exact h _ w (Below.refl _ _)
theorem awW_grid (w : World) : GridC (awW w) (some ⟨w.heap.size + 4, 0, none⟩) css4 := by
  have h0 := heap_at (awW_heap w) (i := 0) rfl
  have h1 := heap_at (awW_heap w) (i := 1) rfl
  have h2 := heap_at (awW_heap w) (i := 2) rfl
  have h3 := heap_at (awW_heap w) (i := 3) rfl
  have h4 := heap_at (awW_heap w) (i := 4) rfl
  have hl := lt_of_block h4
  intro i hi
  match i, hi with
  | 0, _ => exact ⟨w.heap.size + 4, 0, some ⟨w.heap.size, 0, none⟩, 2, rfl, hl, cell_of_block h4 rfl, row_two h0, by simp [css4, maxLen], by simp⟩
  | 1, _ => exact ⟨w.heap.size + 4, 0, some ⟨w.heap.size + 1, 0, none⟩, 2, rfl, hl, cell_of_block h4 rfl, row_two h1, by simp [css4, maxLen], by simp⟩
  | 2, _ => exact ⟨w.heap.size + 4, 0, some ⟨w.heap.size + 2, 0, none⟩, 2, rfl, hl, cell_of_block h4 rfl, row_two h2, by simp [css4, maxLen], by simp⟩
  | 3, _ => exact ⟨w.heap.size + 4, 0, some ⟨w.heap.size + 3, 0, none⟩, 2, rfl, hl, cell_of_block h4 rfl, row_two h3, by simp [css4, maxLen], by simp⟩
  | i + 4, hi => simp [css4] at hi; omega
theorem awW_sts (w : World) : Sts (awW w) (some ⟨w.heap.size + 7, 0, none⟩) steps2 := by
  have h6 := heap_at (awW_heap w) (i := 6) rfl
  have h7 := heap_at (awW_heap w) (i := 7) rfl
  have hl := lt_of_block h7
  intro i hi
  match i, hi with
  | 0, _ => exact ⟨w.heap.size + 7, 0, some ⟨w.heap.size + 6, 0, none⟩, 1, rfl, hl, cell_of_block h7 rfl, cell_of_block h7 rfl, row_one h6, by simp [steps2, maxLen], by simp⟩
  | 1, _ => exact ⟨w.heap.size + 7, 0, none, 0, rfl, hl, cell_of_block h7 rfl, cell_of_block h7 rfl, fun i hi => by simp [steps2] at hi, by simp [steps2, maxLen], fun _ => rfl⟩
  | i + 2, hi => simp [steps2] at hi; omega

set_option maxHeartbeats 4000000 in
set_option maxRecDepth 100000 in
theorem rupAwake_any (w : World) : Calls Tryz.prog 8 #[] w fun e w' => e = .returned (.bool true) ∧ Below w.heap.size w w' := by
  have GP := hide (proves_aw (awW w) (some ⟨w.heap.size + 4, 0, none⟩) (some ⟨w.heap.size + 7, 0, none⟩) 4 2 (awW_grid w) (awW_sts w))
  have GB : Hid (∀ W, Below (awW w).heap.size (awW w) W → Calls Tryz.prog 16 #[.agg #[.int .i64 2, .slice (some ⟨w.heap.size + 4, 0, none⟩) 4 4]] W fun e w' => e = .returned (.bool false) ∧ Below W.heap.size W w') := fun W hW => broken_aw W _ 4 ((awW_grid w).below hW)
  have hbx := heap_at (awW_heap w) (i := 5) rfl
  have HBX := hide hbx
  have HB0 := hide (awW_bel w)
  clear hbx
  go_enter Tryz.func8, Tryz.ntmps8
  go_wp2_with (first | (go_at_call 15; refine (unhide GP).mono ?_; rintro e w1 ⟨rfl, hb1⟩; have hbx1 := (hb1.block _ (lt_of_block HBX.out)).trans HBX.out; have x0 : w1.cell? ⟨w.heap.size + 1 + 1 + 1 + 1 + 1, 0, none⟩ = some (.int .i64 2) := cell_of_block hbx1 rfl; have x1 : w1.cell? ⟨w.heap.size + 1 + 1 + 1 + 1 + 1, 1, none⟩ = some (.slice (some ⟨w.heap.size + 4, 0, none⟩) 4 4) := cell_of_block hbx1 rfl; clear hbx1) | (go_at_call 16; refine (unhide GB w1 hb1).mono ?_; rintro e w2 ⟨rfl, hb2⟩))
  go_ret
  have h1 := HB0.out.trans (hb1.mono HB0.out.size)
  exact ⟨rfl, h1.trans (hb2.mono h1.size)⟩
end Go.Proofs.YtlmbgaconjcaiabGreat
