/- Joined: Contracts: a clause is put behind the others; a step that is at hand is done. Contracts: a step that is at hand is done; the short proof. Contract: the numbers of the clauses that have a literal, where nobody has asked yet and none is gone. Contracts: of numbers of clauses those that are gone are struck. What a keeper tells of a clause is what the document tells: plain. What is told of a clause behind another one: plain. Which clauses are noted at a literal: plain. Contracts: the numbers of the clauses that have a literal. Contract: a new list without a literal. Contract: whether a clause is at hand by its first literal, where nobody has asked yet and none is gone. Contract: what First tells of a clause. -/
import Derived.Test.YtlmbgaconjcaiabRIAll
import Derived.Test.YtlmbgaconjcaiabIHAll
import Derived.Test.YtlmbgaconjcaiabPlainR
import Derived.Test.YtlmbgaconjcaiabPlainO
import Derived.Test.YtlmbgaconjcaiabIBAll
import Derived.Defers
import Derived.Deep.RegionHeld3
set_option linter.unusedVariables false
set_option linter.unusedSimpArgs false
namespace Go.Proofs.Ytlmbgaconjcaiab
open Go.RowKit

/-- What is nobody's stayed, but for one block. -/
structure EvN (k : Nat) (ρ : Nat → Rl) (w : World) (ρ' : Nat → Rl) (w' : World) : Prop where
  os : w'.os = w.os
  tape : w'.tape = w.tape
  output : w'.output = w.output
  size : w.heap.size ≤ w'.heap.size
  agree : ∀ b, b < w.heap.size → ρ' b = ρ b
  keep : ∀ b, b < w.heap.size → b ≠ k → ρ b = oth → w'.heap[b]? = w.heap[b]?
section
variable {N : Nat} {ρ ρ' ρ'' : Nat → Rl} {w w' w'' : World}
theorem Ev.evN (h : Ev ρ w ρ' w') (k : Nat) : EvN k ρ w ρ' w' := ⟨h.os, h.tape, h.output, h.size, h.agree, fun b a _ c => h.keep b a c⟩
theorem EvN.trans (h : EvN N ρ w ρ' w') (k : EvN N ρ' w' ρ'' w'') : EvN N ρ w ρ'' w'' :=
  ⟨k.os.trans h.os, k.tape.trans h.tape, k.output.trans h.output, Nat.le_trans h.size k.size,
   fun b hb => (k.agree b (Nat.lt_of_lt_of_le hb h.size)).trans (h.agree b hb),
   fun b hb hN hr => (k.keep b (Nat.lt_of_lt_of_le hb h.size) hN ((h.agree b hb).trans hr)).trans (h.keep b hb hN hr)⟩
theorem EvN.setCell {k : Nat} (h : EvN k ρ w ρ' w') {i : Nat} (u : Value) : EvN k ρ w ρ' (w'.setCell ⟨k, i, none⟩ u) :=
  ⟨h.os, h.tape, h.output, by simpa [World.setCell] using h.size, h.agree, fun b a c d => (Below.heap_setCell _ _ _ _ c).trans (h.keep b a c d)⟩
theorem EvN.drewN (h : EvN N ρ w ρ' w') (m : Nat) : EvN N ρ w ρ' (w'.drewN m) := ⟨h.os, h.tape, h.output, h.size, h.agree, h.keep⟩
end

theorem KP.set {ρ : Nat → Rl} {w : World} {k B : Nat} {s : PS} {x1 x2 x3 x4 : Int} {m1 m2 : Value} (h : KP ρ w k B s x1 x2 x3 x4 m1 m2) {i : Nat} {u : Value} {y1 y2 y3 : Int}
    (he : (#[.pointer (some ⟨B, 0, none⟩), .int .i64 x1, .int .i64 x2, .int .i64 x3, .int .i64 x4, m1, m2] : Array Value).setIfInBounds i u = #[.pointer (some ⟨B, 0, none⟩), .int .i64 y1, .int .i64 y2, .int .i64 y3, .int .i64 x4, m1, m2]) :
    KP ρ (w.setCell ⟨k, i, none⟩ u) k B s y1 y2 y3 x4 m1 m2 := by
  obtain ⟨H, hR⟩ := h.rep
  obtain ⟨o1, o2⟩ := setOff w k i u
  exact ⟨⟨H, hR.off (fun b hb' hr => o1 b (by rintro rfl; exact hr h.ro))⟩, (setBlk h.blk u).trans (by rw [he]), h.ro, h.inv, h.cnt, h.lits⟩
theorem KP.drewN {ρ : Nat → Rl} {w : World} {k B : Nat} {s : PS} {x1 x2 x3 x4 : Int} {m1 m2 : Value} (h : KP ρ w k B s x1 x2 x3 x4 m1 m2) (m : Nat) : KP ρ (w.drewN m) k B s x1 x2 x3 x4 m1 m2 :=
  h.below ⟨rfl, rfl, rfl, Nat.le_refl _, fun _ _ => rfl⟩

def AddK (ρ : Nat → Rl) (w : World) (k B : Nat) (s : PS) (x1 : Nat) (x2 x3 x4 : Int) (c : List Int) (e : Ending) (w' : World) : Prop :=
  e = .returned (.tuple #[]) ∧ ∃ ρ', KP ρ' w' k B (s.attach c) ((max x1 (gtN c) : Nat) : Int) (x2 + 1) (x3 + 1) x4 (.map none) (.map none) ∧ EvN k ρ w ρ' w'

set_option maxHeartbeats 4000000 in
set_option maxRecDepth 100000 in
theorem add_k {N : Nat} {ρ : Nat → Rl} {w : World} {k B : Nat} {s : PS} {x1 : Nat} {x2 x3 x4 : Int} (h : KP ρ w k B s x1 x2 x3 x4 (.map none) (.map none)) (a : Option Addr) (cap : Nat) (c : List Int) (hr : RowO ρ N w a c) (hl : c.length ≤ 4096) (hcap : a = none → cap = 0)
    (hyes : cnfB s.vars [c] = true) (hcl : s.cls.length < 262144) (hx1 : x1 ≤ 1048576) (hx2 : 0 ≤ x2 ∧ x2 ≤ 262144) (hx3 : 0 ≤ x3 ∧ x3 ≤ 1048576) (hc : ∀ x ∈ c, -1048576 ≤ x ∧ x ≤ 1048576) :
    Calls Try.prog 27 #[.pointer (some ⟨k, 0, none⟩), .slice a c.length cap] w (AddK ρ w k B s x1 x2 x3 x4 c) := by
  obtain ⟨H, hR⟩ := h.rep
  have GA := hide (add_yes hR h.inv (fun d hd => by have := h.lits d hd; omega) hcl a cap c hr.row (by unfold maxLen; omega) hcap hyes)
  have e0 : w.cell? ⟨k, 0, none⟩ = some (.pointer (some ⟨B, 0, none⟩)) := cell_of_block h.blk rfl
  have HK := hide h
  have HR := hide hr
  have HC := hide hc
  have hlts := (cnf_lt hyes c (by simp)).2
  have HLT := hide hlts
  clear hR h hr hc hyes hlts
  go_enter Try.func27, Try.ntmps27
  go_upto_region 1 with (first | (go_at_call 43; refine (unhide GA).mono ?_; rintro e w1 ⟨rfl, ρ1, H1, hR1, hE1⟩))
  have hlits1 : ∀ d ∈ (s.attach c).cls, d.lits.length ≤ 4096 := by
    have hk := (attach_cls s c).1
    intro d hd
    have : key d ∈ (s.attach c).cls.map key := List.mem_map_of_mem hd
    rw [hk, List.mem_append] at this
    rcases this with h1 | h1
    · obtain ⟨d', hd', e⟩ := List.mem_map.1 h1
      have e9 : d'.lits = d.lits := congrArg Prod.fst e
      rw [← e9]; exact HK.out.lits d' hd'
    · simp at h1
      have e9 : d.lits = c := congrArg Prod.fst h1
      rw [e9]; exact hl
  have K1 := hide (HK.out.ev hR1 (attach_inv HK.out.inv HLT.out (by omega)) (HK.out.cnt.attach c) hlits1 hE1)
  have E1 := hide (hE1.evN k)
  have R1 := hide (HR.out.ev hE1).row
  clear hR1 hE1 hlits1 GA HK HR e0
  have c1 : w1.cell? ⟨k, 1, none⟩ = some (.int .i64 (x1 : Int)) := cell_of_block K1.out.blk rfl
  have z1 : w1.frozen? ⟨k, 1, none⟩ = false := frz_of_block K1.out.blk
  have GG : Hid (∀ m, Calls Try.prog 22 #[.slice a c.length cap] (w1.drewN m) fun e w' => e = .returned (.int .i64 (gtN c)) ∧ w' = w1.drewN m) := fun m => greatest_any a cap c (w1.drewN m) R1.out (by unfold maxLen; omega) HC.out
  have hmx := max2n x1 (gtN c)
  go_cut [] from 15 to 24 (fun wx => Hid (KP ρ1 wx k B (s.attach c) ((max x1 (gtN c) : Nat) : Int) x2 x3 x4 (.map none) (.map none)) ∧ Hid (EvN k ρ w ρ1 wx))
  case first =>
    go_region_with (first | (go_at_call 22; refine (unhide GG _).mono ?_; rintro e w0 ⟨rfl, hw0⟩; subst w0))
    all_goals
      go_wp2_with fail
      go_meet
      case rel => exact ⟨(K1.out.drewN 1).set rfl, (E1.out.drewN 1).setCell _⟩
  case rest =>
  obtain ⟨K2, E2⟩ := hcut
  clear K1 E1 R1 c1 z1 GG hmx HLT HC
  generalize hxm : ((max x1 (gtN c) : Nat) : Int) = xm at K2
  have HXM := hide hxm
  clear hxm
  have c2 : wc.cell? ⟨k, 2, none⟩ = some (.int .i64 x2) := cell_of_block K2.out.blk rfl
  have z2 : wc.frozen? ⟨k, 2, none⟩ = false := frz_of_block K2.out.blk
  have K3 : Hid (KP ρ1 (wc.setCell ⟨k, 2, none⟩ (.int .i64 (x2 + 1))) k B (s.attach c) xm (x2 + 1) x3 x4 (.map none) (.map none)) := K2.out.set rfl
  have E3 := hide (E2.out.setCell (i := 2) (.int .i64 (x2 + 1)))
  clear K2 E2
  go_upto_region 3 with fail
  refine forget (P := fun W => Code.wp Try.prog _ _ _ W) (fun W => Hid (KP ρ1 W k B (s.attach c) xm (x2 + 1) x3 x4 (.map none) (.map none)) ∧ Hid (EvN k ρ w ρ1 W)) ⟨K3, E3⟩ ?_
  rintro W4 ⟨K4, E4⟩
  clear K3 E3 c2 z2
  have c3 : W4.cell? ⟨k, 3, none⟩ = some (.int .i64 x3) := cell_of_block K4.out.blk rfl
  have z3 : W4.frozen? ⟨k, 3, none⟩ = false := frz_of_block K4.out.blk
  have K5 : Hid (KP ρ1 (W4.setCell ⟨k, 3, none⟩ (.int .i64 (x3 + 1))) k B (s.attach c) xm (x2 + 1) (x3 + 1) x4 (.map none) (.map none)) := K4.out.set rfl
  have E5 := hide (E4.out.setCell (i := 3) (.int .i64 (x3 + 1)))
  clear K4 E4
  go_upto_region 4 with fail
  refine forget (P := fun W => Code.wp Try.prog _ _ _ W) (fun W => Hid (KP ρ1 W k B (s.attach c) xm (x2 + 1) (x3 + 1) x4 (.map none) (.map none)) ∧ Hid (EvN k ρ w ρ1 W)) ⟨K5, E5⟩ ?_
  rintro W6 ⟨K6, E6⟩
  clear K5 E5 c3 z3
  have c5 : W6.cell? ⟨k, 5, none⟩ = some (.map none) := cell_of_block K6.out.blk rfl
  have c6 : W6.cell? ⟨k, 6, none⟩ = some (.map none) := cell_of_block K6.out.blk rfl
  have q5 := run_neq_map_nil (P := Try.prog) W6 50 _ _ none Try.underlying50
  have q6 := run_neq_map_nil (P := Try.prog) W6 51 _ _ none Try.underlying51
  go_wp2
  go_end0
  exact ⟨rfl, ρ1, by rw [HXM.out]; exact K6.out, E6.out⟩
end Go.Proofs.Ytlmbgaconjcaiab

namespace Go.Proofs.Ytlmbgaconjcaiab
open Go.RowKit

def DoP (ρ : Nat → Rl) (w : World) (k B : Nat) (s : PS) (x1 : Nat) (x2 x3 : Int) (sp : Nat) (c : List Int) (e : Ending) (w' : World) : Prop :=
  e = .returned (.int .i64 0) ∧ ∃ (ρ' : Nat → Rl) (u : PS), KP ρ' w' k B (u.attach c) ((max x1 (gtN c) : Nat) : Int) (x2 + 1) (x3 + 1) sp (.map none) (.map none) ∧ EvN k ρ w ρ' w' ∧ u.vars = s.vars ∧ u.cls.map key = s.cls.map key ∧ u.lvs ≠ []

theorem KP.fr {ρ : Nat → Rl} {w w' : World} {k B : Nat} {s : PS} {x1 x2 x3 x4 : Int} {m1 m2 : Value} (h : KP ρ w k B s x1 x2 x3 x4 m1 m2) (hb : Below w.heap.size w w') : KP (fr ρ w.heap.size) w' k B s x1 x2 x3 x4 m1 m2 := by
  obtain ⟨H, hR⟩ := h.rep
  exact ⟨⟨H, hR.fr hb⟩, (hb.block k (lt_of_block h.blk)).trans h.blk, (fr_old (lt_of_block h.blk)).trans h.ro, h.inv, h.cnt, h.lits⟩

set_option maxHeartbeats 4000000 in
set_option maxRecDepth 100000 in
theorem do_yes {N : Nat} {ρ : Nat → Rl} {w : World} {k B : Nat} {s : PS} {x1 sp : Nat} {x2 x3 : Int} (h : KP ρ w k B s x1 x2 x3 sp (.map none) (.map none)) (a : Option Addr) (cap : Nat) (c : List Int) (hr : RowO ρ N w a c) (hl : c.length ≤ 4096) (hcap : a = none → cap = 0)
    (hyes : cnfB s.vars [c] = true) (hcl : s.cls.length < 262144) (hx1 : x1 ≤ 1048576) (hx2 : 0 ≤ x2 ∧ x2 < 262144) (hx3 : 0 ≤ x3 ∧ x3 ≤ 1000000) (hc : ∀ x ∈ c, -1048576 ≤ x ∧ x ≤ 1048576)
    (hsp : sp ≤ s.vars) (hsp0 : sp ≠ 0) (h0 : s.lvs = [] → s.trail = []) (hT : ∀ t b, Inv t → t.cls.map key = s.cls.map key → Told t c b → b = true) :
    Calls Try.prog 15 #[.pointer (some ⟨k, 0, none⟩), .agg #[.bool false, .slice a c.length cap]] w (DoP ρ w k B s x1 x2 x3 sp c) := by
  have hlt := (cnf_lt hyes c (by simp)).2
  have hb0 : Below w.heap.size w (w.alloc (.cells #[.bool false, .slice a c.length cap] 37)) := below_alloc w _
  have K0 := h.fr hb0
  have R0 := hr.ev (Ev.fr hb0)
  have GU := hide (byUnits_any K0 hsp (fun _ => h0) a cap c R0 (by omega) hlt)
  have E0 := hide ((Ev.fr (ρ := ρ) hb0).evN k)
  have hbx : (w.alloc (.cells #[.bool false, .slice a c.length cap] 37)).heap[w.heap.size]? = some (.cells #[.bool false, .slice a c.length cap] 37) := heap_alloc_new w _
  have HBX := hide hbx
  have HR0 := hide R0
  have cB : (w.alloc (.cells #[.bool false, .slice a c.length cap] 37)).cell? ⟨k, 2, none⟩ = some (.int .i64 x2) := cell_of_block K0.blk rfl
  have HT := hide hT
  have HY := hide hyes
  have HC := hide hc
  have hxne : ((x2 : Int) == 262144) = false := by simp; omega
  clear K0 R0 h hr hT hyes hc hb0 hlt hbx
  go_enter Try.func15, Try.ntmps15
  go_wp2_with (first | (go_at_call 25; refine (unhide GU).mono ?_; rintro e w1 ⟨b, rfl, ρ1, u, ds0, K1, E1, G1, _, g2, t, ds, hI, Gt, hds, hTl⟩; obtain rfl := HT.out t b hI Gt.cl hTl; have hb1 := (E1.keep w.heap.size (lt_of_block HBX.out) (fr_new (Nat.le_refl _))).trans HBX.out; have cb1 : w1.cell? ⟨w.heap.size, 1, none⟩ = some (.slice a c.length cap) := cell_of_block hb1 rfl; clear hb1; replace K1 := hide K1; replace E1 := hide E1; replace G1 := hide G1; replace g2 := hide g2; clear hI Gt hds hTl) | (go_at_call 27; refine (add_k (N := N) (x2 := x2) (x3 := x3) K1.out a cap c (HR0.out.ev E1.out) hl hcap (by rw [G1.out.vars]; exact HY.out) (by have := congrArg List.length G1.out.cl; simp at this; omega) hx1 ⟨hx2.1, by omega⟩ ⟨hx3.1, by omega⟩ HC.out).mono ?_; rintro e w2 ⟨rfl, ρ2, K2, E2⟩))
  go_ret
  exact ⟨rfl, ρ2, u, K2, (E0.out.trans (E1.out.evN k)).trans E2, G1.out.vars, G1.out.cl, (g2.out hsp0).2.2⟩

theorem Row.rowN {w wr : World} {ρ : Nat → Rl} {a : Option Addr} {xs : List Int} {k : Nat} (h : Row w a xs) (hE : EvN k free w ρ wr) (hk : w.heap.size ≤ k) : RowO ρ w.heap.size wr a xs := fun i hi => by
  obtain ⟨b, off, e, hb, hc⟩ := h i hi
  exact ⟨b, off, e, Nat.lt_of_lt_of_le hb hE.size, hE.agree b hb, .inl hb, (World.cell?_of_block (a := ⟨b, off + i, none⟩) (hE.keep b hb (by omega) rfl)).trans hc⟩

def steps2 : List StD := [⟨false, [2]⟩, ⟨false, []⟩]
theorem spare2 : spareN 2 steps2 = 3 := by decide
theorem vars2 : varsN 2 steps2 = 3 := by decide

/-- In the midst of the short proof. -/
def Sh (W0 W : World) (k B : Nat) : Nat → Prop
  | 0 => ∃ ρ s, KP ρ W k B s (2 : Nat) 4 4 (3 : Nat) (.map none) (.map none) ∧ EvN k free W0 ρ W ∧ s.vars = 3 ∧ s.cls.map key = css4.map (fun c => (c, false)) ∧ s.trail = [] ∧ s.lvs = []
  | _ => ∃ ρ s, KP ρ W k B s (2 : Nat) 5 5 (3 : Nat) (.map none) (.map none) ∧ EvN k free W0 ρ W ∧ s.vars = 3 ∧ s.cls.map key = css5.map (fun c => (c, false)) ∧ s.lvs ≠ []

theorem sh_alloc {W0 W W' : World} {k B i : Nat} (h : Sh W0 W k B i) (hb : Below W.heap.size W W') (hN : W0.heap.size ≤ W.heap.size) : Sh W0 W' k B i := by
  match i, h with
  | 0, ⟨ρ, s, hK, hE, r⟩ => exact ⟨ρ, s, hK.below hb, hE.trans ((Ev.below hb).evN _), r⟩
  | i + 1, ⟨ρ, s, hK, hE, r⟩ => exact ⟨ρ, s, hK.below hb, hE.trans ((Ev.below hb).evN _), r⟩
theorem Sh.ev {W0 W : World} {k B i : Nat} (h : Sh W0 W k B i) : ∃ ρ, EvN k free W0 ρ W := by
  match i, h with
  | 0, ⟨ρ, s, hK, hE, r⟩ => exact ⟨ρ, hE⟩
  | i + 1, ⟨ρ, s, hK, hE, r⟩ => exact ⟨ρ, hE⟩
theorem told_one {t : PS} {b : Bool} (hI : Inv t) (hk : t.cls.map key = css4.map (fun c => (c, false))) (h : Told t [2] b) : b = true := by
  rcases h with ⟨h, _⟩ | ⟨_, hl, hh, hc⟩
  · exact h
  · exact (aw_one hI hl hh hk (hc 2 (by simp))).elim
theorem told_two {t : PS} {b : Bool} (hI : Inv t) (hk : t.cls.map key = css5.map (fun c => (c, false))) (h : Told t [] b) : b = true := by
  rcases h with ⟨h, _⟩ | ⟨_, hl, hh, hc⟩
  · exact h
  · exact (aw_two hI hl hh hk).elim

theorem box_kept {ρ ρ' : Nat → Rl} {W w' : World} {k : Nat} {o : Obj} (hk : k < W.heap.size) (h : EvN k (fr ρ W.heap.size) (W.alloc o) ρ' w') : w'.heap[W.heap.size]? = some o :=
  (h.keep W.heap.size (by simp) (by omega) (fr_new (Nat.le_refl _))).trans (heap_alloc_new W o)

theorem do_one {W0 W : World} {k B : Nat} (h : Sh W0 W k B 0) (hN : W0.heap.size ≤ k) (o : Obj) (a : Option Addr) (cap : Nat) (hr : Row W0 a [2]) (hcap : a = none → cap = 0) :
    Calls Try.prog 15 #[.pointer (some ⟨k, 0, none⟩), .agg #[.bool false, .slice a 1 cap]] (W.alloc o) fun e w' => e = .returned (.int .i64 0) ∧ Sh W0 w' k B 1 ∧ w'.heap[W.heap.size]? = some o := by
  obtain ⟨ρ, s, hK0, hE0, hv, hk, ht, hl⟩ := h
  have hkl := lt_of_block hK0.blk
  have hb := below_alloc W o
  have hK := hK0.fr hb
  have hE := hE0.trans ((Ev.fr (ρ := ρ) hb).evN k)
  have hlen : s.cls.length = 4 := by have := congrArg List.length hk; simpa [css4] using this
  refine (do_yes (N := W0.heap.size) hK a cap [2] (hr.rowN hE hN) (by simp) hcap (by rw [hv]; decide) (by omega) (by omega) ⟨by omega, by omega⟩ ⟨by omega, by omega⟩ (by simp) (by omega) (by omega) (fun _ => ht) (fun t b hI hkk hT => told_one hI (hkk.trans hk) hT)).mono ?_
  rintro e w' ⟨rfl, ρ', u, hK', hE', hv', hk', hl'⟩
  obtain ⟨a1, a2, a3, a4, _⟩ := attach_cls u [2]
  refine ⟨rfl, ⟨ρ', u.attach [2], ?_, hE.trans hE', a2.trans (hv'.trans hv), ?_, by rw [a4]; exact hl'⟩, box_kept hkl hE'⟩
  · have hg : ((max 2 (gtN [2]) : Nat) : Int) = ((2 : Nat) : Int) := by decide
    rw [hg] at hK'; exact hK'
  · rw [a1, hk', hk]; rfl
theorem do_two {W0 W : World} {k B : Nat} (h : Sh W0 W k B 1) (hN : W0.heap.size ≤ k) (o : Obj) (a : Option Addr) (cap : Nat) (hcap : a = none → cap = 0) :
    Calls Try.prog 15 #[.pointer (some ⟨k, 0, none⟩), .agg #[.bool false, .slice a 0 cap]] (W.alloc o) fun e w' => e = .returned (.int .i64 0) ∧ (∃ ρ', EvN k free W0 ρ' w') ∧ w'.heap[W.heap.size]? = some o := by
  obtain ⟨ρ, s, hK0, hE0, hv, hk, hl⟩ := h
  have hkl := lt_of_block hK0.blk
  have hb := below_alloc W o
  have hK := hK0.fr hb
  have hE := hE0.trans ((Ev.fr (ρ := ρ) hb).evN k)
  have hlen : s.cls.length = 5 := by have := congrArg List.length hk; simpa [css5] using this
  refine (do_yes (N := W0.heap.size) hK a cap [] (fun i hi => by simp at hi) (by simp) hcap (by rw [hv]; decide) (by omega) (by omega) ⟨by omega, by omega⟩ ⟨by omega, by omega⟩ (by simp) (by omega) (by omega) (fun h => absurd h hl) (fun t b hI hkk hT => told_two hI (hkk.trans hk) hT)).mono ?_
  rintro e w' ⟨rfl, ρ', u, hK', hE', _⟩
  exact ⟨rfl, ⟨ρ', hE.trans hE'⟩, box_kept hkl hE'⟩
end Go.Proofs.Ytlmbgaconjcaiab

namespace Go.Proofs.Ytlmbgaconjcaiab
open Go.RowKit

/-- Numbers of clauses that are there. -/
def Here (s : PS) (zs : List Int) : Prop := ∀ z ∈ zs, ∃ (i : Nat) (c : Cl), z = (i : Int) ∧ s.cls[i]? = some c ∧ c.gone = false

set_option maxHeartbeats 1000000 in
set_option maxRecDepth 100000 in
theorem index82 {ρ : Nat → Rl} {w : World} {k B : Nat} {s : PS} {x1 x2 x3 x4 : Int} {m1 m2 : Value} (h : KP ρ w k B s x1 x2 x3 x4 m1 m2) (hn : s.cls.length ≤ 1048576) (a : Option Addr) (cap : Nat) (zs : List Int) (hr : Row w a zs) (hz : Here s zs) (hl : zs.length ≤ 4000000000) :
    Calls Try.prog 74 #[.slice a zs.length cap, .func (.func 62) #[.pointer (some ⟨k, 0, none⟩)] #[]] w fun e w' => e = .returned (.int .i64 (-1)) ∧ Below w.heap.size w w' := by
  have HK := hide h
  have HR := hide hr
  have HZ := hide hz
  clear h hr hz
  go_enter Try.func74, Try.ntmps74
  go_wp2
  go_loopw [8] (fun j wr => ∃ i : Nat, i ≤ zs.length ∧ j = .int .i64 (i : Int) ∧ Hid (Below w.heap.size w wr)) (fun j _ => zs.length - (intOf j).toNat)
  case atStart => exact ⟨0, Nat.zero_le _, rfl, Below.refl _ _⟩
  case round =>
    obtain ⟨i, hi, rfl, HB⟩ := hrel
    by_cases hlt : i < zs.length
    · have hii : (i : Int) < zs.length := by omega
      obtain ⟨b, off, rfl, hb, hc⟩ := (HR.out.below HB.out) i hlt
      obtain ⟨j, c, e, hj, hg⟩ := HZ.out zs[i] (List.getElem_mem hlt)
      have G := keeperGone_any (HK.out.below HB.out) j c hj hn
      rw [hg, ← e] at G
      replace G := hide G
      clear hj hg e
      generalize zs[i] = z at *
      go_wp2_with (go_at_call 62; refine (unhide G).mono ?_; rintro e w1 ⟨rfl, hb1⟩)
      have HB1 := hide (HB.out.trans (hb1.mono HB.out.size))
      clear hb1 G
      go_wp2
      go_roundw
      case rel => exact ⟨i + 1, by omega, by go_num, HB1⟩
      case measure => simp [intOf]; omega
    · go_wp2
      go_ret
      exact ⟨rfl, HB.out⟩

set_option maxHeartbeats 1000000 in
theorem del66 {ρ : Nat → Rl} {w : World} {k B : Nat} {s : PS} {x1 x2 x3 x4 : Int} {m1 m2 : Value} (h : KP ρ w k B s x1 x2 x3 x4 m1 m2) (hn : s.cls.length ≤ 1048576) (a : Option Addr) (cap : Nat) (zs : List Int) (hr : Row w a zs) (hz : Here s zs) (hl : zs.length ≤ 4000000000) :
    Calls Try.prog 61 #[.slice a zs.length cap, .func (.func 62) #[.pointer (some ⟨k, 0, none⟩)] #[]] w fun e w' => e = .returned (.slice a zs.length cap) ∧ Below w.heap.size w w' := by
  have G := hide (index82 h hn a cap zs hr hz hl)
  clear h hr hz
  go_enter Try.func61, Try.ntmps61
  go_wp2_with (go_at_call 74; refine (unhide G).mono ?_; rintro e w1 ⟨rfl, hb1⟩)
  go_ret
  exact ⟨rfl, hb1⟩

theorem KP.nf {ρ : Nat → Rl} {w w' : World} {k B base g : Nat} {s : PS} {x1 x2 x3 x4 : Int} {m1 m2 : Value} (h : KP ρ w k B s x1 x2 x3 x4 m1 m2) (hN : NF base g ρ w w') (hk : k < base) (hg : k ≠ g) : KP ρ w' k B s x1 x2 x3 x4 m1 m2 := by
  obtain ⟨H, hR⟩ := h.rep
  exact ⟨⟨H, hN.rep hR⟩, (hN.keep k (lt_of_block h.blk) (.inr ⟨hk, hg⟩)).trans h.blk, h.ro, h.inv, h.cnt, h.lits⟩
theorem KP.setMap {ρ : Nat → Rl} {w : World} {k B : Nat} {s : PS} {x1 x2 x3 x4 : Int} {m1 m2 : Value} (h : KP ρ w k B s x1 x2 x3 x4 m1 m2) (u : Value) : KP ρ (w.setCell ⟨k, 6, none⟩ u) k B s x1 x2 x3 x4 m1 u := by
  obtain ⟨H, hR⟩ := h.rep
  obtain ⟨o1, o2⟩ := setOff w k 6 u
  exact ⟨⟨H, hR.off (fun b hb' hr => o1 b (by rintro rfl; exact hr h.ro))⟩, (setBlk h.blk u).trans (by simp), h.ro, h.inv, h.cnt, h.lits⟩
theorem gro_empty {P : Program} {k e : TypeId} {ρ : Nat → Rl} {w : World} {g base : Nat} (hb : w.heap[g]? = some (.map #[] 0)) (hr : ρ g = oth) (hg : g < base) : Gro P k e ρ w g base 0 (fun _ => []) := by
  refine ⟨⟨.map [], ⟨#[], 0, hb, ⟨by simp, MapKept.stamped_empty 0, by simp⟩, Nat.le_refl _, rfl, hg, by simp, by simp⟩, fun _ => rfl⟩, hr, ?_⟩
  intro es clock hh x hx
  rw [hb] at hh
  cases hh
  simp at hx
theorem below_grown {w w' : World} (h : Below w.heap.size w w') (row : Option Nat) : w.grownBy w' row := ⟨h.os, h.tape, h.output, h.size, fun b hb _ => h.block b hb⟩

theorem updI_id (f : Int → List Int) (l : Int) : updI f l (f l) = f := by
  funext x
  by_cases e : x = l
  · subst e; exact updI_same _ _ _
  · exact updI_other _ _ e
theorem ints_row {w : World} {base : Nat} {a : Option Addr} {cap : Nat} {zs : List Int} (h : w.ownsInts base 3 .i64 (.slice a zs.length cap) zs) : Row w a zs := by
  obtain ⟨a', cap', e, hr, _⟩ := Own.row (base := base) h.1
  simp at e
  obtain ⟨rfl, rfl⟩ := e
  exact hr

/-- What withLiteral leaves. -/
def WithP (ρ : Nat → Rl) (w : World) (k B : Nat) (s : PS) (x1 x2 x3 x4 : Int) (m1 : Value) (l : Int) (e : Ending) (w' : World) : Prop :=
  ∃ g base a cap, e = .returned (.slice a (noteL s.cls 0 (fun _ => []) l).length cap) ∧ w'.ownsInts base 3 .i64 (.slice a (noteL s.cls 0 (fun _ => []) l).length cap) (noteL s.cls 0 (fun _ => []) l) ∧ (∀ b, Value.ownBlock (.slice a (noteL s.cls 0 (fun _ => []) l).length cap) = some b → fr ρ w.heap.size b = oth ∧ base ≤ b) ∧
    KP (fr ρ w.heap.size) w' k B s x1 x2 x3 x4 m1 (.map (some g)) ∧ Gro Try.prog 3 3 (fr ρ w.heap.size) w' g base (4096 * s.cls.length + 1) (litF (noteL s.cls 0 (fun _ => []))) ∧ EvN k ρ w (fr ρ w.heap.size) w' ∧ w.heap.size ≤ g ∧ base = g + 1

set_option maxHeartbeats 4000000 in
set_option maxRecDepth 100000 in
theorem withLiteral_new {ρ : Nat → Rl} {w : World} {k B : Nat} {s : PS} {x1 x2 x4 : Int} {m1 : Value} (h : KP ρ w k B s x1 x2 (s.cls.length : Int) x4 m1 (.map none)) (hcl : s.cls.length ≤ 10000) (l : Int) (h0 : -1048576 ≤ l) (h1 : l ≤ 1048576) (hz : Here s (noteL s.cls 0 (fun _ => []) l)) :
    Calls Try.prog 40 #[.pointer (some ⟨k, 0, none⟩), .int .i64 l] w (WithP ρ w k B s x1 x2 s.cls.length x4 m1 l) := by
  have hkl := lt_of_block h.blk
  have c6 : w.cell? ⟨k, 6, none⟩ = some (.map none) := cell_of_block h.blk rfl
  have z6 : w.frozen? ⟨k, 6, none⟩ = false := frz_of_block h.blk
  have hmm := @run_makeMap Try.prog
  have heq := run_eql_map_nil (P := Try.prog) w 51 _ _ none Try.underlying51
  have HK := hide h
  have HZ := hide hz
  have hne : k ≠ w.heap.size := by omega
  clear h hz
  go_enter Try.func40, Try.ntmps40
  go_upto_region 3 with fail
  refine forget (P := fun W => Code.wp Try.prog _ _ _ W) (fun W => Hid (KP (fr ρ w.heap.size) W k B s x1 x2 (s.cls.length : Int) x4 m1 (.map (some w.heap.size))) ∧ Hid (Gro Try.prog 3 3 (fr ρ w.heap.size) W w.heap.size (w.heap.size + 1) 0 (fun _ => [])) ∧ Hid (EvN k ρ w (fr ρ w.heap.size) W) ∧ Hid (w.heap.size + 1 ≤ W.heap.size)) ?_ ?_
  · obtain ⟨o1, o2⟩ := setOff w k 6 (.map (some w.heap.size))
    have hb := below_alloc (w.setCell ⟨k, 6, none⟩ (.map (some w.heap.size))) (.map #[] 0)
    have hK1 := (HK.out.setMap (.map (some w.heap.size))).fr hb
    have hal : ((w.setCell ⟨k, 6, none⟩ (.map (some w.heap.size))).alloc (.map #[] 0)).heap[(w.setCell ⟨k, 6, none⟩ (.map (some w.heap.size))).heap.size]? = some (.map #[] 0) := (MapKept.heap_alloc _ _).1
    have hE := (((Ev.refl ρ w).evN k).setCell (i := 6) (.map (some w.heap.size))).trans ((Ev.fr (ρ := ρ) hb).evN k)
    rw [o2] at hK1 hal hE
    refine ⟨hK1, gro_empty hal (fr_new (Nat.le_refl _)) (Nat.lt_succ_self _), hE, ?_⟩
    show _ ≤ _
    simp [o2]
  rintro W1 ⟨HK1, HG1, HE1, HS1⟩
  have HK1' := HK1
  obtain ⟨H1, hR1⟩ := HK1.out.rep
  have EA := hide (each_having (ρ := fr ρ w.heap.size) (w := W1) (g := w.heap.size) (base := w.heap.size + 1) (k := k) (cell_of_block HK1.out.blk rfl) (cell_of_block HK1.out.blk rfl) (cell_of_block HK1.out.blk rfl) (by omega) hne (lt_of_block HK1.out.blk) hR1 HK1.out.inv HK1.out.lits hcl HG1.out (fun b hb => fr_new (by have := HS1.out; omega)) HS1.out)
  clear hR1 c6 z6 hmm heq HK
  generalize hgg : w.heap.size = g at *
  have HGG := hide hgg
  clear hgg
  go_upto_region 4 with (go_at_call 32; refine (unhide EA).mono ?_; rintro e W2 ⟨rfl, hG2, hN2⟩)
  have HK2 := hide (HK1.out.nf hN2 (by omega) hne)
  have HE2 : Hid (EvN k ρ w (fr ρ g) W2) := by
    refine ⟨hN2.os.trans HE1.out.os, hN2.tape.trans HE1.out.tape, hN2.output.trans HE1.out.output, Nat.le_trans HE1.out.size hN2.size, HE1.out.agree, fun b hb hbk hr => ?_⟩
    rw [HGG.out] at hb
    exact (hN2.keep b (by have := HS1.out; omega) (.inr ⟨by omega, by omega⟩)).trans (HE1.out.keep b (by rw [HGG.out]; exact hb) hbk hr)
  have HS2 : Hid (g + 1 ≤ W2.heap.size) := Nat.le_trans HS1.out hN2.size
  have HG2 := hide hG2
  clear hG2 hN2 EA HK1 HG1 HE1 HS1 HK1'
  generalize hF : noteL s.cls 0 (fun _ => []) = F at *
  have HF := hide hF
  clear hF
  have hfr : ∀ b, W2.drew.heap.size ≤ b → fr ρ g b = oth := fun b hb => fr_new (by have := HS2.out; have : W2.drew.heap.size = W2.heap.size := rfl; omega)
  have hG2d : Gro Try.prog 3 3 (fr ρ g) W2.drew g (g + 1) (4096 * s.cls.length) (litF F) := HG2.out.ev (fun _ _ => rfl) (fun _ _ _ => rfl)
  obtain ⟨a1, cap1, hlook, hoi, hlen, hro, hback⟩ := gro_at3 hG2d (by unfold maxLen; omega) hfr l h0 h1
  have hK2d := HK2.out.drewN 1
  have D66 := del66 hK2d (by omega) a1 cap1 (F l) (ints_row hoi) HZ.out (by omega)
  have c6 : W2.cell? ⟨k, 6, none⟩ = some (.map (some g)) := cell_of_block HK2.out.blk rfl
  have D67 : Hid (Calls Try.prog 61 #[.slice a1 (F l).length cap1, .func (.func 62) #[.pointer (some ⟨k, 0, none⟩)] #[]] W2.drew fun e w' => e = .returned (.slice a1 (F l).length cap1) ∧ w'.cell? ⟨k, 6, none⟩ = some (.map (some g)) ∧ ∃ w4, (Instr.mapUpdate 51 (.map (some g)) (.int .i64 l) (.slice a1 (F l).length cap1)).run Try.prog w' = .ok () w4 ∧ Hid (Gro Try.prog 3 3 (fr ρ g) w4 g (g + 1) (4096 * s.cls.length + 1) (litF F)) ∧ Hid (NF (g + 1) g (fr ρ g) W2 w4)) := by
    refine D66.mono ?_
    rintro e w3 ⟨rfl, hb3⟩
    have hoi3 : w3.ownsInts (g + 1) 3 .i64 (.slice a1 (F l).length cap1) (F l) := ⟨own_same hoi.1 (fun b hb => hb3.block b ((hoi.1.lt b hb).2)), hoi.2⟩
    obtain ⟨w4, q1, q2, q3⟩ := hback w3 (.slice a1 (F l).length cap1) (F l) (below_grown hb3 _) hoi3 (by omega) (.inl rfl)
    rw [updI_id] at q2
    have hkl2 : k < W2.heap.size := lt_of_block HK2.out.blk
    exact ⟨rfl, (hb3.cell (p := ⟨k, 6, none⟩) hkl2).trans c6, w4, q1, q2, (NF.below (base := g + 1) (g := g) (ρ := fr ρ g) (w := W2) (w' := w3) ⟨hb3.os, hb3.tape, hb3.output, hb3.size, hb3.block⟩).trans (NF.grown q3 (fun b e => by cases e; exact ⟨HG2.out.ro, .inr rfl⟩))⟩
  clear hback D66 hK2d hG2d hfr hoi hro
  generalize hZ : (F l).length = Z at *
  have HZL := hide hZ
  clear hZ
  go_cut [] from 18 to 31 (fun wx => Hid (Gro Try.prog 3 3 (fr ρ g) wx g (g + 1) (4096 * s.cls.length + 1) (litF F)) ∧ Hid (NF (g + 1) g (fr ρ g) W2 wx))
  case first =>
    go_region_law (go_simp; go_at_call 61; refine (unhide D67).mono ?_; rintro e w3 ⟨rfl, k63, w4, hr4, HG4, HN4⟩)
    all_goals
      go_wp2_with fail
      go_meet
      case rel => exact ⟨HG4, HN4⟩
  case rest =>
  obtain ⟨HG4, HN4⟩ := hcut
  have hfr : ∀ b, wc.heap.size ≤ b → fr ρ g b = oth := fun b hb => fr_new (by have := HS2.out; have := HN4.out.size; omega)
  obtain ⟨a5, cap5, hlook5, hoi5, hlen5, hro5, _⟩ := gro_at3 HG4.out (by unfold maxLen; omega) hfr l h0 h1
  have HK4 := hide (HK2.out.nf HN4.out (by omega) hne)
  have k6 : wc.cell? ⟨k, 6, none⟩ = some (.map (some g)) := cell_of_block HK4.out.blk rfl
  have HE4 : Hid (EvN k ρ w (fr ρ g) wc) := by
    refine ⟨HN4.out.os.trans HE2.out.os, HN4.out.tape.trans HE2.out.tape, HN4.out.output.trans HE2.out.output, Nat.le_trans HE2.out.size HN4.out.size, HE2.out.agree, fun b hb hbk hr => ?_⟩
    rw [HGG.out] at hb
    exact (HN4.out.keep b (by have := HS2.out; omega) (.inr ⟨by omega, by omega⟩)).trans (HE2.out.keep b (by rw [HGG.out]; exact hb) hbk hr)
  have HOI := hide hoi5
  have HRO := hide hro5
  clear hoi5 hro5 D67 hlook c6 HK2 HE2 HG2 HN4 hfr
  rw [HZL.out] at hlook5
  go_wp2
  go_ret
  refine ⟨g, g + 1, a5, cap5, by rw [HF.out, HZL.out]; rfl, by rw [HF.out]; exact HOI.out, ?_, by rw [HGG.out]; exact HK4.out, by rw [HGG.out, HF.out]; exact HG4.out, by rw [HGG.out]; exact HE4.out, by rw [HGG.out]; exact Nat.le_refl _, rfl⟩
  intro b hb
  rw [HF.out] at hb
  rw [HGG.out]
  exact ⟨HRO.out b hb, (HOI.out.1.lt b hb).1⟩
end Go.Proofs.Ytlmbgaconjcaiab

namespace Go.Proofs.Ytlmbgaconjcaiab
open Go.RowKit

/-- Numbers of clauses. -/
def Num (s : PS) (zs : List Int) : Prop := ∀ z ∈ zs, ∃ (i : Nat) (c : Cl), z = (i : Int) ∧ s.cls[i]? = some c
/-- Whether the clause of a number is there. -/
def thB (s : PS) (z : Int) : Bool := match s.cls[z.toNat]? with
  | some c => !c.gone
  | none => false
theorem thB_at {s : PS} {i : Nat} {c : Cl} (h : s.cls[i]? = some c) : thB s (i : Int) = !c.gone := by
  unfold thB
  rw [Int.toNat_natCast, h]

theorem KP.grown {ρ : Nat → Rl} {w w' : World} {k B : Nat} {s : PS} {x1 x2 x3 x4 : Int} {m1 m2 : Value} (h : KP ρ w k B s x1 x2 x3 x4 m1 m2) {row : Option Nat} (hg : w.grownBy w' row) (hr : ∀ b, row = some b → ρ b = oth ∧ b ≠ k) : KP ρ w' k B s x1 x2 x3 x4 m1 m2 := by
  obtain ⟨H, hR⟩ := h.rep
  exact ⟨⟨H, hR.off (fun b hb hn => hg.block b hb (fun e => hn (hr b e.symm).1))⟩, (hg.block k (lt_of_block h.blk) (fun e => (hr k e.symm).2 rfl)).trans h.blk, h.ro, h.inv, h.cnt, h.lits⟩

set_option maxHeartbeats 1000000 in
set_option maxRecDepth 100000 in
theorem index82g {ρ : Nat → Rl} {w : World} {k B : Nat} {s : PS} {x1 x2 x3 x4 : Int} {m1 m2 : Value} (h : KP ρ w k B s x1 x2 x3 x4 m1 m2) (hn : s.cls.length ≤ 1048576) (a : Option Addr) (cap : Nat) (zs : List Int) (hr : Row w a zs) (hz : Num s zs) (hl : zs.length ≤ 4000000000) :
    Calls Try.prog 74 #[.slice a zs.length cap, .func (.func 62) #[.pointer (some ⟨k, 0, none⟩)] #[]] w fun e w' => e = .returned (.int .i64 (idxI (thB s) zs 0)) ∧ Below w.heap.size w w' := by
  have HK := hide h
  have HR := hide hr
  have HZ := hide hz
  clear h hr hz
  obtain ⟨n, hnz⟩ : ∃ n, n = zs.length := ⟨_, rfl⟩
  have HN := hide hnz
  rw [← hnz] at hl ⊢
  clear hnz
  go_enter Try.func74, Try.ntmps74
  go_wp2
  go_loopw [8] (fun j wr => ∃ i : Nat, i ≤ n ∧ j = .int .i64 (i : Int) ∧ Hid (idxI (thB s) (zs.drop i) i = idxI (thB s) zs 0) ∧ Hid (Below w.heap.size w wr)) (fun j _ => n - (intOf j).toNat)
  case atStart => exact ⟨0, Nat.zero_le _, rfl, rfl, Below.refl _ _⟩
  case round =>
    obtain ⟨i, hi, rfl, HS, HB⟩ := hrel
    by_cases hlt : i < n
    · have hii : (i : Int) < n := by omega
      have hlz : i < zs.length := by rw [← HN.out]; exact hlt
      obtain ⟨b, off, rfl, hb, hc⟩ := (HR.out.below HB.out) i hlz
      obtain ⟨j, c, e, hj⟩ := HZ.out zs[i] (List.getElem_mem hlz)
      have G := keeperGone_any (HK.out.below HB.out) j c hj hn
      have hth := thB_at hj
      rw [← e] at G hth
      have HS2 := HS.out
      rw [List.drop_eq_getElem_cons hlz] at HS2
      simp only [idxI] at HS2
      clear hj e
      generalize zs[i] = z at *
      cases hg : c.gone with
      | false =>
        rw [hg] at G hth
        rw [hth] at HS2
        simp only [Bool.not_false, if_true] at HS2
        replace G := hide G
        replace HS2 := hide HS2
        clear hth hg
        go_wp2_with (go_at_call 62; refine (unhide G).mono ?_; rintro e w1 ⟨rfl, hb1⟩)
        have HB1 := hide (HB.out.trans (hb1.mono HB.out.size))
        clear hb1 G
        go_wp2
        go_roundw
        case rel => exact ⟨i + 1, by omega, by go_num, HS2, HB1⟩
        case measure => simp [intOf]; omega
      | true =>
        rw [hg] at G hth
        rw [hth] at HS2
        simp only [Bool.not_true, Bool.false_eq_true, if_false] at HS2
        replace G := hide G
        replace HS2 := hide HS2
        clear hth hg
        go_wp2_with (go_at_call 62; refine (unhide G).mono ?_; rintro e w1 ⟨rfl, hb1⟩)
        have HB1 := hide (HB.out.trans (hb1.mono HB.out.size))
        clear hb1 G
        go_ret
        exact ⟨ret_int HS2.out, HB1.out⟩
    · have HS2 := HS.out
      rw [List.drop_eq_nil_of_le (by rw [← HN.out]; omega)] at HS2
      replace HS2 := hide HS2
      go_wp2
      go_ret
      exact ⟨ret_int HS2.out, HB.out⟩

theorem zero3 (w : World) : (zeroValue 3).run Try.prog w = .ok (.int .i64 0) w := by kernel_rfl
theorem ints_set (zs : List Int) (i : Nat) (x : Int) : (zs.map (Value.int .i64)).set i (.int .i64 x) = (zs.set i x).map (Value.int .i64) := by simp [List.map_set]

set_option maxHeartbeats 4000000 in
set_option maxRecDepth 100000 in
theorem del66g {ρ : Nat → Rl} {w : World} {k B base : Nat} {s : PS} {x1 x2 x3 x4 : Int} {m1 m2 : Value} (h : KP ρ w k B s x1 x2 x3 x4 m1 m2) (hn : s.cls.length ≤ 1048576) (a : Option Addr) (cap : Nat) (zs : List Int) (hown : w.ownsInts base 3 .i64 (.slice a zs.length cap) zs) (hz : Num s zs) (hl : zs.length ≤ 4000000000) (hro : ∀ b, Value.ownBlock (.slice a zs.length cap) = some b → ρ b = oth ∧ b ≠ k) :
    Calls Try.prog 61 #[.slice a zs.length cap, .func (.func 62) #[.pointer (some ⟨k, 0, none⟩)] #[]] w fun e w' => e = .returned (.slice a (zs.filter (thB s)).length cap) ∧ w.grownBy w' (Value.ownBlock (.slice a zs.length cap)) ∧ w'.ownsInts base 3 .i64 (.slice a (zs.filter (thB s)).length cap) (zs.filter (thB s)) := by
  have IX := index82g h hn a cap zs (ints_row hown) hz hl
  have hwf : ∀ z ∈ zs.filter (thB s), (Lit.int .i64 z).wf = true := fun z hz => hown.2 z (List.mem_filter.1 hz).1
  rcases idxI_cases (thB s) zs 0 with ⟨h1, h2⟩ | ⟨m, h1, h2, h3⟩
  · rw [h1] at IX
    replace IX := hide IX
    have HF : Hid (∀ w', Below w.heap.size w w' → w.grownBy w' (Value.ownBlock (.slice a zs.length cap)) ∧ w'.ownsInts base 3 .i64 (.slice a (zs.filter (thB s)).length cap) (zs.filter (thB s))) := by
      intro w' hb
      rw [h2]
      exact ⟨below_grown hb _, own_same hown.1 (fun b e => hb.block b ((hown.1.lt b e).2)), hown.2⟩
    have HN : Hid ((zs.filter (thB s)).length = zs.length) := by unfold Hid; rw [h2]
    clear h hown hz h1 h2 hwf hro
    generalize zs.length = n at *
    go_enter Try.func61, Try.ntmps61
    go_wp2_with (go_at_call 74; refine (unhide IX).mono ?_; rintro e w1 ⟨rfl, hb1⟩)
    go_ret
    exact ⟨by rw [HN.out]; rfl, HF.out w1 hb1⟩
  · rw [h2] at IX
    have e0 : ((0 + m : Nat) : Int) = (m : Int) := by omega
    rw [e0] at IX
    replace IX := hide IX
    obtain ⟨g, cap', ev, hc1, hc2, hglt⟩ := own_some hown.1 (by omega)
    simp at ev; obtain ⟨rfl, rfl⟩ := ev
    obtain ⟨r1, r2⟩ := hro g rfl
    have HM : Hid (Mid (thB s) zs m (m + 1) zs) := ⟨rfl, by omega, by omega, h3, rfl⟩
    have HO := hide hown.1
    have HK := hide h
    have HZ := hide hz
    have HWF := hide hwf
    unfold maxLen at hc2
    have em : ((m : Int) == -1) = false := by simp
    obtain ⟨n, hnz⟩ : ∃ n, n = zs.length := ⟨_, rfl⟩
    have HN := hide hnz
    rw [← hnz] at hl hc1 h1 HO IX ⊢
    clear h hown hz h2 h3 e0 hnz hwf hro
    go_enter Try.func61, Try.ntmps61
    go_wp2_with (go_at_call 74; refine (unhide IX).mono ?_; rintro e w1 ⟨rfl, hb1⟩)
    have HO1 : Hid (w1.ownsRow base 3 1 (.slice (some ⟨g, 0, none⟩) n cap) n (zs.map (Value.int .i64))) := own_same HO.out (fun b e => hb1.block b ((HO.out.lt b e).2))
    have HG1 : Hid (w.grownBy w1 (some g)) := below_grown hb1 _
    clear hb1 HO IX
    go_loopw [5, 6] (fun pi pj wr => ∃ (i j : Nat) (raw : List Int), pi = .int .i64 i ∧ pj = .int .i64 j ∧ i < j ∧ j ≤ n ∧ Hid (Mid (thB s) zs i j raw) ∧ Hid (wr.ownsRow base 3 1 (.slice (some ⟨g, 0, none⟩) n cap) n (raw.map (Value.int .i64))) ∧ Hid (w.grownBy wr (some g))) (fun _ pj _ => n - (intOf pj).toNat)
    case atStart => exact ⟨m, m + 1, zs, rfl, by go_num, by omega, by omega, HM, HO1, HG1⟩
    case round =>
      clear HO1 HG1 HM
      obtain ⟨i, j, raw, rfl, rfl, hij, hjn, HM, HO, HG⟩ := hrel
      have hii : (i : Int) < n := by omega
      by_cases hlt : j < n
      · have hji : (j : Int) < n := by omega
        have hjl : j < zs.length := by rw [← HN.out]; exact hlt
        have hc := own_cell (i := j) HO.out rfl (u := .int .i64 zs[j]) (by simp [HM.out.at hjl])
        have hrl : i < raw.length := by rw [HM.out.len]; omega
        obtain ⟨q, c, ez, hj⟩ := HZ.out zs[j] (List.getElem_mem hjl)
        have G := keeperGone_any (HK.out.grown HG.out (fun b e => by cases e; exact ⟨r1, r2⟩)) q c hj hn
        have hth := thB_at hj
        rw [← ez] at G hth
        have hci : ∀ w2, Below wr.heap.size wr w2 → w2.cell? ⟨g, i, none⟩ = some (.int .i64 raw[i]) ∧ w2.frozen? ⟨g, i, none⟩ = false := fun w2 hb => by
          have ho2 : w2.ownsRow base 3 1 (.slice (some ⟨g, 0, none⟩) n cap) n (raw.map (Value.int .i64)) := own_same HO.out (fun b e => hb.block b ((HO.out.lt b e).2))
          exact ⟨own_cell (i := i) ho2 rfl (by simp [List.getElem?_eq_getElem hrl]), own_fz ho2 rfl i⟩
        have M1 := hide (HM.out.no hjl)
        have M2 := hide (HM.out.yes hjl)
        have HS : Hid ((raw.map (Value.int .i64)).set i (.int .i64 zs[j]) = (raw.set i zs[j]).map (Value.int .i64)) := ints_set raw i zs[j]
        clear hj ez
        generalize zs[j] = x at *
        generalize raw[i] = y at *
        cases hA : c.gone with
        | false =>
          rw [hA] at G hth
          replace hth := hide hth
          replace G := hide G
          go_wp2_with (go_at_call 62; refine (unhide G).mono ?_; rintro e w1 ⟨rfl, hb1⟩; obtain ⟨hc1', hf1'⟩ := hci w1 hb1)
          have HO1 : Hid (w1.ownsRow base 3 1 (.slice (some ⟨g, 0, none⟩) n cap) n (raw.map (Value.int .i64))) := own_same HO.out (fun b e => hb1.block b ((HO.out.lt b e).2))
          have HG1 : Hid (w.grownBy w1 (some g)) := grownBy_trans HG.out (below_grown hb1 _)
          go_roundw
          case rel => exact ⟨i + 1, j + 1, raw.set i x, by go_num, by go_num, by omega, by omega, M2.out hth.out, by have := own_set (i := i) HO1.out rfl (.int .i64 x); rw [HS.out] at this; exact this, grownBy_trans HG1.out (grownBy_set _ _ _ _)⟩
          case measure => simp [intOf]; omega
        | true =>
          rw [hA] at G hth
          replace hth := hide hth
          replace G := hide G
          go_wp2_with (go_at_call 62; refine (unhide G).mono ?_; rintro e w1 ⟨rfl, hb1⟩)
          have HO1 : Hid (w1.ownsRow base 3 1 (.slice (some ⟨g, 0, none⟩) n cap) n (raw.map (Value.int .i64))) := own_same HO.out (fun b e => hb1.block b ((HO.out.lt b e).2))
          have HG1 : Hid (w.grownBy w1 (some g)) := grownBy_trans HG.out (below_grown hb1 _)
          go_roundw
          case rel => exact ⟨i, j + 1, raw, rfl, by go_num, by omega, by omega, M1.out hth.out, HO1, HG1⟩
          case measure => simp [intOf]; omega
      · obtain ⟨d1, d2, d3⟩ := HM.out.done (by rw [← HN.out]; exact hlt)
        have hclw : ∀ ty, (Builtin.clear_ #[32] ty #[.slice (some ⟨g, i, none⟩) (n - i) (cap - i)]).run Try.prog wr = .ok (.tuple #[]) (wr.setCells g i (Builtin.zeroCells (Value.int .i64 0).cells (n - i)).toList) :=
          fun ty => run_clear_any wr 32 3 ty _ 1 Try.underlying32 zero3 rfl (by decide) (by simp [Value.cells, Value.oneCell']) g i (n - i) (cap - i) (by omega) (fun j hj => own_isSome HO.out (by omega)) (fun j _ => own_fz HO.out rfl _)
        have HF : Hid (w.grownBy (wr.setCells g i (Builtin.zeroCells (Value.int .i64 0).cells (n - i)).toList) (some g) ∧ (wr.setCells g i (Builtin.zeroCells (Value.int .i64 0).cells (n - i)).toList).ownsInts base 3 .i64 (.slice (some ⟨g, 0, none⟩) (zs.filter (thB s)).length cap) (zs.filter (thB s))) := by
          refine ⟨grownBy_trans HG.out (grownBy_sets g _ _ _), ?_, HWF.out⟩
          have h2 := own_cut HO.out (m := i) (by omega)
          have e : (raw.map (Value.int .i64)).take (i * 1) = (zs.filter (thB s)).map (Value.int .i64) := by rw [← d1]; simp
          rw [e, d2] at h2
          rw [d2]
          refine own_sets_beyond rfl _ _ _ h2 ?_
          simp
        have HD := hide d2
        have hne : ¬ cap = i := by omega
        have hic : (i : Int) ≤ cap := by omega
        clear d1 d2 d3 HM HO
        go_wp2
        go_ret
        exact ⟨by rw [← HD.out]; rfl, HF.out⟩
end Go.Proofs.Ytlmbgaconjcaiab

namespace Go.Proofs.Ytlmbgaconjcaiab

/-- No literal and its negation. -/
def Con (t : List Int) : Prop := ∀ x ∈ t, -x ∉ t
theorem Con.snoc {t : List Int} (h : Con t) {u : Int} (h0 : u ≠ 0) (h1 : u ∉ t) (h2 : -u ∉ t) : Con (t ++ [u]) := by
  intro x hx
  rw [List.mem_append] at hx ⊢
  rintro (hy | hy)
  · rcases hx with hx | hx
    · exact h x hx hy
    · simp at hx; subst hx; exact h2 hy
  · simp at hy
    rcases hx with hx | hx
    · exact h2 (by rw [← hy]; simpa using hx)
    · simp at hx; omega

/-- How many clauses have no true literal. -/
def openN (cs : List (List Int)) (t : List Int) : Nat := (cs.filter (fun c => !c.any (fun x => decide (x ∈ t)))).length
theorem openN_le (cs : List (List Int)) (t : List Int) : openN cs t ≤ cs.length := List.length_filter_le _ _
theorem filter_lt {α : Type} {p q : α → Bool} : ∀ (l : List α), (∀ x ∈ l, q x = true → p x = true) → (∃ x ∈ l, p x = true ∧ q x = false) → (l.filter q).length < (l.filter p).length
  | [], _, h => by obtain ⟨x, hx, _⟩ := h; simp at hx
  | a :: l, hi, h => by
    have hle : (l.filter q).length ≤ (l.filter p).length := by
      clear h
      induction l with
      | nil => simp
      | cons b r ih =>
        have := ih (fun x hx => hi x (by simp at hx ⊢; rcases hx with rfl | hx <;> simp [*]))
        have hb := hi b (by simp)
        cases hq : q b <;> cases hp : p b <;> simp [List.filter_cons, hq, hp] <;> first | omega | (rw [hb hq] at hp; cases hp)
    obtain ⟨x, hx, h1, h2⟩ := h
    rcases List.mem_cons.1 hx with rfl | hx
    · simp [List.filter_cons, h1, h2]; omega
    · have ih := filter_lt l (fun y hy => hi y (by simp [hy])) ⟨x, hx, h1, h2⟩
      have hb := hi a (by simp)
      cases hq : q a <;> cases hp : p a <;> simp [List.filter_cons, hq, hp] <;> first | omega | (rw [hb hq] at hp; cases hp)

/-- Where the document's following ends. -/
structure Fin (cs : List (List Int)) (t : List Int) (r : List Int × Bool) : Prop where
  pre : ∀ x ∈ t, x ∈ r.1
  con : Con r.1
  cl : r.2 = false → ∀ c ∈ cs, brokenP r.1 c = false ∧ unitR r.1 c 0 = 0

theorem follows_fin {cs : List (List Int)} (h0 : ∀ c ∈ cs, (0 : Int) ∉ c) : ∀ (fuel : Nat) (t : List Int), Con t → openN cs t < fuel → Fin cs t (followsP cs fuel t)
  | 0, t, hn, hf => by omega
  | k + 1, t, hn, hf => by
    unfold followsP
    cases e : nextP t cs 0 with
    | none => exact ⟨fun _ h => h, hn, (fun h => by cases h)⟩
    | some u =>
      obtain ⟨a1, a2, a3⟩ := nextP_some cs 0 u e
      by_cases eu : u = 0
      · simp only [eu, if_true]
        exact ⟨fun _ h => h, hn, fun _ c hc => ⟨a1 c hc, (a2 eu).2 c hc⟩⟩
      · simp only [eu, if_false]
        obtain ⟨c, hc, q⟩ : ∃ c ∈ cs, u = unitR t c 0 := by
          rcases a3 eu with q | q
          · exact absurd q eu
          · exact q
        obtain ⟨b1, b2, b3, b4⟩ := unit_ne (h0 c hc) (by rw [← q]; exact eu)
        rw [← q] at b1 b2 b3 b4
        have hlt : openN cs (t ++ [u]) < openN cs t := by
          unfold openN
          refine filter_lt cs (fun d hd h => ?_) ⟨c, hc, ?_, ?_⟩
          · simp at h ⊢
            intro x hx; exact (h x hx).1
          · simp
            intro x hx
            rcases b4 x hx with rfl | hy
            · exact b2
            · intro ht; exact hn x ht hy
          · simp; exact ⟨u, b1, .inr rfl⟩
        have := follows_fin h0 k (t ++ [u]) (hn.snoc eu b2 b3) (by omega)
        exact ⟨fun x hx => this.pre x (List.mem_append.2 (.inl hx)), this.con, this.cl⟩

section
variable {s : PS}
/-- What is closed has the trail, but for what stands in no clause. -/
theorem closed_but (h : Inv s) {cs : List (List Int)} (ha : Alv s cs) {t : List Int} {sp : Int} (hn : Con t) (hcl : ∀ c ∈ cs, brokenP t c = false ∧ unitR t c 0 = 0) (hs : ∀ c ∈ cs, ∀ x ∈ c, -x ≠ sp) (hd : ∀ x ∈ s.dec, x ∈ t ∨ x = sp) : ∀ x ∈ s.trail, x ∈ t ∨ x = sp := by
  have key : ∀ (n i : Nat) (x : Int), i < n → s.trail[i]? = some x → x ∈ t ∨ x = sp := by
    intro n
    induction n with
    | zero => intro i x hi; omega
    | succ n ih =>
      intro i x hi hx
      obtain ⟨r, _, hR⟩ := h.tr.fc i x hx
      rcases hR with ⟨_, u, hu, e⟩ | ⟨_, k, c, _, e2, e3, e4, e5⟩
      · refine hd x ?_
        unfold PS.dec
        refine List.mem_map.2 ⟨u, hu, ?_⟩
        rw [e, List.getD_eq_getElem?_getD, hx]; rfl
      · left
        have hL : c.lits ∈ cs := (ha _).2 ⟨k, c, e2, e3, rfl⟩
        have hlt := Alv.lt h ha c.lits hL
        obtain ⟨q1, q2⟩ := hcl c.lits hL
        have hall : ∀ y ∈ c.lits, y = x ∨ -y ∈ t := by
          intro y hy
          by_cases e : y = x
          · exact .inl e
          · obtain ⟨j, j1, j2⟩ := mem_take_iff.1 (e5 y hy e)
            rcases ih j (-y) (by omega) j2 with q | q
            · exact .inr q
            · exact absurd q (hs c.lits hL y hy)
        rcases unit_zero x c.lits 0 (zero_not hlt) (hlt x e4).1 q2 (.inl rfl) hall (fun y hy h1 h2 => hn y h2 h1) (.inl e4) with q | q
        · exact q
        · exfalso
          have : brokenP t c.lits = true := by
            unfold brokenP
            rw [List.all_eq_true]
            intro y hy
            rcases hall y hy with rfl | hy'
            · simpa using q
            · simpa using hy'
          rw [q1] at this; cases this
  intro x hx
  obtain ⟨i, hi⟩ := List.mem_iff_getElem?.1 hx
  exact key (i + 1) i x (by omega) hi

/-- What is told of a clause is what the document's following tells of its negations. -/
theorem told_ref (h : Inv s) {cs : List (List Int)} (ha : Alv s cs) {c : List Int} {b : Bool} {sp : Int} {fuel : Nat} (hT : Told s c b) (hcon : Con c) (hs : ∀ d ∈ cs, ∀ x ∈ d, -x ≠ sp) (hsc : ∀ x ∈ c, x ≠ sp) (hd : ∀ x ∈ s.dec, -x ∈ c ∨ x = sp) (hf : cs.length < fuel) :
    (followsP cs fuel (c.map (fun x => -x))).2 = b := by
  have hneg : ∀ x, x ∈ c.map (fun x => -x) ↔ -x ∈ c := by
    intro x
    rw [List.mem_map]
    constructor
    · rintro ⟨y, hy, rfl⟩; simpa using hy
    · intro hx; exact ⟨-x, hx, by simp⟩
  rcases hT with ⟨rfl, hT⟩ | ⟨rfl, hl, hh, hc⟩
  · have hcn : Con (c.map (fun x => -x)) := by
      intro x hx hy
      rw [hneg] at hx hy
      exact hcon _ hx hy
    have hF := follows_fin (fun d hd => zero_not (Alv.lt h ha d hd)) fuel _ hcn (by have := openN_le cs (c.map (fun x => -x)); omega)
    cases e : (followsP cs fuel (c.map (fun x => -x))).2 with
    | true => rfl
    | false =>
      exfalso
      have hcl := hF.cl e
      have hsub := closed_but h ha hF.con hcl hs (fun x hx => by
        rcases hd x hx with q | q
        · exact .inl (hF.pre x ((hneg x).2 q))
        · exact .inr q)
      rcases hT with ⟨l, hlc, hlt⟩ | ⟨n, i, d, _, e1, e2, e3⟩
      · rcases hsub l hlt with q | q
        · exact hF.con l q (hF.pre (-l) ((hneg (-l)).2 (by simpa using hlc)))
        · exact hsc l hlc q
      · have hL : d.lits ∈ cs := (ha _).2 ⟨i, d, e1, e2, rfl⟩
        have q : brokenP (followsP cs fuel (c.map (fun x => -x))).1 d.lits = true := by
          unfold brokenP
          rw [List.all_eq_true]
          intro y hy
          rcases hsub _ (e3 y hy) with q | q
          · simpa using q
          · exact absurd q (hs d.lits hL y hy)
        rw [(hcl d.lits hL).1] at q; cases q
  · exact (follows_in h hl hh ha fuel _ (fun x hx => by
      have := hc _ ((hneg x).1 hx)
      simpa using this)).1
/-- A clause with a literal and its negation is told of at once. -/
theorem told_taut (h : Inv s) {c : List Int} {b : Bool} (hT : Told s c b) (ht : ¬ Con c) : b = true := by
  rcases hT with ⟨rfl, _⟩ | ⟨_, _, _, hc⟩
  · rfl
  · exfalso
    apply ht
    intro x hx hy
    have h1 := hc x hx
    have h2 := hc (-x) hy
    rw [Int.neg_neg] at h2
    have hl := h.tr.ok x h2
    have a := (h.vone hl).2 h2
    have b := (h.vneg hl).2 h1
    omega
end
end Go.Proofs.Ytlmbgaconjcaiab

namespace Go.Proofs.Ytlmbgaconjcaiab

section
variable {s t : PS}
/-- Where more was decided, and all that follows is there, all is there that was. -/
theorem trail_sub (h : Inv s) (h' : Inv t) (hk : t.cls.map key = s.cls.map key) (hl : t.late = []) (hh : t.head = t.trail.length) (hd : ∀ x ∈ s.dec, x ∈ t.trail) : ∀ x ∈ s.trail, x ∈ t.trail := by
  have key' : ∀ (n i : Nat) (x : Int), i < n → s.trail[i]? = some x → x ∈ t.trail := by
    intro n
    induction n with
    | zero => intro i x hi; omega
    | succ n ih =>
      intro i x hi hx
      obtain ⟨r, _, hR⟩ := h.tr.fc i x hx
      rcases hR with ⟨_, u, hu, e⟩ | ⟨_, k, c, _, e2, e3, e4, e5⟩
      · refine hd x ?_
        unfold PS.dec
        refine List.mem_map.2 ⟨u, hu, ?_⟩
        rw [e, List.getD_eq_getElem?_getD, hx]; rfl
      · have hall : ∀ y ∈ c.lits, y = x ∨ -y ∈ t.trail := by
          intro y hy
          by_cases e : y = x
          · exact .inl e
          · obtain ⟨j, j1, j2⟩ := mem_take_iff.1 (e5 y hy e)
            exact .inr (ih j (-y) (by omega) j2)
        obtain ⟨c', c1, c2, c3⟩ := keys_get hk (keys_at rfl e2)
        simp only at c2 c3
        rw [e3] at c3
        have hneg : ∀ x, Lt t.vars x → x ∈ t.trail → -x ∉ t.trail := fun x hx hm => nd_neg h'.tr.nd hx.1 hm
        rcases done_ok h' hl hh c1 c3 with ⟨y, y1, y2⟩ | ⟨y, z, y1, y2, y3, y4, y5⟩
        · have hy := h'.wt.ok k c' c1 y y1
          rw [c2] at y1
          rcases hall y y1 with rfl | q
          · exact y2
          · exact absurd q (hneg y hy y2)
        · rw [List.take_of_length_le (Nat.le_refl _)] at y4 y5
          rw [c2] at y1 y2
          rcases hall y y1 with rfl | q
          · rcases hall z y2 with rfl | q
            · exact absurd rfl y3
            · exact absurd q y5
          · exact absurd q y4
  intro x hx
  obtain ⟨i, hi⟩ := List.mem_iff_getElem?.1 hx
  exact key' (i + 1) i x (by omega) hi

theorem Told.more {c d : List Int} (h : Told t c true) : Told t (c ++ d) true := by
  rcases h with ⟨_, ⟨l, h1, h2⟩ | h⟩ | ⟨h, _⟩
  · exact .inl ⟨rfl, .inl ⟨l, List.mem_append_left _ h1, h2⟩⟩
  · exact .inl ⟨rfl, .inr h⟩
  · cases h
/-- What is told of a clause, where another one's literals are supposed to be false. -/
theorem told_both (h : Inv s) (h' : Inv t) (hk : t.cls.map key = s.cls.map key) (hd : ∀ x ∈ s.dec, x ∈ t.dec) {c d : List Int} {b : Bool} (hc : Told s c false) (hT : Told t d b) : Told t (c ++ d) b := by
  rcases hT with ⟨rfl, ⟨l, h1, h2⟩ | hB⟩ | ⟨rfl, h1, h2, h3⟩
  · exact .inl ⟨rfl, .inl ⟨l, List.mem_append_right _ h1, h2⟩⟩
  · exact .inl ⟨rfl, .inr hB⟩
  · refine .inr ⟨rfl, h1, h2, fun l hl => ?_⟩
    rcases hc with ⟨hc, _⟩ | ⟨_, _, _, hc⟩
    · cases hc
    · rcases List.mem_append.1 hl with hl | hl
      · exact trail_sub h h' hk h1 h2 (fun x hx => dec_trail h' x (hd x hx)) _ (hc l hl)
      · exact h3 l hl
end
end Go.Proofs.Ytlmbgaconjcaiab

namespace Go.Proofs.Ytlmbgaconjcaiab

theorem noteF_mem (n : Int) (f : Int → List Int) (l x z : Int) : z ∈ noteF n f l x ↔ z ∈ f x ∨ (x = l ∧ z = n) := by
  unfold noteF
  by_cases h : (f l).getLast? = some n
  · rw [if_pos h]
    constructor
    · exact .inl
    · rintro (h1 | ⟨rfl, rfl⟩)
      · exact h1
      · exact List.mem_of_getLast? h
  · rw [if_neg h]
    by_cases e : x = l
    · subst e
      rw [updI_same, List.mem_append]
      simp
    · rw [updI_other _ _ e]
      constructor
      · exact .inl
      · rintro (h1 | ⟨h1, _⟩)
        · exact h1
        · exact absurd h1 e
theorem noteC_mem (n : Int) (x z : Int) : ∀ (c : List Int) (f : Int → List Int), z ∈ noteC n f c x ↔ z ∈ f x ∨ (x ∈ c ∧ z = n)
  | [], f => by simp [noteC]
  | l :: r, f => by
    show z ∈ noteC n (noteF n f l) r x ↔ _
    rw [noteC_mem n x z r, noteF_mem]
    simp only [List.mem_cons]
    constructor
    · rintro ((h | ⟨h1, h2⟩) | ⟨h1, h2⟩)
      · exact .inl h
      · exact .inr ⟨.inl h1, h2⟩
      · exact .inr ⟨.inr h1, h2⟩
    · rintro (h | ⟨h1 | h1, h2⟩)
      · exact .inl (.inl h)
      · exact .inl (.inr ⟨h1, h2⟩)
      · exact .inr ⟨h1, h2⟩
theorem noteL_mem (x z : Int) : ∀ (cls : List Cl) (j : Nat) (f : Int → List Int), z ∈ noteL cls j f x ↔ z ∈ f x ∨ ∃ (i : Nat) (c : Cl), cls[i]? = some c ∧ c.gone = false ∧ x ∈ c.lits ∧ z = ((j + i : Nat) : Int)
  | [], j, f => by simp [noteL]
  | d :: r, j, f => by
    show z ∈ noteL r (j + 1) _ x ↔ _
    rw [noteL_mem x z r]
    constructor
    · rintro (h | ⟨i, c, h1, h2, h3, h4⟩)
      · cases hg : d.gone with
        | true => rw [hg] at h; exact .inl h
        | false =>
          rw [hg] at h
          simp only [Bool.false_eq_true, if_false] at h
          rw [noteC_mem] at h
          rcases h with h | ⟨h1, h2⟩
          · exact .inl h
          · exact .inr ⟨0, d, rfl, hg, h1, by simpa using h2⟩
      · exact .inr ⟨i + 1, c, by simpa using h1, h2, h3, by rw [h4]; congr 1; omega⟩
    · rintro (h | ⟨i, c, h1, h2, h3, h4⟩)
      · left
        split
        · exact h
        · rw [noteC_mem]; exact .inl h
      · cases i with
        | zero =>
          left
          simp at h1
          subst h1
          rw [h2]
          simp only [Bool.false_eq_true, if_false]
          rw [noteC_mem]
          exact .inr ⟨h3, by simpa using h4⟩
        | succ i => exact .inr ⟨i, c, by simpa using h1, h2, h3, by rw [h4]; congr 1; omega⟩
theorem noteL_key : ∀ (a b : List Cl) (j : Nat) (f : Int → List Int), a.map key = b.map key → noteL a j f = noteL b j f
  | [], [], _, _, _ => rfl
  | [], _ :: _, _, _, h => by simp at h
  | _ :: _, [], _, _, h => by simp at h
  | x :: r, y :: q, j, f, h => by
    simp only [List.map_cons, List.cons.injEq] at h
    have e1 : x.lits = y.lits := congrArg Prod.fst h.1
    have e2 : x.gone = y.gone := congrArg Prod.snd h.1
    show noteL r (j + 1) _ = noteL q (j + 1) _
    rw [e1, e2]
    exact noteL_key r q _ _ h.2
theorem here_note (s : PS) (l : Int) : Here s (noteL s.cls 0 (fun _ => []) l) := by
  intro z hz
  rcases (noteL_mem l z s.cls 0 _).1 hz with h | ⟨i, c, h1, h2, _, h4⟩
  · simp at h
  · exact ⟨i, c, by rw [h4, Nat.zero_add], h1, h2⟩

/-- What is told of a clause and another one's rest, of a state. -/
def FT (s : PS) (ds0 : List Int) (c rest : List Int) (b : Bool) : Prop :=
  ∃ t ds, Inv t ∧ Grw s t (ds0 ++ ds) ∧ (∀ d ∈ ds, -d ∈ c ++ rest) ∧ Told t (c ++ rest) b
/-- .. of the clause of a number. -/
def FOne (s : PS) (ds0 : List Int) (c : List Int) (l z : Int) (b : Bool) : Prop :=
  ∃ (i : Nat) (L : List Int), z = (i : Int) ∧ (s.cls.map key)[i]? = some (L, false) ∧
    ((b = true ∧ c.length + (wo L l).length ≤ 4096 ∧ FT s ds0 c (wo L l) true) ∨ (b = false ∧ (4096 < c.length + (wo L l).length ∨ FT s ds0 c (wo L l) false)))
def FirstB (s : PS) (ds0 : List Int) (c : List Int) (l : Int) (ns : List Int) (b : Bool) : Prop :=
  (b = true ∧ ∀ z ∈ ns, FOne s ds0 c l z true) ∨ (b = false ∧ ∃ z ∈ ns, FOne s ds0 c l z false)

theorem ft_yes {s t : PS} {ds0 ds : List Int} {c rest : List Int} (hI : Inv t) (hG : Grw s t (ds0 ++ ds)) (hd : ∀ d ∈ ds, -d ∈ c) (hT : Told t c true) : FT s ds0 c rest true :=
  ⟨t, ds, hI, hG, fun d h => List.mem_append_left _ (hd d h), hT.more⟩
theorem ft_both {s t u : PS} {ds0 ds dr : List Int} {c rest : List Int} {b : Bool} (hI : Inv t) (hG : Grw s t (ds0 ++ ds)) (hd : ∀ d ∈ ds, -d ∈ c) (hT : Told t c false) (hI' : Inv u) (hG' : Grw t u dr) (hd' : ∀ d ∈ dr, -d ∈ rest) (hT' : Told u rest b) : FT s ds0 c rest b := by
  refine ⟨u, ds ++ dr, hI', ?_, ?_, told_both hI hI' hG'.cl (fun x hx => by rw [hG'.dec]; exact List.mem_append_left _ hx) hT hT'⟩
  · have := hG.trans hG'
    rw [List.append_assoc] at this
    exact this
  · intro d h
    rcases List.mem_append.1 h with h | h
    · exact List.mem_append_left _ (hd d h)
    · exact List.mem_append_right _ (hd' d h)
end Go.Proofs.Ytlmbgaconjcaiab

namespace Go.Proofs.Ytlmbgaconjcaiab
open Go.RowKit

set_option maxHeartbeats 4000000 in
set_option maxRecDepth 100000 in
theorem each_two {ρ σ : Nat → Rl} {w : World} {g base k B : Nat} {H : Hd} {s : PS} (hk0 : w.cell? ⟨k, 0, none⟩ = some (.pointer (some ⟨B, 0, none⟩))) (hk3 : w.cell? ⟨k, 3, none⟩ = some (.int .i64 (s.cls.length : Int))) (hk6 : w.cell? ⟨k, 6, none⟩ = some (.map (some g))) (hkb : k < base) (hkg : k ≠ g) (hkl : k < w.heap.size)
    (hR : Rep ρ w B H s) (hI : Inv s) (hlits : ∀ c ∈ s.cls, c.lits.length ≤ 4096) (hcl : s.cls.length ≤ 10000)
    (hG : Gro Try.prog 3 3 σ w g base 0 (fun _ => [])) (hfr : ∀ b, w.heap.size ≤ b → σ b = oth) (hrs : ∀ b, b < w.heap.size → ρ b ≠ oth → σ b ≠ oth) (hbase : base ≤ w.heap.size) :
    Calls Try.prog 32 #[.pointer (some ⟨k, 0, none⟩), .func (.func 44) #[.pointer (some ⟨k, 0, none⟩)] #[]] w fun e w' => e = .returned (.tuple #[]) ∧ Gro Try.prog 3 3 σ w' g base (4096 * s.cls.length) (litF (noteL s.cls 0 (fun _ => []))) ∧ NF base g σ w w' := by
  have HG : Hid (Gro Try.prog 3 3 σ w g base (4096 * 0) (litF (noteL (s.cls.take 0) 0 (fun _ => [])))) := by
    have e : (litF (noteL (s.cls.take 0) 0 (fun _ => []))) = fun _ => [] := by
      funext q
      cases q with
      | int kk x => cases kk <;> rfl
      | _ => rfl
    unfold Hid; rw [e]; exact hG
  have HR := hide hR
  have HI := hide hI
  have HL := hide hlits
  have HFR := hide hfr
  have HRS := hide hrs
  clear hG hR hI hlits hfr hrs
  go_enter Try.func32, Try.ntmps32
  go_wp2
  go_loopw [11] (fun j wr => ∃ i : Nat, i ≤ s.cls.length ∧ j = .int .i64 (i : Int) ∧ Hid (Gro Try.prog 3 3 σ wr g base (4096 * i) (litF (noteL (s.cls.take i) 0 (fun _ => [])))) ∧ Hid (NF base g σ w wr)) (fun j _ => s.cls.length - (intOf j).toNat)
  case atStart => exact ⟨0, Nat.zero_le _, rfl, HG, NF.refl _ _ _ _⟩
  case round =>
    obtain ⟨i, hi', rfl, HG1, HN1⟩ := hrel
    clear HG
    have k0 := (HN1.out.cell (o := 0) hkl (.inr ⟨hkb, hkg⟩)).trans hk0
    have k6 := (HN1.out.cell (o := 6) hkl (.inr ⟨hkb, hkg⟩)).trans hk6
    have hws : w.heap.size ≤ wr.heap.size := HN1.out.size
    by_cases hlt : i < s.cls.length
    · have hii : (i : Int) < s.cls.length := by omega
      have hRr := HR.out.off (fun b hb hr => HN1.out.keep b hb (.inl (HRS.out b hb hr)))
      have hci := List.getElem?_eq_getElem hlt
      have hli := HL.out s.cls[i] (List.getElem_mem hlt)
      have HS : Hid (noteL (s.cls.take (i + 1)) 0 (fun _ => []) = if s.cls[i].gone then noteL (s.cls.take i) 0 (fun _ => []) else noteC (i : Int) (noteL (s.cls.take i) 0 (fun _ => [])) s.cls[i].lits) := by
        unfold Hid
        rw [List.take_succ_eq_append_getElem hlt, noteL_snoc, List.length_take, Nat.min_eq_left (by omega), Nat.zero_add]
      have hlx : ∀ x ∈ s.cls[i].lits, -1048576 ≤ x ∧ x ≤ 1048576 := fun x hx => by
        have q := HI.out.wt.ok i s.cls[i] hci x hx
        have q2 := HI.out.sz.vars
        unfold Lt at q; omega
      generalize noteL (s.cls.take i) 0 (fun _ => []) = f1 at *
      generalize s.cls[i] = c at *
      cases hg : c.gone with
      | true =>
        have G := hide (propClause_no hRr (i : Int) (.inr (.inr ⟨c, by omega, by simpa using hci, hg⟩)) (by omega))
        rw [hg] at HS
        clear hRr hci
        go_wp2_with (go_at_call 41; refine (unhide G).mono ?_; rintro e w1 ⟨rfl, hw1⟩; subst w1)
        go_roundw
        case rel => exact ⟨i + 1, by omega, by go_num, by unfold Hid; rw [HS.out]; exact HG1.out.mono (by omega), HN1⟩
        case measure => simp [intOf]; omega
      | false =>
        rw [hg] at HS
        have G : Hid (Calls Try.prog 41 #[.pointer (some ⟨B, 0, none⟩), .int .i64 (i : Int)] wr fun e w1 => ∃ a cap, e = .returned (.tuple #[.slice a c.lits.length cap, .bool true]) ∧ Calls Try.prog 44 #[.pointer (some ⟨k, 0, none⟩), .int .i64 (i : Int), .slice a c.lits.length cap] w1 fun e w' => e = .returned (.tuple #[]) ∧ Hid (Gro Try.prog 3 3 σ w' g base (4096 * (i + 1)) (litF (noteC (i : Int) f1 c.lits))) ∧ Hid (NF base g σ w w')) := by
          refine (propClause_yes hRr i c hci hg (by omega) (by omega)).mono ?_
          rintro e w1 ⟨v, rfl, ho, hb⟩
          obtain ⟨cb, a, cap, rfl, hcb, hcb2, hrs⟩ := own_rowS (ρ := σ) (g := g) (base := base) ho
          refine ⟨a, cap, rfl, ?_⟩
          have hfr1 : ∀ b, w1.heap.size ≤ b → σ b = oth := fun b hb' => HFR.out b (by have := hb.size; omega)
          have hG1 : Gro Try.prog 3 3 (rs σ cb tmpR) w1 g base (4096 * i) (litF f1) := HG1.out.ev (fun b hbb => rs_other _ _ (by omega)) (fun b hbb _ => hb.block b hbb)
          by_cases hxe : c.lits = []
          · have := noteHaving_any (ρ := σ) (w := w1) (k := k) (f := f1) ((hb.cell (p := ⟨k, 6, none⟩) (Nat.lt_of_lt_of_le hkl hws)).trans k6) hkb hkg (by have := hb.size; omega) (HG1.out.ev (fun _ _ => rfl) (fun b hbb _ => hb.block b hbb)) hfr1 (by have := hb.size; omega) i (by omega) a cap c.lits (by rw [hxe]; exact fun i hi => by simp at hi) (by omega) (by omega) hlx
            refine this.mono ?_
            rintro e w2 ⟨rfl, q1, q2⟩
            exact ⟨rfl, q1.mono (by omega), HN1.out.trans ((NF.below hb).trans q2)⟩
          · have := noteHaving_any (ρ := rs σ cb tmpR) (w := w1) (k := k) (f := f1) ((hb.cell (p := ⟨k, 6, none⟩) (Nat.lt_of_lt_of_le hkl hws)).trans k6) hkb hkg (by have := hb.size; omega) hG1 (fun b hb' => by rw [rs_other _ _ (by have := hcb2 hxe; omega)]; exact hfr1 b hb') (by have := hb.size; omega) i (by omega) a cap c.lits hrs (by omega) (by omega) hlx
            refine this.mono ?_
            rintro e w2 ⟨rfl, q1, q2⟩
            exact ⟨rfl, (q1.mono (by omega)).role (fun b hbb => role_tmp b (HFR.out cb (by omega)) hbb), HN1.out.trans (nf_tmp hb hcb q2)⟩
        clear hRr hci
        go_wp2_with (first
          | (go_at_call 41; refine (unhide G).mono ?_; rintro e w1 ⟨a, cap, rfl, G2⟩; replace G2 := hide G2)
          | (go_at_call 44; refine (unhide G2).mono ?_; rintro e w2 ⟨rfl, HG2, HN2⟩))
        go_roundw
        case rel => exact ⟨i + 1, by omega, by go_num, by unfold Hid; rw [HS.out]; exact HG2.out, HN2⟩
        case measure => simp [intOf]; omega
    · obtain rfl : i = s.cls.length := by omega
      have HG2 := HG1.out
      rw [List.take_length] at HG2
      replace HG2 := hide HG2
      clear HG1
      go_wp2
      go_end0
      exact ⟨rfl, HG2.out, HN1.out⟩
end Go.Proofs.Ytlmbgaconjcaiab

namespace Go.Proofs.Ytlmbgaconjcaiab
open Go.RowKit

set_option maxHeartbeats 1000000 in
theorem without_any (a : Option Addr) (cap : Nat) (xs : List Int) (n : Int) (w : World) (hr : Row w a xs) (hl : xs.length ≤ 4096) :
    Calls Try.prog 42 #[.slice a xs.length cap, .int .i64 n] w fun e w' => ∃ v, e = .returned v ∧ Own w.heap.size w' v (wo xs n) ∧ v ≠ .slice none 0 0 ∧ Below w.heap.size w w' := by
  obtain ⟨i0, hi, hz0, hz1, hz2⟩ := info_parts Try.info3
  have hmk := run_make w 32 3 i0 (.int .i64 0) Try.underlying32 hi hz0 .i64 .i64 0 (xs.length : Int) (by omega) (by omega) (by rw [hz2]; omega) (by omega)
  rw [hz1] at hmk
  simp [Value.cells] at hmk
  have hown0 : Own w.heap.size (w.alloc (.cells (madeCells #[.int .i64 0] xs.length) 3)) (.slice (some ⟨w.heap.size, 0, none⟩) 0 xs.length) [] :=
    ⟨rfl, .inr ⟨w.heap.size, xs.length, _, rfl, Nat.le_refl _, heap_alloc_new w _, Nat.zero_le _, by unfold maxLen; omega, by simp [size_madeCells], rfl⟩⟩
  have HO := hide hown0
  clear hown0
  go_enter Try.func42, Try.ntmps42
  go_wp2
  go_loopw [5, 13] (fun v i wr => ∃ k : Nat, k ≤ xs.length ∧ i = .int .i64 k ∧ Own w.heap.size wr v (wo (xs.take k) n) ∧ v ≠ .slice none 0 0 ∧ Below w.heap.size w wr) (fun _ i _ => xs.length - (intOf i).toNat)
  case atStart => exact ⟨0, Nat.zero_le _, rfl, HO.out, (by simp), (Below.refl _ _).alloc (Nat.le_refl _) _⟩
  case round =>
    obtain ⟨k, hk, rfl, hown, hnn, hbel⟩ := hrel
    clear HO hmk
    by_cases hlt : k < xs.length
    · obtain ⟨b, off, rfl, hb, hc⟩ := hr k hlt
      clear hr
      have hc' := (hbel.cell (p := ⟨b, off + k, none⟩) hb).trans hc
      have hwl := wo_len_take xs n k
      by_cases he : (xs[k] != n) = true
      · have HE := hide (wo_take_hit hlt he)
        clear hc hb
        go_wp2_with (at_builtin; refine wpList_append_own _ rfl _ _ 32 rfl w.heap.size 3 i0 (.int .i64 0) 1 8 Try.underlying32 hi hz0 hz1 hz2 rfl (by decide) _ _ _ rfl (hown.alloc _) ⟨wr.heap.size, 0, none⟩ 1 1 [.int .i64 xs[k]] rfl rfl (cell_one_new _ _ _) (fun x hx => by simp at hx; subst hx; rfl) (by unfold maxLen; omega) (by omega) (by have := hbel.size; simp; omega) ?_; intro v' w2 hown2 hgrow2 hnil)
        have hnn2 : v' ≠ .slice none 0 0 := fun h => absurd (hnil.1 h).2 (by decide)
        have hown3 := own_snoc hown2 HE.out
        have hbel3 := ((hbel.alloc hbel.size (.cells #[.int .i64 xs[k]] 3)).grown hgrow2 (by have := hbel.size; simp; omega) (fun g hg => (hown.lt g hg).1))
        clear hown2 hgrow2 hnil
        go_wp2
        go_roundw
        case rel => exact ⟨k + 1, by omega, by go_num, hown3, hnn2, hbel3⟩
        case measure => simp [intOf]; omega
      · have he' : (xs[k] != n) = false := by simpa using he
        have HE := hide (wo_take_miss hlt he')
        clear hc hb he
        go_wp2
        go_roundw
        case rel => exact ⟨k + 1, by omega, by go_num, by rw [HE.out]; exact hown, hnn, hbel⟩
        case measure => simp [intOf]; omega
    · clear hr
      go_wp2
      go_ret
      exact ⟨_, rfl, by rw [List.take_of_length_le (by omega)] at hown; exact hown, hnn, hbel⟩
end Go.Proofs.Ytlmbgaconjcaiab

namespace Go.Proofs.Ytlmbgaconjcaiab
open Go.RowKit

section
variable {ρ ρ' : Nat → Rl} {w w' : World} {k B : Nat} {s t : PS} {x1 x2 x3 : Int} {sp : Nat} {m1 m2 : Value}

/-- What byFirst leaves and tells. -/
def FirstP (ρ : Nat → Rl) (w : World) (k B : Nat) (s : PS) (x1 x2 x3 : Int) (sp : Nat) (m1 : Value) (c : List Int) (l : Int) (b : Bool) (w' : World) : Prop :=
  ∃ ρ' u ds0 g base, KP ρ' w' k B u x1 x2 x3 sp m1 (.map (some g)) ∧ EvN k ρ w ρ' w' ∧ Grw s u ds0 ∧ (sp = 0 → ds0 = []) ∧ (sp ≠ 0 → (s.lvs = [] → ds0 = [(sp : Int)]) ∧ (s.lvs ≠ [] → ds0 = [])) ∧ (sp ≠ 0 → u.lvs ≠ []) ∧
    Gro Try.prog 3 3 ρ' w' g base (4096 * s.cls.length + 1) (litF (noteL s.cls 0 (fun _ => []))) ∧ w.heap.size ≤ g ∧ base = g + 1 ∧ FirstB s ds0 c l (noteL s.cls 0 (fun _ => []) l) b

theorem row_O {a : Option Addr} {xs : List Int} (h : Row w a xs) (hr : ∀ b off, a = some ⟨b, off, none⟩ → xs ≠ [] → ρ b = oth) : RowO ρ w.heap.size w a xs := fun i hi => by
  obtain ⟨b, off, e, hb, hc⟩ := h i hi
  exact ⟨b, off, e, hb, hr b off e (by rintro rfl; simp at hi), .inl hb, hc⟩

set_option maxHeartbeats 4000000 in
set_option maxRecDepth 100000 in
theorem byFirst_new (h : KP ρ w k B s x1 x2 (s.cls.length : Int) sp m1 (.map none)) (hsp : sp ≤ s.vars) (h0 : sp ≠ 0 → s.lvs = [] → s.trail = []) (hcl : s.cls.length ≤ 10000) (a : Option Addr) (cap : Nat) (c : List Int) (hr : RowO ρ w.heap.size w a c) (hak : ∀ b off, a = some ⟨b, off, none⟩ → b ≠ k) (hl : c.length ≤ 4096) (hc : ∀ x ∈ c, Lt s.vars x) (l0 : Int) (hl0 : c[0]? = some l0) :
    Calls Try.prog 26 #[.pointer (some ⟨k, 0, none⟩), .slice a c.length cap] w fun e w' => ∃ b, e = .returned (.bool b) ∧ FirstP ρ w k B s x1 x2 s.cls.length sp m1 c (-l0) b w' := by
  have hcpos : 0 < c.length := (List.getElem?_eq_some_iff.1 hl0).1
  have hc0 : c[0] = l0 := (List.getElem?_eq_some_iff.1 hl0).2
  have hlx := hc l0 (List.mem_of_getElem? hl0)
  have hVs := h.inv.sz.vars
  have ST := hide (settle_k h hsp h0)
  have HBR : Hid (∀ w1 ρ1 t1 ds0, KP ρ1 w1 k B t1 x1 x2 (s.cls.length : Int) sp m1 (.map none) → Ev ρ w ρ1 w1 → Grw s t1 ds0 → ∀ x, Below w1.heap.size w1 x → Calls Try.prog 39 #[.pointer (some ⟨k, 0, none⟩), .slice a c.length cap] x fun e w' => ∃ b, e = .returned (.bool b) ∧ BreaksP ρ1 x k B t1 x1 x2 (s.cls.length : Int) sp m1 (.map none) c b w') := fun w1 ρ1 t1 ds0 hK hE hG x hx => breaks_any (hK.below hx) a cap c ((hr.ev hE).ev (Ev.below hx)) (by omega) (by rw [hG.vars]; exact hc)
  have p0 := cell_of_block h.blk (i := 0) rfl
  have hz0 : ((c.length : Int) == 0) = false := by
    simp
    rintro rfl
    simp at hcpos
  have HC := hide hc
  have HRW := hide hr
  have HKK := hide (lt_of_block h.blk)
  clear h hr hc hl0
  go_enter_defers Try.func26, Try.ntmps26
  go_wp2_with fail
  refine Calls.mono (unhide ST) ?_
  rintro e w1 ⟨rfl, ρ1, t1, ds0, hK1, hE1, hG1, hz1, hn1⟩
  have q0 := cell_of_block hK1.blk (i := 0) rfl
  have LV : Hid (∀ x, Below w1.heap.size w1 x → Calls Try.prog 38 #[.pointer (some ⟨B, 0, none⟩)] x fun e w' => e = .returned (.int .i64 t1.lvs.length) ∧ w' = x) := fun x hx => by
    obtain ⟨H, hR⟩ := hK1.rep
    exact propLevels_any (hR.below hx)
  have BR := hide (HBR.out w1 ρ1 t1 ds0 hK1 hE1 hG1)
  have HK1 := hide hK1
  have HE1 := hide hE1
  have HG1 := hide hG1
  have HZ1 := hide hz1
  have HN1 := hide hn1
  have hln : t1.lvs.length ≤ 1048576 := by have q := lvs_len hK1.inv.tr; have q2 := trail_len hK1.inv.tr; have q3 := hK1.inv.sz.vars; omega
  clear ST HBR p0 hK1 hE1 hG1 hz1 hn1
  simp only
  generalize hNN : t1.lvs.length = NN at *
  have HNN := hide hNN
  clear hNN
  go_wp2_with fail
  go_region_held3 (fun q => q.cell? ⟨k, 0, none⟩ = some (.pointer (some ⟨B, 0, none⟩))) (first | assumption | go_keep) (first
    | (go_at_call 38; refine (LV.out _ (by first | exact Below.refl _ _ | exact (Below.refl _ _).drew)).mono ?_; rintro e w0 ⟨rfl, hw0⟩; subst w0))
  all_goals
    clear q0 LV
    go_wp2_with fail
    refine Calls.mono (BR.out _ (by first | exact Below.refl _ _ | exact (Below.refl _ _).drew)) ?_
    rintro e w2 ⟨b, rfl, ρ2, t2, ds, hK2, hE2, hG2, hd2, hT2⟩
    have HE12 : Hid (Ev ρ w ρ2 w2) := HE1.out.trans ((Ev.drew _ _).trans hE2)
    have HK2 := hide hK2
    have HG2 := hide hG2
    have HD2 := hide hd2
    have HT2 := hide hT2
    have hkey2 : t2.cls.map key = s.cls.map key := hG2.cl.trans HG1.out.cl
    have hlen2 : t2.cls.length = s.cls.length := by simpa using congrArg List.length hkey2
    have HKEY := hide hkey2
    have hWL := withLiteral_new (ρ := ρ2) (w := w2) (k := k) (B := B) (s := t2) (x1 := x1) (x2 := x2) (x4 := sp) (m1 := m1) (by rw [hlen2]; exact hK2) (by omega) (-l0) (by unfold Lt at hlx; omega) (by unfold Lt at hlx; omega) (here_note t2 _)
    have hns2 := noteL_key t2.cls s.cls 0 (fun _ => []) hkey2
    have hhere := here_note t2 (-l0)
    rw [hns2] at hhere
    obtain ⟨ns, hns⟩ : ∃ ns, noteL s.cls 0 (fun _ => []) (-l0) = ns := ⟨_, rfl⟩
    obtain ⟨ρ3, hρ3⟩ : ∃ ρ3, fr ρ2 w2.heap.size = ρ3 := ⟨_, rfl⟩
    have WL : Hid (Calls Try.prog 40 #[.pointer (some ⟨k, 0, none⟩), .int .i64 (-l0)] w2 fun e w3 => ∃ g base a3 cap3, e = .returned (.slice a3 ns.length cap3) ∧ ns.length ≤ maxLen ∧ Hid (RowO ρ3 w3.heap.size w3 a3 ns) ∧ Hid (KP ρ3 w3 k B t2 x1 x2 (s.cls.length : Int) sp m1 (.map (some g))) ∧ Hid (Gro Try.prog 3 3 ρ3 w3 g base (4096 * s.cls.length + 1) (litF (noteL s.cls 0 (fun _ => [])))) ∧ Hid (EvN k ρ2 w2 ρ3 w3) ∧ Hid (w2.heap.size ≤ g ∧ base = g + 1)) := by
      refine hWL.mono ?_
      rintro e w3 ⟨g, base, a3, cap3, rfl, q1, q2, q3, q4, q5, q6, q7⟩
      rw [hρ3] at q2 q3 q4 q5
      rw [hns2] at q1 q2 q4
      rw [hlen2] at q3 q4
      rw [hns] at q1 q2
      refine ⟨g, base, a3, cap3, by rw [hns2, hns], (by obtain ⟨_, _, _, _, q, _⟩ := Own.row (base := base) q1.1; exact q), row_O (ints_row q1) (fun b off e _ => ?_), q3, q4, q5, q6, q7⟩
      subst e
      obtain ⟨g5, cap5, e5, _⟩ := own_some q1.1 (by
        rcases Nat.eq_zero_or_pos ns.length with h | h
        · rename_i hx; exact absurd (List.length_eq_zero_iff.1 h) hx
        · exact h)
      simp at e5
      obtain ⟨⟨rfl, rfl⟩, rfl⟩ := e5
      exact (q2 b rfl).1
    rw [hns] at hhere
    have HHERE := hide hhere
    have HNS := hide hns
    clear hns hρ3 hhere hns2
    obtain ⟨bb, off, rfl, hbb, hrole, _, hcell⟩ := (HRW.out.ev HE12.out) 0 hcpos
    have hbk := hak bb off rfl
    rw [hc0, Nat.add_zero] at hcell
    have hwr : IntKind.i64.wrap (-l0) = -l0 := by unfold Lt at hlx; exact wrap_neg (by omega) (by omega)
    have hlb : -1048576 ≤ l0 ∧ l0 ≤ 1048576 := by unfold Lt at hlx; omega
    obtain ⟨hlb1, hlb2⟩ := hlb
    have hci : (0 : Int) < c.length := by omega
    have HLX := hide hlx
    clear BR hK2 hE2 hG2 hd2 hT2 hkey2 hlx hWL
    simp only
    go_wp2_with (go_at_call 40; refine (unhide WL).mono ?_; rintro e w3 ⟨g, base, a3, cap3, rfl, hnsl, HR3, HK3, HG3, HE3, HGB⟩)
    unfold maxLen at hnsl
    have FIN : Hid (∀ (b' : Bool) (wr : World) (ρj : Nat → Rl) (uj : PS), KP ρj wr k B uj x1 x2 (s.cls.length : Int) sp m1 (.map (some g)) → Ev ρ3 w3 ρj wr → Grw t2 uj [] → FirstB s ds0 c (-l0) ns b' → ∀ u : FrameMode, CallsD Try.prog 36 #[.pointer (some ⟨B, 0, none⟩), .int .i64 NN] u wr fun e u' w' => u' = u ∧ (e = .returned (.tuple #[]) ∧ FirstP ρ w k B s x1 x2 s.cls.length sp m1 c (-l0) b' w')) := by
      intro b' wr ρj uj hK hE hG hF u
      have hGt : Grw t1 uj ds := by have := HG2.out.trans hG; rw [List.append_nil] at this; exact this
      have hEN : EvN k ρ w ρj wr := ((HE12.out.evN k).trans HE3.out).trans (hE.evN k)
      have hsz : w.heap.size ≤ w2.heap.size := HE12.out.size
      rw [← HNS.out] at hF
      obtain ⟨H, hR⟩ := hK.rep
      have hlv1 : sp ≠ 0 → t1.dec ++ [] ≠ [] := fun e => by
        rw [List.append_nil]
        intro e2
        have q : t1.dec.length = t1.lvs.length := by simp [PS.dec]
        rw [e2] at q
        exact (HN1.out e).2.2 (List.length_eq_zero_iff.1 q.symm)
      by_cases hle : uj.lvs.length ≤ NN
      · refine (back_no_d hR (NN : Int) (by simpa using hle)).mono ?_
        rintro e u' w' ⟨rfl, rfl, rfl⟩
        have hds := hGt.same (by rw [HNN.out]; exact hle)
        subst hds
        have hGu := HG1.out.trans hGt
        rw [List.append_nil] at hGu
        exact ⟨rfl, rfl, ρj, uj, ds0, g, base, hK, hEN, hGu, fun e => (HZ1.out e).2, fun e => ⟨(HN1.out e).1, (HN1.out e).2.1⟩, fun e => lvs_ne hGt (hlv1 e), HG3.out.ev hE.agree hE.keep, Nat.le_trans hsz HGB.out.1, HGB.out.2, hF⟩
      · have hlt : NN < uj.lvs.length := by omega
        have hlv := List.getElem?_eq_getElem hlt
        refine (back_yes_d hR hK.inv (NN : Int) NN (by simp) _ hlv).mono ?_
        rintro e u' w' ⟨rfl, rfl, ρ4, H4, hR4, hE4⟩
        have hN := HNN.out
        have hK4 : KP ρ4 w' k B (uj.back NN uj.lvs[NN]) x1 x2 (s.cls.length : Int) sp m1 (.map (some g)) := hK.ev hR4 (back_inv hK.inv hlv) (hK.cnt.back _ _) (by rw [back_eq]; exact hK.lits) hE4
        have hGb : Grw t1 (uj.back NN uj.lvs[NN]) [] := by
          refine ⟨by rw [back_eq]; exact hGt.vars, by rw [back_eq]; exact hGt.cl, ?_⟩
          have hl : t1.dec.length = NN := by rw [← hN]; simp [PS.dec]
          rw [back_dec hK.inv hlv, hGt.dec, ← hl, List.take_left, List.append_nil]
        have hGu := HG1.out.trans hGb
        rw [List.append_nil] at hGu
        have hE5 := hE.trans hE4
        exact ⟨rfl, rfl, ρ4, _, ds0, g, base, hK4, hEN.trans (hE4.evN k), hGu, fun e => (HZ1.out e).2, fun e => ⟨(HN1.out e).1, (HN1.out e).2.1⟩, fun e => lvs_ne hGb (hlv1 e), HG3.out.ev hE5.agree hE5.keep, Nat.le_trans hsz HGB.out.1, HGB.out.2, hF⟩
    have HCC := hide hcell
    clear WL hcell
    go_loopw [35] (fun j wr => ∃ (i : Nat) (ρj : Nat → Rl) (uj : PS), i ≤ ns.length ∧ j = .int .i64 (i : Int) ∧ Hid (KP ρj wr k B uj x1 x2 (s.cls.length : Int) sp m1 (.map (some g))) ∧ Hid (Ev ρ3 w3 ρj wr) ∧ Hid (Grw t2 uj []) ∧ Hid (∀ z ∈ ns.take i, FOne s ds0 c (-l0) z true)) (fun j _ => ns.length - (intOf j).toNat)
    case atStart => exact ⟨0, ρ3, t2, Nat.zero_le _, rfl, HK3, Ev.refl _ _, Grw.refl _, by simp [Hid]⟩
    case round =>
      obtain ⟨i, ρj, uj, hi, rfl, HK, HE, HG, HO⟩ := hrel
      by_cases hlt : i < ns.length
      · have hii : (i : Int) < ns.length := by omega
        obtain ⟨b3, off3, rfl, hb3, hcell3⟩ := ((HR3.out.ev HE.out).row) i hlt
        have HSN : Hid (ns.take (i + 1) = ns.take i ++ [ns[i]]) := List.take_succ_eq_append_getElem hlt
        have hmem := List.getElem_mem hlt
        obtain ⟨n, d0, en, hd0, hgone⟩ := HHERE.out ns[i] hmem
        have hkj : uj.cls.map key = s.cls.map key := HG.out.cl.trans HKEY.out
        obtain ⟨d, hd1, hd2, hd3⟩ := keys_get (HG.out.cl) (keys_at rfl hd0)
        simp only at hd2 hd3
        rw [hgone] at hd3
        have hkey : (s.cls.map key)[n]? = some (d.lits, false) := by rw [← hkj, List.getElem?_map, hd1]; simp [key, hd3]
        have hjl : uj.cls.length = s.cls.length := by simpa using congrArg List.length hkj
        have hnlt : n < s.cls.length := by have := (List.getElem?_eq_some_iff.1 hd1).1; omega
        have hdl := HK.out.lits d (List.mem_of_getElem? hd1)
        have hdx : ∀ x ∈ d.lits, Lt uj.vars x := HK.out.inv.wt.ok n d hd1
        have hvj : uj.vars = s.vars := by rw [HG.out.vars, HG2.out.vars, HG1.out.vars]
        have hRl : (wo d.lits (-l0)).length ≤ d.lits.length := by unfold wo; exact List.length_filter_le _ _
        have hlvj : sp ≠ 0 → uj.lvs ≠ [] := fun e => by
          have hGt : Grw t1 uj ds := by have := HG2.out.trans HG.out; rw [List.append_nil] at this; exact this
          refine lvs_ne hGt ?_
          intro e2
          have e3 : t1.dec = [] := (List.append_eq_nil_iff.1 e2).1
          have q : t1.dec.length = t1.lvs.length := by simp [PS.dec]
          rw [e3] at q
          exact (HN1.out e).2.2 (List.length_eq_zero_iff.1 q.symm)
        have hb3' : bb < w3.heap.size := Nat.lt_of_lt_of_le hbb HE3.out.size
        have cc0 : wr.cell? ⟨bb, off, none⟩ = some (.int .i64 l0) := by
          have e1 := HE3.out.keep bb hbb hbk hrole
          have e2 := HE.out.keep bb hb3' ((HE3.out.agree bb hbb).trans hrole)
          exact (World.cell?_of_block (a := ⟨bb, off, none⟩) (e2.trans e1)).trans HCC.out
        have hbwr : bb < wr.heap.size := Nat.lt_of_lt_of_le hb3' HE.out.size
        have G47 : Hid (Calls Try.prog 41 #[.pointer (some ⟨B, 0, none⟩), .int .i64 (n : Int)] wr fun e w4 => ∃ a4 cap4, e = .returned (.tuple #[.slice a4 d.lits.length cap4, .bool true]) ∧ w4.cell? ⟨bb, off, none⟩ = some (.int .i64 l0) ∧ Calls Try.prog 42 #[.slice a4 d.lits.length cap4, .int .i64 (-l0)] w4 fun e w5 => ∃ a5 cap5, e = .returned (.slice a5 (wo d.lits (-l0)).length cap5) ∧ Hid (KP (fr ρj wr.heap.size) w5 k B uj x1 x2 (s.cls.length : Int) sp m1 (.map (some g)) ∧ Ev ρ3 w3 (fr ρj wr.heap.size) w5) ∧ Hid (Calls Try.prog 25 #[.pointer (some ⟨k, 0, none⟩), .slice a5 (wo d.lits (-l0)).length cap5] w5 fun e w6 => ∃ b6, e = .returned (.bool b6) ∧ UnitsP (fr ρj wr.heap.size) w5 k B uj x1 x2 (s.cls.length : Int) sp m1 (.map (some g)) (wo d.lits (-l0)) b6 w6)) := by
          obtain ⟨H, hR⟩ := HK.out.rep
          refine (propClause_yes hR n d hd1 hd3 (by omega) (by omega)).mono ?_
          rintro e w4 ⟨v, rfl, ho4, hb4⟩
          obtain ⟨a4, cap4, rfl, hr4, _⟩ := ho4.row
          refine ⟨a4, cap4, rfl, (hb4.cell (p := ⟨bb, off, none⟩) hbwr).trans cc0, ?_⟩
          refine (without_any a4 cap4 d.lits (-l0) w4 hr4 (by omega)).mono ?_
          rintro e w5 ⟨v5, rfl, ho5, hnn5, hb5⟩
          obtain ⟨a5, cap5, rfl, hr5, _⟩ := ho5.row
          have hb45 : Below wr.heap.size wr w5 := hb4.trans (hb5.mono hb4.size)
          have hK5 := HK.out.fr hb45
          refine ⟨a5, cap5, rfl, ⟨hK5, HE.out.trans (Ev.fr (ρ := ρj) hb45)⟩, ?_⟩
          refine byUnits_any hK5 (by rw [hvj]; exact hsp) (fun e1 e2 => absurd e2 (hlvj e1)) a5 cap5 (wo d.lits (-l0)) (row_O hr5 (fun b o e hx => ?_)) (by omega) (fun x hx => hdx x (List.mem_filter.1 hx).1)
          subst e
          obtain ⟨g6, cap6, e6, _⟩ := own_some ho5 (List.length_pos_iff.2 hx)
          simp at e6
          obtain ⟨⟨rfl, rfl⟩, rfl⟩ := e6
          exact fr_new (Nat.le_trans hb4.size (World.ownsRow.lt ho5 b rfl).1)
        have G48 := G47.out
        rw [← en] at G48
        replace G48 := hide G48
        have p0 := cell_of_block HK.out.blk (i := 0) rfl
        have HEN := hide en
        have HKY := hide hkey
        have HMEM := hide hmem
        have hRb : (wo d.lits (-l0)).length ≤ 4096 := by omega
        clear G47 hd1 hd2 hd3 hkey hkj hdx hd0 hgone hmem en hRl hdl
        generalize hz : ns[i] = z at *
        generalize hRR : wo d.lits (-l0) = R at *
        have HRR := hide hRR
        clear hz hRR
        go_upto_region 11 with (first
          | (go_at_call 41; refine (unhide G48).mono ?_; rintro e w4 ⟨a4, cap4, rfl, c4, G5⟩; replace G5 := hide G5)
          | (go_at_call 42; refine (unhide G5).mono ?_; rintro e w5 ⟨a5, cap5, rfl, HK5, G27⟩))
        by_cases hbig : 4096 < c.length + R.length
        · have hbi : (4096 : Int) < (c.length : Int) + (R.length : Int) := by omega
          have HF := hide (FIN.out false w5 _ uj HK5.out.1 HK5.out.2 HG.out (.inr ⟨rfl, z, HMEM.out, n, d.lits, HEN.out, HKY.out, .inr ⟨rfl, .inl (by rw [HRR.out]; exact hbig)⟩⟩))
          clear G27
          go_wp2_with fail
          refine leaves_cons (f := 36) (args := #[.pointer (some ⟨B, 0, none⟩), .int .i64 NN]) (by simp) (by simp [go_sem]) ?_
          refine (HF.out .returning).mono ?_
          rintro e u' w7 ⟨rfl, rfl, hP⟩
          exact ⟨_, results_tmp rfl _ _ _, false, rfl, hP⟩
        · have hbi : ¬ (4096 : Int) < (c.length : Int) + (R.length : Int) := by omega
          cases b with
          | true =>
            have HO2 : Hid (∀ z ∈ ns.take (i + 1), FOne s ds0 c (-l0) z true) := by
              rw [HSN.out]
              intro y hy
              rcases List.mem_append.1 hy with hy | hy
              · exact HO.out y hy
              · obtain rfl : y = z := by simpa using hy
                refine ⟨n, d.lits, HEN.out, HKY.out, .inl ⟨rfl, by rw [HRR.out]; omega, ?_⟩⟩
                rw [HRR.out]
                exact ft_yes HK2.out.inv (HG1.out.trans HG2.out) HD2.out HT2.out
            clear G27
            go_wp2_with fail
            go_roundw
            case rel => exact ⟨i + 1, _, uj, by omega, by go_num, HK5.out.1, HK5.out.2, HG, HO2⟩
            case measure => simp [intOf]; omega
          | false =>
            have G28 : Hid (Calls Try.prog 25 #[.pointer (some ⟨k, 0, none⟩), .slice a5 R.length cap5] w5 fun e w6 => ∃ b6, e = .returned (.bool b6) ∧ ∃ ρ6 u6, Hid (KP ρ6 w6 k B u6 x1 x2 (s.cls.length : Int) sp m1 (.map (some g))) ∧ Hid (Ev ρ3 w3 ρ6 w6) ∧ Hid (Grw t2 u6 []) ∧ Hid (FOne s ds0 c (-l0) z b6)) := by
              refine (unhide G27).mono ?_
              rintro e w6 ⟨b6, rfl, ρ6, u6, dn, q1, q2, q3, q4, q5, t, dr, q6, q7, q8, q9⟩
              have hdn : dn = [] := by
                by_cases hz : sp = 0
                · exact q4 hz
                · exact (q5 hz).2.1 (hlvj hz)
              subst hdn
              have hG6 := HG.out.trans q3
              have hGt := HG.out.trans q7
              rw [List.nil_append] at hG6 hGt
              refine ⟨b6, rfl, ρ6, u6, q1, HK5.out.2.trans q2, hG6, n, d.lits, HEN.out, HKY.out, ?_⟩
              rw [HRR.out]
              have hft : FT s ds0 c R b6 := ft_both HK2.out.inv (HG1.out.trans HG2.out) HD2.out HT2.out q6 hGt (by simpa using q8) q9
              cases b6 with
              | true => exact .inl ⟨rfl, by omega, hft⟩
              | false => exact .inr ⟨rfl, .inr hft⟩
            clear G27
            go_wp2_with (go_at_call 25; refine (unhide G28).mono ?_; rintro e w6 ⟨b6, rfl, ρ6, u6, HK6, HE6, HG6, HO6⟩; cases b6)
            · have HF := hide (FIN.out false w6 ρ6 u6 HK6.out HE6.out HG6.out (.inr ⟨rfl, z, HMEM.out, HO6.out⟩))
              refine leaves_cons (f := 36) (args := #[.pointer (some ⟨B, 0, none⟩), .int .i64 NN]) (by simp) (by simp [go_sem]) ?_
              refine (HF.out .returning).mono ?_
              rintro e u' w7 ⟨rfl, rfl, hP⟩
              exact ⟨_, results_tmp rfl _ _ _, false, rfl, hP⟩
            · have HO2 : Hid (∀ z ∈ ns.take (i + 1), FOne s ds0 c (-l0) z true) := by
                rw [HSN.out]
                intro y hy
                rcases List.mem_append.1 hy with hy | hy
                · exact HO.out y hy
                · obtain rfl : y = z := by simpa using hy
                  exact HO6.out
              go_roundw
              case rel => exact ⟨i + 1, ρ6, u6, by omega, by go_num, HK6, HE6, HG6, HO2⟩
              case measure => simp [intOf]; omega
      · obtain rfl : i = ns.length := by omega
        have HF := hide (FIN.out true wr ρj uj HK.out HE.out HG.out (.inl ⟨rfl, by have := HO.out; rw [List.take_length] at this; exact this⟩))
        go_wp2_with fail
        refine leaves_cons (f := 36) (args := #[.pointer (some ⟨B, 0, none⟩), .int .i64 NN]) (by simp) (by simp [go_sem]) ?_
        refine (HF.out .returning).mono ?_
        rintro e u' w5 ⟨rfl, rfl, hP⟩
        exact ⟨_, results_tmp rfl _ _ _, true, rfl, hP⟩
end
end Go.Proofs.Ytlmbgaconjcaiab

namespace Go.Proofs.Ytlmbgaconjcaiab
open Go.RowKit

/-- How something is told of a clause, where a keeper was opened for another one. -/
def TE (sp : Nat) (css : List (List Int)) (cl : List Int) (b : Bool) : Prop :=
  ∃ t ds, Inv t ∧ t.cls.map key = css.map (fun c => (c, false)) ∧ (sp ≠ 0 → t.dec = (sp : Int) :: ds) ∧ (sp = 0 → t.dec = ds) ∧ (∀ d ∈ ds, -d ∈ cl) ∧ Told t cl b
/-- How First comes to tell it. -/
def FirstE (sp : Nat) (css : List (List Int)) (c : List Int) (l : Int) (b : Bool) : Prop :=
  (b = true ∧ ∀ d ∈ css, l ∈ d → c.length + (wo d l).length ≤ 4096 ∧ TE sp css (c ++ wo d l) true) ∨
  (b = false ∧ ∃ d ∈ css, l ∈ d ∧ (4096 < c.length + (wo d l).length ∨ TE sp css (c ++ wo d l) false))

theorem ft_te {s : PS} {ds0 : List Int} {sp : Nat} {css : List (List Int)} {c rest : List Int} {b : Bool} (h : FT s ds0 c rest b) (hk : s.cls.map key = css.map (fun c => (c, false))) (hl : s.lvs = []) (h0 : sp = 0 → ds0 = []) (h1 : sp ≠ 0 → ds0 = [(sp : Int)]) : TE sp css (c ++ rest) b := by
  obtain ⟨t, ds, hI, hG, hd, hT⟩ := h
  have hd0 : s.dec = [] := by simp [PS.dec, hl]
  refine ⟨t, ds, hI, hG.cl.trans hk, fun e => ?_, fun e => ?_, hd, hT⟩
  · rw [hG.dec, hd0, h1 e]; rfl
  · rw [hG.dec, hd0, h0 e]; rfl

theorem note_css {s : PS} {css : List (List Int)} (hk : s.cls.map key = css.map (fun c => (c, false))) (l z : Int) : z ∈ noteL s.cls 0 (fun _ => []) l ↔ ∃ (i : Nat) (d : List Int), css[i]? = some d ∧ l ∈ d ∧ z = (i : Int) := by
  rw [noteL_mem]
  constructor
  · rintro (h | ⟨i, c, h1, h2, h3, h4⟩)
    · simp at h
    · have q := keys_at hk h1
      rw [List.getElem?_map] at q
      cases e : css[i]? with
      | none => rw [e] at q; cases q
      | some d =>
        rw [e] at q
        simp at q
        exact ⟨i, d, e, by rw [q.1]; exact h3, by rw [h4, Nat.zero_add]⟩
  · rintro ⟨i, d, h1, h2, h3⟩
    right
    obtain ⟨c, c1, c2, c3⟩ := keys_get hk (i := i) (k := (d, false)) (by rw [List.getElem?_map, h1]; rfl)
    simp only at c2 c3
    exact ⟨i, c, c1, c3, by rw [c2]; exact h2, by rw [h3, Nat.zero_add]⟩

theorem first_e {s : PS} {ds0 : List Int} {sp : Nat} {css : List (List Int)} {c : List Int} {l : Int} {b : Bool} (h : FirstB s ds0 c l (noteL s.cls 0 (fun _ => []) l) b) (hk : s.cls.map key = css.map (fun c => (c, false))) (hl : s.lvs = []) (h0 : sp = 0 → ds0 = []) (h1 : sp ≠ 0 → ds0 = [(sp : Int)]) : FirstE sp css c l b := by
  have at' : ∀ {i : Nat} {L : List Int}, (s.cls.map key)[i]? = some (L, false) → css[i]? = some L := by
    intro i L hi
    rw [hk, List.getElem?_map] at hi
    cases e : css[i]? with
    | none => rw [e] at hi; cases hi
    | some d => rw [e] at hi; simp at hi; rw [hi]
  rcases h with ⟨rfl, h⟩ | ⟨rfl, z, hz, i, L, e1, e2, e3⟩
  · refine .inl ⟨rfl, fun d hd hld => ?_⟩
    obtain ⟨i, hi⟩ := List.mem_iff_getElem?.1 hd
    obtain ⟨i', L, e1, e2, e3⟩ := h (i : Int) ((note_css hk l _).2 ⟨i, d, hi, hld, rfl⟩)
    obtain rfl : i = i' := by omega
    have := at' e2
    rw [hi] at this
    cases this
    rcases e3 with ⟨_, a1, a2⟩ | ⟨a0, _⟩
    · exact ⟨a1, ft_te a2 hk hl h0 h1⟩
    · cases a0
  · have hi := at' e2
    obtain ⟨j, d, h1', h2, h3⟩ := (note_css hk l z).1 hz
    obtain rfl : i = j := by omega
    rw [h1'] at hi
    cases hi
    refine .inr ⟨rfl, _, List.mem_of_getElem? h1', h2, ?_⟩
    rcases e3 with ⟨a0, _⟩ | ⟨_, a1 | a1⟩
    · cases a0
    · exact .inl a1
    · exact .inr (ft_te a1 hk hl h0 h1)

set_option maxHeartbeats 1000000 in
theorem byFirst_nil (w : World) (k : Nat) (a : Option Addr) (cap : Nat) :
    Calls Try.prog 26 #[.pointer (some ⟨k, 0, none⟩), .slice a 0 cap] w fun e w' => e = .returned (.bool false) ∧ w' = w := by
  go_enter_defers Try.func26, Try.ntmps26
  go_wp2_with fail
  exact ⟨_, results_tmp rfl _ _ _, rfl, rfl⟩

end Go.Proofs.Ytlmbgaconjcaiab
