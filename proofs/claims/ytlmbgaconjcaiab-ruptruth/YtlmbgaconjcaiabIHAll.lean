/- Joined: append of whatever is behind a slice, nil or not, onto a row of the call's own, nil or not. Contracts of the law: the clauses that are there. Contracts: whether a clause is a reason. Contracts: the law's world at its beginning. Contracts: whether the law takes a literal for open. Contracts: a decision. Contracts: the law decides a literal. Plain mathematics: the law's clauses and decisions beside a propagator's; what two runs tell. The law's world in memory: its clauses, which are gone, its decisions. Contracts: a keeper's propagator: what is asked is decided, and what follows is told. Contracts: what follows without any question is let follow. -/
import Derived.Test.YtlmbgaconjcaiabApp
import Derived.Test.YtlmbgaconjcaiabHAll
import Derived.Deep.AppendLies
import Derived.Test.YtlmbgaconjcaiabGb
import Derived.Deep.RegionHeld3
import Derived.Deep.RegionWith
import Derived.BigQuiet
import Derived.Deep.RegionLaw
import Derived.Deep.DeepCutAuto
import Derived.Deep.CutBlock
import Derived.Test.YtlmbgaconjcaiabPlainS
import Derived.Test.YtlmbgaconjcaiabPlainQ
import Derived.Test.YtlmbgaconjcaiabPlainP
import Derived.Test.YtlmbgaconjcaiabHa
set_option linter.unusedVariables false
set_option linter.unusedSimpArgs false
namespace Go.Proofs.Ytlmbgaconjcaiab
open Go.RowKit

theorem run_append_both {P : Program} (w : World) (t ty : TypeId) (base : Nat) (e : TypeId) (i : TypeInfo) (z : Value) (size bytes : Nat) (ht : P.underlying t = some (.slice e)) (hi : P.info? e = some i) (hz : i.zero = some z)
    (hsize : i.size = size) (hby : i.bytes = bytes) (hzs : z.cells.size = size) (hsz : 0 < size)
    (v : Value) (n : Nat) (xs : List Value) (hown : w.ownsRow base e size v n xs)
    (a : Option Addr) (m c : Nat) (news : List Value) (hsrc : (a = none ∧ m = 0 ∧ c = 0 ∧ news = []) ∨ ∃ ad, a = some ad ∧ news.length = m * size ∧ ∀ j u, news[j]? = some u → w.cell? (ad.add j) = some u) (h1 : ∀ u ∈ news, u.oneCell' = true)
    (h63 : n + m ≤ maxLen) (hbytes : (n + m) * bytes ≤ 140737488355328) (hbase : base ≤ w.heap.size) :
    ∃ a' cap w', (Builtin.append_ #[t, t] ty #[v, .slice a m c]).run P w = .ok (.slice a' (n + m) cap) w' ∧
      w'.ownsRow base e size (.slice a' (n + m) cap) (n + m) (xs ++ news) ∧ w.grownBy w' v.ownBlock ∧ (∀ g, (Value.slice a' (n + m) cap).ownBlock = some g → v.ownBlock = some g ∨ g = w.heap.size) := by
  rcases hsrc with ⟨rfl, rfl, rfl, rfl⟩ | ⟨ad, rfl, hl, hnews⟩
  · have hrun := run_append_owned_none (P := P) (w := w) base t ty e i size ht hi v n xs hown
    obtain ⟨a', cap, rfl, _⟩ := own_form hown
    exact ⟨a', cap, w, hrun, by simpa using hown, World.grownBy.refl _ _, fun g hg => .inl hg⟩
  · obtain ⟨v', w', hr, h2, h3, h4, h5⟩ := run_append_own_at (P := P) w base t ty e i z size bytes ht hi hz hsize hby hzs hsz v n xs hown ad m c news hl hnews h1 h63 hbytes hbase
    obtain ⟨a', cap, rfl, _⟩ := own_form h2
    refine ⟨a', cap, w', hr, h2, h3, fun g hg => ?_⟩
    rcases h5 with h5 | h5
    · exact .inl (h5.symm.trans hg)
    · rw [h5] at hg; cases hg; exact .inr rfl

theorem wp_append_both {P : Program} {w : World} {o : Oper} {act : Act} {K : Act → World → Prop} {Q : Exit → Act → World → Prop} (s x : Operand) (t : TypeId)
    (ho : o.op = .call { callee := .builtin .append, args := #[s, x], argTypes := #[t, t] })
    (base : Nat) (e : TypeId) (i : TypeInfo) (z : Value) (size bytes : Nat) (ht : P.underlying t = some (.slice e)) (hi : P.info? e = some i) (hz : i.zero = some z)
    (hsize : i.size = size) (hby : i.bytes = bytes) (hzs : z.cells.size = size) (hsz : 0 < size)
    (v : Value) (n : Nat) (xs : List Value) (hs : act.eval s = v) (hown : w.ownsRow base e size v n xs)
    (a : Option Addr) (m c : Nat) (news : List Value) (hx : act.eval x = .slice a m c) (hsrc : (a = none ∧ m = 0 ∧ c = 0 ∧ news = []) ∨ ∃ ad, a = some ad ∧ news.length = m * size ∧ ∀ j u, news[j]? = some u → w.cell? (ad.add j) = some u) (h1 : ∀ u ∈ news, u.oneCell' = true)
    (h63 : n + m ≤ maxLen) (hbytes : (n + m) * bytes ≤ 140737488355328) (hbase : base ≤ w.heap.size)
    (h : ∀ a' cap w', w'.ownsRow base e size (.slice a' (n + m) cap) (n + m) (xs ++ news) → w.grownBy w' v.ownBlock → (∀ g, (Value.slice a' (n + m) cap).ownBlock = some g → v.ownBlock = some g ∨ g = w.heap.size) → K (act.put o.dst (.slice a' (n + m) cap)) w') : o.wp P act w K Q := by
  obtain ⟨a', cap, w', hr, h2, h3, h4⟩ := run_append_both (P := P) w t o.type base e i z size bytes ht hi hz hsize hby hzs hsz v n xs hown a m c news hsrc h1 h63 hbytes hbase
  unfold Oper.wp execOp
  simp only [ho, resolve, invoke, builtin, Sem.run_bind, Sem.run_pure, Result.andThen_ok, List.map_toArray, List.map_cons, List.map_nil, hs, hx, hr]
  exact h a' cap w' h2 h3 h4

theorem step_append_both {P : Program} {w : World} {ops : Array Oper} {o : Oper} {act : Act} {K : Act → World → Prop} {Q : Exit → Act → World → Prop} {E : Prop} (hgd : o.guard = none) (s x : Operand) (t : TypeId)
    (ho : o.op = .call { callee := .builtin .append, args := #[s, x], argTypes := #[t, t] })
    (base : Nat) (e : TypeId) (i : TypeInfo) (z : Value) (size bytes : Nat) (ht : P.underlying t = some (.slice e)) (hi : P.info? e = some i) (hz : i.zero = some z)
    (hsize : i.size = size) (hby : i.bytes = bytes) (hzs : z.cells.size = size) (hsz : 0 < size)
    (v : Value) (n : Nat) (xs : List Value) (hs : act.eval s = v) (hown : w.ownsRow base e size v n xs)
    (a : Option Addr) (m c : Nat) (news : List Value) (hx : act.eval x = .slice a m c) (hsrc : (a = none ∧ m = 0 ∧ c = 0 ∧ news = []) ∨ ∃ ad, a = some ad ∧ news.length = m * size ∧ ∀ j u, news[j]? = some u → w.cell? (ad.add j) = some u) (h1 : ∀ u ∈ news, u.oneCell' = true)
    (h63 : n + m ≤ maxLen) (hbytes : (n + m) * bytes ≤ 140737488355328) (hbase : base ≤ w.heap.size)
    (h : ∀ a' cap w', w'.ownsRow base e size (.slice a' (n + m) cap) (n + m) (xs ++ news) → w.grownBy w' v.ownBlock → (∀ g, (Value.slice a' (n + m) cap).ownBlock = some g → v.ownBlock = some g ∨ g = w.heap.size) → K (act.put o.dst (.slice a' (n + m) cap)) w') :
    if Region.wanted o (yielded ops act.tmps) = true then Oper.wp P o act w K Q else E := by
  have hw : Region.wanted o (yielded ops act.tmps) = true := by simp [Region.wanted, hgd]
  rw [if_pos hw]
  exact wp_append_both s x t ho base e i z size bytes ht hi hz hsize hby hzs hsz v n xs hs hown a m c news hx hsrc h1 h63 hbytes hbase h

theorem wpList_append_both {P : Program} {w : World} {ops : Array Oper} {rest : List Oper} {o : Oper} {act : Act} {Q : Exit → Act → World → Prop} (hgd : o.guard = none) (s x : Operand) (t : TypeId)
    (ho : o.op = .call { callee := .builtin .append, args := #[s, x], argTypes := #[t, t] })
    (base : Nat) (e : TypeId) (i : TypeInfo) (z : Value) (size bytes : Nat) (ht : P.underlying t = some (.slice e)) (hi : P.info? e = some i) (hz : i.zero = some z)
    (hsize : i.size = size) (hby : i.bytes = bytes) (hzs : z.cells.size = size) (hsz : 0 < size)
    (v : Value) (n : Nat) (xs : List Value) (hs : act.eval s = v) (hown : w.ownsRow base e size v n xs)
    (a : Option Addr) (m c : Nat) (news : List Value) (hx : act.eval x = .slice a m c) (hsrc : (a = none ∧ m = 0 ∧ c = 0 ∧ news = []) ∨ ∃ ad, a = some ad ∧ news.length = m * size ∧ ∀ j u, news[j]? = some u → w.cell? (ad.add j) = some u) (h1 : ∀ u ∈ news, u.oneCell' = true)
    (h63 : n + m ≤ maxLen) (hbytes : (n + m) * bytes ≤ 140737488355328) (hbase : base ≤ w.heap.size)
    (h : ∀ a' cap w', w'.ownsRow base e size (.slice a' (n + m) cap) (n + m) (xs ++ news) → w.grownBy w' v.ownBlock → (∀ g, (Value.slice a' (n + m) cap).ownBlock = some g → v.ownBlock = some g ∨ g = w.heap.size) → wpList P ops Q rest (act.put o.dst (.slice a' (n + m) cap)) w') : wpList P ops Q (o :: rest) act w :=
  wpList_plain hgd fun _ hK => wp_append_both s x t ho base e i z size bytes ht hi hz hsize hby hzs hsz v n xs hs hown a m c news hx hsrc h1 h63 hbytes hbase fun a' cap w' h2 h3 h4 => hK _ _ (h a' cap w' h2 h3 h4)

/-- A row of the call's own is a source of an append. -/
theorem own_src {w : World} {base e sz n cap : Nat} {a : Option Addr} {xs : List Value} (h : w.ownsRow base e sz (.slice a n cap) n xs) : (a = none ∧ n = 0 ∧ cap = 0 ∧ xs = []) ∨ ∃ ad, a = some ad ∧ xs.length = n * sz ∧ ∀ j u, xs[j]? = some u → w.cell? (ad.add j) = some u := by
  obtain ⟨a', cap', e', _, _, hc⟩ := own_form h
  simp at e'; obtain ⟨rfl, rfl⟩ := e'
  rcases hc with ⟨rfl, rfl, rfl⟩ | ⟨g, rfl, hlt⟩
  · left; exact ⟨rfl, rfl, rfl, List.eq_nil_of_length_eq_zero (by rw [h.1]; simp)⟩
  · right; exact ⟨_, rfl, h.1, fun j u hj => h.cells rfl j u hj⟩
end Go.Proofs.Ytlmbgaconjcaiab

namespace Go.Proofs.Ytlmbgaconjcaiab
open Go.RowKit

/-- The clauses that are not gone. -/
def thereL : List (List Int) → List Bool → List (List Int)
  | c :: cs, g :: gs => if g then thereL cs gs else c :: thereL cs gs
  | _, _ => []

theorem thereL_snoc : ∀ (cs : List (List Int)) (gs : List Bool) (c : List Int) (g : Bool), cs.length = gs.length → thereL (cs ++ [c]) (gs ++ [g]) = thereL cs gs ++ (if g then [] else [c])
  | [], [], c, g, _ => by cases g <;> simp [thereL]
  | d :: cs, h :: gs, c, g, e => by
    have := thereL_snoc cs gs c g (by simpa using e)
    cases h <;> simp [thereL, this]
  | [], _ :: _, _, _, e => by simp at e
  | _ :: _, [], _, _, e => by simp at e

/-- A row of Booleans. -/
def RowB (w : World) (a : Option Addr) (gs : List Bool) : Prop :=
  ∀ i (h : i < gs.length), ∃ b off, a = some ⟨b, off, none⟩ ∧ b < w.heap.size ∧ w.cell? ⟨b, off + i, none⟩ = some (.bool gs[i])
theorem RowB.below {w w' : World} {a : Option Addr} {gs : List Bool} (h : RowB w a gs) (hb : Below w.heap.size w w') : RowB w' a gs := by
  intro i hi
  obtain ⟨b, off, e, hlt, hc⟩ := h i hi
  exact ⟨b, off, e, Nat.lt_of_lt_of_le hlt hb.size, (hb.cell (p := ⟨b, off + i, none⟩) hlt).trans hc⟩

/-- A row of the call's own of slices that lie elsewhere. -/
def OR (w wr : World) (v : Value) (css : List (List Int)) : Prop :=
  ∃ vs : List Value, wr.ownsRow w.heap.size 32 1 v css.length vs ∧ ∀ i (h : i < css.length), ∃ ai ci, vs[i]? = some (.slice ai css[i].length ci) ∧ Row w ai css[i] ∧ css[i].length ≤ maxLen ∧ (ai = none → ci = 0)

theorem OR.grid {w wr : World} {a : Option Addr} {cap : Nat} {css : List (List Int)} (h : OR w wr (.slice a css.length cap) css) (hb : Below w.heap.size w wr) : GridC wr a css := by
  obtain ⟨vs, h1, h2⟩ := h
  intro i hi
  obtain ⟨ai, ci, hv, hr, hl, hn⟩ := h2 i hi
  obtain ⟨g, cap', e, _, _, hlt⟩ := own_some h1 (by omega)
  simp at e
  obtain ⟨rfl, _⟩ := e
  refine ⟨g, 0, ai, ci, rfl, hlt, ?_, hr.below hb, hl, hn⟩
  have := own_cell (i := i) h1 rfl hv
  simpa using this

theorem own_ty' {w : World} {base e sz n g : Nat} {v : Value} {xs : List Value} (h : w.ownsRow base e sz v n xs) (hg : v.ownBlock = some g) : ∃ cs, w.heap[g]? = some (.cells cs e (0, 0)) := by
  rcases h.2 with ⟨rfl, _⟩ | ⟨g', cap, cur, rfl, hb, hgg, _⟩
  · simp [Value.ownBlock] at hg
  · simp [Value.ownBlock] at hg; subst hg; exact ⟨_, hgg⟩

theorem own_lit34 (W : World) (base : Nat) (hb : base ≤ W.heap.size) : (W.alloc (.cells #[] 32)).ownsRow base 32 1 (.slice (some ⟨W.heap.size, 0, none⟩) 0 0) 0 [] :=
  ⟨rfl, .inr ⟨W.heap.size, 0, #[], rfl, hb, heap_alloc_new W _, Nat.le_refl _, by unfold maxLen; omega, rfl, rfl⟩⟩

end Go.Proofs.Ytlmbgaconjcaiab

namespace Go.Proofs.Ytlmbgaconjcaiab
open Go.RowKit

def PS.rsnB (s : PS) (i : Nat) (ls : List Int) : Bool := ls.any (fun x => s.val x == 1 && (s.fct x).2.2 == (i : Int))

section
variable {ρ : Nat → Rl} {w : World} {B : Nat} {H : Hd} {s : PS}

theorem drewN_drewN' (w : World) (m n : Nat) : (w.drewN m).drewN n = w.drewN (m + n) := by simp [World.drewN, Nat.add_assoc]

theorem rsnB_drop {i k : Nat} {ls : List Int} (hk : k < ls.length) : s.rsnB i (ls.drop k) = ((s.val ls[k] == 1 && (s.fct ls[k]).2.2 == (i : Int)) || s.rsnB i (ls.drop (k + 1))) := by
  unfold PS.rsnB
  rw [List.drop_eq_getElem_cons hk]; rfl

set_option maxHeartbeats 2000000 in
set_option maxRecDepth 100000 in
theorem isReason_any (h : Rep ρ w B H s) (hS : Shp s) (i : Nat) (c : Cl) (hc : s.cls[i]? = some c) (hl : ∀ x ∈ c.lits, Lt s.vars x) :
    Calls Try.prog 53 #[.pointer (some ⟨B, 0, none⟩), .pointer (some ⟨H.cb i, 0, none⟩)] w fun e w' => e = .returned (.bool (s.rsnB i c.lits)) ∧ ∃ n, w' = w.drewN n := by
  have hV := hS.vars
  obtain ⟨o0, o1, _, _, _, _, hol, hoB⟩ := h.obj hc
  obtain ⟨a, cap, er, hrow, hrm, _⟩ := h.lits hc
  rw [er] at o1
  have VV := fun (x : Int) (hx : Lt s.vars x) (m : Nat) => hide (value_any (h.drewN m) x hx (by omega) hS.vals)
  have HH := hide h
  have HS := hide hS
  clear h hc hS er
  generalize hb : H.cb i = b at *
  generalize c.lits = ls at *
  unfold maxLen at hrm
  go_enter Try.func53, Try.ntmps53
  go_wp2
  go_loopw [12] (fun j wr => ∃ (k : Nat), k ≤ ls.length ∧ j = .int .i64 k ∧ Hid (s.rsnB i (ls.drop k) = s.rsnB i ls) ∧ Hid (∃ m, wr = w.drewN m)) (fun j _ => ls.length - (intOf j).toNat)
  case atStart => exact ⟨0, Nat.zero_le _, rfl, rfl, ⟨0, rfl⟩⟩
  case round =>
    obtain ⟨k, hk, rfl, HSC, HW⟩ := hrel
    have hR : Rep ρ wr B H s := by obtain ⟨m, rfl⟩ := HW.out; exact HH.out.drewN m
    replace o0 : wr.cell? ⟨b, 0, none⟩ = some (.int .i64 i) := by obtain ⟨m, rfl⟩ := HW.out; exact o0
    replace hrow : Row wr a ls := by obtain ⟨m, rfl⟩ := HW.out; exact hrow
    clear o1
    by_cases hlt : k < ls.length
    · obtain ⟨bb, off, rfl, hbb, hcell⟩ := hrow k hlt
      have hx := hl ls[k] (List.getElem_mem hlt)
      have hki : (k : Int) < ls.length := by omega
      have HSC2 := HSC.out
      rw [rsnB_drop hlt] at HSC2
      have hvb := HS.out.val ls[k]
      have VX := fun n => (value_any (hR.drewN n) ls[k] hx (by omega) HS.out.vals)
      obtain ⟨gf, cf, efv, hgB, f0, f1, f2⟩ := hR.fctAt HS.out ls[k] hx
      have FX := fun n => hide (fact_any (hR.drewN n) ls[k] hx (by omega) HS.out.fac gf cf efv)
      replace VX := hide VX
      clear hrow hl efv VV hR
      generalize ls[k] = x at *
      generalize x.natAbs * 3 = kf at *
      by_cases hA : s.val x = 1
      · by_cases hB : (s.fct x).2.2 = (i : Int)
        · have hA' : (s.val x == 1) = true := by simpa using hA
          have hB' : ((s.fct x).2.2 == (i : Int)) = true := by simpa using hB
          have HE : Hid (s.rsnB i ls = true) := by unfold Hid; rw [← HSC2]; simp [hA, hB]
          clear HSC HSC2 hA hB
          generalize s.val x = y at *
          generalize (s.fct x).2.2 = z at *
          go_wp2_with fail
          go_quiet (first | (go_at_call 50; exact Calls.quiet_of (unhide VX _)) | (go_at_call 65; exact Calls.quiet_of_same (unhide (FX _))))
          go_wp2
          go_ret
          exact ⟨ret_bool HE.out.symm, by obtain ⟨m, rfl⟩ := HW.out; exact ⟨_, drewN_drewN' _ _ _⟩⟩
        · have hA' : (s.val x == 1) = true := by simpa using hA
          have hB' : ((s.fct x).2.2 == (i : Int)) = false := by simpa using hB
          have HE : Hid (s.rsnB i (ls.drop (k + 1)) = s.rsnB i ls) := by unfold Hid; rw [← HSC2]; simp [hA, hB]
          clear HSC HSC2 hA hB
          generalize s.val x = y at *
          generalize (s.fct x).2.2 = z at *
          go_wp2_with fail
          go_quiet (first | (go_at_call 50; exact Calls.quiet_of (unhide VX _)) | (go_at_call 65; exact Calls.quiet_of_same (unhide (FX _))))
          go_wp2
          go_roundw
          case rel => exact ⟨k + 1, by omega, by go_num, HE, by obtain ⟨m, rfl⟩ := HW.out; exact ⟨_, drewN_drewN' _ _ _⟩⟩
          case measure => simp [intOf]; omega
      · have hA' : (s.val x == 1) = false := by simpa using hA
        have HE : Hid (s.rsnB i (ls.drop (k + 1)) = s.rsnB i ls) := by unfold Hid; rw [← HSC2]; simp [hA]
        clear HSC HSC2 hA
        generalize s.val x = y at *
        go_wp2_with fail
        go_quiet (first | (go_at_call 50; exact Calls.quiet_of (unhide VX _)) | (go_at_call 65; exact Calls.quiet_of_same (unhide (FX _))))
        go_wp2
        go_roundw
        case rel => exact ⟨k + 1, by omega, by go_num, HE, by obtain ⟨m, rfl⟩ := HW.out; exact ⟨_, drewN_drewN' _ _ _⟩⟩
        case measure => simp [intOf]; omega
    · have hkl : ls.drop k = [] := List.drop_eq_nil_of_le (by omega)
      have HE : Hid (s.rsnB i ls = false) := by unfold Hid; rw [← HSC.out, hkl]; rfl
      clear hrow hl HSC hkl VV hR
      go_wp2
      go_ret
      exact ⟨ret_bool HE.out.symm, HW.out⟩
end
end Go.Proofs.Ytlmbgaconjcaiab

namespace Go.Proofs.Ytlmbgaconjcaiab
open Go.RowKit

theorem Try.info4b : (Try.prog.info? 4).map (fun i => (i.zero, i.size, i.bytes)) = some (some (.bool false), 1, 1) := by kernel_rfl

/-- What is nobody's may turn. -/
theorem Rep.off {ρ : Nat → Rl} {w w' : World} {B : Nat} {H : Hd} {s : PS} (h : Rep ρ w B H s) (hk : ∀ b, b < w.heap.size → ρ b ≠ oth → w'.heap[b]? = w.heap[b]?) : Rep ρ w' B H s := by
  refine ⟨⟨fun r x hr => own_same (h.hold.own r x hr) (fun k e => hk k (h.hold.lt hr e) ?_), h.hold.rl⟩, h.wr, h.lr⟩
  rw [h.hold.rl r x k hr e]
  rintro rfl
  cases hr

/-- One block turned, a struct's. -/
structure U5 (w W : World) (g : Nat) (xs : List Value) : Prop where
  own : W.ownsRow 0 36 5 (obj1 g) 1 xs
  off : ∀ b, b ≠ g → W.heap[b]? = w.heap[b]?
  size : W.heap.size = w.heap.size
  rest : W.os = w.os ∧ W.tape = w.tape ∧ W.output = w.output

theorem U5.set {w W : World} {g : Nat} {xs : List Value} (h : U5 w W g xs) (i : Nat) (v : Value) : U5 w (W.setCell ⟨g, i, none⟩ v) g (xs.set i v) :=
  ⟨own_set h.own rfl v, fun b hb => (Below.heap_setCell _ _ _ _ hb).trans (h.off b hb), by rw [← h.size]; simp [World.setCell], h.rest⟩
theorem U5.first {w : World} {g : Nat} {x : Array Value} (hx : x.size = 5) (hb : w.heap[g]? = some (.cells x 36 (0, 0))) : U5 w w g x.toList :=
  ⟨own_of_block hb hx, fun _ _ => rfl, rfl, rfl, rfl, rfl⟩
theorem U5.last {w W : World} {g : Nat} {xs : List Value} (h : U5 w W g xs) (o : Obj) :
    (∀ b, b ≠ g → b < w.heap.size → (W.alloc o).drew.heap[b]? = w.heap[b]?) ∧ (W.alloc o).drew.heap[w.heap.size]? = some o ∧ (W.alloc o).drew.heap.size = w.heap.size + 1 ∧ ((W.alloc o).drew.os = w.os ∧ (W.alloc o).drew.tape = w.tape ∧ (W.alloc o).drew.output = w.output) ∧
    ∀ i u, xs[i]? = some u → (W.alloc o).drew.cell? ⟨g, i, none⟩ = some u := by
  refine ⟨fun b hb hl => ?_, ?_, ?_, h.rest, fun i u hi => own_cell (g := g) (h.own.alloc o) rfl hi⟩
  · show (W.alloc o).heap[b]? = _
    rw [heap_alloc_old _ _ (by rw [h.size]; exact hl)]
    exact h.off b hb
  · show (W.alloc o).heap[w.heap.size]? = _
    rw [← h.size]; exact heap_alloc_new _ _
  · show (W.alloc o).heap.size = _
    rw [← h.size]; simp

def BeginP (w : World) (V : Nat) (css : List (List Int)) (B g : Nat) (w' : World) : Prop :=
  ∃ ρ H, Rep ρ w' B H (css.foldl PS.attach (PS.zero V)) ∧ Ev free w ρ w' ∧ w.heap.size ≤ g ∧ ρ g = oth ∧ w'.heap[g]? = some (.cells (madeCells #[.bool false] css.length) 4 (0, 0))

end Go.Proofs.Ytlmbgaconjcaiab

namespace Go.Proofs.Ytlmbgaconjcaiab
open Go.RowKit

def openB (V : Nat) (t : List Int) (l : Int) : Bool := litB l 1048576 && decide (varI l ≤ V) && !(hasB t l) && !(hasB t (-l))

section
variable {ρ : Nat → Rl} {w : World} {B : Nat} {H : Hd} {s : PS}
end
end Go.Proofs.Ytlmbgaconjcaiab

namespace Go.Proofs.Ytlmbgaconjcaiab
open Go.RowKit

section
variable {ρ : Nat → Rl} {w : World} {B : Nat} {H : Hd} {s : PS}

def DecP (ρ : Nat → Rl) (w : World) (B : Nat) (t : PS) (w' : World) : Prop := ∃ ρ' H', Rep ρ' w' B H' t ∧ Ev ρ w ρ' w'

set_option maxRecDepth 100000 in
set_option maxHeartbeats 800000 in
theorem decide_no (h : Rep ρ w B H s) (hS : Shp s) (l : Int) (hno : ltB s.vars l = false ∨ (Lt s.vars l ∧ s.val l ≠ 0)) :
    Calls Try.prog 57 #[.pointer (some ⟨B, 0, none⟩), .int .i64 l] w fun e w' => e = .returned (.int .i64 1) ∧ ∃ n, w' = w.drewN n := by
  have hV := hS.vars
  have G := hide (propLit_any h l (by omega))
  rcases hno with hl | ⟨hl, hv⟩
  · rw [hl] at G
    clear h
    go_enter Try.func57, Try.ntmps57
    go_wp2_with (go_at_call 70; refine (unhide G).mono ?_; rintro e w0 ⟨rfl, hw0⟩; subst w0)
    go_ret
    exact ⟨rfl, ⟨0, rfl⟩⟩
  · rw [ltB_true.2 hl] at G
    have G2 := hide (value_any h l hl (by omega) hS.vals)
    have hv' : (s.val l != 0) = true := by simpa using hv
    clear h hv
    generalize s.val l = x at *
    go_enter Try.func57, Try.ntmps57
    go_wp2_with (first | (go_at_call 70; refine (unhide G).mono ?_; rintro e w0 ⟨rfl, hw0⟩; subst w0) | (go_at_call 50; refine (unhide G2).mono ?_; rintro e w0 ⟨rfl, n0, rfl⟩))
    go_ret
    exact ⟨rfl, ⟨_, rfl⟩⟩

set_option maxHeartbeats 4000000 in
set_option maxRecDepth 100000 in
theorem decide_yes (h : Rep ρ w B H s) (hS : Shp s) (hM : Small s) (l : Int) (hl : Lt s.vars l) (hv : s.val l = 0) (hhd : s.head ≤ 1048576) :
    Calls Try.prog 57 #[.pointer (some ⟨B, 0, none⟩), .int .i64 l] w fun e w' => e = .returned (.int .i64 0) ∧ DecP ρ w B (s.decide l) w' := by
  have hV := hS.vars
  have G := hide (propLit_any h l (by omega))
  rw [ltB_true.2 hl] at G
  have G2 := value_any h l hl (by omega) hS.vals
  rw [hv] at G2
  replace G2 := hide G2
  obtain ⟨a8, tc, et, _, hm8, _⟩ := h.trl
  have c8 := h.c8
  rw [et] at c8
  have c9 := h.c9
  have c10 := h.c10
  have hown := h.hold.own (9, 0) _ rfl
  simp only at hown
  have hBlt := h.lt
  have hln := hM.lvs
  have htn := hM.trail
  obtain ⟨i0, hi0, hz0, hz1, hz2⟩ := info_parts Try.info95
  have hlB : ∀ k, H.lv.ownBlock = some k → k ≠ B := fun k hk => h.hold.ne (r := (9, 0)) (q := (0, 0)) rfl hk rfl rfl (by decide)
  have f10 := h.fz 10
  have HH := hide h
  have HOWN := hide hown
  have HS := hide hS
  have HM := hide hM
  have HLB := hide hlB
  clear h hown et hv hlB
  generalize hlv : H.lv = lv at *
  have HLV := hide hlv
  clear hlv
  generalize hNt : s.trail.length = Nt at *
  have HNT := hide hNt
  clear hNt
  generalize hNh : s.head = Nh at *
  have HNH := hide hNh
  clear hNh
  unfold maxLen at hm8
  go_enter Try.func57, Try.ntmps57
  go_wp2_with (first | (go_at_call 70; refine (unhide G).mono ?_; rintro e w0 ⟨rfl, hw0⟩; subst w0) | (go_at_call 50; refine (unhide G2).mono ?_; rintro e w0 ⟨rfl, n0, rfl⟩))
  refine forget (P := fun W => Code.wp Try.prog _ _ _ W) (fun W => (W.cell? ⟨B, 8, none⟩ = some (.slice a8 Nt tc) ∧ W.cell? ⟨B, 9, none⟩ = some (.int .i64 Nh) ∧ W.cell? ⟨B, 10, none⟩ = some lv ∧ W.frozen? ⟨B, 10, none⟩ = false ∧ B < W.heap.size) ∧ Hid (Rep ρ W B H s) ∧ Hid (Ev ρ w ρ W) ∧ Hid (W.ownsRow 0 95 3 lv s.lvs.length (lvsC s.lvs H.lr))) ⟨⟨c8, c9, c10, f10, hBlt⟩, HH.out.drewN n0, Ev.drewN _ _ _, HOWN.out⟩ ?_
  clear c8 c9 c10 f10 hBlt HH HOWN G G2
  rintro W ⟨⟨c8, c9, c10, f10, hBlt⟩, HH, HE, HOWN⟩
  have AF := hide (fun (x w3 : World) (hb : Below W.heap.size W x) (hg : x.grownBy w3 lv.ownBlock) => (⟨wAfter c8 hb hg HLB.out, wAfter c9 hb hg HLB.out, wAfter c10 hb hg HLB.out⟩ : (_ ∧ _) ∧ (_ ∧ _) ∧ (_ ∧ _)))
  have a8' : (W.alloc (.cells #[.int .i64 Nt, .int .i64 Nh, .slice none 0 0] 95)).cell? ⟨B, 10, none⟩ = some lv := (World.cell?_of_block (a := ⟨B, 10, none⟩) (heap_alloc_old W _ hBlt)).trans c10
  go_region_law (first
    | (refine step_append_lies _ (by rfl) (.tmp 19) (.tmp 30) 65 (by rfl) 0 95 i0 (.agg #[.int .i64 0, .int .i64 0, .slice none 0 0]) 3 40 Try.underlying65 hi0 hz0 hz1 hz2 rfl (by decide) lv s.lvs.length _ (by rfl) (HOWN.out.drew.alloc _) ⟨W.heap.size, 0, none⟩ 1 1 [.int .i64 Nt, .int .i64 Nh, .slice none 0 0] (by rfl) (by rfl) (World.news_of_block (cs := #[.int .i64 Nt, .int .i64 Nh, .slice none 0 0]) (t := 95) (fr := (0, 0)) (heap_alloc_new W.drew _)) (by simp [Value.oneCell']) (by decide) (by unfold maxLen; omega) (by omega) (Nat.zero_le _) (W.heap.size + 1) (by simp) ?_; intro g3 cap3 w3 hown3 hgrow3 hat3 hlt3; obtain ⟨⟨x1, y1⟩, ⟨x2, y2⟩, ⟨x3, y3⟩⟩ := AF.out _ _ (below_drew_alloc W _) hgrow3))
  all_goals
    have hfin := (HH.out.drew.alloc (.cells #[.int .i64 Nt, .int .i64 Nh, .slice none 0 0] 95)).lvApp (p := ⟨Nt, Nh, []⟩) (gg := g3) (v := .slice (some ⟨g3, 0, none⟩) (s.lvs.length + 1) cap3) rfl (by rw [HLV.out]; exact hgrow3) (by exact hown3) (fun g hg => by simp [Value.ownBlock] at hg; exact hg.symm) (by rw [HLV.out]; rcases hat3 with h | h; exact .inl h; exact .inr (by simp; omega))
    have HF := hide hfin
    clear hfin hown3 hgrow3 hat3 hlt3 x1 y1 x2 y2 x3 y3 c8 c9 c10 f10 a8' AF HOWN
    go_wp2_with fail
    have hrep := HF.out.1
    have eL : ({ s with lvs := s.lvs ++ [⟨Nt, Nh, []⟩] } : PS) = s.leveled := by unfold PS.leveled; rw [HNT.out, HNH.out]
    rw [eL] at hrep
    refine (put_any hrep l (-1) hl ⟨HS.out.vars, HS.out.vals, HS.out.wat, HS.out.fac, HS.out.bit, HS.out.num⟩ HM.out.trail ⟨by omega, by omega⟩).mono ?_
    rintro e w5 ⟨rfl, ρ5, tv5, hR5, hE5⟩
    have HR5 := hide hR5
    have HE5 := hide ((HE.out.trans ((Ev.drew _ _).trans (Ev.alloc _))).trans (HF.out.2.trans hE5))
    clear hR5 hE5 hrep
    go_wp2
    go_ret
    exact ⟨rfl, ρ5, _, HR5.out, HE5.out⟩
end

end Go.Proofs.Ytlmbgaconjcaiab

namespace Go.Proofs.Ytlmbgaconjcaiab
open Go.RowKit

/-- All blocks from one on are nobody's. -/
def fr (ρ : Nat → Rl) (n : Nat) : Nat → Rl := fun b => if b < n then ρ b else oth
theorem fr_old {ρ : Nat → Rl} {n b : Nat} (h : b < n) : fr ρ n b = ρ b := if_pos h
theorem fr_new {ρ : Nat → Rl} {n b : Nat} (h : n ≤ b) : fr ρ n b = oth := if_neg (by omega)
theorem Rep.fr {ρ : Nat → Rl} {w w' : World} {B : Nat} {H : Hd} {s : PS} (h : Rep ρ w B H s) (hb : Below w.heap.size w w') : Rep (fr ρ w.heap.size) w' B H s := (h.role (fun b hb => fr_old hb)).below hb
theorem Ev.fr {ρ : Nat → Rl} {w w' : World} (hb : Below w.heap.size w w') : Ev ρ w (fr ρ w.heap.size) w' := ⟨hb.os, hb.tape, hb.output, hb.size, fun b h => fr_old h, fun b h _ => hb.block b h⟩

/-- A row of numbers that is nobody's. -/
def DR (ρ : Nat → Rl) (w : World) (v : Value) (n : Nat) (ds : List Int) : Prop := w.ownsRow 0 3 1 v n (intC ds) ∧ ∀ g, v.ownBlock = some g → ρ g = oth
theorem DR.ev {ρ ρ' : Nat → Rl} {w w' : World} {v : Value} {n : Nat} {ds : List Int} (h : DR ρ w v n ds) (hE : Ev ρ w ρ' w') : DR ρ' w' v n ds := by
  have hlt : ∀ g, v.ownBlock = some g → g < w.heap.size := fun g hg => (World.ownsRow.lt h.1 g hg).2
  exact ⟨own_same h.1 (fun k hk => hE.keep k (hlt k hk) (h.2 k hk)), fun g hg => (hE.agree g (hlt g hg)).trans (h.2 g hg)⟩
theorem DR.nil (ρ : Nat → Rl) (w : World) : DR ρ w (.slice none 0 0) 0 [] := ⟨World.ownsRow_nil _ _ _ _, fun g hg => by simp [Value.ownBlock] at hg⟩

theorem own_lit0 (W : World) (base : Nat) (hb : base ≤ W.heap.size) : (W.alloc (.cells #[] 3)).ownsRow base 3 1 (.slice (some ⟨W.heap.size, 0, none⟩) 0 0) 0 [] :=
  ⟨rfl, .inr ⟨W.heap.size, 0, #[], rfl, hb, heap_alloc_new W _, Nat.le_refl _, by unfold maxLen; omega, rfl, rfl⟩⟩
theorem own_lit1 (W : World) (o : Obj) (base : Nat) (hb : base ≤ W.heap.size) : ((W.alloc o).alloc (.cells #[] 3)).ownsRow base 3 1 (.slice (some ⟨W.heap.size + 1, 0, none⟩) 0 0) 0 [] := by
  have := own_lit0 (W.alloc o) base (by simp; omega)
  simpa using this

theorem heap3 (w : World) (o1 o2 o3 : Obj) : ((((w.alloc o1).alloc o2).alloc o3).heap[w.heap.size]? = some o1 ∧ (((w.alloc o1).alloc o2).alloc o3).heap[w.heap.size + 1]? = some o2 ∧ (((w.alloc o1).alloc o2).alloc o3).heap[w.heap.size + 1 + 1]? = some o3) ∧ (((w.alloc o1).alloc o2).alloc o3).heap.size = w.heap.size + 1 + 1 + 1 := by
  have s1 : (w.alloc o1).heap.size = w.heap.size + 1 := by simp
  have s2 : ((w.alloc o1).alloc o2).heap.size = w.heap.size + 1 + 1 := by simp
  refine ⟨⟨?_, ?_, ?_⟩, by simp⟩
  · rw [heap_alloc_old _ _ (by omega), heap_alloc_old _ _ (by omega)]; exact heap_alloc_new w o1
  · rw [heap_alloc_old _ _ (by omega), ← s1]; exact heap_alloc_new _ o2
  · rw [← s2]; exact heap_alloc_new _ o3

/-- The blocks that an act of the law keeps for itself: the world, the act, the result. -/
structure Bx (W : World) (b2 b3 b4 : Nat) (wv av rv : Array Value) : Prop where
  k2 : W.heap[b2]? = some (.cells wv 36 (0, 0))
  k3 : W.heap[b3]? = some (.cells av 31 (0, 0))
  k4 : W.heap[b4]? = some (.cells rv 36 (0, 0))
theorem Bx.below {W W' : World} {b2 b3 b4 : Nat} {wv av rv : Array Value} (h : Bx W b2 b3 b4 wv av rv) (hb : Below W.heap.size W W') : Bx W' b2 b3 b4 wv av rv :=
  ⟨(hb.block _ (lt_of_block h.k2)).trans h.k2, (hb.block _ (lt_of_block h.k3)).trans h.k3, (hb.block _ (lt_of_block h.k4)).trans h.k4⟩
theorem Bx.ev {W W' : World} {ρ ρ' : Nat → Rl} {b2 b3 b4 : Nat} {wv av rv : Array Value} (h : Bx W b2 b3 b4 wv av rv) (hE : Ev ρ W ρ' W') (hr : ρ b2 = oth ∧ ρ b3 = oth ∧ ρ b4 = oth) : Bx W' b2 b3 b4 wv av rv :=
  ⟨(hE.keep _ (lt_of_block h.k2) hr.1).trans h.k2, (hE.keep _ (lt_of_block h.k3) hr.2.1).trans h.k3, (hE.keep _ (lt_of_block h.k4) hr.2.2).trans h.k4⟩

def ActP (ρ : Nat → Rl) (w : World) (B : Nat) (t : PS) (v : Value) (n : Nat) (ds : List Int) (w' : World) : Prop := ∃ ρ' H', Rep ρ' w' B H' t ∧ Ev ρ w ρ' w' ∧ DR ρ' w' v n ds

theorem ents_e (B : Nat) (H : Hd) (s : PS) : ∀ r x, ents B H s r = some x → x.e ≠ 36 := by
  refine rl_cases ?_ ?_ (fun i => ?_) (fun i => ?_) ?_ ?_ (fun i => ?_) ?_ ?_ ?_ (fun i => ?_) ?_ (fun k i hn _ _ _ _ _ _ _ _ _ _ _ _ => ?_)
  all_goals intro x hx
  case _ => simp only [ents, Option.some.injEq] at hx; subst hx; simp
  case _ => simp only [ents, Option.some.injEq] at hx; subst hx; simp
  case _ => simp only [ents, Option.map_eq_some_iff] at hx; obtain ⟨c, _, rfl⟩ := hx; simp
  case _ => simp only [ents, Option.map_eq_some_iff] at hx; obtain ⟨c, _, rfl⟩ := hx; simp
  case _ => simp only [ents, Option.some.injEq] at hx; subst hx; simp
  case _ => simp only [ents, Option.some.injEq] at hx; subst hx; simp
  case _ => simp only [ents] at hx; unfold watE at hx; split at hx <;> simp at hx; subst hx; simp
  case _ => simp only [ents, Option.some.injEq] at hx; subst hx; simp
  case _ => simp only [ents, Option.some.injEq] at hx; subst hx; simp
  case _ => simp only [ents, Option.some.injEq] at hx; subst hx; simp
  case _ => simp only [ents] at hx; unfold lvlE at hx; split at hx <;> simp at hx; subst hx; simp
  case _ => simp only [ents, Option.some.injEq] at hx; subst hx; simp
  case _ => rw [hn] at hx; cases hx

theorem own_ty {w : World} {base e sz n g : Nat} {v : Value} {xs : List Value} (h : w.ownsRow base e sz v n xs) (hg : v.ownBlock = some g) : ∃ cs, w.heap[g]? = some (.cells cs e (0, 0)) := by
  rcases h.2 with ⟨rfl, _⟩ | ⟨g', cap, cur, rfl, hb, hgg, _⟩
  · simp [Value.ownBlock] at hg
  · simp [Value.ownBlock] at hg; subst hg; exact ⟨_, hgg⟩

/-- A block of the law's own turned. -/
theorem ActP.step {ρ : Nat → Rl} {w W W' : World} {B : Nat} {t : PS} {v : Value} {n g : Nat} {ds : List Int} {cs : Array Value} (h : ActP ρ w B t v n ds W) (hg : W.heap[g]? = some (.cells cs 36 (0, 0))) (hge : w.heap.size ≤ g) (hoff : ∀ b, b ≠ g → W'.heap[b]? = W.heap[b]?) (hsz : W'.heap.size = W.heap.size) (hr : W'.os = W.os ∧ W'.tape = W.tape ∧ W'.output = W.output) : ActP ρ w B t v n ds W' := by
  obtain ⟨ρ', H', hR, hE, hD⟩ := h
  have hne : ∀ (e : TypeId) (cs' : Array Value) (k : Nat), e ≠ 36 → W.heap[k]? = some (.cells cs' e (0, 0)) → k ≠ g := by
    rintro e cs' k he hk rfl
    rw [hg] at hk; simp at hk; exact he hk.2.symm
  refine ⟨ρ', H', ⟨⟨fun r x hx => own_same (hR.hold.own r x hx) (fun k hk => hoff k ?_), hR.hold.rl⟩, hR.wr, hR.lr⟩, ?_, own_same hD.1 (fun k hk => hoff k ?_), hD.2⟩
  · obtain ⟨cs', hc⟩ := own_ty (hR.hold.own r x hx) hk
    exact hne _ _ _ (ents_e _ _ _ r x hx) hc
  · exact ⟨hr.1.trans hE.os, hr.2.1.trans hE.tape, hr.2.2.trans hE.output, by rw [hsz]; exact hE.size, hE.agree, fun b hb ho => (hoff b (by omega)).trans (hE.keep b hb ho)⟩
  · obtain ⟨cs', hc⟩ := own_ty hD.1 hk
    exact hne _ _ _ (by decide) hc

theorem U5.cell {w W : World} {g : Nat} {xs : List Value} (h : U5 w W g xs) {i : Nat} {u : Value} (hi : xs[i]? = some u) : W.cell? ⟨g, i, none⟩ = some u := own_cell (g := g) h.own rfl hi

theorem act0_fin {ρ ρ2 : Nat → Rl} {w w2 w4 : World} {B : Nat} {H2 : Hd} {t : PS} {ds : List Int} {l : Int} {g2 n4 cap2 b2 b3 b4 : Nat} {v0 v1 v2 v3 v4 : Value} {av rv : Array Value} (hR2 : Rep ρ2 w2 B H2 t) (hE2 : Ev ρ w ρ2 w2) (hBX : Bx w2 b2 b3 b4 #[v0, v1, v2, v3, v4] av rv) (hx : b2 ≠ b4) (hn : w.heap.size = b2) (hbl2 : Below w2.heap.size w2 w4) (ho2 : w4.ownsRow w2.heap.size 3 1 (.slice (some ⟨g2, 0, none⟩) (n4 + 1) cap2) (n4 + 1) (intC ds ++ [.int .i64 l])) :
    ((w4.setCell ⟨b2, 4, none⟩ (.slice (some ⟨g2, 0, none⟩) (n4 + 1) cap2)).cell? ⟨b2, 0, none⟩ = some v0 ∧ (w4.setCell ⟨b2, 4, none⟩ (.slice (some ⟨g2, 0, none⟩) (n4 + 1) cap2)).cell? ⟨b2, 1, none⟩ = some v1 ∧ (w4.setCell ⟨b2, 4, none⟩ (.slice (some ⟨g2, 0, none⟩) (n4 + 1) cap2)).cell? ⟨b2, 2, none⟩ = some v2 ∧ (w4.setCell ⟨b2, 4, none⟩ (.slice (some ⟨g2, 0, none⟩) (n4 + 1) cap2)).cell? ⟨b2, 3, none⟩ = some v3 ∧ (w4.setCell ⟨b2, 4, none⟩ (.slice (some ⟨g2, 0, none⟩) (n4 + 1) cap2)).cell? ⟨b2, 4, none⟩ = some (.slice (some ⟨g2, 0, none⟩) (n4 + 1) cap2)) ∧ (w4.setCell ⟨b2, 4, none⟩ (.slice (some ⟨g2, 0, none⟩) (n4 + 1) cap2)).heap[b4]? = some (.cells rv 36 (0, 0)) ∧ Hid (ActP ρ w B t (.slice (some ⟨g2, 0, none⟩) (n4 + 1) cap2) (n4 + 1) (ds ++ [l]) (w4.setCell ⟨b2, 4, none⟩ (.slice (some ⟨g2, 0, none⟩) (n4 + 1) cap2))) := by
  have e : intC (ds ++ [l]) = intC ds ++ [.int .i64 l] := by simp [intC]
  have hlt := World.ownsRow.lt ho2 g2 rfl
  have HA : ActP ρ w B t (.slice (some ⟨g2, 0, none⟩) (n4 + 1) cap2) (n4 + 1) (ds ++ [l]) w4 := by
    refine ⟨fr ρ2 w2.heap.size, H2, hR2.fr hbl2, hE2.trans (Ev.fr hbl2), ?_, ?_⟩
    · rw [e]
      refine ⟨ho2.1, ?_⟩
      rcases ho2.2 with h | ⟨g, cap, cur, h1, _, h3⟩
      · exact .inl h
      · exact .inr ⟨g, cap, cur, h1, Nat.zero_le _, h3⟩
    · intro g hg
      have : g2 = g := by simpa [Value.ownBlock] using hg
      subst this
      exact fr_new hlt.1
  have hBX4 := hBX.below hbl2
  have hU := (U5.first rfl hBX4.k2).set 4 (.slice (some ⟨g2, 0, none⟩) (n4 + 1) cap2)
  exact ⟨⟨hU.cell rfl, hU.cell rfl, hU.cell rfl, hU.cell rfl, hU.cell rfl⟩, (hU.off b4 (Ne.symm hx)).trans hBX4.k4, HA.step hBX4.k2 (Nat.le_of_eq hn) hU.off hU.size hU.rest⟩

section
variable {ρ : Nat → Rl} {w : World} {B : Nat} {H : Hd} {s : PS}

theorem openB_lt {V : Nat} {t : List Int} {l : Int} (h : openB V t l = true) : Lt V l ∧ l ∉ t ∧ -l ∉ t := by
  unfold openB at h
  simp only [Bool.and_eq_true, decide_eq_true_eq, Bool.not_eq_true'] at h
  obtain ⟨⟨⟨h1, h2⟩, h3⟩, h4⟩ := h
  unfold litB at h1
  simp only [decide_eq_true_eq] at h1
  refine ⟨?_, ?_, ?_⟩
  · unfold Lt; unfold varI at h2; split at h2 <;> omega
  · intro hm; unfold hasB at h3; rw [List.any_eq_false] at h3; exact h3 l hm (by simp)
  · intro hm; unfold hasB at h4; rw [List.any_eq_false] at h4; exact h4 (-l) hm (by simp)

theorem val_zero (hI : Inv s) {l : Int} (hl : Lt s.vars l) (h1 : l ∉ s.trail) (h2 : -l ∉ s.trail) : s.val l = 0 := by
  rw [hI.tr.vl l hl]; unfold tval; rw [if_neg h1, if_neg h2]

end
end Go.Proofs.Ytlmbgaconjcaiab

namespace Go.Proofs.Ytlmbgaconjcaiab

section
variable {s t : PS}

theorem Cnt.same (h : Cnt s) (hk : t.cls.map (fun c => c.gone) = s.cls.map (fun c => c.gone)) (hc : t.count = s.count) (hs : t.stale = s.stale) : Cnt t := by
  have key : ∀ (p : Bool → Bool), t.cls.countP (fun c => p c.gone) = s.cls.countP (fun c => p c.gone) := by
    intro p
    have e : ∀ l : List Cl, l.countP (fun c => p c.gone) = (l.map (fun c => c.gone)).countP p := by
      intro l; rw [List.countP_map]; rfl
    rw [e, e, hk]
  refine ⟨?_, ?_⟩
  · rw [hc, h.n, key (fun b => !b)]
  · rw [hs, key (fun b => b)]; exact h.st

theorem gone_key (s : PS) : s.cls.map (fun c => c.gone) = (s.cls.map key).map Prod.snd := by
  rw [List.map_map]; rfl

theorem Cnt.frm (h : Cnt s) (hF : Frm s t) : Cnt t := h.same (by rw [gone_key, gone_key, hF.cl]) hF.count hF.stale
theorem Cnt.back (h : Cnt s) (k : Nat) (lv : Lv) : Cnt (s.back k lv) := by rw [back_eq]; exact h.same rfl rfl rfl
theorem Cnt.decide (h : Cnt s) (l : Int) : Cnt (s.decide l) := h.same rfl rfl rfl
theorem Cnt.attach (h : Cnt s) (ls : List Int) : Cnt (s.attach ls) := by
  obtain ⟨h1, _, _, _, h5, h6⟩ := attach_cls s ls
  have e : ∀ (u : PS) (p : Bool → Bool), u.cls.countP (fun c => p c.gone) = ((u.cls.map key).map Prod.snd).countP p := by
    intro u p
    rw [← gone_key, List.countP_map]; rfl
  refine ⟨?_, ?_⟩
  · rw [h5, h.n, e s (fun b => !b), e (s.attach ls) (fun b => !b), h1]; simp
  · rw [h6, e (s.attach ls) (fun b => b), h1]
    have := h.st
    rw [e s (fun b => b)] at this
    simpa using this

/-- The law's clauses, and which are gone, are a propagator's. -/
structure Kys (s : PS) (css : List (List Int)) (gs : List Bool) : Prop where
  gone : s.cls.map (fun c => c.gone) = gs
  len : s.cls.length = css.length
  lits : ∀ (i : Nat) c, s.cls[i]? = some c → c.gone = false → css[i]? = some c.lits

variable {css : List (List Int)} {gs : List Bool}

theorem Kys.glen (h : Kys s css gs) : gs.length = css.length := by rw [← h.gone, List.length_map, h.len]
theorem Kys.same (h : Kys s css gs) (e : t.cls.map key = s.cls.map key) : Kys t css gs := by
  refine ⟨by rw [gone_key, e, ← gone_key, h.gone], by rw [← h.len]; simpa using congrArg List.length e, fun i c hc hg => ?_⟩
  have hk := keys_at (ks := s.cls.map key) e hc
  rw [List.getElem?_map, Option.map_eq_some_iff] at hk
  obtain ⟨c', hc', he⟩ := hk
  simp only [key, Prod.mk.injEq] at he
  rw [← he.1]
  exact h.lits i c' hc' (he.2.trans hg)
theorem Kys.attach (h : Kys s css gs) (ls : List Int) : Kys (s.attach ls) (css ++ [ls]) (gs ++ [false]) := by
  obtain ⟨h1, _⟩ := attach_cls s ls
  refine ⟨by rw [gone_key, h1, List.map_append, ← gone_key, h.gone]; rfl, ?_, fun i c hc hg => ?_⟩
  · have := congrArg List.length h1
    simp at this
    simp [this, h.len]
  · have hk := keys_at h1 hc
    rcases Nat.lt_or_ge i s.cls.length with q | q
    · rw [List.getElem?_append_left (by simpa using q), List.getElem?_map, Option.map_eq_some_iff] at hk
      obtain ⟨c', hc', he⟩ := hk
      simp only [key, Prod.mk.injEq] at he
      rw [List.getElem?_append_left (by rw [← h.len]; exact q), ← he.1]
      exact h.lits i c' hc' (he.2.trans hg)
    · rw [List.getElem?_append_right (by simpa using q)] at hk
      simp at hk
      obtain ⟨e0, e1⟩ : i - s.cls.length = 0 ∧ (ls, false) = (c.lits, c.gone) := by
        cases hh : i - s.cls.length with
        | zero => rw [hh] at hk; simpa using hk
        | succ n => rw [hh] at hk; simp at hk
      simp at e1
      obtain rfl : i = css.length := by rw [← h.len]; omega
      rw [List.getElem?_append_right (Nat.le_refl _)]
      simp [e1.1]
theorem drop_cls (s : PS) (i : Nat) (c : Cl) : (s.drop i c).cls = s.cls.set i { c with gone := true, lits := [] } := by
  unfold PS.drop
  simp only
  split <;> rfl
theorem Kys.drop (h : Kys s css gs) {i : Nat} {c : Cl} (hc : s.cls[i]? = some c) : Kys (s.drop i c) css (gs.set i true) := by
  refine ⟨by rw [drop_cls, List.map_set, h.gone], by rw [drop_cls, List.length_set, h.len], fun j d hd hg => ?_⟩
  rw [drop_cls] at hd
  rcases set_at hc hd with ⟨rfl, rfl⟩ | ⟨hne, hd'⟩
  · simp at hg
  · exact h.lits j d hd' hg

theorem thereL_mem : ∀ (css : List (List Int)) (gs : List Bool) (L : List Int), L ∈ thereL css gs ↔ ∃ i : Nat, css[i]? = some L ∧ gs[i]? = some false
  | [], gs, L => by simp [thereL]
  | c :: cs, [], L => by simp [thereL]
  | c :: cs, g :: gs, L => by
    have ih := thereL_mem cs gs L
    cases g with
    | true =>
      simp only [thereL, if_true]
      rw [ih]
      constructor
      · rintro ⟨i, h1, h2⟩; exact ⟨i + 1, by simpa using h1, by simpa using h2⟩
      · rintro ⟨i, h1, h2⟩
        cases i with
        | zero => simp at h2
        | succ i => exact ⟨i, by simpa using h1, by simpa using h2⟩
    | false =>
      simp only [thereL, Bool.false_eq_true, if_false, List.mem_cons]
      rw [ih]
      constructor
      · rintro (rfl | ⟨i, h1, h2⟩)
        · exact ⟨0, by simp, by simp⟩
        · exact ⟨i + 1, by simpa using h1, by simpa using h2⟩
      · rintro ⟨i, h1, h2⟩
        cases i with
        | zero => left; simpa using h1.symm
        | succ i => exact .inr ⟨i, by simpa using h1, by simpa using h2⟩
theorem thereL_len : ∀ (css : List (List Int)) (gs : List Bool), (thereL css gs).length ≤ css.length
  | [], gs => by simp [thereL]
  | c :: cs, [] => by simp [thereL]
  | c :: cs, g :: gs => by
    have := thereL_len cs gs
    cases g <;> simp [thereL] <;> omega
theorem thereL_none : ∀ (css : List (List Int)), thereL css (List.replicate css.length false) = css
  | [] => rfl
  | c :: cs => by simp [thereL, List.replicate_succ, thereL_none cs]

theorem Kys.at (h : Kys s css gs) {i : Nat} {c : Cl} (hc : s.cls[i]? = some c) : gs[i]? = some c.gone := by
  rw [← h.gone, List.getElem?_map, hc]; rfl
theorem Kys.alv (h : Kys s css gs) : Alv s (thereL css gs) := by
  intro L
  rw [thereL_mem]
  constructor
  · rintro ⟨i, h1, h2⟩
    have hi : i < s.cls.length := by rw [h.len]; exact (List.getElem?_eq_some_iff.1 h1).1
    have hc := List.getElem?_eq_getElem hi
    have hg := h.at hc
    rw [h2] at hg
    simp at hg
    have := h.lits i _ hc hg
    rw [h1] at this
    simp at this
    exact ⟨i, _, hc, hg, this.symm⟩
  · rintro ⟨i, c, hc, hg, rfl⟩
    exact ⟨i, h.lits i c hc hg, by rw [h.at hc, hg]⟩
theorem Kys.new {css : List (List Int)} (h : s.cls.map key = css.map (fun c => (c, false))) : Kys s css (List.replicate css.length false) := by
  refine ⟨by rw [gone_key, h, List.map_map]; rw [List.eq_replicate_iff]; exact ⟨by simp, by simp⟩, by simpa using congrArg List.length h, fun i c hc hg => ?_⟩
  have hk := keys_at h hc
  rw [List.getElem?_map, Option.map_eq_some_iff] at hk
  obtain ⟨L, hL, he⟩ := hk
  simp at he
  rw [hL, he.1]
theorem Cnt.new {css : List (List Int)} (h : s.cls.map key = css.map (fun c => (c, false))) (hc : s.count = css.length) (hs : s.stale = 0) : Cnt s := by
  have hg : ∀ c ∈ s.cls, c.gone = false := by
    intro c hc
    have : key c ∈ s.cls.map key := List.mem_map_of_mem hc
    rw [h] at this
    obtain ⟨d, _, e⟩ := List.mem_map.1 this
    exact (congrArg Prod.snd e).symm
  have hl : s.cls.length = css.length := by simpa using congrArg List.length h
  refine ⟨?_, by rw [hs]; omega⟩
  rw [hc, List.countP_eq_length.2 (fun c hc => by simp [hg c hc]), hl]

/-- A clause that can't be dropped is a reason of the trail. -/
theorem rsn_trail (h : Inv s) {i : Nat} {c : Cl} (hc : s.cls[i]? = some c) (hr : s.rsnB i c.lits = true) : ∃ x ∈ s.trail, s.rsnT x = (i : Int) := by
  unfold PS.rsnB at hr
  rw [List.any_eq_true] at hr
  obtain ⟨x, hx, h1⟩ := hr
  simp only [Bool.and_eq_true, beq_iff_eq] at h1
  have hl := h.wt.ok i c hc x hx
  refine ⟨x, (h.vone hl).1 h1.1, ?_⟩
  have hv : s.valT x = 1 := by unfold PS.valT; rw [if_pos (ltB_true.2 hl), h1.1]
  unfold PS.rsnT
  rw [hv, h1.2]; simp

/-- A literal that is not open is refused. -/
theorem open_no (h : Inv s) (hV : s.vars ≤ 1048576) {l : Int} (ho : openB s.vars s.trail l = false) : ltB s.vars l = false ∨ (Lt s.vars l ∧ s.val l ≠ 0) := by
  cases hb : ltB s.vars l with
  | false => exact .inl rfl
  | true =>
    right
    have hl := ltB_true.1 hb
    refine ⟨hl, fun hv => ?_⟩
    obtain ⟨h1, h2⟩ := (h.vzero hl).1 hv
    have : openB s.vars s.trail l = true := by
      unfold openB
      unfold Lt at hl
      have e1 : litB l 1048576 = true := by unfold litB; simp only [decide_eq_true_eq]; omega
      have e2 : decide (varI l ≤ s.vars) = true := by unfold varI; simp only [decide_eq_true_eq]; split <;> omega
      rw [e1, e2, hasB_false.2 h1, hasB_false.2 h2]; rfl
    rw [this] at ho; cases ho

/-- What a run tells, by what follows. -/
theorem run_tells (h : Inv s) {cs : List (List Int)} (ha : Alv s cs) (hV : s.vars < 100001) {n : Int} (hn : (n = -1 ∧ s.late = [] ∧ s.head = s.trail.length) ∨ Brk s n) :
    (n = -1 ∧ (followsP cs 100001 s.dec).2 = false ∧ (∀ x, x ∈ (followsP cs 100001 s.dec).1 ↔ x ∈ s.trail) ∧ (followsP cs 100001 s.dec).1.length = s.trail.length) ∨ (0 ≤ n ∧ (followsP cs 100001 s.dec).2 = true) := by
  rcases hn with ⟨h1, h2, h3⟩ | hb
  · left
    exact ⟨h1, follows_done h h2 h3 ha hV⟩
  · right
    have k := follows_brk h ha hb (fuel := 100001) hV
    obtain ⟨i, c, rfl, _⟩ := hb
    exact ⟨by omega, k⟩
end
end Go.Proofs.Ytlmbgaconjcaiab

namespace Go.Proofs.Ytlmbgaconjcaiab
open Go.RowKit

theorem bquiet {b : Nat} {a w : World} (h : Below b a w) (n : Nat) : Below b a (w.drewN n) := ⟨h.os, h.tape, h.output, h.size, h.block⟩
theorem bdrew {b : Nat} {a w : World} (h : Below b a w.drew) : Below b a w := ⟨h.os, h.tape, h.output, h.size, h.block⟩

section
variable {ρ ρ' : Nat → Rl} {N : Nat} {w w' wr : World} {a : Option Addr}

/-- A block that came in, or that is of none of the law's own types. -/
def Far (N : Nat) (w : World) (b : Nat) : Prop := b < N ∨ ∃ cs e, w.heap[b]? = some (.cells cs e (0, 0)) ∧ e ≠ 36 ∧ e ≠ 31 ∧ e ≠ 4
theorem Far.keep {b : Nat} (h : Far N w b) (e : w'.heap[b]? = w.heap[b]?) : Far N w' b := by
  rcases h with h | ⟨cs, t, h1, h2⟩
  · exact .inl h
  · exact .inr ⟨cs, t, e.trans h1, h2⟩

/-- A row of numbers that is nobody's, wherever it lies. -/
def RowO (ρ : Nat → Rl) (N : Nat) (w : World) (a : Option Addr) (xs : List Int) : Prop :=
  ∀ i (h : i < xs.length), ∃ b off, a = some ⟨b, off, none⟩ ∧ b < w.heap.size ∧ ρ b = oth ∧ Far N w b ∧ w.cell? ⟨b, off + i, none⟩ = some (.int .i64 xs[i])
theorem RowO.row {xs : List Int} (h : RowO ρ N w a xs) : Row w a xs := fun i hi => by
  obtain ⟨b, off, e, hb, _, _, hc⟩ := h i hi
  exact ⟨b, off, e, hb, hc⟩
theorem RowO.ev {xs : List Int} (h : RowO ρ N w a xs) (hE : Ev ρ w ρ' w') : RowO ρ' N w' a xs := fun i hi => by
  obtain ⟨b, off, e, hb, hr, hf, hc⟩ := h i hi
  exact ⟨b, off, e, Nat.lt_of_lt_of_le hb hE.size, (hE.agree b hb).trans hr, hf.keep (hE.keep b hb hr), (World.cell?_of_block (a := ⟨b, off + i, none⟩) (hE.keep b hb hr)).trans hc⟩
theorem Row.rowO {xs : List Int} (h : Row w a xs) (hE : Ev free w ρ wr) : RowO ρ w.heap.size wr a xs := fun i hi => by
  obtain ⟨b, off, e, hb, hc⟩ := h i hi
  exact ⟨b, off, e, Nat.lt_of_lt_of_le hb hE.size, hE.agree b hb, .inl hb, (World.cell?_of_block (a := ⟨b, off + i, none⟩) (hE.keep b hb rfl)).trans hc⟩

/-- Rows of numbers behind a row of slices, all nobody's; the slices' values beside. -/
structure GV (ρ : Nat → Rl) (N : Nat) (w : World) (a : Option Addr) (css : List (List Int)) (vs : List Value) : Prop where
  len : vs.length = css.length
  row : ∀ i (h : i < css.length), ∃ ai ci, vs[i]? = some (.slice ai css[i].length ci) ∧ RowO ρ N w ai css[i] ∧ css[i].length ≤ maxLen ∧ (ai = none → ci = 0)
  cell : ∀ i u, vs[i]? = some u → ∃ b off, a = some ⟨b, off, none⟩ ∧ b < w.heap.size ∧ ρ b = oth ∧ Far N w b ∧ w.cell? ⟨b, off + i, none⟩ = some u

theorem GV.ev {css : List (List Int)} {vs : List Value} (h : GV ρ N w a css vs) (hE : Ev ρ w ρ' w') : GV ρ' N w' a css vs := by
  refine ⟨h.len, fun i hi => ?_, fun i u hu => ?_⟩
  · obtain ⟨ai, ci, h1, h2, h3, h4⟩ := h.row i hi
    exact ⟨ai, ci, h1, h2.ev hE, h3, h4⟩
  · obtain ⟨b, off, e, hb, hr, hf, hc⟩ := h.cell i u hu
    exact ⟨b, off, e, Nat.lt_of_lt_of_le hb hE.size, (hE.agree b hb).trans hr, hf.keep (hE.keep b hb hr), (World.cell?_of_block (a := ⟨b, off + i, none⟩) (hE.keep b hb hr)).trans hc⟩
theorem GV.grid {css : List (List Int)} {vs : List Value} (h : GV ρ N w a css vs) : GridC w a css := by
  intro i hi
  obtain ⟨ai, ci, h1, h2, h3, h4⟩ := h.row i hi
  obtain ⟨b, off, e, hb, _, _, hc⟩ := h.cell i _ h1
  exact ⟨b, off, ai, ci, e, hb, hc, h2.row, h3, h4⟩
theorem GridC.gv {css : List (List Int)} (h : GridC w a css) (hE : Ev free w ρ wr) : ∃ vs, GV ρ w.heap.size wr a css vs := by
  cases ha : a with
  | none =>
    have : css = [] := by
      cases css with
      | nil => rfl
      | cons c r => obtain ⟨b, off, _, _, e, _⟩ := h 0 (by simp); rw [ha] at e; cases e
    subst this
    exact ⟨[], rfl, fun i hi => by simp at hi, fun i u hu => by simp at hu⟩
  | some ad =>
    refine ⟨(List.range css.length).map (fun i => (wr.cell? (ad.add i)).getD (.int .i64 0)), by simp, fun i hi => ?_, fun i u hu => ?_⟩
    · obtain ⟨b, off, ai, ci, e, hb, hc, hr, hl, hn⟩ := h i hi
      rw [ha] at e; cases e
      have hc' := (World.cell?_of_block (a := ⟨b, off + i, none⟩) (hE.keep b hb rfl)).trans hc
      refine ⟨ai, ci, ?_, hr.rowO hE, hl, hn⟩
      rw [List.getElem?_map, List.getElem?_range hi]
      simp only [Option.map_some, Addr.add_lit, hc', Option.getD_some]
    · have hi : i < css.length := by
        have := (List.getElem?_eq_some_iff.1 hu).1; simpa using this
      obtain ⟨b, off, ai, ci, e, hb, hc, hr, hl, hn⟩ := h i hi
      rw [ha] at e; cases e
      have hc' := (World.cell?_of_block (a := ⟨b, off + i, none⟩) (hE.keep b hb rfl)).trans hc
      rw [List.getElem?_map, List.getElem?_range hi] at hu
      simp only [Option.map_some, Addr.add_lit, hc', Option.getD_some, Option.some.injEq] at hu
      subst hu
      exact ⟨b, off, rfl, Nat.lt_of_lt_of_le hb hE.size, hE.agree b hb, .inl hb, hc'⟩
/-- The slices' values as a source of an append. -/
theorem GV.src {css : List (List Int)} {vs : List Value} {c : Nat} (h : GV ρ N w a css vs) (hn : a = none → c = 0) (x : World) (hx : Below w.heap.size w x) : (a = none ∧ css.length = 0 ∧ c = 0 ∧ vs = []) ∨ ∃ ad, a = some ad ∧ vs.length = css.length * 1 ∧ ∀ j u, vs[j]? = some u → x.cell? (ad.add j) = some u := by
  cases ha : a with
  | none =>
    left
    have : vs = [] := by
      cases vs with
      | nil => rfl
      | cons v r => obtain ⟨b, off, e, _⟩ := h.cell 0 v (by simp); rw [ha] at e; cases e
    exact ⟨rfl, by rw [← h.len, this]; rfl, hn ha, this⟩
  | some ad =>
    right
    refine ⟨ad, rfl, by rw [h.len, Nat.mul_one], fun j u hu => ?_⟩
    obtain ⟨b, off, e, hb, _, _, hc⟩ := h.cell j u hu
    rw [ha] at e; cases e
    rw [Addr.add_lit]
    exact (hx.cell (p := ⟨b, off + j, none⟩) hb).trans hc
theorem GV.one {css : List (List Int)} {vs : List Value} (h : GV ρ N w a css vs) : ∀ u ∈ vs, u.oneCell' = true := by
  intro u hu
  obtain ⟨i, hi⟩ := List.mem_iff_getElem?.1 hu
  have hl : i < css.length := by rw [← h.len]; exact (List.getElem?_eq_some_iff.1 hi).1
  obtain ⟨ai, ci, h1, _⟩ := h.row i hl
  rw [hi] at h1; cases h1; rfl
/-- One clause more, behind a new row. -/
theorem GV.snoc {css : List (List Int)} {vs : List Value} {c : List Int} {g cap : Nat} {ac : Option Addr} {cc : Nat} (h : GV ρ N w a css vs) (hr : RowO ρ N w ac c) (hl : c.length ≤ maxLen) (hcc : ac = none → cc = 0) (ho : w.ownsRow 0 32 1 (.slice (some ⟨g, 0, none⟩) (css.length + 1) cap) (css.length + 1) (vs ++ [.slice ac c.length cc])) (hg : ρ g = oth) :
    GV ρ N w (some ⟨g, 0, none⟩) (css ++ [c]) (vs ++ [.slice ac c.length cc]) := by
  refine ⟨by simp [h.len], fun i hi => ?_, fun i u hu => ?_⟩
  · rcases Nat.lt_or_ge i css.length with q | q
    · obtain ⟨ai, ci, h1, h2, h3, h4⟩ := h.row i q
      refine ⟨ai, ci, ?_, ?_, ?_, h4⟩
      · rw [List.getElem?_append_left (by rw [h.len]; exact q), h1]; simp [List.getElem_append_left q]
      · simpa [List.getElem_append_left q] using h2
      · simpa [List.getElem_append_left q] using h3
    · obtain rfl : i = css.length := by simp at hi; omega
      refine ⟨ac, cc, ?_, ?_, ?_, hcc⟩
      · rw [List.getElem?_append_right (by rw [h.len]; exact Nat.le_refl _), h.len]; simp
      · simpa using hr
      · simpa using hl
  · obtain ⟨cs, hcs⟩ := own_ty ho rfl
    refine ⟨g, 0, rfl, (World.ownsRow.lt ho g rfl).2, hg, .inr ⟨cs, 32, hcs, by decide, by decide, by decide⟩, ?_⟩
    have := own_cell (i := i) ho rfl hu
    simpa using this

/-- A row of Booleans that is nobody's. -/
def boolC (gs : List Bool) : List Value := gs.map Value.bool
def BR (ρ : Nat → Rl) (w : World) (v : Value) (n : Nat) (gs : List Bool) : Prop := w.ownsRow 0 4 1 v n (boolC gs) ∧ ∀ g, v.ownBlock = some g → ρ g = oth
theorem BR.ev {v : Value} {n : Nat} {gs : List Bool} (h : BR ρ w v n gs) (hE : Ev ρ w ρ' w') : BR ρ' w' v n gs := by
  have hlt : ∀ g, v.ownBlock = some g → g < w.heap.size := fun g hg => (World.ownsRow.lt h.1 g hg).2
  exact ⟨own_same h.1 (fun k hk => hE.keep k (hlt k hk) (h.2 k hk)), fun g hg => (hE.agree g (hlt g hg)).trans (h.2 g hg)⟩
theorem boolC_get {gs : List Bool} {i : Nat} (h : i < gs.length) : (boolC gs)[i]? = some (.bool gs[i]) := by simp [boolC, List.getElem?_eq_getElem h]
theorem BR.rowB {gs : List Bool} {c : Nat} (h : BR ρ w (.slice a gs.length c) gs.length gs) : RowB w a gs := by
  intro i hi
  obtain ⟨g, cap, e, _, _, hlt⟩ := own_some h.1 (by omega)
  simp at e
  obtain ⟨rfl, rfl⟩ := e
  refine ⟨g, 0, rfl, hlt, ?_⟩
  have := own_cell (i := i) h.1 rfl (boolC_get hi)
  simpa using this
theorem BR.new {n g : Nat} (hb : w.heap[g]? = some (.cells (madeCells #[.bool false] n) 4 (0, 0))) (hr : ρ g = oth) (hn : n ≤ maxLen) : BR ρ w (.slice (some ⟨g, 0, none⟩) n n) n (List.replicate n false) := by
  refine ⟨⟨by simp [boolC], .inr ⟨g, n, madeCells #[.bool false] n, rfl, Nat.zero_le _, hb, Nat.le_refl _, hn, by simp [madeCells], ?_⟩⟩, fun k hk => ?_⟩
  · rw [made_rep, List.take_of_length_le (by simp)]; simp [boolC]
  · simp [Value.ownBlock] at hk; subst hk; exact hr

/-- The law's world: a propagator, and the document's clauses and decisions beside. -/
structure LW (ρ : Nat → Rl) (N : Nat) (w : World) (B V : Nat) (s : PS) (css : List (List Int)) (gs : List Bool) (a2 a3 a4 : Option Addr) (c2 c3 c4 : Nat) : Prop where
  rep : ∃ H, Rep ρ w B H s
  inv : Inv s
  cnt : Cnt s
  vars : s.vars = V
  kys : Kys s css gs
  lits : ∀ c ∈ s.cls, c.lits.length ≤ 4096
  g : ∃ vs, GV ρ N w a2 css vs
  n2 : a2 = none → c2 = 0
  b : BR ρ w (.slice a3 gs.length c3) gs.length gs
  d : DR ρ w (.slice a4 s.dec.length c4) s.dec.length s.dec

variable {B V : Nat} {s t : PS} {css : List (List Int)} {gs : List Bool} {a2 a3 a4 : Option Addr} {c2 c3 c4 : Nat}

theorem LW.below (h : LW ρ N w B V s css gs a2 a3 a4 c2 c3 c4) (hb : Below w.heap.size w w') : LW ρ N w' B V s css gs a2 a3 a4 c2 c3 c4 := by
  obtain ⟨H, hR⟩ := h.rep
  obtain ⟨vs, hg⟩ := h.g
  exact ⟨⟨H, hR.below hb⟩, h.inv, h.cnt, h.vars, h.kys, h.lits, ⟨vs, hg.ev (Ev.below hb)⟩, h.n2, h.b.ev (Ev.below hb), h.d.ev (Ev.below hb)⟩
theorem LW.fr (h : LW ρ N w B V s css gs a2 a3 a4 c2 c3 c4) (hb : Below w.heap.size w w') : LW (fr ρ w.heap.size) N w' B V s css gs a2 a3 a4 c2 c3 c4 := by
  obtain ⟨H, hR⟩ := h.rep
  obtain ⟨vs, hg⟩ := h.g
  exact ⟨⟨H, hR.fr hb⟩, h.inv, h.cnt, h.vars, h.kys, h.lits, ⟨vs, hg.ev (Ev.fr hb)⟩, h.n2, h.b.ev (Ev.fr hb), h.d.ev (Ev.fr hb)⟩

theorem ents_e2 (B : Nat) (H : Hd) (s : PS) : ∀ r x, ents B H s r = some x → x.e ≠ 36 ∧ x.e ≠ 31 := by
  refine rl_cases ?_ ?_ (fun i => ?_) (fun i => ?_) ?_ ?_ (fun i => ?_) ?_ ?_ ?_ (fun i => ?_) ?_ (fun k i hn _ _ _ _ _ _ _ _ _ _ _ _ => ?_)
  all_goals intro x hx
  case _ => simp only [ents, Option.some.injEq] at hx; subst hx; simp
  case _ => simp only [ents, Option.some.injEq] at hx; subst hx; simp
  case _ => simp only [ents, Option.map_eq_some_iff] at hx; obtain ⟨c, _, rfl⟩ := hx; simp
  case _ => simp only [ents, Option.map_eq_some_iff] at hx; obtain ⟨c, _, rfl⟩ := hx; simp
  case _ => simp only [ents, Option.some.injEq] at hx; subst hx; simp
  case _ => simp only [ents, Option.some.injEq] at hx; subst hx; simp
  case _ => simp only [ents] at hx; unfold watE at hx; split at hx <;> simp at hx; subst hx; simp
  case _ => simp only [ents, Option.some.injEq] at hx; subst hx; simp
  case _ => simp only [ents, Option.some.injEq] at hx; subst hx; simp
  case _ => simp only [ents, Option.some.injEq] at hx; subst hx; simp
  case _ => simp only [ents] at hx; unfold lvlE at hx; split at hx <;> simp at hx; subst hx; simp
  case _ => simp only [ents, Option.some.injEq] at hx; subst hx; simp
  case _ => rw [hn] at hx; cases hx

/-- A block of one of the law's own types turned; all others stay. -/
structure Off (W W' : World) (g : Nat) : Prop where
  ty : ∃ cs e, W.heap[g]? = some (.cells cs e (0, 0)) ∧ (e = 36 ∨ e = 31)
  off : ∀ b, b ≠ g → W'.heap[b]? = W.heap[b]?
  size : W'.heap.size = W.heap.size
  rest : W'.os = W.os ∧ W'.tape = W.tape ∧ W'.output = W.output
theorem Off.ne {W W' : World} {g k : Nat} {cs : Array Value} {e : TypeId} (h : Off W W' g) (he : e ≠ 36 ∧ e ≠ 31) (hk : W.heap[k]? = some (.cells cs e (0, 0))) : k ≠ g := by
  rintro rfl
  obtain ⟨cs', e', h1, h2⟩ := h.ty
  rw [h1] at hk; simp at hk
  rcases h2 with h2 | h2
  · exact he.1 (hk.2.symm.trans h2)
  · exact he.2 (hk.2.symm.trans h2)
theorem Off.own {W W' : World} {g base e sz n : Nat} {v : Value} {xs : List Value} (h : Off W W' g) (ho : W.ownsRow base e sz v n xs) (he : e ≠ 36 ∧ e ≠ 31) : W'.ownsRow base e sz v n xs :=
  own_same ho (fun k hk => by obtain ⟨cs, hc⟩ := own_ty ho hk; exact h.off k (h.ne he hc))
theorem Off.rep {W W' : World} {g : Nat} {H : Hd} (h : Off W W' g) (hR : Rep ρ W B H s) : Rep ρ W' B H s :=
  ⟨⟨fun r x hx => h.own (hR.hold.own r x hx) (ents_e2 _ _ _ r x hx), hR.hold.rl⟩, hR.wr, hR.lr⟩
theorem Off.ev {W W' : World} {g : Nat} (h : Off W W' g) (hE : Ev ρ w ρ' W) (hg : w.heap.size ≤ g) : Ev ρ w ρ' W' :=
  ⟨h.rest.1.trans hE.os, h.rest.2.1.trans hE.tape, h.rest.2.2.trans hE.output, by rw [h.size]; exact hE.size, hE.agree, fun b hb ho => (h.off b (by omega)).trans (hE.keep b hb ho)⟩
theorem U5.offs {W W' : World} {g : Nat} {xs : List Value} {cs : Array Value} (h : U5 W W' g xs) (hg : W.heap[g]? = some (.cells cs 36 (0, 0))) : Off W W' g := ⟨⟨cs, 36, hg, .inl rfl⟩, h.off, h.size, h.rest⟩

theorem Off.far {W W' : World} {g b : Nat} (h : Off W W' g) (hg : N ≤ g) (hf : Far N W b) : b ≠ g := by
  rcases hf with hf | ⟨cs, e, h1, h2⟩
  · omega
  · exact h.ne ⟨h2.1, h2.2.1⟩ h1
theorem Off.rowO {W W' : World} {g : Nat} {xs : List Int} (h : Off W W' g) (hg : N ≤ g) (hr : RowO ρ N W a xs) : RowO ρ N W' a xs := fun i hi => by
  obtain ⟨b, off, e, hb, hr, hf, hc⟩ := hr i hi
  have hk := h.off b (h.far hg hf)
  exact ⟨b, off, e, by rw [h.size]; exact hb, hr, hf.keep hk, (World.cell?_of_block (a := ⟨b, off + i, none⟩) hk).trans hc⟩
theorem Off.gv {W W' : World} {g : Nat} {vs : List Value} (h : Off W W' g) (hg : N ≤ g) (hG : GV ρ N W a css vs) : GV ρ N W' a css vs := by
  refine ⟨hG.len, fun i hi => ?_, fun i u hu => ?_⟩
  · obtain ⟨ai, ci, h1, h2, h3, h4⟩ := hG.row i hi
    exact ⟨ai, ci, h1, h.rowO hg h2, h3, h4⟩
  · obtain ⟨b, off, e, hb, hr, hf, hc⟩ := hG.cell i u hu
    have hk := h.off b (h.far hg hf)
    exact ⟨b, off, e, by rw [h.size]; exact hb, hr, hf.keep hk, (World.cell?_of_block (a := ⟨b, off + i, none⟩) hk).trans hc⟩
theorem Off.lw {W W' : World} {g : Nat} (h : Off W W' g) (hg : N ≤ g) (hL : LW ρ N W B V s css gs a2 a3 a4 c2 c3 c4) : LW ρ N W' B V s css gs a2 a3 a4 c2 c3 c4 := by
  obtain ⟨H, hR⟩ := hL.rep
  obtain ⟨vs, hG⟩ := hL.g
  exact ⟨⟨H, h.rep hR⟩, hL.inv, hL.cnt, hL.vars, hL.kys, hL.lits, ⟨vs, h.gv hg hG⟩, hL.n2, ⟨h.own hL.b.1 (by decide), hL.b.2⟩, ⟨h.own hL.d.1 (by decide), hL.d.2⟩⟩

/-- What an act of the law leaves. -/
def ActR (ρ : Nat → Rl) (N : Nat) (w : World) (B V M : Nat) (e : Ending) (w' : World) : Prop := ∃ ρ' s css gs a2 a3 a4 c2 c3 c4, e = .returned (.tuple #[.agg #[.pointer (some ⟨B, 0, none⟩), .int .i64 V, .slice a2 css.length c2, .slice a3 gs.length c3, .slice a4 s.dec.length c4], .bool true]) ∧ LW ρ' N w' B V s css gs a2 a3 a4 c2 c3 c4 ∧ Ev ρ w ρ' w' ∧ css.length ≤ M

/-- In the midst of an act: the law's world, and the three blocks that the act keeps for itself. -/
structure AS (ρ : Nat → Rl) (N : Nat) (w : World) (ρ0 : Nat → Rl) (W : World) (B V : Nat) (s : PS) (css : List (List Int)) (gs : List Bool) (a2 a3 a4 : Option Addr) (c2 c3 c4 : Nat) (b2 b3 b4 : Nat) (wv av rv : Array Value) : Prop where
  lw : LW ρ0 N W B V s css gs a2 a3 a4 c2 c3 c4
  ev : Ev ρ w ρ0 W
  bx : Bx W b2 b3 b4 wv av rv
  ro : ρ0 b2 = oth ∧ ρ0 b3 = oth ∧ ρ0 b4 = oth
theorem AS.below {ρ0 : Nat → Rl} {W W' : World} {b2 b3 b4 : Nat} {wv av rv : Array Value} (h : AS ρ N w ρ0 W B V s css gs a2 a3 a4 c2 c3 c4 b2 b3 b4 wv av rv) (hb : Below W.heap.size W W') : AS ρ N w ρ0 W' B V s css gs a2 a3 a4 c2 c3 c4 b2 b3 b4 wv av rv :=
  ⟨h.lw.below hb, h.ev.trans (Ev.below hb), h.bx.below hb, h.ro⟩

theorem AS.ev2 {ρ0 ρ1 : Nat → Rl} {W W1 : World} {b2 b3 b4 : Nat} {wv av rv : Array Value} {css' : List (List Int)} {gs' : List Bool} {a2' a3' a4' : Option Addr} {c2' c3' c4' : Nat} (h : AS ρ N w ρ0 W B V s css gs a2 a3 a4 c2 c3 c4 b2 b3 b4 wv av rv) (hE : Ev ρ0 W ρ1 W1) (hl : LW ρ1 N W1 B V t css' gs' a2' a3' a4' c2' c3' c4') : AS ρ N w ρ1 W1 B V t css' gs' a2' a3' a4' c2' c3' c4' b2 b3 b4 wv av rv :=
  ⟨hl, h.ev.trans hE, h.bx.ev hE h.ro, (hE.agree _ (lt_of_block h.bx.k2)).trans h.ro.1, (hE.agree _ (lt_of_block h.bx.k3)).trans h.ro.2.1, (hE.agree _ (lt_of_block h.bx.k4)).trans h.ro.2.2⟩

def wv0 (B V : Nat) (a2 a3 a4 : Option Addr) (n2 n3 n4 c2 c3 c4 : Nat) : Array Value := #[.pointer (some ⟨B, 0, none⟩), .int .i64 V, .slice a2 n2 c2, .slice a3 n3 c3, .slice a4 n4 c4]

theorem act_set (h : LW ρ N w B V s css gs a2 a3 a4 c2 c3 c4) (wv av rv : Array Value) :
    AS ρ N w (Go.Proofs.Ytlmbgaconjcaiab.fr ρ w.heap.size) (((w.alloc (.cells wv 36)).alloc (.cells av 31)).alloc (.cells rv 36)) B V s css gs a2 a3 a4 c2 c3 c4 w.heap.size (w.heap.size + 1) (w.heap.size + 1 + 1) wv av rv := by
  have hB0 : Below w.heap.size w (((w.alloc (.cells wv 36)).alloc (.cells av 31)).alloc (.cells rv 36)) := (((Below.refl _ _).alloc (Nat.le_refl _) _).alloc (by simp) _).alloc (by simp; omega) _
  have hx := heap3 w (.cells wv 36) (.cells av 31) (.cells rv 36)
  exact ⟨h.fr hB0, Ev.fr hB0, ⟨hx.1.1, hx.1.2.1, hx.1.2.2⟩, fr_new (Nat.le_refl _), fr_new (by omega), fr_new (by omega)⟩

theorem U5.block {w W : World} {g : Nat} {x0 x1 x2 x3 x4 : Value} (h : U5 w W g [x0, x1, x2, x3, x4]) : W.heap[g]? = some (.cells #[x0, x1, x2, x3, x4] 36 (0, 0)) := by
  rcases h.own.2 with ⟨e, _⟩ | ⟨g', cap, cur, e, _, hg, hn, _, hs, ht⟩
  · simp [obj1] at e
  · simp [obj1] at e
    obtain ⟨rfl, rfl⟩ := e
    rw [hg]
    have : cur.toList = [x0, x1, x2, x3, x4] := by
      rw [← ht, List.take_of_length_le]
      simp [hs]
    have e2 : cur = #[x0, x1, x2, x3, x4] := by
      apply Array.ext'
      rw [this]
    rw [e2]
/-- The act's own block turned. -/
structure U3 (w W : World) (g : Nat) (xs : List Value) : Prop where
  own : W.ownsRow 0 31 3 (obj1 g) 1 xs
  off : ∀ b, b ≠ g → W.heap[b]? = w.heap[b]?
  size : W.heap.size = w.heap.size
  rest : W.os = w.os ∧ W.tape = w.tape ∧ W.output = w.output
theorem U3.set {w W : World} {g : Nat} {xs : List Value} (h : U3 w W g xs) (i : Nat) (v : Value) : U3 w (W.setCell ⟨g, i, none⟩ v) g (xs.set i v) :=
  ⟨own_set h.own rfl v, fun b hb => (Below.heap_setCell _ _ _ _ hb).trans (h.off b hb), by rw [← h.size]; simp [World.setCell], h.rest⟩
theorem U3.first {w : World} {g : Nat} {x : Array Value} (hx : x.size = 3) (hb : w.heap[g]? = some (.cells x 31 (0, 0))) : U3 w w g x.toList :=
  ⟨own_of_block hb hx, fun _ _ => rfl, rfl, rfl, rfl, rfl⟩
theorem U3.block {w W : World} {g : Nat} {x0 x1 x2 : Value} (h : U3 w W g [x0, x1, x2]) : W.heap[g]? = some (.cells #[x0, x1, x2] 31 (0, 0)) := by
  rcases h.own.2 with ⟨e, _⟩ | ⟨g', cap, cur, e, _, hg, hn, _, hs, ht⟩
  · simp [obj1] at e
  · simp [obj1] at e
    obtain ⟨rfl, rfl⟩ := e
    rw [hg]
    have : cur.toList = [x0, x1, x2] := by
      rw [← ht, List.take_of_length_le]
      simp [hs]
    have e2 : cur = #[x0, x1, x2] := by
      apply Array.ext'
      rw [this]
    rw [e2]
theorem AS.up2 {ρ0 : Nat → Rl} {W W' : World} {b2 b3 b4 : Nat} {wv av rv : Array Value} {y0 y1 y2 y3 y4 : Value} (h : AS ρ N w ρ0 W B V s css gs a2 a3 a4 c2 c3 c4 b2 b3 b4 wv av rv) (hU : U5 W W' b2 [y0, y1, y2, y3, y4]) (hN : N ≤ w.heap.size) (hge : w.heap.size ≤ b2) (h3 : b2 ≠ b3) (h4 : b2 ≠ b4) : AS ρ N w ρ0 W' B V s css gs a2 a3 a4 c2 c3 c4 b2 b3 b4 #[y0, y1, y2, y3, y4] av rv :=
  ⟨(hU.offs h.bx.k2).lw (by omega) h.lw, (hU.offs h.bx.k2).ev h.ev hge, ⟨hU.block, (hU.off b3 (Ne.symm h3)).trans h.bx.k3, (hU.off b4 (Ne.symm h4)).trans h.bx.k4⟩, h.ro⟩
theorem AS.up3 {ρ0 : Nat → Rl} {W W' : World} {b2 b3 b4 : Nat} {wv av rv : Array Value} {y0 y1 y2 : Value} (h : AS ρ N w ρ0 W B V s css gs a2 a3 a4 c2 c3 c4 b2 b3 b4 wv av rv) (hU : U3 W W' b3 [y0, y1, y2]) (hN : N ≤ w.heap.size) (hge : w.heap.size ≤ b3) (h3 : b2 ≠ b3) (h4 : b3 ≠ b4) : AS ρ N w ρ0 W' B V s css gs a2 a3 a4 c2 c3 c4 b2 b3 b4 wv #[y0, y1, y2] rv := by
  have hO : Off W W' b3 := ⟨⟨_, 31, h.bx.k3, .inr rfl⟩, hU.off, hU.size, hU.rest⟩
  exact ⟨hO.lw (by omega) h.lw, hO.ev h.ev hge, ⟨(hU.off b2 h3).trans h.bx.k2, hU.block, (hU.off b4 (Ne.symm h4)).trans h.bx.k4⟩, h.ro⟩

/-- In the midst of an act, the memory alone. -/
structure AM (ρ : Nat → Rl) (N : Nat) (w : World) (ρ0 : Nat → Rl) (W : World) (B : Nat) (s : PS) (css : List (List Int)) (gs : List Bool) (D : List Int) (a2 a3 a4 : Option Addr) (c3 c4 : Nat) (b2 b3 b4 : Nat) (wv av rv : Array Value) : Prop where
  rep : ∃ H, Rep ρ0 W B H s
  g : ∃ vs, GV ρ0 N W a2 css vs
  b : BR ρ0 W (.slice a3 gs.length c3) gs.length gs
  d : DR ρ0 W (.slice a4 D.length c4) D.length D
  ev : Ev ρ w ρ0 W
  bx : Bx W b2 b3 b4 wv av rv
  ro : ρ0 b2 = oth ∧ ρ0 b3 = oth ∧ ρ0 b4 = oth

variable {ρ0 ρ1 : Nat → Rl} {W W' : World} {D : List Int} {b2 b3 b4 : Nat} {wv av rv : Array Value}

theorem AS.am (h : AS ρ N w ρ0 W B V s css gs a2 a3 a4 c2 c3 c4 b2 b3 b4 wv av rv) : AM ρ N w ρ0 W B s css gs s.dec a2 a3 a4 c3 c4 b2 b3 b4 wv av rv := ⟨h.lw.rep, h.lw.g, h.lw.b, h.lw.d, h.ev, h.bx, h.ro⟩
theorem AM.as (h : AM ρ N w ρ0 W B s css gs s.dec a2 a3 a4 c3 c4 b2 b3 b4 wv av rv) (hI : Inv s) (hC : Cnt s) (hV : s.vars = V) (hK : Kys s css gs) (hL : ∀ c ∈ s.cls, c.lits.length ≤ 4096) (hn : a2 = none → c2 = 0) : AS ρ N w ρ0 W B V s css gs a2 a3 a4 c2 c3 c4 b2 b3 b4 wv av rv := ⟨⟨h.rep, hI, hC, hV, hK, hL, h.g, hn, h.b, h.d⟩, h.ev, h.bx, h.ro⟩
theorem AM.below (h : AM ρ N w ρ0 W B s css gs D a2 a3 a4 c3 c4 b2 b3 b4 wv av rv) (hb : Below W.heap.size W W') : AM ρ N w ρ0 W' B s css gs D a2 a3 a4 c3 c4 b2 b3 b4 wv av rv := by
  obtain ⟨H, hR⟩ := h.rep
  obtain ⟨vs, hg⟩ := h.g
  exact ⟨⟨H, hR.below hb⟩, ⟨vs, hg.ev (Ev.below hb)⟩, h.b.ev (Ev.below hb), h.d.ev (Ev.below hb), h.ev.trans (Ev.below hb), h.bx.below hb, h.ro⟩
/-- A call of the propagator. -/
theorem AM.call (h : AM ρ N w ρ0 W B s css gs D a2 a3 a4 c3 c4 b2 b3 b4 wv av rv) (hR : ∃ H, Rep ρ1 W' B H t) (hE : Ev ρ0 W ρ1 W') : AM ρ N w ρ1 W' B t css gs D a2 a3 a4 c3 c4 b2 b3 b4 wv av rv := by
  obtain ⟨vs, hg⟩ := h.g
  exact ⟨hR, ⟨vs, hg.ev hE⟩, h.b.ev hE, h.d.ev hE, h.ev.trans hE, h.bx.ev hE h.ro, (hE.agree _ (lt_of_block h.bx.k2)).trans h.ro.1, (hE.agree _ (lt_of_block h.bx.k3)).trans h.ro.2.1, (hE.agree _ (lt_of_block h.bx.k4)).trans h.ro.2.2⟩
theorem AM.up2 {y0 y1 y2 y3 y4 : Value} (h : AM ρ N w ρ0 W B s css gs D a2 a3 a4 c3 c4 b2 b3 b4 wv av rv) (hU : U5 W W' b2 [y0, y1, y2, y3, y4]) (hN : N ≤ w.heap.size) (hge : w.heap.size ≤ b2) (h3 : b2 ≠ b3) (h4 : b2 ≠ b4) : AM ρ N w ρ0 W' B s css gs D a2 a3 a4 c3 c4 b2 b3 b4 #[y0, y1, y2, y3, y4] av rv := by
  have hO := hU.offs h.bx.k2
  obtain ⟨H, hR⟩ := h.rep
  obtain ⟨vs, hG⟩ := h.g
  exact ⟨⟨H, hO.rep hR⟩, ⟨vs, hO.gv (by omega) hG⟩, ⟨hO.own h.b.1 (by decide), h.b.2⟩, ⟨hO.own h.d.1 (by decide), h.d.2⟩, hO.ev h.ev hge, ⟨hU.block, (hU.off b3 (Ne.symm h3)).trans h.bx.k3, (hU.off b4 (Ne.symm h4)).trans h.bx.k4⟩, h.ro⟩
theorem own0 {base e sz n : Nat} {v : Value} {xs : List Value} (h : W.ownsRow base e sz v n xs) : W.ownsRow 0 e sz v n xs := by
  refine ⟨h.1, ?_⟩
  rcases h.2 with h | ⟨g, cap, cur, h1, _, h3⟩
  · exact .inl h
  · exact .inr ⟨g, cap, cur, h1, Nat.zero_le _, h3⟩
/-- A new row of Booleans. -/
theorem AM.newB {gs' : List Bool} {g cap : Nat} (h : AM ρ N w ρ0 W B s css gs D a2 a3 a4 c3 c4 b2 b3 b4 wv av rv) (hb : Below W.heap.size W W') (ho : W'.ownsRow W.heap.size 4 1 (.slice (some ⟨g, 0, none⟩) gs'.length cap) gs'.length (boolC gs')) : AM ρ N w (Go.Proofs.Ytlmbgaconjcaiab.fr ρ0 W.heap.size) W' B s css gs' D a2 (some ⟨g, 0, none⟩) a4 cap c4 b2 b3 b4 wv av rv := by
  obtain ⟨H, hR⟩ := h.rep
  obtain ⟨vs, hg⟩ := h.g
  have hlt := World.ownsRow.lt ho g rfl
  refine ⟨⟨H, hR.fr hb⟩, ⟨vs, hg.ev (Ev.fr hb)⟩, ⟨own0 ho, fun k hk => ?_⟩, h.d.ev (Ev.fr hb), h.ev.trans (Ev.fr hb), h.bx.below hb, (fr_old (lt_of_block h.bx.k2)).trans h.ro.1, (fr_old (lt_of_block h.bx.k3)).trans h.ro.2.1, (fr_old (lt_of_block h.bx.k4)).trans h.ro.2.2⟩
  simp [Value.ownBlock] at hk; subst hk; exact fr_new hlt.1
/-- A new row of clauses, one more. -/
theorem AM.newG {c : List Int} {ac : Option Addr} {cc g cap : Nat} {vs : List Value} (h : AM ρ N w ρ0 W B s css gs D a2 a3 a4 c3 c4 b2 b3 b4 wv av rv) (hg : GV ρ0 N W a2 css vs) (hr : RowO ρ0 N W ac c) (hl : c.length ≤ maxLen) (hcc : ac = none → cc = 0) (hb : Below W.heap.size W W') (ho : W'.ownsRow W.heap.size 32 1 (.slice (some ⟨g, 0, none⟩) (css.length + 1) cap) (css.length + 1) (vs ++ [.slice ac c.length cc])) : AM ρ N w (Go.Proofs.Ytlmbgaconjcaiab.fr ρ0 W.heap.size) W' B s (css ++ [c]) gs D (some ⟨g, 0, none⟩) a3 a4 c3 c4 b2 b3 b4 wv av rv := by
  obtain ⟨H, hR⟩ := h.rep
  have hlt := World.ownsRow.lt ho g rfl
  exact ⟨⟨H, hR.fr hb⟩, ⟨_, (hg.ev (Ev.fr hb)).snoc (hr.ev (Ev.fr hb)) hl hcc (own0 ho) (fr_new hlt.1)⟩, h.b.ev (Ev.fr hb), h.d.ev (Ev.fr hb), h.ev.trans (Ev.fr hb), h.bx.below hb, (fr_old (lt_of_block h.bx.k2)).trans h.ro.1, (fr_old (lt_of_block h.bx.k3)).trans h.ro.2.1, (fr_old (lt_of_block h.bx.k4)).trans h.ro.2.2⟩
/-- One of the Booleans is set. -/
theorem AM.setB {g cap i : Nat} (h : AM ρ N w ρ0 W B s css gs D a2 (some ⟨g, 0, none⟩) a4 cap c4 b2 b3 b4 wv av rv) (hN : N ≤ g) (hwg : w.heap.size ≤ g) (x : Bool) : AM ρ N w ρ0 (W.setCell ⟨g, i, none⟩ (.bool x)) B s css (gs.set i x) D a2 (some ⟨g, 0, none⟩) a4 cap c4 b2 b3 b4 wv av rv := by
  obtain ⟨H, hR⟩ := h.rep
  obtain ⟨vs, hG⟩ := h.g
  obtain ⟨cs, hcs⟩ := own_ty h.b.1 rfl
  have hrg := h.b.2 g rfl
  have hoff : ∀ b, b ≠ g → (W.setCell ⟨g, i, none⟩ (.bool x)).heap[b]? = W.heap[b]? := fun b hb => Below.heap_setCell _ _ _ _ hb
  have hsz : (W.setCell ⟨g, i, none⟩ (.bool x)).heap.size = W.heap.size := by simp [World.setCell]
  have hfar : ∀ b, Far N W b → b ≠ g := by
    rintro b (hb | ⟨cs', e, h1, h2⟩) rfl
    · omega
    · rw [hcs] at h1; simp at h1; exact h2.2.2 h1.2.symm
  have hty : ∀ (e : TypeId) (cs' : Array Value) (k : Nat), e ≠ 4 → W.heap[k]? = some (.cells cs' e (0, 0)) → k ≠ g := by
    rintro e cs' k he hk rfl
    rw [hcs] at hk; simp at hk; exact he hk.2.symm
  have e1 : boolC (gs.set i x) = (boolC gs).set i (.bool x) := by simp [boolC, List.map_set]
  refine ⟨⟨H, hR.off (fun b hb hr => hoff b (by rintro rfl; exact hr hrg))⟩, ⟨vs, hG.len, fun j hj => ?_, fun j u hu => ?_⟩, ⟨?_, h.b.2⟩, ⟨own_same h.d.1 (fun k hk => ?_), h.d.2⟩, ?_, ⟨?_, ?_, ?_⟩, h.ro⟩
  · obtain ⟨ai, ci, h1, h2, h3, h4⟩ := hG.row j hj
    refine ⟨ai, ci, h1, fun k hk => ?_, h3, h4⟩
    obtain ⟨b, off, e, hb, hr, hf, hc⟩ := h2 k hk
    have hk' := hoff b (hfar b hf)
    exact ⟨b, off, e, by rw [hsz]; exact hb, hr, hf.keep hk', (World.cell?_of_block (a := ⟨b, off + k, none⟩) hk').trans hc⟩
  · obtain ⟨b, off, e, hb, hr, hf, hc⟩ := hG.cell j u hu
    have hk' := hoff b (hfar b hf)
    exact ⟨b, off, e, by rw [hsz]; exact hb, hr, hf.keep hk', (World.cell?_of_block (a := ⟨b, off + j, none⟩) hk').trans hc⟩
  · rw [e1, List.length_set]; exact own_set h.b.1 rfl _
  · obtain ⟨cs', hc⟩ := own_ty h.d.1 hk
    exact hoff k (hty _ _ _ (by decide) hc)
  · exact ⟨h.ev.os, h.ev.tape, h.ev.output, by rw [hsz]; exact h.ev.size, h.ev.agree, fun b hb ho => (hoff b (by omega)).trans (h.ev.keep b hb ho)⟩
  · exact (hoff _ (hty _ _ _ (by decide) h.bx.k2)).trans h.bx.k2
  · exact (hoff _ (hty _ _ _ (by decide) h.bx.k3)).trans h.bx.k3
  · exact (hoff _ (hty _ _ _ (by decide) h.bx.k4)).trans h.bx.k4

/-- The result is stored: what is left is an act's. -/
theorem AS.fin {ρ0 : Nat → Rl} {W W' : World} {b2 b3 b4 M : Nat} {wv av : Array Value} {cs : Array Value} {x0 x1 x2 x3 x4 : Value} (h : AS ρ N w ρ0 W B V s css gs a2 a3 a4 c2 c3 c4 b2 b3 b4 wv av cs) (hU : U5 W W' b4 [x0, x1, x2, x3, x4]) (hN : N ≤ w.heap.size) (hge : w.heap.size ≤ b4) (hM : css.length ≤ M) :
    ActR ρ N w B V M (.returned (.tuple #[.agg #[.pointer (some ⟨B, 0, none⟩), .int .i64 V, .slice a2 css.length c2, .slice a3 gs.length c3, .slice a4 s.dec.length c4], .bool true])) W' := by
  have hO := hU.offs h.bx.k4
  exact ⟨ρ0, s, css, gs, a2, a3, a4, c2, c3, c4, rfl, hO.lw (by omega) h.lw, hO.ev h.ev hge, hM⟩
end
end Go.Proofs.Ytlmbgaconjcaiab

namespace Go.Proofs.Ytlmbgaconjcaiab
open Go.RowKit

/-- A keeper in memory, and its propagator. -/
structure KP (ρ : Nat → Rl) (w : World) (k B : Nat) (s : PS) (x1 x2 x3 x4 : Int) (m1 m2 : Value) : Prop where
  rep : ∃ H, Rep ρ w B H s
  blk : w.heap[k]? = some (.cells #[.pointer (some ⟨B, 0, none⟩), .int .i64 x1, .int .i64 x2, .int .i64 x3, .int .i64 x4, m1, m2] 53 (0, 0))
  ro : ρ k = oth
  inv : Inv s
  cnt : Cnt s
  lits : ∀ c ∈ s.cls, c.lits.length ≤ 4096

/-- The clauses and what is counted stay, and decisions come behind. -/
structure Grw (s t : PS) (ds : List Int) : Prop where
  vars : t.vars = s.vars
  cl : t.cls.map key = s.cls.map key
  dec : t.dec = s.dec ++ ds
theorem Grw.refl (s : PS) : Grw s s [] := ⟨rfl, rfl, by simp⟩
theorem Grw.decide {s t : PS} {ds : List Int} (h : Grw s t ds) (hI : Inv t) (l : Int) : Grw s (t.decide l) (ds ++ [l]) :=
  ⟨h.vars, h.cl, by rw [dec_decide hI, h.dec, List.append_assoc]⟩
theorem Grw.frm {s t u : PS} {ds : List Int} (h : Grw s t ds) (hI : Inv t) (hF : Frm t u) : Grw s u ds := ⟨hF.vars.trans h.vars, hF.cl.trans h.cl, by rw [hF.dec hI, h.dec]⟩

theorem Frm.litsK {s s' : PS} {n : Nat} (h : s'.cls.map key = s.cls.map key) (hl : ∀ c ∈ s.cls, c.lits.length ≤ n) : ∀ c ∈ s'.cls, c.lits.length ≤ n := by
  intro c hc
  have : key c ∈ s.cls.map key := by rw [← h]; exact List.mem_map_of_mem hc
  obtain ⟨c', hc', e⟩ := List.mem_map.1 this
  simp only [key, Prod.mk.injEq] at e
  rw [← e.1]; exact hl c' hc'

section
variable {ρ ρ' : Nat → Rl} {w w' : World} {k B : Nat} {s t : PS} {x1 x2 x3 x4 : Int} {m1 m2 : Value}

theorem KP.ev (h : KP ρ w k B s x1 x2 x3 x4 m1 m2) {H : Hd} (hR : Rep ρ' w' B H t) (hI : Inv t) (hC : Cnt t) (hl : ∀ c ∈ t.cls, c.lits.length ≤ 4096) (hE : Ev ρ w ρ' w') : KP ρ' w' k B t x1 x2 x3 x4 m1 m2 :=
  ⟨⟨H, hR⟩, (hE.keep k (lt_of_block h.blk) h.ro).trans h.blk, (hE.agree k (lt_of_block h.blk)).trans h.ro, hI, hC, hl⟩
theorem KP.below (h : KP ρ w k B s x1 x2 x3 x4 m1 m2) (hb : Below w.heap.size w w') : KP ρ w' k B s x1 x2 x3 x4 m1 m2 := by
  obtain ⟨H, hR⟩ := h.rep
  exact ⟨⟨H, hR.below hb⟩, (hb.block k (lt_of_block h.blk)).trans h.blk, h.ro, h.inv, h.cnt, h.lits⟩

/-- What is told of a clause whose literals are supposed to be false. -/
def Told (t : PS) (c : List Int) (b : Bool) : Prop :=
  (b = true ∧ ((∃ l ∈ c, l ∈ t.trail) ∨ ∃ n, Brk t n)) ∨ (b = false ∧ t.late = [] ∧ t.head = t.trail.length ∧ ∀ l ∈ c, -l ∈ t.trail)

def BreaksP (ρ : Nat → Rl) (w : World) (k B : Nat) (s : PS) (x1 x2 x3 x4 : Int) (m1 m2 : Value) (c : List Int) (b : Bool) (w' : World) : Prop :=
  ∃ ρ' t ds, KP ρ' w' k B t x1 x2 x3 x4 m1 m2 ∧ Ev ρ w ρ' w' ∧ Grw s t ds ∧ (∀ d ∈ ds, -d ∈ c) ∧ Told t c b

set_option maxHeartbeats 4000000 in
set_option maxRecDepth 100000 in
theorem breaks_any (h : KP ρ w k B s x1 x2 x3 x4 m1 m2) (a : Option Addr) (cap : Nat) (c : List Int) {NN : Nat} (hr : RowO ρ NN w a c) (hl : c.length ≤ 10000) (hc : ∀ x ∈ c, Lt s.vars x) :
    Calls Try.prog 39 #[.pointer (some ⟨k, 0, none⟩), .slice a c.length cap] w fun e w' => ∃ b, e = .returned (.bool b) ∧ BreaksP ρ w k B s x1 x2 x3 x4 m1 m2 c b w' := by
  have HH := hide h
  have HR := hide hr
  have HC := hide hc
  have hVs := h.inv.sz.vars
  clear h hr hc
  go_enter Try.func39, Try.ntmps39
  go_wp2_with fail
  go_loopw [9] (fun j9 wr => ∃ (i : Nat) (ρ1 : Nat → Rl) (t : PS) (ds : List Int), j9 = .int .i64 i ∧ i ≤ c.length ∧ Hid (KP ρ1 wr k B t x1 x2 x3 x4 m1 m2) ∧ Hid (Ev ρ w ρ1 wr) ∧ Hid (Grw s t ds) ∧ Hid (∀ d ∈ ds, -d ∈ c) ∧ Hid (∀ l ∈ c.take i, -l ∈ t.trail)) (fun j9 _ => c.length - (intOf j9).toNat)
  case atStart => exact ⟨0, ρ, s, [], rfl, Nat.zero_le _, HH, Ev.refl _ _, Grw.refl _, by simp [Hid], by simp [Hid]⟩
  case round =>
    clear HH
    obtain ⟨i, ρ1, t, ds, rfl, hi, HK, HE, HG, HD, HT⟩ := hrel
    have p0 := cell_of_block HK.out.blk (i := 0) rfl
    by_cases hlt : i < c.length
    · have hii : (i : Int) < c.length := by omega
      obtain ⟨bb, off, rfl, hbb, hcell⟩ := (HR.out.ev HE.out).row i hlt
      have hx := HC.out c[i] (List.getElem_mem hlt)
      rw [← HG.out.vars] at hx
      have VL : Hid (Calls Try.prog 60 #[.pointer (some ⟨B, 0, none⟩), .int .i64 c[i]] wr fun e w' => e = .returned (.int .i64 (t.val c[i])) ∧ ∃ n, w' = wr.drewN n) := by
        obtain ⟨H, hR⟩ := HK.out.rep
        have q := propValue_any hR HK.out.inv.shp c[i]
        have e : t.valT c[i] = t.val c[i] := by unfold PS.valT; rw [if_pos (ltB_true.2 hx)]
        rw [e] at q; exact q
      have HTS : Hid (∀ (u : PS), (∃ m, u.trail = t.trail ++ m) → -c[i] ∈ u.trail → ∀ l ∈ c.take (i + 1), -l ∈ u.trail) := by
        intro u ⟨m, hm⟩ hu l hl'
        rw [List.take_succ_eq_append_getElem hlt, List.mem_append] at hl'
        rcases hl' with hl' | hl'
        · rw [hm]; exact List.mem_append_left _ (HT.out l hl')
        · simp at hl'; subst hl'; exact hu
      have hmem := List.getElem_mem hlt
      have hwr : IntKind.i64.wrap (-c[i]) = -c[i] := by unfold Lt at hx; have := HK.out.inv.sz.vars; exact wrap_neg (by omega) (by omega)
      have hv := HK.out.inv.tr.vl c[i] hx
      by_cases h1 : c[i] ∈ t.trail
      · have hv1 : t.val c[i] = 1 := by rw [hv]; exact tval_one.2 h1
        rw [hv1] at VL
        have HFIN : Hid (∀ n, BreaksP ρ w k B s x1 x2 x3 x4 m1 m2 c true (wr.drewN n)) := fun n => ⟨ρ1, t, ds, HK.out.below (bquiet (Below.refl _ _) n), HE.out.trans (Ev.drewN _ _ n), HG.out, HD.out, .inl ⟨rfl, .inl ⟨c[i], hmem, h1⟩⟩⟩
        clear hv hv1 hx h1 hmem HTS hwr
        generalize c[i] = x at *
        go_wp2_with (go_at_call 60; refine (unhide VL).mono ?_; rintro e w1 ⟨rfl, n1, rfl⟩)
        go_ret
        exact ⟨true, rfl, HFIN.out n1⟩
      · by_cases h2 : -c[i] ∈ t.trail
        · have hv1 : t.val c[i] = -1 := by rw [hv]; unfold tval; rw [if_neg h1, if_pos h2]
          rw [hv1] at VL
          have HT2 := hide (HTS.out t ⟨[], by simp⟩ h2)
          clear hv hv1 hx h1 h2 hmem HTS hwr
          generalize c[i] = x at *
          go_wp2_with (go_at_call 60; refine (unhide VL).mono ?_; rintro e w1 ⟨rfl, n1, rfl⟩)
          go_roundw
          case rel => exact ⟨i + 1, ρ1, t, ds, by go_num, by omega, HK.out.below (bquiet (Below.refl _ _) n1), HE.out.trans (Ev.drewN _ _ n1), HG, HD, HT2⟩
          case measure => simp [intOf]; omega
        · have hv0 : t.val c[i] = 0 := by rw [hv]; exact tval_zero.2 ⟨h1, h2⟩
          rw [hv0] at VL
          have hx2 := hx.neg
          have h1' : - -c[i] ∉ t.trail := by rw [Int.neg_neg]; exact h1
          have hvn : t.val (-c[i]) = 0 := by rw [HK.out.inv.tr.vl _ hx2]; exact tval_zero.2 ⟨h2, h1'⟩
          have hhd : t.head ≤ 1048576 := by have q := HK.out.inv.tr.hd; have q2 := trail_len HK.out.inv.tr; have q3 := HK.out.inv.sz.vars; omega
          have DC : Hid (∀ n, Calls Try.prog 57 #[.pointer (some ⟨B, 0, none⟩), .int .i64 (-c[i])] (wr.drewN n) fun e w' => e = .returned (.int .i64 0) ∧ ∃ ρ2, Hid (KP ρ2 w' k B (t.decide (-c[i])) x1 x2 x3 x4 m1 m2) ∧ Hid (Ev ρ w ρ2 w')) := fun n => by
            obtain ⟨H, hR⟩ := HK.out.rep
            refine (decide_yes (hR.drewN n) HK.out.inv.shp (HK.out.inv.small (fun c hc => by have := HK.out.lits c hc; omega)) (-c[i]) hx2 hvn hhd).mono ?_
            rintro e w' ⟨rfl, ρ2, H2, hR2, hE2⟩
            exact ⟨rfl, ρ2, (HK.out.below (bquiet (Below.refl _ _) n)).ev hR2 (decide_inv HK.out.inv hx2 h2 h1') (HK.out.cnt.decide _) HK.out.lits hE2, (HE.out.trans (Ev.drewN _ _ n)).trans hE2⟩
          have HG2 := hide (HG.out.decide HK.out.inv (-c[i]))
          have HD2 : Hid (∀ d ∈ ds ++ [-c[i]], -d ∈ c) := by
            intro d hd
            rcases List.mem_append.1 hd with hd | hd
            · exact HD.out d hd
            · simp at hd; subst hd; rw [Int.neg_neg]; exact hmem
          have HT2 : Hid (∀ l ∈ c.take (i + 1), -l ∈ (t.decide (-c[i])).trail) := HTS.out _ ⟨[-c[i]], rfl⟩ (by show -c[i] ∈ t.trail ++ [-c[i]]; simp)
          have q0 : ∀ n, (wr.drewN n).cell? ⟨k, 0, none⟩ = some (.pointer (some ⟨B, 0, none⟩)) := fun n => p0
          clear hv hv0 hx hx2 h1 h2 h1' hvn hmem HTS hhd
          generalize c[i] = x at *
          go_wp2_with (first | (go_at_call 60; refine (unhide VL).mono ?_; rintro e w1 ⟨rfl, n1, rfl⟩) | (go_at_call 57; refine (DC.out n1).mono ?_; rintro e w2 ⟨rfl, ρ2, HK2, HE2⟩))
          go_roundw
          case rel => exact ⟨i + 1, ρ2, _, _, by go_num, by omega, HK2, HE2, HG2, HD2, HT2⟩
          case measure => simp [intOf]; omega
    · obtain rfl : i = c.length := by omega
      have RN : Hid (Calls Try.prog 58 #[.pointer (some ⟨B, 0, none⟩)] wr fun e w' => ∃ n, e = .returned (.int .i64 n) ∧ BreaksP ρ w k B s x1 x2 x3 x4 m1 m2 c (decide (0 ≤ n)) w') := by
        obtain ⟨H, hR⟩ := HK.out.rep
        refine (run_any hR HK.out.inv (fun c hc => by have := HK.out.lits c hc; omega)).mono ?_
        rintro e w' ⟨n, rfl, ρ2, H2, t2, hR2, hI2, hE2, hF2, hn2⟩
        refine ⟨n, rfl, ρ2, t2, ds, HK.out.ev hR2 hI2 (HK.out.cnt.frm hF2) (Frm.litsK hF2.cl HK.out.lits) hE2, HE.out.trans hE2, HG.out.frm HK.out.inv hF2, HD.out, ?_⟩
        rcases hn2 with ⟨e1, e2, e3⟩ | hb
        · right
          refine ⟨by subst e1; rfl, e2, e3, fun l hl' => ?_⟩
          obtain ⟨m, hm⟩ := hF2.tr
          rw [hm]
          exact List.mem_append_left _ (HT.out l (by rw [List.take_length]; exact hl'))
        · left
          refine ⟨?_, .inr ⟨n, hb⟩⟩
          obtain ⟨j, _, rfl, _⟩ := hb
          exact decide_eq_true (by omega)
      clear HT HD HG HE HK
      go_wp2_with (go_at_call 58; refine (unhide RN).mono ?_; rintro e w1 ⟨n1, rfl, hP⟩)
      go_ret
      exact ⟨_, rfl, hP⟩
end
end Go.Proofs.Ytlmbgaconjcaiab

namespace Go.Proofs.Ytlmbgaconjcaiab
open Go.RowKit

section
variable {ρ ρ' : Nat → Rl} {w w' : World} {k B : Nat} {s t : PS} {x1 x2 x3 : Int} {sp : Nat} {m1 m2 : Value}

def SettleP (ρ : Nat → Rl) (w : World) (k B : Nat) (s : PS) (x1 x2 x3 : Int) (sp : Nat) (m1 m2 : Value) (w' : World) : Prop :=
  ∃ ρ' t ds, KP ρ' w' k B t x1 x2 x3 sp m1 m2 ∧ Ev ρ w ρ' w' ∧ Grw s t ds ∧ (sp = 0 → t = s ∧ ds = []) ∧ (sp ≠ 0 → (s.lvs = [] → ds = [(sp : Int)]) ∧ (s.lvs ≠ [] → ds = []) ∧ t.lvs ≠ [])

theorem lvs_ne {s t : PS} {ds : List Int} (h : Grw s t ds) (hn : s.dec ++ ds ≠ []) : t.lvs ≠ [] := by
  intro e
  have : t.dec = [] := by simp [PS.dec, e]
  exact hn (h.dec.symm.trans this)

set_option maxHeartbeats 4000000 in
set_option maxRecDepth 100000 in
theorem settle_k (h : KP ρ w k B s x1 x2 x3 sp m1 m2) (hsp : sp ≤ s.vars) (h0 : sp ≠ 0 → s.lvs = [] → s.trail = []) :
    Calls Try.prog 37 #[.pointer (some ⟨k, 0, none⟩)] w fun e w' => e = .returned (.tuple #[]) ∧ SettleP ρ w k B s x1 x2 x3 sp m1 m2 w' := by
  have HK := hide h
  have p0 := cell_of_block h.blk (i := 0) rfl
  have p4 := cell_of_block h.blk (i := 4) rfl
  have hVs := h.inv.sz.vars
  have hlv := lvs_len h.inv.tr
  have htl := trail_len h.inv.tr
  have hln : s.lvs.length ≤ 1048576 := by omega
  have RUN : Hid (∀ (ρ1 : Nat → Rl) (t : PS) (x : World), KP ρ1 x k B t x1 x2 x3 sp m1 m2 → Calls Try.prog 58 #[.pointer (some ⟨B, 0, none⟩)] x fun e w' => ∃ n ρ2 u, e = .returned (.int .i64 n) ∧ KP ρ2 w' k B u x1 x2 x3 sp m1 m2 ∧ Ev ρ1 x ρ2 w' ∧ Frm t u) := fun ρ1 t x hK => by
    obtain ⟨H, hR⟩ := hK.rep
    refine (run_any hR hK.inv (fun c hc => by have := hK.lits c hc; omega)).mono ?_
    rintro e w' ⟨n, rfl, ρ2, H2, u, hR2, hI2, hE2, hF2, _⟩
    exact ⟨n, ρ2, u, rfl, hK.ev hR2 hI2 (hK.cnt.frm hF2) (Frm.litsK hF2.cl hK.lits) hE2, hE2, hF2⟩
  have LV : Hid (Calls Try.prog 38 #[.pointer (some ⟨B, 0, none⟩)] w fun e w' => e = .returned (.int .i64 s.lvs.length) ∧ w' = w) := by
    obtain ⟨H, hR⟩ := h.rep
    exact propLevels_any hR
  have hdl : s.dec.length = s.lvs.length := by simp [PS.dec]
  by_cases hz : sp = 0
  · subst hz
    have HFIN : Hid (SettleP ρ w k B s x1 x2 x3 0 m1 m2 w) := ⟨ρ, s, [], h, Ev.refl _ _, Grw.refl _, fun _ => ⟨rfl, rfl⟩, fun h => absurd rfl h⟩
    clear h h0 hdl
    go_enter Try.func37, Try.ntmps37
    go_wp2
    refine bodyPost_ret (results_none rfl _ _ _) rfl ?_
    exact ⟨rfl, HFIN.out⟩
  · have hz' : ((sp : Int) == 0) = false := by simp; omega
    by_cases hl0 : s.lvs = []
    · have hlen0 : s.lvs.length = 0 := by rw [hl0]; rfl
      rw [hlen0] at LV
      have htr := h0 hz hl0
      have hx : Lt s.vars (sp : Int) := by unfold Lt; omega
      have hv : s.val (sp : Int) = 0 := by rw [h.inv.tr.vl _ hx, htr]; rfl
      have hhd : s.head ≤ 1048576 := by have q := h.inv.tr.hd; omega
      have DC : Hid (∀ x, Below w.heap.size w x → Calls Try.prog 57 #[.pointer (some ⟨B, 0, none⟩), .int .i64 sp] x fun e w' => e = .returned (.int .i64 0) ∧ ∃ ρ2, Hid (KP ρ2 w' k B (s.decide sp) x1 x2 x3 sp m1 m2) ∧ Hid (Ev ρ w ρ2 w')) := fun x hxb => by
        obtain ⟨H, hR⟩ := h.rep
        refine (decide_yes (hR.below hxb) h.inv.shp (h.inv.small (fun c hc => by have := h.lits c hc; omega)) sp hx hv hhd).mono ?_
        rintro e w' ⟨rfl, ρ2, H2, hR2, hE2⟩
        exact ⟨rfl, ρ2, (h.below hxb).ev hR2 (decide_inv h.inv hx (by rw [htr]; simp) (by rw [htr]; simp)) (h.cnt.decide _) h.lits hE2, (Ev.below hxb).trans hE2⟩
      have HG := hide ((Grw.refl s).decide h.inv (sp : Int))
      have HDI := hide (decide_inv h.inv hx (by rw [htr]; simp) (by rw [htr]; simp))
      have HL0 := hide hl0
      clear h h0 hlen0 htr hx hv hhd hdl hl0
      go_enter Try.func37, Try.ntmps37
      go_wp2_with (go_at_call 38; refine (unhide LV).mono ?_; rintro e w0 ⟨rfl, hw0⟩; subst w0)
      go_region_held3 (fun q => q.cell? ⟨k, 0, none⟩ = some (.pointer (some ⟨B, 0, none⟩)) ∧ q.cell? ⟨k, 4, none⟩ = some (.int .i64 sp)) (first | exact ⟨by assumption, by assumption⟩ | go_keep) (first
        | (go_at_call 57; refine (DC.out _ (by first | exact Below.refl _ _ | exact (Below.refl _ _).drew)).mono ?_; rintro e w1 ⟨rfl, ρ2, HK2, HE2⟩; have s0 := cell_of_block HK2.out.blk (i := 0) rfl; have s4 := cell_of_block HK2.out.blk (i := 4) rfl))
      all_goals
        have R2 := hide (RUN.out ρ2 (s.decide sp) w1 HK2.out)
        clear p0 p4 DC LV RUN
        go_wp2_with (go_at_call 58; refine (unhide R2).mono ?_; rintro e w3 ⟨n3, ρ3, u3, rfl, hK3, hE3, hF3⟩)
        go_end0
        exact ⟨rfl, ρ3, u3, _, hK3, HE2.out.trans hE3, HG.out.frm HDI.out hF3, fun e => absurd e hz, fun _ => ⟨fun _ => by simp, fun e => absurd HL0.out e, lvs_ne (HG.out.frm HDI.out hF3) (by simp)⟩⟩
    · have hne : (s.lvs.length : Int) ≠ 0 := by
        have : s.lvs.length ≠ 0 := fun e => hl0 (List.length_eq_zero_iff.1 e)
        omega
      have hne' : ((s.lvs.length : Int) == 0) = false := by simpa using hne
      have R2 := hide (RUN.out ρ s w h)
      have HDN : Hid (s.dec ++ [] ≠ []) := by
        intro e
        have e2 : s.dec = [] := by simpa using e
        rw [e2] at hdl; exact hl0 (List.length_eq_zero_iff.1 hdl.symm)
      have HI := hide h.inv
      clear h h0 hdl RUN
      generalize hNN : s.lvs.length = NN at *
      clear hNN
      go_enter Try.func37, Try.ntmps37
      go_wp2_with (first | (go_at_call 38; refine (unhide LV).mono ?_; rintro e w0 ⟨rfl, hw0⟩; subst w0) | (go_at_call 58; refine (unhide R2).mono ?_; rintro e w3 ⟨n3, ρ3, u3, rfl, hK3, hE3, hF3⟩))
      go_end0
      exact ⟨rfl, ρ3, u3, [], hK3, hE3, (Grw.refl s).frm HI.out hF3, fun e => absurd e hz, fun _ => ⟨fun e => absurd e hl0, fun _ => rfl, lvs_ne ((Grw.refl s).frm HI.out hF3) HDN.out⟩⟩
end
end Go.Proofs.Ytlmbgaconjcaiab
