/- Joined: append of whatever is behind a slice, nil or not, onto a row of the call's own, nil or not. Contracts of the law: the clauses that are there. Contracts: whether a clause is a reason. Contracts: the law's world at its beginning. Contracts: whether the law takes a literal for open. -/
import Derived.Test.YtlmbgaconjcaiaaGreatApp
import Derived.Test.YtlmbgaconjcaiaaGreatHdAll
import Derived.Deep.AppendLies
import Derived.Test.YtlmbgaconjcaiaaGreatGb
import Derived.Deep.RegionHeld3
import Derived.Deep.RegionWith
import Derived.BigQuiet
set_option linter.unusedVariables false
set_option linter.unusedSimpArgs false
namespace Go.Proofs.YtlmbgaconjcaiaaGreat
open Go.RowKit

theorem run_append_both {P : Program} (w : World) (t ty : TypeId) (base : Nat) (e : TypeId) (i : TypeInfo) (z : Value) (size bytes : Nat) (ht : P.underlying t = some (.slice e)) (hi : P.info? e = some i) (hz : i.zero = some z)
    (hsize : i.size = size) (hby : i.bytes = bytes) (hzs : z.cells.size = size) (hsz : 0 < size)
    (v : Value) (n : Nat) (xs : List Value) (hown : w.ownsRow base e size v n xs)
    (a : Option Addr) (m c : Nat) (news : List Value) (hsrc : (a = none ∧ m = 0 ∧ c = 0 ∧ news = []) ∨ ∃ ad, a = some ad ∧ news.length = m * size ∧ ∀ j u, news[j]? = some u → w.cell? (ad.add j) = some u) (h1 : ∀ u ∈ news, u.oneCell' = true)
    (h63 : n + m ≤ maxLen) (hbytes : (n + m) * bytes ≤ 140737488355328) (hbase : base ≤ w.heap.size) :
    ∃ a' cap w', (Builtin.append_ #[t, t] ty #[v, .slice a m c]).run P w = .ok (.slice a' (n + m) cap) w' ∧
      w'.ownsRow base e size (.slice a' (n + m) cap) (n + m) (xs ++ news) ∧ w.grownBy w' v.ownBlock ∧ (∀ g, (Value.slice a' (n + m) cap).ownBlock = some g → v.ownBlock = some g ∨ g = w.heap.size) := by
  rcases hsrc with ⟨rfl, rfl, rfl, rfl⟩ | ⟨ad, rfl, hl, hnews⟩
  · have hrun := run_append_owned_none (P := P) (w := w) base t ty e i size ht hi v n xs hown
    obtain ⟨a', cap, rfl, _⟩ := own_form hown
    exact ⟨a', cap, w, hrun, by simpa using hown, World.grownBy.refl _ _, fun g hg => .inl hg⟩
  · obtain ⟨v', w', hr, h2, h3, h4, h5⟩ := run_append_own_at (P := P) w base t ty e i z size bytes ht hi hz hsize hby hzs hsz v n xs hown ad m c news hl hnews h1 h63 hbytes hbase
    obtain ⟨a', cap, rfl, _⟩ := own_form h2
    refine ⟨a', cap, w', hr, h2, h3, fun g hg => ?_⟩
    rcases h5 with h5 | h5
    · exact .inl (h5.symm.trans hg)
    · rw [h5] at hg; cases hg; exact .inr rfl

theorem wp_append_both {P : Program} {w : World} {o : Oper} {act : Act} {K : Act → World → Prop} {Q : Exit → Act → World → Prop} (s x : Operand) (t : TypeId)
    (ho : o.op = .call { callee := .builtin .append, args := #[s, x], argTypes := #[t, t] })
    (base : Nat) (e : TypeId) (i : TypeInfo) (z : Value) (size bytes : Nat) (ht : P.underlying t = some (.slice e)) (hi : P.info? e = some i) (hz : i.zero = some z)
    (hsize : i.size = size) (hby : i.bytes = bytes) (hzs : z.cells.size = size) (hsz : 0 < size)
    (v : Value) (n : Nat) (xs : List Value) (hs : act.eval s = v) (hown : w.ownsRow base e size v n xs)
    (a : Option Addr) (m c : Nat) (news : List Value) (hx : act.eval x = .slice a m c) (hsrc : (a = none ∧ m = 0 ∧ c = 0 ∧ news = []) ∨ ∃ ad, a = some ad ∧ news.length = m * size ∧ ∀ j u, news[j]? = some u → w.cell? (ad.add j) = some u) (h1 : ∀ u ∈ news, u.oneCell' = true)
    (h63 : n + m ≤ maxLen) (hbytes : (n + m) * bytes ≤ 140737488355328) (hbase : base ≤ w.heap.size)
    (h : ∀ a' cap w', w'.ownsRow base e size (.slice a' (n + m) cap) (n + m) (xs ++ news) → w.grownBy w' v.ownBlock → (∀ g, (Value.slice a' (n + m) cap).ownBlock = some g → v.ownBlock = some g ∨ g = w.heap.size) → K (act.put o.dst (.slice a' (n + m) cap)) w') : o.wp P act w K Q := by
  obtain ⟨a', cap, w', hr, h2, h3, h4⟩ := run_append_both (P := P) w t o.type base e i z size bytes ht hi hz hsize hby hzs hsz v n xs hown a m c news hsrc h1 h63 hbytes hbase
  unfold Oper.wp execOp
  simp only [ho, resolve, invoke, builtin, Sem.run_bind, Sem.run_pure, Result.andThen_ok, List.map_toArray, List.map_cons, List.map_nil, hs, hx, hr]
  exact h a' cap w' h2 h3 h4

theorem step_append_both {P : Program} {w : World} {ops : Array Oper} {o : Oper} {act : Act} {K : Act → World → Prop} {Q : Exit → Act → World → Prop} {E : Prop} (hgd : o.guard = none) (s x : Operand) (t : TypeId)
    (ho : o.op = .call { callee := .builtin .append, args := #[s, x], argTypes := #[t, t] })
    (base : Nat) (e : TypeId) (i : TypeInfo) (z : Value) (size bytes : Nat) (ht : P.underlying t = some (.slice e)) (hi : P.info? e = some i) (hz : i.zero = some z)
    (hsize : i.size = size) (hby : i.bytes = bytes) (hzs : z.cells.size = size) (hsz : 0 < size)
    (v : Value) (n : Nat) (xs : List Value) (hs : act.eval s = v) (hown : w.ownsRow base e size v n xs)
    (a : Option Addr) (m c : Nat) (news : List Value) (hx : act.eval x = .slice a m c) (hsrc : (a = none ∧ m = 0 ∧ c = 0 ∧ news = []) ∨ ∃ ad, a = some ad ∧ news.length = m * size ∧ ∀ j u, news[j]? = some u → w.cell? (ad.add j) = some u) (h1 : ∀ u ∈ news, u.oneCell' = true)
    (h63 : n + m ≤ maxLen) (hbytes : (n + m) * bytes ≤ 140737488355328) (hbase : base ≤ w.heap.size)
    (h : ∀ a' cap w', w'.ownsRow base e size (.slice a' (n + m) cap) (n + m) (xs ++ news) → w.grownBy w' v.ownBlock → (∀ g, (Value.slice a' (n + m) cap).ownBlock = some g → v.ownBlock = some g ∨ g = w.heap.size) → K (act.put o.dst (.slice a' (n + m) cap)) w') :
    if Region.wanted o (yielded ops act.tmps) = true then Oper.wp P o act w K Q else E := by
  have hw : Region.wanted o (yielded ops act.tmps) = true := by simp [Region.wanted, hgd]
  rw [if_pos hw]
  exact wp_append_both s x t ho base e i z size bytes ht hi hz hsize hby hzs hsz v n xs hs hown a m c news hx hsrc h1 h63 hbytes hbase h

theorem wpList_append_both {P : Program} {w : World} {ops : Array Oper} {rest : List Oper} {o : Oper} {act : Act} {Q : Exit → Act → World → Prop} (hgd : o.guard = none) (s x : Operand) (t : TypeId)
    (ho : o.op = .call { callee := .builtin .append, args := #[s, x], argTypes := #[t, t] })
    (base : Nat) (e : TypeId) (i : TypeInfo) (z : Value) (size bytes : Nat) (ht : P.underlying t = some (.slice e)) (hi : P.info? e = some i) (hz : i.zero = some z)
    (hsize : i.size = size) (hby : i.bytes = bytes) (hzs : z.cells.size = size) (hsz : 0 < size)
    (v : Value) (n : Nat) (xs : List Value) (hs : act.eval s = v) (hown : w.ownsRow base e size v n xs)
    (a : Option Addr) (m c : Nat) (news : List Value) (hx : act.eval x = .slice a m c) (hsrc : (a = none ∧ m = 0 ∧ c = 0 ∧ news = []) ∨ ∃ ad, a = some ad ∧ news.length = m * size ∧ ∀ j u, news[j]? = some u → w.cell? (ad.add j) = some u) (h1 : ∀ u ∈ news, u.oneCell' = true)
    (h63 : n + m ≤ maxLen) (hbytes : (n + m) * bytes ≤ 140737488355328) (hbase : base ≤ w.heap.size)
    (h : ∀ a' cap w', w'.ownsRow base e size (.slice a' (n + m) cap) (n + m) (xs ++ news) → w.grownBy w' v.ownBlock → (∀ g, (Value.slice a' (n + m) cap).ownBlock = some g → v.ownBlock = some g ∨ g = w.heap.size) → wpList P ops Q rest (act.put o.dst (.slice a' (n + m) cap)) w') : wpList P ops Q (o :: rest) act w :=
  wpList_plain hgd fun _ hK => wp_append_both s x t ho base e i z size bytes ht hi hz hsize hby hzs hsz v n xs hs hown a m c news hx hsrc h1 h63 hbytes hbase fun a' cap w' h2 h3 h4 => hK _ _ (h a' cap w' h2 h3 h4)

/-- A row of the call's own is a source of an append. -/
theorem own_src {w : World} {base e sz n cap : Nat} {a : Option Addr} {xs : List Value} (h : w.ownsRow base e sz (.slice a n cap) n xs) : (a = none ∧ n = 0 ∧ cap = 0 ∧ xs = []) ∨ ∃ ad, a = some ad ∧ xs.length = n * sz ∧ ∀ j u, xs[j]? = some u → w.cell? (ad.add j) = some u := by
  obtain ⟨a', cap', e', _, _, hc⟩ := own_form h
  simp at e'; obtain ⟨rfl, rfl⟩ := e'
  rcases hc with ⟨rfl, rfl, rfl⟩ | ⟨g, rfl, hlt⟩
  · left; exact ⟨rfl, rfl, rfl, List.eq_nil_of_length_eq_zero (by rw [h.1]; simp)⟩
  · right; exact ⟨_, rfl, h.1, fun j u hj => h.cells rfl j u hj⟩
end Go.Proofs.YtlmbgaconjcaiaaGreat

namespace Go.Proofs.YtlmbgaconjcaiaaGreat
open Go.RowKit

/-- The clauses that are not gone. -/
def thereL : List (List Int) → List Bool → List (List Int)
  | c :: cs, g :: gs => if g then thereL cs gs else c :: thereL cs gs
  | _, _ => []

theorem thereL_snoc : ∀ (cs : List (List Int)) (gs : List Bool) (c : List Int) (g : Bool), cs.length = gs.length → thereL (cs ++ [c]) (gs ++ [g]) = thereL cs gs ++ (if g then [] else [c])
  | [], [], c, g, _ => by cases g <;> simp [thereL]
  | d :: cs, h :: gs, c, g, e => by
    have := thereL_snoc cs gs c g (by simpa using e)
    cases h <;> simp [thereL, this]
  | [], _ :: _, _, _, e => by simp at e
  | _ :: _, [], _, _, e => by simp at e

/-- A row of Booleans. -/
def RowB (w : World) (a : Option Addr) (gs : List Bool) : Prop :=
  ∀ i (h : i < gs.length), ∃ b off, a = some ⟨b, off, none⟩ ∧ b < w.heap.size ∧ w.cell? ⟨b, off + i, none⟩ = some (.bool gs[i])
theorem RowB.below {w w' : World} {a : Option Addr} {gs : List Bool} (h : RowB w a gs) (hb : Below w.heap.size w w') : RowB w' a gs := by
  intro i hi
  obtain ⟨b, off, e, hlt, hc⟩ := h i hi
  exact ⟨b, off, e, Nat.lt_of_lt_of_le hlt hb.size, (hb.cell (p := ⟨b, off + i, none⟩) hlt).trans hc⟩

/-- A row of the call's own of slices that lie elsewhere. -/
def OR (w wr : World) (v : Value) (css : List (List Int)) : Prop :=
  ∃ vs : List Value, wr.ownsRow w.heap.size 25 1 v css.length vs ∧ ∀ i (h : i < css.length), ∃ ai ci, vs[i]? = some (.slice ai css[i].length ci) ∧ Row w ai css[i] ∧ css[i].length ≤ maxLen ∧ (ai = none → ci = 0)

theorem OR.grid {w wr : World} {a : Option Addr} {cap : Nat} {css : List (List Int)} (h : OR w wr (.slice a css.length cap) css) (hb : Below w.heap.size w wr) : GridC wr a css := by
  obtain ⟨vs, h1, h2⟩ := h
  intro i hi
  obtain ⟨ai, ci, hv, hr, hl, hn⟩ := h2 i hi
  obtain ⟨g, cap', e, _, _, hlt⟩ := own_some h1 (by omega)
  simp at e
  obtain ⟨rfl, _⟩ := e
  refine ⟨g, 0, ai, ci, rfl, hlt, ?_, hr.below hb, hl, hn⟩
  have := own_cell (i := i) h1 rfl hv
  simpa using this

theorem own_ty' {w : World} {base e sz n g : Nat} {v : Value} {xs : List Value} (h : w.ownsRow base e sz v n xs) (hg : v.ownBlock = some g) : ∃ cs, w.heap[g]? = some (.cells cs e (0, 0)) := by
  rcases h.2 with ⟨rfl, _⟩ | ⟨g', cap, cur, rfl, hb, hgg, _⟩
  · simp [Value.ownBlock] at hg
  · simp [Value.ownBlock] at hg; subst hg; exact ⟨_, hgg⟩

theorem own_lit34 (W : World) (base : Nat) (hb : base ≤ W.heap.size) : (W.alloc (.cells #[] 25)).ownsRow base 25 1 (.slice (some ⟨W.heap.size, 0, none⟩) 0 0) 0 [] :=
  ⟨rfl, .inr ⟨W.heap.size, 0, #[], rfl, hb, heap_alloc_new W _, Nat.le_refl _, by unfold maxLen; omega, rfl, rfl⟩⟩

end Go.Proofs.YtlmbgaconjcaiaaGreat

namespace Go.Proofs.YtlmbgaconjcaiaaGreat
open Go.RowKit

def PS.rsnB (s : PS) (i : Nat) (ls : List Int) : Bool := ls.any (fun x => s.val x == 1 && (s.fct x).2.2 == (i : Int))

section
variable {ρ : Nat → Rl} {w : World} {B : Nat} {H : Hd} {s : PS}

theorem drewN_drewN' (w : World) (m n : Nat) : (w.drewN m).drewN n = w.drewN (m + n) := by simp [World.drewN, Nat.add_assoc]

theorem rsnB_drop {i k : Nat} {ls : List Int} (hk : k < ls.length) : s.rsnB i (ls.drop k) = ((s.val ls[k] == 1 && (s.fct ls[k]).2.2 == (i : Int)) || s.rsnB i (ls.drop (k + 1))) := by
  unfold PS.rsnB
  rw [List.drop_eq_getElem_cons hk]; rfl

set_option maxHeartbeats 2000000 in
set_option maxRecDepth 100000 in
theorem isReason_any (h : Rep ρ w B H s) (hS : Shp s) (i : Nat) (c : Cl) (hc : s.cls[i]? = some c) (hl : ∀ x ∈ c.lits, Lt s.vars x) :
    Calls Tryz.prog 84 #[.pointer (some ⟨B, 0, none⟩), .pointer (some ⟨H.cb i, 0, none⟩)] w fun e w' => e = .returned (.bool (s.rsnB i c.lits)) ∧ ∃ n, w' = w.drewN n := by
  have hV := hS.vars
  obtain ⟨o0, o1, _, _, _, _, hol, hoB⟩ := h.obj hc
  obtain ⟨a, cap, er, hrow, hrm, _⟩ := h.lits hc
  rw [er] at o1
  have VV := fun (x : Int) (hx : Lt s.vars x) (m : Nat) => hide (value_any (h.drewN m) x hx (by omega) hS.vals)
  have HH := hide h
  have HS := hide hS
  clear h hc hS er
  generalize hb : H.cb i = b at *
  generalize c.lits = ls at *
  unfold maxLen at hrm
  go_enter Tryz.func84, Tryz.ntmps84
  go_wp2
  go_loopw [12] (fun j wr => ∃ (k : Nat), k ≤ ls.length ∧ j = .int .i64 k ∧ Hid (s.rsnB i (ls.drop k) = s.rsnB i ls) ∧ Hid (∃ m, wr = w.drewN m)) (fun j _ => ls.length - (intOf j).toNat)
  case atStart => exact ⟨0, Nat.zero_le _, rfl, rfl, ⟨0, rfl⟩⟩
  case round =>
    obtain ⟨k, hk, rfl, HSC, HW⟩ := hrel
    have hR : Rep ρ wr B H s := by obtain ⟨m, rfl⟩ := HW.out; exact HH.out.drewN m
    replace o0 : wr.cell? ⟨b, 0, none⟩ = some (.int .i64 i) := by obtain ⟨m, rfl⟩ := HW.out; exact o0
    replace hrow : Row wr a ls := by obtain ⟨m, rfl⟩ := HW.out; exact hrow
    clear o1
    by_cases hlt : k < ls.length
    · obtain ⟨bb, off, rfl, hbb, hcell⟩ := hrow k hlt
      have hx := hl ls[k] (List.getElem_mem hlt)
      have hki : (k : Int) < ls.length := by omega
      have HSC2 := HSC.out
      rw [rsnB_drop hlt] at HSC2
      have hvb := HS.out.val ls[k]
      have VX := fun n => (value_any (hR.drewN n) ls[k] hx (by omega) HS.out.vals)
      obtain ⟨gf, cf, efv, hgB, f0, f1, f2⟩ := hR.fctAt HS.out ls[k] hx
      have FX := fun n => hide (fact_any (hR.drewN n) ls[k] hx (by omega) HS.out.fac gf cf efv)
      replace VX := hide VX
      clear hrow hl efv VV hR
      generalize ls[k] = x at *
      generalize x.natAbs * 3 = kf at *
      by_cases hA : s.val x = 1
      · by_cases hB : (s.fct x).2.2 = (i : Int)
        · have hA' : (s.val x == 1) = true := by simpa using hA
          have hB' : ((s.fct x).2.2 == (i : Int)) = true := by simpa using hB
          have HE : Hid (s.rsnB i ls = true) := by unfold Hid; rw [← HSC2]; simp [hA, hB]
          clear HSC HSC2 hA hB
          generalize s.val x = y at *
          generalize (s.fct x).2.2 = z at *
          go_wp2_with fail
          go_quiet (first | (go_at_call 77; exact Calls.quiet_of (unhide VX _)) | (go_at_call 87; exact Calls.quiet_of_same (unhide (FX _))))
          go_wp2
          go_ret
          exact ⟨ret_bool HE.out.symm, by obtain ⟨m, rfl⟩ := HW.out; exact ⟨_, drewN_drewN' _ _ _⟩⟩
        · have hA' : (s.val x == 1) = true := by simpa using hA
          have hB' : ((s.fct x).2.2 == (i : Int)) = false := by simpa using hB
          have HE : Hid (s.rsnB i (ls.drop (k + 1)) = s.rsnB i ls) := by unfold Hid; rw [← HSC2]; simp [hA, hB]
          clear HSC HSC2 hA hB
          generalize s.val x = y at *
          generalize (s.fct x).2.2 = z at *
          go_wp2_with fail
          go_quiet (first | (go_at_call 77; exact Calls.quiet_of (unhide VX _)) | (go_at_call 87; exact Calls.quiet_of_same (unhide (FX _))))
          go_wp2
          go_roundw
          case rel => exact ⟨k + 1, by omega, by go_num, HE, by obtain ⟨m, rfl⟩ := HW.out; exact ⟨_, drewN_drewN' _ _ _⟩⟩
          case measure => simp [intOf]; omega
      · have hA' : (s.val x == 1) = false := by simpa using hA
        have HE : Hid (s.rsnB i (ls.drop (k + 1)) = s.rsnB i ls) := by unfold Hid; rw [← HSC2]; simp [hA]
        clear HSC HSC2 hA
        generalize s.val x = y at *
        go_wp2_with fail
        go_quiet (first | (go_at_call 77; exact Calls.quiet_of (unhide VX _)) | (go_at_call 87; exact Calls.quiet_of_same (unhide (FX _))))
        go_wp2
        go_roundw
        case rel => exact ⟨k + 1, by omega, by go_num, HE, by obtain ⟨m, rfl⟩ := HW.out; exact ⟨_, drewN_drewN' _ _ _⟩⟩
        case measure => simp [intOf]; omega
    · have hkl : ls.drop k = [] := List.drop_eq_nil_of_le (by omega)
      have HE : Hid (s.rsnB i ls = false) := by unfold Hid; rw [← HSC.out, hkl]; rfl
      clear hrow hl HSC hkl VV hR
      go_wp2
      go_ret
      exact ⟨ret_bool HE.out.symm, HW.out⟩
end
end Go.Proofs.YtlmbgaconjcaiaaGreat

namespace Go.Proofs.YtlmbgaconjcaiaaGreat
open Go.RowKit

theorem Tryz.info4b : (Tryz.prog.info? 4).map (fun i => (i.zero, i.size, i.bytes)) = some (some (.bool false), 1, 1) := by kernel_rfl

/-- What is nobody's may turn. -/
theorem Rep.off {ρ : Nat → Rl} {w w' : World} {B : Nat} {H : Hd} {s : PS} (h : Rep ρ w B H s) (hk : ∀ b, b < w.heap.size → ρ b ≠ oth → w'.heap[b]? = w.heap[b]?) : Rep ρ w' B H s := by
  refine ⟨⟨fun r x hr => own_same (h.hold.own r x hr) (fun k e => hk k (h.hold.lt hr e) ?_), h.hold.rl⟩, h.wr, h.lr⟩
  rw [h.hold.rl r x k hr e]
  rintro rfl
  cases hr

/-- One block turned, a struct's. -/
structure U5 (w W : World) (g : Nat) (xs : List Value) : Prop where
  own : W.ownsRow 0 36 5 (obj1 g) 1 xs
  off : ∀ b, b ≠ g → W.heap[b]? = w.heap[b]?
  size : W.heap.size = w.heap.size
  rest : W.os = w.os ∧ W.tape = w.tape ∧ W.output = w.output

theorem U5.set {w W : World} {g : Nat} {xs : List Value} (h : U5 w W g xs) (i : Nat) (v : Value) : U5 w (W.setCell ⟨g, i, none⟩ v) g (xs.set i v) :=
  ⟨own_set h.own rfl v, fun b hb => (Below.heap_setCell _ _ _ _ hb).trans (h.off b hb), by rw [← h.size]; simp [World.setCell], h.rest⟩
theorem U5.first {w : World} {g : Nat} {x : Array Value} (hx : x.size = 5) (hb : w.heap[g]? = some (.cells x 36 (0, 0))) : U5 w w g x.toList :=
  ⟨own_of_block hb hx, fun _ _ => rfl, rfl, rfl, rfl, rfl⟩
theorem U5.last {w W : World} {g : Nat} {xs : List Value} (h : U5 w W g xs) (o : Obj) :
    (∀ b, b ≠ g → b < w.heap.size → (W.alloc o).drew.heap[b]? = w.heap[b]?) ∧ (W.alloc o).drew.heap[w.heap.size]? = some o ∧ (W.alloc o).drew.heap.size = w.heap.size + 1 ∧ ((W.alloc o).drew.os = w.os ∧ (W.alloc o).drew.tape = w.tape ∧ (W.alloc o).drew.output = w.output) ∧
    ∀ i u, xs[i]? = some u → (W.alloc o).drew.cell? ⟨g, i, none⟩ = some u := by
  refine ⟨fun b hb hl => ?_, ?_, ?_, h.rest, fun i u hi => own_cell (g := g) (h.own.alloc o) rfl hi⟩
  · show (W.alloc o).heap[b]? = _
    rw [heap_alloc_old _ _ (by rw [h.size]; exact hl)]
    exact h.off b hb
  · show (W.alloc o).heap[w.heap.size]? = _
    rw [← h.size]; exact heap_alloc_new _ _
  · show (W.alloc o).heap.size = _
    rw [← h.size]; simp

def BeginP (w : World) (V : Nat) (css : List (List Int)) (B g : Nat) (w' : World) : Prop :=
  ∃ ρ H, Rep ρ w' B H (css.foldl PS.attach (PS.zero V)) ∧ Ev free w ρ w' ∧ w.heap.size ≤ g ∧ ρ g = oth ∧ w'.heap[g]? = some (.cells (madeCells #[.bool false] css.length) 4 (0, 0))

end Go.Proofs.YtlmbgaconjcaiaaGreat

namespace Go.Proofs.YtlmbgaconjcaiaaGreat
open Go.RowKit

def openB (V : Nat) (t : List Int) (l : Int) : Bool := litB l 1048576 && decide (varI l ≤ V) && !(hasB t l) && !(hasB t (-l))

section
variable {ρ : Nat → Rl} {w : World} {B : Nat} {H : Hd} {s : PS}
end
end Go.Proofs.YtlmbgaconjcaiaaGreat
