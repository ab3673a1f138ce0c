/- What lies in memory while the clauses that watch a false literal are gone through. -/
import Derived.Test.YtlmbgaconjcaiabGj
set_option linter.unusedVariables false
set_option linter.unusedSimpArgs false
namespace Go.Proofs.Ytlmbgaconjcaiab
open Go.RowKit

def VisP (ρ : Nat → Rl) (w : World) (B : Nat) (s : PS) (l : Int) (n : Int) (w' : World) : Prop :=
  ∃ ρ' H' s', Rep ρ' w' B H' s' ∧ Inv s' ∧ Ev ρ w ρ' w' ∧ Frm s s' ∧ s'.late = s.late ∧ s'.head = s.head ∧
    ((n = -1 ∧ ∃ q, s'.wat[ix s'.vars l]? = some q ∧ Tru s' q) ∨ Brk s' n)

/-- In the midst of a literal's watches: K are those that stay so far, of the first k. -/
structure VI (ρ : Nat → Rl) (w : World) (B : Nat) (s : PS) (l : Int) (j g n cap : Nat) (q0 : List (Nat × Int)) (k : Nat) (K : List (Nat × Int)) (ρ1 : Nat → Rl) (H1 : Hd) (σ : PS) (wr : World) : Prop where
  mle : K.length ≤ k
  kn : k ≤ n
  rep : Rep ρ1 wr B H1 (σ.setW j (K ++ q0.drop K.length))
  wat : σ.wat[j]? = some (K ++ q0.drop k)
  inv : Inv σ
  ev : Ev ρ w ρ1 wr
  frm : Frm s σ
  late : σ.late = s.late
  head : σ.head = s.head
  hdr : H1.wr[j]? = some (.slice (some ⟨g, 0, none⟩) n cap)
  tru : Tru σ K
  vars : σ.vars = s.vars
  jx : j = ix s.vars l
  ql : q0.length = n

def VIs (ρ : Nat → Rl) (w : World) (B : Nat) (s : PS) (l : Int) (j g n cap : Nat) (q0 : List (Nat × Int)) (k m : Nat) (wr : World) : Prop :=
  ∃ K ρ1 H1 σ, K.length = m ∧ VI ρ w B s l j g n cap q0 k K ρ1 H1 σ wr

theorem watC_drop (cb : Nat → Nat) : ∀ (l : List (Nat × Int)) (n : Nat), (watC cb l).drop (n * 2) = watC cb (l.drop n)
  | [], n => by simp [watC]
  | p :: r, 0 => by simp [watC]
  | p :: r, n + 1 => by
    rw [show (n + 1) * 2 = n * 2 + 1 + 1 by omega]
    simp only [watC, List.drop_succ_cons, watC_drop cb r n]

/-- Behind all: what is known when the loop is left. -/
structure VX (ρ : Nat → Rl) (w : World) (B : Nat) (s : PS) (l : Int) (j g n cap : Nat) (F R : List (Nat × Int)) (ρ1 : Nat → Rl) (H1 : Hd) (σ : PS) (wr : World) : Prop where
  rl : R.length = n
  fl : F.length ≤ n
  tk : R.take F.length = F
  rep : Rep ρ1 wr B H1 (σ.setW j R)
  wat : σ.wat[j]? = some F
  inv : Inv σ
  ev : Ev ρ w ρ1 wr
  frm : Frm s σ
  late : σ.late = s.late
  head : σ.head = s.head
  hdr : H1.wr[j]? = some (.slice (some ⟨g, 0, none⟩) n cap)
  vars : σ.vars = s.vars
  jx : j = ix s.vars l

section
variable {ρ ρ1 : Nat → Rl} {w wr W1 : World} {B : Nat} {H1 : Hd} {s σ : PS} {l : Int} {j g n cap k : Nat} {q0 K : List (Nat × Int)}

theorem VI.exit (hv : VI ρ w B s l j g n cap q0 k K ρ1 H1 σ wr) (hk : ¬ k < n) : VX ρ w B s l j g n cap K (K ++ q0.drop K.length) ρ1 H1 σ wr := by
  have h1 := hv.mle
  have h2 := hv.kn
  have h3 := hv.ql
  have hkn : k = n := by omega
  have hd : q0.drop k = [] := List.drop_eq_nil_of_le (by omega)
  refine ⟨by rw [raw_len (by omega), h3], by omega, by simp, hv.rep, ?_, hv.inv, hv.ev, hv.frm, hv.late, hv.head, hv.hdr, hv.vars, hv.jx⟩
  have := hv.wat
  rw [hd] at this; simpa using this

theorem VI.jlt (hv : VI ρ w B s l j g n cap q0 k K ρ1 H1 σ wr) : j < σ.wat.length := (List.getElem?_eq_some_iff.1 hv.wat).1

/-- The row of the watches. -/
theorem VI.own (hv : VI ρ w B s l j g n cap q0 k K ρ1 H1 σ wr) : wr.ownsRow 0 100 2 (.slice (some ⟨g, 0, none⟩) n cap) n (watC H1.cb (K ++ q0.drop K.length)) := by
  obtain ⟨u, _, _, hu, _, _, _, _, _, _, ho, _⟩ := hv.rep.wAt (setW_get hv.jlt)
  obtain rfl := Option.some.inj (hu.symm.trans hv.hdr)
  have h1 := hv.mle
  have h2 := hv.kn
  have h3 := hv.ql
  rw [raw_len (by omega), h3] at ho
  exact ho

theorem VI.keepR (hv : VI ρ w B s l j g n cap q0 k K ρ1 H1 σ wr) (hk : k < n) (hb : Below wr.heap.size wr W1) (p : Nat × Int) :
    Rep ρ1 (W1.setCells g (0 + K.length * 2) [ptrC H1.cb p.1, .int .i64 p.2]) B H1 (σ.setW j ((K ++ [p]) ++ q0.drop (K ++ [p]).length)) ∧ Ev ρ w ρ1 (W1.setCells g (0 + K.length * 2) [ptrC H1.cb p.1, .int .i64 p.2]) := by
  have h1 := hv.mle
  have h3 := hv.ql
  have ho := hv.own
  have hR := hv.rep.below hb
  have ho1 : W1.ownsRow 0 100 2 (.slice (some ⟨g, 0, none⟩) n cap) n (watC H1.cb (K ++ q0.drop K.length)) := own_same ho (fun b hb' => hb.block b (World.ownsRow.lt ho b hb').2)
  have e1 : setsL (watC H1.cb (K ++ q0.drop K.length)) (0 + K.length * 2) [ptrC H1.cb p.1, .int .i64 p.2] = watC H1.cb ((K ++ [p]) ++ q0.drop (K ++ [p]).length) := by
    show ((watC H1.cb (K ++ q0.drop K.length)).set (0 + K.length * 2) (ptrC H1.cb p.1)).set (0 + K.length * 2 + 1) (.int .i64 p.2) = _
    rw [Nat.zero_add, watC_set, raw_set (by omega)]; simp
  have ho2 := own_sets (g := g) rfl [ptrC H1.cb p.1, .int .i64 p.2] (0 + K.length * 2) _ W1 ho1
  rw [e1] at ho2
  have hl2 : ((K ++ [p]) ++ q0.drop (K ++ [p]).length).length = n := by rw [raw_len (by simp; omega), h3]
  have hl1 : (K ++ q0.drop K.length).length = n := by rw [raw_len (by omega), h3]
  have hfin := hR.wIn (w' := W1.setCells g (0 + K.length * 2) [ptrC H1.cb p.1, .int .i64 p.2]) (q' := (K ++ [p]) ++ q0.drop (K ++ [p]).length) (setW_get hv.jlt) hv.hdr (grownBy_sets g _ _ _) (by rw [hl2, hl1]) (by rw [hl2]; exact ho2)
  refine ⟨?_, (hv.ev.trans (Ev.below hb)).trans hfin.2⟩
  have h5 := hfin.1
  have e5 : ({ σ.setW j (K ++ q0.drop K.length) with wat := (σ.setW j (K ++ q0.drop K.length)).wat.set j ((K ++ [p]) ++ q0.drop (K ++ [p]).length) } : PS) = σ.setW j ((K ++ [p]) ++ q0.drop (K ++ [p]).length) := setW_setW σ j _ _
  rw [e5] at h5
  exact h5

theorem VI.dropk (hv : VI ρ w B s l j g n cap q0 k K ρ1 H1 σ wr) {p : Nat × Int} (hp : q0[k]? = some p) : q0.drop k = p :: q0.drop (k + 1) := by
  obtain ⟨hk', e⟩ := List.getElem?_eq_some_iff.1 hp
  rw [List.drop_eq_getElem_cons hk', e]

/-- The hint is true: the entry stays. -/
theorem VI.stepA (hv : VI ρ w B s l j g n cap q0 k K ρ1 H1 σ wr) (hk : k < n) {i : Nat} {hint : Int} (hp : q0[k]? = some (i, hint)) (ht : σ.val hint = 1) (hb : Below wr.heap.size wr W1) :
    VI ρ w B s l j g n cap q0 (k + 1) (K ++ [(i, hint)]) ρ1 H1 σ (W1.setCells g (0 + K.length * 2) [ptrC H1.cb i, .int .i64 hint]) := by
  have hkr := hv.keepR hk hb (i, hint)
  have hw := hv.wat
  rw [hv.dropk hp] at hw
  have h1 := hv.mle
  refine ⟨by simp; omega, by omega, hkr.1, by rw [hw]; simp, hv.inv, hkr.2, hv.frm, hv.late, hv.head, hv.hdr, hv.tru.snoc ?_, hv.vars, hv.jx, hv.ql⟩
  intro c hc hg
  obtain ⟨c', hc', x1, x2⟩ := hv.inv.wt.we j _ hw (i, hint) (by simp)
  obtain rfl : c' = c := Option.some.inj (hc'.symm.trans hc)
  exact ⟨hint, (x2 hg).2.1, (hv.inv.vone x1).1 ht⟩

/-- The clause is gone: so is the entry. -/
theorem VI.stepB (hv : VI ρ w B s l j g n cap q0 k K ρ1 H1 σ wr) (hk : k < n) {i : Nat} {hint : Int} (hp : q0[k]? = some (i, hint)) {c : Cl} (hc : σ.cls[i]? = some c) (hg : c.gone = true) (hb : Below wr.heap.size wr W1) :
    VI ρ w B s l j g n cap q0 (k + 1) K ρ1 H1 (σ.setW j (K ++ q0.drop (k + 1))) W1 := by
  have hw := hv.wat
  rw [hv.dropk hp] at hw
  have h1 := hv.mle
  refine ⟨by omega, by omega, ?_, setW_get hv.jlt, entry_gone hv.inv hw hc hg, hv.ev.trans (Ev.below hb), hv.frm.trans (setW_frm _ _ _), hv.late, hv.head, hv.hdr, hv.tru, hv.vars, hv.jx, hv.ql⟩
  rw [setW_setW]; exact hv.rep.below hb

/-- The clause watches another literal. -/
theorem VI.stepC (hv : VI ρ w B s l j g n cap q0 k K ρ1 H1 σ wr) (hk : k < n) {i : Nat} {hint : Int} (hp : q0[k]? = some (i, hint)) {c : Cl} (hc : σ.cls[i]? = some c) (hg : c.gone = false) (hl : Lt σ.vars l) (hlf : -l ∈ σ.trail)
    {x : Int} (hx : x ∈ c.lits) (hxo : x ≠ bsI c l) (hxv : -x ∉ σ.trail) {ρ2 : Nat → Rl} {v : Value} {W3 : World} (hr : Rep ρ2 W3 B { H1 with wr := H1.wr.set (ix σ.vars x) v } (((σ.setW j (K ++ q0.drop K.length)).setCl i { c with w0 := x, w1 := bsI c l }).watch x i (bsI c l))) (hE : Ev ρ w ρ2 W3) :
    VI ρ w B s l j g n cap q0 (k + 1) K ρ2 { H1 with wr := H1.wr.set (ix σ.vars x) v } (σ.moved j (K ++ q0.drop (k + 1)) i c x (bsI c l)) W3 := by
  have hw := hv.wat
  rw [hv.dropk hp] at hw
  have h1 := hv.mle
  have hjx : ix σ.vars l = j := by rw [hv.vars]; exact hv.jx.symm
  have hX := hv.inv.wt.ok i c hc x hx
  have hne : ix σ.vars x ≠ j := by
    intro e; rw [← hjx] at e
    exact hxv ((ix_inj hX hl e) ▸ hlf)
  have hw' : σ.wat[ix σ.vars l]? = some (K ++ (i, hint) :: q0.drop (k + 1)) := by rw [hjx]; exact hw
  have hm := entry_move hv.inv hl hlf hw' hc hg hx hxo hxv
  rw [hjx] at hm
  have hjl : j < (σ.setW j (K ++ q0.drop (k + 1))).wat.length := by have := hv.jlt; simpa [PS.setW] using this
  refine ⟨by omega, by omega, ?_, ?_, hm, hE, hv.frm.trans (moved_frm hc), hv.late, hv.head, ?_, hv.tru.moved hc, hv.vars, hv.jx, hv.ql⟩
  · rw [← setW_moved σ j (K ++ q0.drop K.length) (K ++ q0.drop (k + 1)) i c x (bsI c l) hne]; exact hr
  · show ((σ.wat.set j (K ++ q0.drop (k + 1))).modify (ix σ.vars x) _)[j]? = _
    rw [List.getElem?_modify, List.getElem?_set_self hv.jlt]; simp [hne]
  · show (H1.wr.set (ix σ.vars x) v)[j]? = _
    rw [List.getElem?_set_ne hne]; exact hv.hdr

/-- All but the other literal that it watches are false: the entry stays. -/
theorem VI.stepD (hv : VI ρ w B s l j g n cap q0 k K ρ1 H1 σ wr) (hk : k < n) {i : Nat} {hint : Int} (hp : q0[k]? = some (i, hint)) {c : Cl} (hc : σ.cls[i]? = some c) {o : Int} (ho : o ∈ c.lits) (hb : Below wr.heap.size wr W1) :
    Rep ρ1 (W1.setCells g (0 + K.length * 2) [ptrC H1.cb i, .int .i64 o]) B H1 ((σ.setW j (K ++ (i, o) :: q0.drop (k + 1))).setW j ((K ++ [(i, o)]) ++ q0.drop (K ++ [(i, o)]).length)) ∧ Ev ρ w ρ1 (W1.setCells g (0 + K.length * 2) [ptrC H1.cb i, .int .i64 o]) ∧
    Inv (σ.setW j (K ++ (i, o) :: q0.drop (k + 1))) := by
  have hw := hv.wat
  rw [hv.dropk hp] at hw
  have hkr := hv.keepR hk hb (i, o)
  exact ⟨by rw [setW_setW]; exact hkr.1, hkr.2, entry_hint hv.inv hw hc ho⟩

theorem VI.stepD1 (hv : VI ρ w B s l j g n cap q0 k K ρ1 H1 σ wr) (hk : k < n) {i : Nat} {hint : Int} (hp : q0[k]? = some (i, hint)) {c : Cl} (hc : σ.cls[i]? = some c) {o : Int} (ho : o ∈ c.lits) (hot : o ∈ σ.trail) (hb : Below wr.heap.size wr W1) {W2 : World} (hb2 : Below (W1.setCells g (0 + K.length * 2) [ptrC H1.cb i, .int .i64 o]).heap.size (W1.setCells g (0 + K.length * 2) [ptrC H1.cb i, .int .i64 o]) W2) :
    VI ρ w B s l j g n cap q0 (k + 1) (K ++ [(i, o)]) ρ1 H1 (σ.setW j (K ++ (i, o) :: q0.drop (k + 1))) W2 := by
  obtain ⟨h1, h2, h3⟩ := hv.stepD hk hp hc ho hb
  have h4 := hv.mle
  refine ⟨by simp; omega, by omega, h1.below hb2, by rw [setW_get hv.jlt]; simp, h3, h2.trans (Ev.below hb2), hv.frm.trans (setW_frm _ _ _), hv.late, hv.head, hv.hdr, ?_, hv.vars, hv.jx, hv.ql⟩
  refine Tru.snoc (s := σ.setW j _) hv.tru ?_
  intro c' hc' hg
  obtain rfl : c' = c := Option.some.inj ((show σ.cls[i]? = some c' from hc').symm.trans hc)
  exact ⟨o, ho, hot⟩

theorem VI.stepD2 (hv : VI ρ w B s l j g n cap q0 k K ρ1 H1 σ wr) (hk : k < n) {i : Nat} {hint : Int} (hp : q0[k]? = some (i, hint)) {c : Cl} (hc : σ.cls[i]? = some c) (hg : c.gone = false) {o : Int} (ho : o ∈ c.lits) (hL : Lt σ.vars o) (hn1 : o ∉ σ.trail) (hn2 : -o ∉ σ.trail) (hall : ∀ y ∈ c.lits, y ≠ o → -y ∈ σ.trail) {ρ2 : Nat → Rl} {tv : Value} {W3 : World}
    (hr : Rep ρ2 W3 B { H1 with tv := tv } (((σ.setW j (K ++ (i, o) :: q0.drop (k + 1))).setW j ((K ++ [(i, o)]) ++ q0.drop (K ++ [(i, o)]).length)).put o i)) (hE : Ev ρ w ρ2 W3) (hinv : Inv (σ.setW j (K ++ (i, o) :: q0.drop (k + 1)))) :
    VI ρ w B s l j g n cap q0 (k + 1) (K ++ [(i, o)]) ρ2 { H1 with tv := tv } ((σ.setW j (K ++ (i, o) :: q0.drop (k + 1))).put o i) W3 := by
  have h4 := hv.mle
  refine ⟨by simp; omega, by omega, ?_, by show (σ.wat.set j _)[j]? = _; rw [List.getElem?_set_self hv.jlt]; simp, put_inv hinv hL hn1 hn2 hc hg ho hall, hE, (hv.frm.trans (setW_frm _ _ _)).trans (put_frm _ _), hv.late, hv.head, hv.hdr, ?_, hv.vars, hv.jx, hv.ql⟩
  · rw [← setW_put]; exact hr
  · refine Tru.snoc (Tru.put (s := σ.setW j _) hv.tru _ _) ?_
    intro c' hc' hg'
    obtain rfl : c' = c := Option.some.inj ((show σ.cls[i]? = some c' from hc').symm.trans hc)
    exact ⟨o, ho, by rw [put_trail]; simp⟩

/-- The other literal is false, too: the clause is broken, and the rest of the entries stay. -/
theorem VI.stepX (hv : VI ρ w B s l j g n cap q0 k K ρ1 H1 σ wr) (hk : k < n) {i : Nat} {hint : Int} (hp : q0[k]? = some (i, hint)) {c : Cl} (hc : σ.cls[i]? = some c) {o : Int} (ho : o ∈ c.lits) (hb : Below wr.heap.size wr W1) {W2 : World} (hb2 : Below (W1.setCells g (0 + K.length * 2) [ptrC H1.cb i, .int .i64 o]).heap.size (W1.setCells g (0 + K.length * 2) [ptrC H1.cb i, .int .i64 o]) W2) :
    (∀ t u, (watC H1.cb (q0.drop (k + 1)))[t]? = some u → W2.cell? ⟨g, (k + 1) * 2 + t, none⟩ = some u) ∧ W2.ownsRow 0 100 2 (.slice (some ⟨g, 0, none⟩) n cap) n (watC H1.cb ((K ++ [(i, o)]) ++ q0.drop (K ++ [(i, o)]).length)) ∧
    ∃ R, VX ρ w B s l j g n cap ((K ++ [(i, o)]) ++ q0.drop (k + 1)) R ρ1 H1 (σ.setW j ((K ++ [(i, o)]) ++ q0.drop (k + 1))) (W2.setCells g (0 + (K.length + 1) * 2) (watC H1.cb (q0.drop (k + 1)))) := by
  obtain ⟨h1, h2, h3⟩ := hv.stepD hk hp hc ho hb
  have h4 := hv.mle
  have h5 := hv.ql
  rw [setW_setW] at h1
  replace h1 := h1.below hb2
  have hl2 : ((K ++ [(i, o)]) ++ q0.drop (K ++ [(i, o)]).length).length = n := by rw [raw_len (by simp; omega), h5]
  have hown : W2.ownsRow 0 100 2 (.slice (some ⟨g, 0, none⟩) n cap) n (watC H1.cb ((K ++ [(i, o)]) ++ q0.drop (K ++ [(i, o)]).length)) := by
    obtain ⟨u, _, _, hu, _, _, _, _, _, _, ho, _⟩ := h1.wAt (setW_get hv.jlt)
    obtain rfl := Option.some.inj (hu.symm.trans hv.hdr)
    rw [hl2] at ho; exact ho
  have hdl : (q0.drop (k + 1)).length = n - (k + 1) := by rw [List.length_drop, h5]
  refine ⟨fun t u hu => ?_, hown, ?_⟩
  · refine own_cell hown rfl ?_
    have e : (watC H1.cb ((K ++ [(i, o)]) ++ q0.drop (K ++ [(i, o)]).length)).drop ((k + 1) * 2) = watC H1.cb (q0.drop (k + 1)) := by
      rw [watC_drop]
      congr 1
      rw [List.drop_append]
      have : (K ++ [(i, o)]).drop (k + 1) = [] := List.drop_eq_nil_of_le (by simp; omega)
      rw [this, List.nil_append, List.drop_drop]
      congr 1; simp; omega
    rw [← e, List.getElem?_drop] at hu
    exact hu
  · have hRl : (((K ++ [(i, o)]) ++ q0.drop (k + 1)) ++ ((K ++ [(i, o)]) ++ q0.drop (K ++ [(i, o)]).length).drop ((K ++ [(i, o)]).length + (n - (k + 1)))).length = n := by
      simp; omega
    refine ⟨((K ++ [(i, o)]) ++ q0.drop (k + 1)) ++ ((K ++ [(i, o)]) ++ q0.drop (K ++ [(i, o)]).length).drop ((K ++ [(i, o)]).length + (n - (k + 1))), hRl, by simp; omega, List.take_left, ?_, setW_get hv.jlt, by simpa using h3, ?_, hv.frm.trans (setW_frm _ _ _), hv.late, hv.head, hv.hdr, hv.vars, hv.jx⟩
    · have e1 : setsL (watC H1.cb ((K ++ [(i, o)]) ++ q0.drop (K ++ [(i, o)]).length)) (0 + (K.length + 1) * 2) (watC H1.cb (q0.drop (k + 1))) = watC H1.cb (((K ++ [(i, o)]) ++ q0.drop (k + 1)) ++ ((K ++ [(i, o)]) ++ q0.drop (K ++ [(i, o)]).length).drop ((K ++ [(i, o)]).length + (n - (k + 1)))) := by
        rw [setsL_eq _ _ _ (by rw [watC_len, watC_len, hl2, hdl]; omega), Nat.zero_add, watC_take, watC_len, hdl, show (K.length + 1) * 2 + (n - (k + 1)) * 2 = (K.length + 1 + (n - (k + 1))) * 2 by omega, watC_drop, watC_append, watC_append]
        have e2 : ((K ++ [(i, o)]) ++ q0.drop (K ++ [(i, o)]).length).take (K.length + 1) = K ++ [(i, o)] := by
          rw [show K.length + 1 = (K ++ [(i, o)]).length by simp, List.take_left]
        rw [e2, show (K ++ [(i, o)]).length = K.length + 1 by simp]
      have ho2 := own_sets (g := g) rfl (watC H1.cb (q0.drop (k + 1))) (0 + (K.length + 1) * 2) _ W2 hown
      rw [e1] at ho2
      have hfin := (h1.wIn (w' := W2.setCells g (0 + (K.length + 1) * 2) (watC H1.cb (q0.drop (k + 1)))) (q' := _) (setW_get hv.jlt) hv.hdr (grownBy_sets g _ _ _) (by rw [hRl, hl2]) (by rw [hRl]; exact ho2)).1
      rw [setW_setW]
      have e5 := setW_setW σ j ((K ++ [(i, o)]) ++ q0.drop (K ++ [(i, o)]).length) (((K ++ [(i, o)]) ++ q0.drop (k + 1)) ++ ((K ++ [(i, o)]) ++ q0.drop (K ++ [(i, o)]).length).drop ((K ++ [(i, o)]).length + (n - (k + 1))))
      rw [← e5]
      exact hfin
    · refine (h2.trans (Ev.below hb2)).trans ?_
      refine Ev.grown (v := .slice (some ⟨g, 0, none⟩) n cap) (grownBy_sets g _ _ _) (fun k' hk' => ?_)
      have hr : ents B H1 (σ.setW j ((K ++ [(i, o)]) ++ q0.drop (K ++ [(i, o)]).length)) (6, j) = some ⟨100, 2, .slice (some ⟨g, 0, none⟩) n cap, ((K ++ [(i, o)]) ++ q0.drop (K ++ [(i, o)]).length).length, watC H1.cb ((K ++ [(i, o)]) ++ q0.drop (K ++ [(i, o)]).length)⟩ := by
        simp only [ents, setW_get hv.jlt, hv.hdr, watE]
      exact h1.roleOf hr hk' (by simp [oth])
end

end Go.Proofs.Ytlmbgaconjcaiab
