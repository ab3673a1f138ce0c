/- Joined: Contracts of the document's own words: what follows. Contract of the document's following, of whatever is true at first. Contracts of the document: which clauses are at hand by units. Contracts of the document: which clauses are at hand by their first literal. What the program tells is what the document tells: plain. What a step makes of a formula is what the document says: plain. -/
import Derived.Test.YtlmbgaconjcaiabLa
import Derived.Test.YtlmbgaconjcaiabIHAll
import Derived.Test.YtlmbgaconjcaiabRiAll
import Derived.Test.YtlmbgaconjcaiabVFAll
set_option linter.unusedVariables false
set_option linter.unusedSimpArgs false
namespace Go.Proofs.Ytlmbgaconjcaiab
open Go.RowKit

/-- What Follows answers: its list in memory of its own. -/
def FolQ (w : World) (p : List Int × Bool) (e : Ending) (w' : World) : Prop :=
  ∃ a cap, e = .returned (.tuple #[.slice a p.1.length cap, .bool p.2]) ∧ Row w' a p.1 ∧ p.1.length ≤ maxLen ∧ Below w.heap.size w w'

theorem follows_succ (cs : List (List Int)) (k : Nat) (t : List Int) : followsP cs (k + 1) t = match nextP t cs 0 with | none => (t, true) | some u => if u = 0 then (t, false) else followsP cs k (t ++ [u]) := rfl
theorem nextP_cons (t c : List Int) (cs : List (List Int)) (n : Int) : nextP t (c :: cs) n = if brokenP t c then none else nextP t cs (if n = 0 then unitR t c 0 else n) := rfl

theorem next_good {V : Nat} {cs : List (List Int)} {t : List Int} {u : Int} (hx : ∀ c ∈ cs, c.length ≤ 10000 ∧ ∀ x ∈ c, Lt V x) (ht : ∀ x ∈ t, Lt V x) (hnd : Nd t) (h : nextP t cs 0 = some u) (hu : u ≠ 0) : Nd (t ++ [u]) ∧ ∀ x ∈ t ++ [u], Lt V x := by
  obtain ⟨_, _, h3⟩ := nextP_some cs 0 u h
  rcases h3 hu with h4 | ⟨c, hc, h4⟩
  · exact absurd h4 hu
  · have h0 : (0 : Int) ∉ c := zero_not (hx c hc).2
    obtain ⟨k1, k2, k3, k4⟩ := unit_ne h0 (by rw [← h4]; exact hu)
    rw [← h4] at k1 k2 k3
    refine ⟨?_, ?_⟩
    · unfold Nd
      rw [List.pairwise_append]
      refine ⟨hnd, List.pairwise_singleton _ _, ?_⟩
      intro a ha b hb
      simp at hb
      subst hb
      refine ⟨fun e => k2 (e ▸ ha), fun e => k3 (by rw [← e]; exact ha)⟩
    · intro x hx'
      rcases List.mem_append.1 hx' with h | h
      · exact ht x h
      · simp at h; subst h; exact (hx c hc).2 _ k1

theorem own_row3 {w : World} {base n cap : Nat} {a : Option Addr} {t : List Int} (h : w.ownsRow base 3 1 (.slice a n cap) n (intC t)) : n = t.length ∧ Row w a t ∧ t.length ≤ maxLen := by
  have hn : n = t.length := by have := h.1; simp [intC] at this; omega
  subst hn
  obtain ⟨a', cap', e, hr, hl, _⟩ := Own.row (base := base) h
  simp at e
  obtain ⟨rfl, rfl⟩ := e
  exact ⟨rfl, hr, hl⟩

end Go.Proofs.Ytlmbgaconjcaiab

namespace Go.Proofs.Ytlmbgaconjcaiab
open Go.RowKit
end Go.Proofs.Ytlmbgaconjcaiab

namespace Go.Proofs.Ytlmbgaconjcaiab
open Go.RowKit
/-- At hand by units, as the document has it. -/
def refU (css : List (List Int)) (c : List Int) : Bool := tautB c || (followsP css 100001 (c.map (fun x => -x))).2

end Go.Proofs.Ytlmbgaconjcaiab

namespace Go.Proofs.Ytlmbgaconjcaiab
open Go.RowKit

/-- One clause, as the document has it. -/
def refF1 (css : List (List Int)) (c : List Int) (l : Int) (d : List Int) : Bool := !hasB d l || (decide (c.length + (wo d l).length ≤ 4096) && refU css (c ++ wo d l))
/-- At hand by the first literal, as the document has it. -/
def refF (css : List (List Int)) (c : List Int) : Bool := match c with
  | [] => false
  | l0 :: _ => css.all (refF1 css c (-l0))

/-- A row of numbers is a source of an append. -/
theorem row_src {w : World} {a : Option Addr} {cap : Nat} {xs : List Int} (h : Row w a xs) (hn : a = none → cap = 0) : (a = none ∧ xs.length = 0 ∧ cap = 0 ∧ intC xs = []) ∨ ∃ ad, a = some ad ∧ (intC xs).length = xs.length * 1 ∧ ∀ j u, (intC xs)[j]? = some u → w.cell? (ad.add j) = some u := by
  cases ha : a with
  | none =>
    left
    have h0 : xs = [] := by
      cases xs with
      | nil => rfl
      | cons x r => obtain ⟨b', off, e, _⟩ := h 0 (by simp); rw [ha] at e; cases e
    subst h0
    exact ⟨rfl, rfl, hn ha, rfl⟩
  | some ad =>
    right
    refine ⟨ad, rfl, by simp [intC], fun j u hj => ?_⟩
    have hjl : j < xs.length := by have := (List.getElem?_eq_some_iff.1 hj).1; simpa [intC] using this
    obtain ⟨b', off, e, hb', hc'⟩ := h j hjl
    rw [ha] at e
    simp at e
    subst e
    rw [intC_get (List.getElem?_eq_getElem hjl)] at hj
    cases hj
    rw [Addr.add_lit]; exact hc'
theorem intC_one (xs : List Int) : ∀ u ∈ intC xs, u.oneCell' = true := by intro u hu; simp only [intC, List.mem_map] at hu; obtain ⟨i, _, rfl⟩ := hu; rfl

/-- A clause and another one's rest, in memory of the call's own. -/
def JoinP (w : World) (c R : List Int) (v : Value) (wx : World) : Prop := ∃ g cap, v = .slice (some ⟨g, 0, none⟩) (c.length + R.length) cap ∧ Row wx (some ⟨g, 0, none⟩) (c ++ R) ∧ Below w.heap.size w wx

theorem join_fin {w0 W w9 : World} {g1 cap1 g9 cap9 : Nat} {c R : List Int} (hB : Below w0.heap.size w0 W) (ho1 : W.ownsRow w0.heap.size 3 1 (.slice (some ⟨g1, 0, none⟩) c.length cap1) c.length (intC c)) (hgr : W.grownBy w9 (Value.ownBlock (.slice (some ⟨g1, 0, none⟩) c.length cap1)))
    (ho9 : w9.ownsRow w0.heap.size 3 1 (.slice (some ⟨g9, 0, none⟩) (c.length + R.length) cap9) (c.length + R.length) (intC c ++ R.map (Value.int .i64))) : JoinP w0 c R (.slice (some ⟨g9, 0, none⟩) (c.length + R.length) cap9) w9 := by
  have hb9 : Below w0.heap.size w0 w9 := hB.grown hgr hB.size (fun b e => (World.ownsRow.lt ho1 b e).1)
  have e1 : (intC c ++ R.map (Value.int .i64) : List Value) = (c ++ R).map (Value.int .i64) := by simp [intC]
  have e2 : c.length + R.length = (c ++ R).length := by simp
  rw [e1, e2] at ho9
  obtain ⟨a', cap', e, hr, _⟩ := Own.row (base := w0.heap.size) ho9
  simp at e
  obtain ⟨rfl, rfl⟩ := e
  exact ⟨g9, cap9, rfl, hr, hb9⟩

theorem join_bel {w wx : World} {c R : List Int} {v : Value} (h : JoinP w c R v wx) : Below w.heap.size w wx := by obtain ⟨_, _, _, _, hb⟩ := h; exact hb
theorem own_e2 {W0 w3 : World} (h : (W0.alloc (.cells #[] 3)).drew.ownsRow W0.heap.size 3 1 (.slice (some ⟨W0.heap.size, 0, none⟩) 0 0) 0 []) (hB : Below (W0.alloc (.cells #[] 3)).drew.heap.size (W0.alloc (.cells #[] 3)).drew w3) : w3.ownsRow W0.heap.size 3 1 (.slice (some ⟨W0.heap.size, 0, none⟩) 0 0) 0 [] :=
  own_same h (fun b hb => hB.block b (World.ownsRow.lt h b hb).2)
theorem own_after {W0 w1 w3 : World} {v : Value} {n : Nat} {xs : List Value} (h : w1.ownsRow W0.heap.size 3 1 v n xs) (hB : Below w1.heap.size w1 w3) : w3.ownsRow W0.heap.size 3 1 v n xs :=
  own_same h (fun b hb => hB.block b (World.ownsRow.lt h b hb).2)
theorem src2 {W0 w3 w1 : World} {g5 cap5 : Nat} {R : List Int} (h : Own (W0.alloc (.cells #[] 3)).drew.heap.size w3 (.slice (some ⟨g5, 0, none⟩) R.length cap5) R) (hg : w3.grownBy w1 (Value.ownBlock (.slice (some ⟨W0.heap.size, 0, none⟩) 0 0))) : w1.ownsRow (W0.alloc (.cells #[] 3)).drew.heap.size 3 1 (.slice (some ⟨g5, 0, none⟩) R.length cap5) R.length (R.map (Value.int .i64)) :=
  World.ownsRow.kept h hg (.inr (fun e => by
    have := (World.ownsRow.lt h g5 rfl).1
    simp [Value.ownBlock] at e
    simp at this
    omega))
theorem src3 {base : Nat} {w3 w1 : World} {g5 cap5 : Nat} {R : List Int} (h : Own base w3 (.slice (some ⟨g5, 0, none⟩) R.length cap5) R) (hg : (w3.alloc (.cells #[] 3)).grownBy w1 (Value.ownBlock (.slice (some ⟨w3.heap.size, 0, none⟩) 0 0))) : w1.ownsRow base 3 1 (.slice (some ⟨g5, 0, none⟩) R.length cap5) R.length (R.map (Value.int .i64)) :=
  World.ownsRow.kept (World.ownsRow.alloc h (.cells #[] 3)) hg (.inr (fun e => by
    have := (World.ownsRow.lt h g5 rfl).2
    simp [Value.ownBlock] at e
    omega))

end Go.Proofs.Ytlmbgaconjcaiab

namespace Go.Proofs.Ytlmbgaconjcaiab

theorem taut_con (c : List Int) : tautB c = true ↔ ¬ Con c := by
  unfold tautB Con hasB
  rw [List.any_eq_true]
  constructor
  · rintro ⟨x, hx, h⟩ hn
    rw [List.any_eq_true] at h
    obtain ⟨y, hy, e⟩ := h
    obtain rfl : y = -x := by simpa using e
    exact hn x hx hy
  · intro h
    by_cases h2 : ∃ x ∈ c, (c.any fun y => y == -x) = true
    · exact h2
    · exfalso
      apply h
      intro x hx hy
      exact h2 ⟨x, hx, by rw [List.any_eq_true]; exact ⟨-x, hy, by simp⟩⟩

theorem alv_keys {t : PS} {css : List (List Int)} (h : t.cls.map key = css.map (fun c => (c, false))) : Alv t css := by
  intro L
  constructor
  · intro hL
    obtain ⟨i, hi⟩ := List.mem_iff_getElem?.1 hL
    obtain ⟨c, c1, c2, c3⟩ := keys_get h (i := i) (k := (L, false)) (by rw [List.getElem?_map, hi]; rfl)
    exact ⟨i, c, c1, c3, c2⟩
  · rintro ⟨i, c, h1, h2, rfl⟩
    have q := keys_at h h1
    rw [List.getElem?_map] at q
    cases e : css[i]? with
    | none => rw [e] at q; cases q
    | some d =>
      rw [e] at q
      simp at q
      rw [← q.1]
      exact List.mem_of_getElem? e

theorem te_ref {sp : Nat} {css : List (List Int)} {cl : List Int} {b : Bool} (h : TE sp css cl b) (hl : css.length ≤ 100000) (hs : ∀ d ∈ css, ∀ x ∈ d, x ≠ 0 ∧ (sp ≠ 0 → -x ≠ (sp : Int))) (hc : ∀ x ∈ cl, x ≠ 0 ∧ (sp ≠ 0 → x ≠ (sp : Int))) : refU css cl = b := by
  obtain ⟨t, ds, hI, hk, h1, h0, hd, hT⟩ := h
  unfold refU
  cases ht : tautB cl with
  | true => rw [told_taut hI hT ((taut_con cl).1 ht)]; rfl
  | false =>
    have hcon : Con cl := by
      by_cases h : Con cl
      · exact h
      · rw [(taut_con cl).2 h] at ht; cases ht
    show (followsP css 100001 (cl.map fun x => -x)).2 = b
    by_cases hz : sp = 0
    · refine told_ref hI (alv_keys hk) (sp := 0) hT hcon (fun d hd' x hx e => (hs d hd' x hx).1 (by omega)) (fun x hx => (hc x hx).1) (fun x hx => ?_) (by omega)
      rw [h0 hz] at hx
      exact .inl (hd x hx)
    · refine told_ref hI (alv_keys hk) (sp := (sp : Int)) hT hcon (fun d hd' x hx => (hs d hd' x hx).2 hz) (fun x hx => (hc x hx).2 hz) (fun x hx => ?_) (by omega)
      rw [h1 hz] at hx
      rcases List.mem_cons.1 hx with h | h
      · exact .inr h
      · exact .inl (hd x h)

theorem spare_ne {V : Nat} {c : List Int} {x : Int} (hx : (-(V : Int) ≤ x ∧ x ≤ V) ∨ x ∈ c) (h : spareN V [⟨false, c⟩] ≠ 0) : x ≠ (spareN V [⟨false, c⟩] : Int) ∧ -x ≠ (spareN V [⟨false, c⟩] : Int) := by
  have h1 := (le_topN V [⟨false, c⟩]).1
  have h2 := (le_topN V [⟨false, c⟩]).2 _ (List.mem_singleton_self _)
  simp only at h2
  have e : spareN V [⟨false, c⟩] = topN V [⟨false, c⟩] + 1 := by
    unfold spareN at h ⊢
    split
    · rfl
    · rename_i hh; rw [if_neg hh] at h; exact absurd rfl h
  rw [e]
  rcases hx with hx | hx
  · omega
  · have := le_gtN x hx
    omega

/-- Unit tells what the document tells. -/
theorem unit_ref {V : Nat} {css : List (List Int)} {c : List Int} {b : Bool} (h : UnitE V css c b) (hl : css.length ≤ 100000) (hc : cnfB V css = true) (hm : mayB c 1048576 = true) : refU css c = b := by
  have hlt := cnf_lt hc
  refine te_ref (sp := spareN V [⟨false, c⟩]) h hl (fun d hd x hx => ⟨((hlt d hd).2 x hx).1, fun hz => (spare_ne (.inl (by have := (hlt d hd).2 x hx; unfold Lt at this; omega)) hz).2⟩) (fun x hx => ⟨(may_lits hm x hx).1, fun hz => (spare_ne (.inr hx) hz).1⟩)

/-- First tells what the document tells. -/
theorem first_ref {V : Nat} {css : List (List Int)} {c : List Int} {b : Bool} (h : (c = [] ∧ b = false) ∨ ∃ l0, c[0]? = some l0 ∧ FirstE (spareN V [⟨false, c⟩]) css c (-l0) b) (hl : css.length ≤ 100000) (hc : cnfB V css = true) (hm : mayB c 1048576 = true) : refF css c = b := by
  rcases h with ⟨rfl, rfl⟩ | ⟨l0, h0, hF⟩
  · rfl
  · have hlt := cnf_lt hc
    have hte : ∀ d ∈ css, ∀ b', TE (spareN V [⟨false, c⟩]) css (c ++ wo d (-l0)) b' → refU css (c ++ wo d (-l0)) = b' := by
      intro d hd b' hT
      refine te_ref hT hl (fun d hd x hx => ⟨((hlt d hd).2 x hx).1, fun hz => (spare_ne (.inl (by have := (hlt d hd).2 x hx; unfold Lt at this; omega)) hz).2⟩) (fun x hx => ?_)
      rcases List.mem_append.1 hx with hx | hx
      · exact ⟨(may_lits hm x hx).1, fun hz => (spare_ne (.inr hx) hz).1⟩
      · have hx' := (List.mem_filter.1 hx).1
        exact ⟨((hlt d hd).2 x hx').1, fun hz => (spare_ne (.inl (by have := (hlt d hd).2 x hx'; unfold Lt at this; omega)) hz).1⟩
    have hrf : refF css c = css.all (refF1 css c (-l0)) := by
      cases c with
      | nil => simp at h0
      | cons l r => simp at h0; subst h0; rfl
    have hhas : ∀ d : List Int, hasB d (-l0) = true ↔ -l0 ∈ d := by
      intro d
      unfold hasB
      rw [List.any_eq_true]
      constructor
      · rintro ⟨y, hy, e⟩; obtain rfl : y = -l0 := by simpa using e
        exact hy
      · intro hy; exact ⟨_, hy, by simp⟩
    rw [hrf]
    rcases hF with ⟨rfl, hF⟩ | ⟨rfl, d, hd, hld, hF⟩
    · rw [List.all_eq_true]
      intro d hd
      unfold refF1
      cases hh : hasB d (-l0) with
      | false => rfl
      | true =>
        obtain ⟨a1, a2⟩ := hF d hd ((hhas d).1 hh)
        rw [hte d hd true a2, decide_eq_true a1]; rfl
    · rw [List.all_eq_false]
      refine ⟨d, hd, ?_⟩
      unfold refF1
      rw [(hhas d).2 hld]
      rcases hF with hF | hF
      · rw [decide_eq_false (by omega)]; simp
      · rw [hte d hd false hF]; simp
end Go.Proofs.Ytlmbgaconjcaiab

namespace Go.Proofs.Ytlmbgaconjcaiab

/-- Clauses without the first that has the same literals. -/
def remO : List (List Int) → List Int → List (List Int)
  | [], _ => []
  | d :: r, c => if order d = order c then r else d :: remO r c
/-- What the document's step leaves. -/
def docX (V : Nat) (css : List (List Int)) (d : Bool) (c : List Int) : Nat := if d then V else if refU css c || refF css c then max V (gtN c) else V
def docC (css : List (List Int)) (d : Bool) (c : List Int) : List (List Int) := if d then remO css c else if refU css c || refF css c then css ++ [c] else css
def docE (css : List (List Int)) (d : Bool) (c : List Int) : Int := if d then 0 else if refU css c || refF css c then 0 else 7

theorem tx_flat (c : List Int) : tx c = (order c).flatMap b3 := by simp [tx, txt]
theorem lit_b3 {c : List Int} (h : mayB c 1048576 = true) : ∀ x ∈ order c, -8388608 ≤ x ∧ x < 8388608 := by
  intro x hx
  have := order_lits (lits_of h) x hx
  omega
theorem tx_iff {c d : List Int} (hc : mayB c 1048576 = true) (hd : mayB d 1048576 = true) : tx c = tx d ↔ order c = order d := by
  rw [tx_flat, tx_flat]
  exact ⟨fun h => flat_inj _ _ (lit_b3 hc) (lit_b3 hd) h, fun h => by rw [h]⟩
theorem rem_doc {c : List Int} (hc : mayB c 1048576 = true) : ∀ (css : List (List Int)), (∀ d ∈ css, mayB d 1048576 = true) → remB css (tx c) = remO css c
  | [], _ => rfl
  | d :: r, h => by
    unfold remB remO
    have := tx_iff (h d (by simp)) hc
    by_cases e : order d = order c
    · rw [if_pos e, if_pos (this.2 e)]
    · rw [if_neg e, if_neg (fun q => e (this.1 q)), rem_doc hc r (fun x hx => h x (List.mem_cons_of_mem _ hx))]

theorem cnf_may {V : Nat} {css : List (List Int)} (hc : cnfB V css = true) : ∀ d ∈ css, mayB d 1048576 = true := by
  intro d hd
  have q := cnf_lt hc d hd
  have hV : V ≤ 1048576 := by
    unfold cnfB at hc
    simp only [Bool.and_eq_true, decide_eq_true_eq] at hc
    omega
  exact may_lt q.2 hV q.1

theorem unit_te {V : Nat} {css : List (List Int)} {c : List Int} {b : Bool} (h : TE (spareN V [⟨false, c⟩]) css c b) (hl : css.length ≤ 100000) (hc : cnfB V css = true) (hm : mayB c 1048576 = true) : refU css c = b := unit_ref h hl hc hm

theorem doe_ref {V : Nat} {css : List (List Int)} {d : Bool} {c : List Int} {r : Int} {x1 : Nat} {css' : List (List Int)} (h : DoE V css d c r x1 css') (hl : css.length ≤ 100000) (hc : cnfB V css = true) (hm : mayB c 1048576 = true) :
    r = docE css d c ∧ x1 = docX V css d c ∧ css' = docC css d c := by
  rcases h with ⟨rfl, rfl, e3, e4⟩ | ⟨rfl, rfl, e3, e4, h⟩ | ⟨rfl, rfl, e3, e4, h1, h2⟩
  · exact ⟨rfl, e3, e4.trans (rem_doc hm css (cnf_may hc))⟩
  · have : (refU css c || refF css c) = true := by
      rcases h with h | ⟨l0, h0, h⟩
      · rw [unit_te h hl hc hm]; rfl
      · rw [first_ref (b := true) (.inr ⟨l0, h0, h⟩) hl hc hm]; simp
    simp [docE, docX, docC, this, e3, e4]
  · have e1 : refU css c = false := unit_te h1 hl hc hm
    have e2 : refF css c = false := by
      rcases h2 with rfl | ⟨l0, h0, h⟩
      · exact first_ref (b := false) (.inl ⟨rfl, rfl⟩) hl hc hm
      · exact first_ref (b := false) (.inr ⟨l0, h0, h⟩) hl hc hm
    simp [docE, docX, docC, e1, e2, e3, e4]
end Go.Proofs.Ytlmbgaconjcaiab
