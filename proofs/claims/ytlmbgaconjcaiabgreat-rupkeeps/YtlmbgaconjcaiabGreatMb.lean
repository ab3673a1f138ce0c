/- Contracts of the law: the clauses that are there. -/
import Derived.Test.YtlmbgaconjcaiabGreatHd
import Derived.Test.YtlmbgaconjcaiabGreatIa
import Derived.Deep.AppendLies
set_option linter.unusedVariables false
set_option linter.unusedSimpArgs false
namespace Go.Proofs.YtlmbgaconjcaiabGreat
open Go.RowKit

/-- The clauses that are not gone. -/
def thereL : List (List Int) → List Bool → List (List Int)
  | c :: cs, g :: gs => if g then thereL cs gs else c :: thereL cs gs
  | _, _ => []

theorem thereL_snoc : ∀ (cs : List (List Int)) (gs : List Bool) (c : List Int) (g : Bool), cs.length = gs.length → thereL (cs ++ [c]) (gs ++ [g]) = thereL cs gs ++ (if g then [] else [c])
  | [], [], c, g, _ => by cases g <;> simp [thereL]
  | d :: cs, h :: gs, c, g, e => by
    have := thereL_snoc cs gs c g (by simpa using e)
    cases h <;> simp [thereL, this]
  | [], _ :: _, _, _, e => by simp at e
  | _ :: _, [], _, _, e => by simp at e

/-- A row of Booleans. -/
def RowB (w : World) (a : Option Addr) (gs : List Bool) : Prop :=
  ∀ i (h : i < gs.length), ∃ b off, a = some ⟨b, off, none⟩ ∧ b < w.heap.size ∧ w.cell? ⟨b, off + i, none⟩ = some (.bool gs[i])
theorem RowB.below {w w' : World} {a : Option Addr} {gs : List Bool} (h : RowB w a gs) (hb : Below w.heap.size w w') : RowB w' a gs := by
  intro i hi
  obtain ⟨b, off, e, hlt, hc⟩ := h i hi
  exact ⟨b, off, e, Nat.lt_of_lt_of_le hlt hb.size, (hb.cell (p := ⟨b, off + i, none⟩) hlt).trans hc⟩

/-- A row of the call's own of slices that lie elsewhere. -/
def OR (w wr : World) (v : Value) (css : List (List Int)) : Prop :=
  ∃ vs : List Value, wr.ownsRow w.heap.size 25 1 v css.length vs ∧ ∀ i (h : i < css.length), ∃ ai ci, vs[i]? = some (.slice ai css[i].length ci) ∧ Row w ai css[i] ∧ css[i].length ≤ maxLen ∧ (ai = none → ci = 0)

theorem OR.grid {w wr : World} {a : Option Addr} {cap : Nat} {css : List (List Int)} (h : OR w wr (.slice a css.length cap) css) (hb : Below w.heap.size w wr) : GridC wr a css := by
  obtain ⟨vs, h1, h2⟩ := h
  intro i hi
  obtain ⟨ai, ci, hv, hr, hl, hn⟩ := h2 i hi
  obtain ⟨g, cap', e, _, _, hlt⟩ := own_some h1 (by omega)
  simp at e
  obtain ⟨rfl, _⟩ := e
  refine ⟨g, 0, ai, ci, rfl, hlt, ?_, hr.below hb, hl, hn⟩
  have := own_cell (i := i) h1 rfl hv
  simpa using this

theorem own_ty' {w : World} {base e sz n g : Nat} {v : Value} {xs : List Value} (h : w.ownsRow base e sz v n xs) (hg : v.ownBlock = some g) : ∃ cs, w.heap[g]? = some (.cells cs e (0, 0)) := by
  rcases h.2 with ⟨rfl, _⟩ | ⟨g', cap, cur, rfl, hb, hgg, _⟩
  · simp [Value.ownBlock] at hg
  · simp [Value.ownBlock] at hg; subst hg; exact ⟨_, hgg⟩

theorem own_lit34 (W : World) (base : Nat) (hb : base ≤ W.heap.size) : (W.alloc (.cells #[] 25)).ownsRow base 25 1 (.slice (some ⟨W.heap.size, 0, none⟩) 0 0) 0 [] :=
  ⟨rfl, .inr ⟨W.heap.size, 0, #[], rfl, hb, heap_alloc_new W _, Nat.le_refl _, by unfold maxLen; omega, rfl, rfl⟩⟩

end Go.Proofs.YtlmbgaconjcaiabGreat
