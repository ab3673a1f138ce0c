/- Rows of rows that a call makes: kept while the call goes on. -/
import Derived.Test.YtlmbgaconjcaiabWalkL
set_option linter.unusedVariables false
set_option linter.unusedSimpArgs false
namespace Go.Proofs.Ytlmbgaconjcaiab
open Go.RowKit

theorem Try.info32 : (Try.prog.info? 32).map (fun i => (i.zero, i.size, i.bytes)) = some (some (.slice none 0 0), 1, 24) := by kernel_rfl

/-- A slice of slices, all of the call's own. -/
def OG (base : Nat) (w : World) (v : Value) (css : List (List Int)) : Prop :=
  ∃ vs : List Value, w.ownsRow base 32 1 v css.length vs ∧ ∀ i (h : i < css.length), ∃ u, vs[i]? = some u ∧ Own base w u css[i]

theorem OG.none (base : Nat) (w : World) : OG base w (.slice none 0 0) [] := ⟨[], World.ownsRow_nil _ _ _ _, fun i h => by simp at h⟩

theorem own_block {base : Nat} {w : World} {e : TypeId} {v : Value} {n : Nat} {vs : List Value} (h : w.ownsRow base e 1 v n vs) {g : Nat} (hg : v.ownBlock = some g) : ∃ cur, w.heap[g]? = some (.cells cur e (0, 0)) := by
  rcases h.2 with ⟨rfl, _⟩ | ⟨g', cap, cur, rfl, _, hh, _⟩
  · simp [Value.ownBlock] at hg
  · simp [Value.ownBlock] at hg; subst hg; exact ⟨cur, hh⟩

/-- A row of numbers and a row of slices do not lie in one place. -/
theorem own_apart {base base' : Nat} {w : World} {u v : Value} {c : List Int} {n : Nat} {vs : List Value} (h : Own base w u c) (g : w.ownsRow base' 32 1 v n vs) : u.ownBlock = Option.none ∨ u.ownBlock ≠ v.ownBlock := by
  cases hu : u.ownBlock with
  | none => exact .inl rfl
  | some k =>
    right
    intro e
    obtain ⟨c1, e1⟩ := own_block h hu
    obtain ⟨c2, e2⟩ := own_block g e.symm
    rw [e1] at e2
    simp at e2

theorem OG.below {base : Nat} {w w' : World} {v : Value} {css : List (List Int)} (h : OG base w v css) (hb : Below w.heap.size w w') : OG base w' v css := by
  obtain ⟨vs, h1, h2⟩ := h
  refine ⟨vs, World.ownsRow.kept h1 (row := Option.none) ⟨hb.os, hb.tape, hb.output, hb.size, fun k hk _ => hb.block k hk⟩ (by cases v.ownBlock <;> simp), fun i hi => ?_⟩
  obtain ⟨u, e, ho⟩ := h2 i hi
  exact ⟨u, e, ho.below hb⟩

/-- One clause more. -/
theorem OG.snoc {base : Nat} {w w' : World} {v v' u : Value} {css : List (List Int)} {c : List Int} {vs : List Value}
    (h1 : w.ownsRow base 32 1 v css.length vs) (h2 : ∀ i (h : i < css.length), ∃ u, vs[i]? = some u ∧ Own base w u css[i]) (hu : Own base w u c)
    (h3 : w'.ownsRow base 32 1 v' (css.length + 1) (vs ++ [u])) (hg : w.grownBy w' v.ownBlock) : OG base w' v' (css ++ [c]) := by
  have hl : vs.length = css.length := by simpa using h1.1
  refine ⟨vs ++ [u], by simpa using h3, fun i hi => ?_⟩
  rcases Nat.lt_or_ge i css.length with h | h
  · obtain ⟨x, e, ho⟩ := h2 i h
    refine ⟨x, by rw [List.getElem?_append_left (by omega)]; exact e, ?_⟩
    rw [List.getElem_append_left h]
    exact World.ownsRow.kept ho hg (own_apart ho h1)
  · have e : i = css.length := by simp at hi; omega
    subst e
    refine ⟨u, by rw [List.getElem?_append_right (by omega), hl]; simp, ?_⟩
    rw [List.getElem_append_right (Nat.le_refl _)]
    simp only [Nat.sub_self, List.getElem_cons_zero]
    exact World.ownsRow.kept hu hg (own_apart hu h1)

theorem OG.setCell {base : Nat} {w : World} {v : Value} {css : List (List Int)} (h : OG base w v css) {G j : Nat} {cs : Array Value} {x : Value} (hG : w.heap[G]? = some (.cells cs 24 (0, 0))) : OG base (w.setCell ⟨G, j, Option.none⟩ x) v css := by
  have key : ∀ {e : TypeId} {u : Value} {n : Nat} {ys : List Value}, e ≠ 24 → w.ownsRow base e 1 u n ys → u.ownBlock ≠ some G := by
    intro e u n ys he hu hk
    obtain ⟨cur, hc⟩ := own_block hu hk
    rw [hG] at hc
    simp at hc
    exact he hc.2.symm
  obtain ⟨vs, h1, h2⟩ := h
  refine ⟨vs, ownsRow_setCell_other h1 (key (by decide) h1) x, fun i hi => ?_⟩
  obtain ⟨u, e, ho⟩ := h2 i hi
  exact ⟨u, e, ownsRow_setCell_other ho (key (by decide) ho) x⟩

theorem OG.grid {base : Nat} {w : World} {v : Value} {css : List (List Int)} (h : OG base w v css) : ∃ a cap, v = .slice a css.length cap ∧ Grid w a css ∧ css.length ≤ maxLen := by
  obtain ⟨vs, h1, h2⟩ := h
  have hl : vs.length = css.length := by simpa using h1.1
  rcases h1.2 with ⟨rfl, h0⟩ | ⟨g, cap, cur, rfl, hb, hg, hn, hm, hs, ht⟩
  · refine ⟨Option.none, 0, by rw [h0], fun i hi => by omega, by rw [h0]; exact Nat.zero_le _⟩
  · refine ⟨_, cap, rfl, fun i hi => ?_, Nat.le_trans hn hm⟩
    obtain ⟨u, e, ho⟩ := h2 i hi
    obtain ⟨ai, ci, rfl, hr, hlen, _⟩ := ho.row
    refine ⟨g, 0, ai, ci, rfl, (Array.getElem?_eq_some_iff.1 hg).1, ?_, hr, hlen⟩
    have := h1.cellAt i (by omega)
    rw [Nat.zero_add, this, e]

theorem OG.mono {base base' : Nat} {w : World} {v : Value} {css : List (List Int)} (h : OG base w v css) (hb : base' ≤ base) : OG base' w v css := by
  obtain ⟨vs, h1, h2⟩ := h
  refine ⟨vs, ⟨h1.1, ?_⟩, fun i hi => ?_⟩
  · rcases h1.2 with hn | ⟨g, cap, cur, e, g1, r⟩
    · exact .inl hn
    · exact .inr ⟨g, cap, cur, e, Nat.le_trans hb g1, r⟩
  · obtain ⟨u, e, ho⟩ := h2 i hi
    exact ⟨u, e, ho.mono hb⟩

end Go.Proofs.Ytlmbgaconjcaiab
