/- Rows in memory, each in a role: a block is given its role when it is made and keeps it, so rows in two roles never meet. -/
import Derived.Test.YtlmbgaconjcaiabWalkP
import Derived.Laws.AppendOwnNone
set_option linter.unusedVariables false
set_option linter.unusedSimpArgs false
namespace Go.Proofs.Ytlmbgaconjcaiab
open Go.RowKit

abbrev Rl := Nat × Nat

/-- A row: its elements' type, the cells of an element, its slice, how many elements, the cells. -/
structure Ent where
  e : TypeId
  sz : Nat
  v : Value
  n : Nat
  xs : List Value

abbrev Ents := Rl → Option Ent

/-- The role of whatever is not a propagator's. -/
def oth : Rl := (99, 0)

structure Hold (ρ : Nat → Rl) (w : World) (E : Ents) : Prop where
  own : ∀ r x, E r = some x → w.ownsRow 0 x.e x.sz x.v x.n x.xs
  rl : ∀ r x g, E r = some x → x.v.ownBlock = some g → ρ g = r

def up (E : Ents) (r : Rl) (x : Ent) : Ents := fun q => if q = r then some x else E q
theorem up_same (E : Ents) (r : Rl) (x : Ent) : up E r x r = some x := if_pos rfl
theorem up_other (E : Ents) {r q : Rl} (x : Ent) (h : q ≠ r) : up E r x q = E q := if_neg h

/-- A block is given a role. -/
def rs (ρ : Nat → Rl) (g : Nat) (r : Rl) : Nat → Rl := fun b => if b = g then r else ρ b

/-- What becomes of a world: roles stay, and nothing turns but what is a propagator's. -/
structure Ev (ρ : Nat → Rl) (w : World) (ρ' : Nat → Rl) (w' : World) : Prop where
  os : w'.os = w.os
  tape : w'.tape = w.tape
  output : w'.output = w.output
  size : w.heap.size ≤ w'.heap.size
  agree : ∀ b, b < w.heap.size → ρ' b = ρ b
  keep : ∀ b, b < w.heap.size → ρ b = oth → w'.heap[b]? = w.heap[b]?

section
variable {ρ ρ' ρ'' : Nat → Rl} {w w' w'' : World} {E E' : Ents} {r q : Rl} {x y : Ent} {g k : Nat}

theorem Ev.refl (ρ : Nat → Rl) (w : World) : Ev ρ w ρ w := ⟨rfl, rfl, rfl, Nat.le_refl _, fun _ _ => rfl, fun _ _ _ => rfl⟩
theorem Ev.trans (h : Ev ρ w ρ' w') (k : Ev ρ' w' ρ'' w'') : Ev ρ w ρ'' w'' :=
  ⟨k.os.trans h.os, k.tape.trans h.tape, k.output.trans h.output, Nat.le_trans h.size k.size,
   fun b hb => (k.agree b (Nat.lt_of_lt_of_le hb h.size)).trans (h.agree b hb),
   fun b hb hr => (k.keep b (Nat.lt_of_lt_of_le hb h.size) ((h.agree b hb).trans hr)).trans (h.keep b hb hr)⟩
theorem Ev.below (hb : Below w.heap.size w w') : Ev ρ w ρ w' := ⟨hb.os, hb.tape, hb.output, hb.size, fun _ _ => rfl, fun b h _ => hb.block b h⟩
theorem Ev.alloc (o : Obj) : Ev ρ w ρ (w.alloc o) := Ev.below (below_alloc w o)
theorem Ev.drew (ρ : Nat → Rl) (w : World) : Ev ρ w ρ w.drew := ⟨rfl, rfl, rfl, Nat.le_refl _, fun _ _ => rfl, fun _ _ _ => rfl⟩
theorem Ev.drewN (ρ : Nat → Rl) (w : World) (n : Nat) : Ev ρ w ρ (w.drewN n) := ⟨rfl, rfl, rfl, Nat.le_refl _, fun _ _ => rfl, fun _ _ _ => rfl⟩
theorem Ev.set (hg : ρ g ≠ oth) (i : Nat) (u : Value) : Ev ρ w ρ (w.setCell ⟨g, i, none⟩ u) :=
  ⟨rfl, rfl, rfl, by simp [World.setCell], fun _ _ => rfl, fun b _ hr => Below.heap_setCell _ _ _ _ (by rintro rfl; exact hg hr)⟩
theorem rs_same (ρ : Nat → Rl) (g : Nat) (r : Rl) : rs ρ g r g = r := if_pos rfl
theorem rs_other (ρ : Nat → Rl) {g b : Nat} (r : Rl) (h : b ≠ g) : rs ρ g r b = ρ b := if_neg h
theorem Ev.role (r : Rl) (h : w.heap.size ≤ g ∨ ρ g = r) : Ev ρ w (rs ρ g r) w :=
  ⟨rfl, rfl, rfl, Nat.le_refl _, fun b hb => by
    by_cases e : b = g
    · subst e; rw [rs_same]; rcases h with h | h
      · omega
      · exact h.symm
    · exact rs_other _ _ e, fun _ _ _ => rfl⟩

theorem Ev.grown {v : Value} (hg : w.grownBy w' v.ownBlock) (hr : ∀ k, v.ownBlock = some k → ρ k ≠ oth) : Ev ρ w ρ w' :=
  ⟨hg.os, hg.tape, hg.output, hg.size, fun _ _ => rfl, fun b hb h => hg.block b hb (fun e => hr b e.symm h)⟩

theorem Hold.lt (h : Hold ρ w E) (hr : E r = some x) (hg : x.v.ownBlock = some g) : g < w.heap.size := ((h.own r x hr).lt g hg).2
theorem Hold.ne (h : Hold ρ w E) (hr : E r = some x) (hg : x.v.ownBlock = some g) (hq : E q = some y) (hk : y.v.ownBlock = some k) (hn : r ≠ q) : g ≠ k := by
  rintro rfl
  exact hn ((h.rl r x g hr hg).symm.trans (h.rl q y g hq hk))

theorem own_cell {base n sz i : Nat} {e : TypeId} {v u : Value} {xs : List Value} (h : w.ownsRow base e sz v n xs) (hg : v.ownBlock = some g) (hi : xs[i]? = some u) : w.cell? ⟨g, i, none⟩ = some u := by
  have := h.cells hg i u hi
  rwa [Addr.add_lit, Nat.zero_add] at this
theorem own_fz {base n sz : Nat} {e : TypeId} {v : Value} {xs : List Value} (h : w.ownsRow base e sz v n xs) (hg : v.ownBlock = some g) (i : Nat) : w.frozen? ⟨g, i, none⟩ = false := by
  rcases h.2 with ⟨rfl, _⟩ | ⟨g', cap, cur, rfl, hb, hgg, _⟩
  · simp [Value.ownBlock] at hg
  · simp [Value.ownBlock] at hg; subst hg; simp [World.frozen?, hgg]

theorem Hold.cell (h : Hold ρ w E) (hr : E r = some x) (hg : x.v.ownBlock = some g) {i : Nat} {u : Value} (hi : x.xs[i]? = some u) : w.cell? ⟨g, i, none⟩ = some u := own_cell (h.own r x hr) hg hi
theorem Hold.fz (h : Hold ρ w E) (hr : E r = some x) (hg : x.v.ownBlock = some g) (i : Nat) : w.frozen? ⟨g, i, none⟩ = false := own_fz (h.own r x hr) hg i

theorem own_same {base n sz : Nat} {e : TypeId} {v : Value} {xs : List Value} (h : w.ownsRow base e sz v n xs) (hk : ∀ k, v.ownBlock = some k → w'.heap[k]? = w.heap[k]?) : w'.ownsRow base e sz v n xs := by
  refine ⟨h.1, ?_⟩
  rcases h.2 with hn | ⟨g, cap, cur, rfl, hb, hgg, rest⟩
  · exact .inl hn
  · exact .inr ⟨g, cap, cur, rfl, hb, by rw [hk g rfl]; exact hgg, rest⟩

theorem Hold.same (h : Hold ρ w E) (hk : ∀ b, b < w.heap.size → w'.heap[b]? = w.heap[b]?) : Hold ρ w' E :=
  ⟨fun r x hr => own_same (h.own r x hr) (fun k e => hk k (h.lt hr e)), h.rl⟩
theorem Hold.below (h : Hold ρ w E) (hb : Below w.heap.size w w') : Hold ρ w' E := h.same (fun b hl => hb.block b hl)
theorem Hold.alloc (h : Hold ρ w E) (o : Obj) : Hold ρ (w.alloc o) E := h.below (below_alloc w o)
theorem Hold.drew (h : Hold ρ w E) : Hold ρ w.drew E := h.same (fun _ _ => rfl)
theorem Hold.drewN (h : Hold ρ w E) (n : Nat) : Hold ρ (w.drewN n) E := h.same (fun _ _ => rfl)
theorem Hold.role (h : Hold ρ w E) (ha : ∀ b, b < w.heap.size → ρ' b = ρ b) : Hold ρ' w E :=
  ⟨h.own, fun r x g hr hg => (ha g (h.lt hr hg)).trans (h.rl r x g hr hg)⟩
theorem Hold.weak (h : Hold ρ w E) (hE : ∀ r x, E' r = some x → E r = some x) : Hold ρ w E' :=
  ⟨fun r x hr => h.own r x (hE r x hr), fun r x g hr hg => h.rl r x g (hE r x hr) hg⟩
theorem Hold.eqv (h : Hold ρ w E) (hE : ∀ r, E' r = E r) : Hold ρ w E' := h.weak (fun r x hr => (hE r).symm.trans hr)

/-- One role's row turns; all blocks of other roles stay. -/
theorem Hold.turn (h : Hold ρ w E) (ha : ∀ b, b < w.heap.size → ρ' b = ρ b) (hk : ∀ b, b < w.heap.size → ρ b ≠ r → w'.heap[b]? = w.heap[b]?)
    (hown : w'.ownsRow 0 y.e y.sz y.v y.n y.xs) (hrl : ∀ g, y.v.ownBlock = some g → ρ' g = r) : Hold ρ' w' (up E r y) := by
  refine ⟨fun q x hq => ?_, fun q x g hq hg => ?_⟩
  · by_cases e : q = r
    · subst e; rw [up_same] at hq; cases hq; exact hown
    · rw [up_other _ _ e] at hq
      refine own_same (h.own q x hq) (fun k hk' => hk k (h.lt hq hk') ?_)
      rw [h.rl q x k hq hk']; exact e
  · by_cases e : q = r
    · subst e; rw [up_same] at hq; cases hq; exact hrl g hg
    · rw [up_other _ _ e] at hq
      exact (ha g (h.lt hq hg)).trans (h.rl q x g hq hg)

theorem own_set {base n sz i : Nat} {e : TypeId} {v : Value} {xs : List Value} (h : w.ownsRow base e sz v n xs) (hg : v.ownBlock = some g) (u : Value) : (w.setCell ⟨g, i, none⟩ u).ownsRow base e sz v n (xs.set i u) := by
  refine ⟨by rw [List.length_set]; exact h.1, ?_⟩
  rcases h.2 with ⟨rfl, _⟩ | ⟨g', cap, cur, rfl, hb, hgg, hn, hm, hs, ht⟩
  · simp [Value.ownBlock] at hg
  · simp [Value.ownBlock] at hg
    subst hg
    refine .inr ⟨g', cap, cur.setIfInBounds i u, rfl, hb, ?_, hn, hm, by simpa using hs, ?_⟩
    · have hlt := lt_of_block hgg
      have h' : w.heap[g'] = .cells cur e (0, 0) := by simpa [Array.getElem?_eq_getElem hlt] using hgg
      show (w.heap.modify g' _)[g']? = _
      rw [Array.getElem?_eq_getElem (by simpa using hlt), Array.getElem_modify_self, h']
      rfl
    · rw [Array.toList_setIfInBounds, List.take_set, ht]

theorem Hold.set (h : Hold ρ w E) (hr : E r = some x) (hg : x.v.ownBlock = some g) (i : Nat) (u : Value) : Hold ρ (w.setCell ⟨g, i, none⟩ u) (up E r { x with xs := x.xs.set i u }) :=
  h.turn (fun _ _ => rfl) (fun b _ hb => Below.heap_setCell _ _ _ _ (by rintro rfl; exact hb (h.rl r x _ hr hg))) (own_set (h.own r x hr) hg u) (fun k hk => h.rl r x k hr hk)

/-- A row grew by append. -/
theorem Hold.grown (h : Hold ρ w E) (hr : E r = some x) (hg : w.grownBy w' x.v.ownBlock) (ho : w'.ownsRow 0 y.e y.sz y.v y.n y.xs) (hy : y.v.ownBlock = some g) (hat : x.v.ownBlock = some g ∨ g = w.heap.size) : Hold (rs ρ g r) w' (up E r y) := by
  refine h.turn (fun b hb => ?_) (fun b hb hne => hg.block b hb (fun e => hne (h.rl r x b hr e.symm))) ho (fun k hk => ?_)
  · by_cases e : b = g
    · subst e
      rw [rs_same]
      rcases hat with hat | hat
      · exact (h.rl r x _ hr hat).symm
      · omega
    · exact rs_other _ _ e
  · rw [hy] at hk; cases hk; exact rs_same _ _ _

theorem Ev.grew (h : Hold ρ w E) (hr : E r = some x) (hg : w.grownBy w' x.v.ownBlock) (hat : x.v.ownBlock = some g ∨ g = w.heap.size) (hn : r ≠ oth) : Ev ρ w (rs ρ g r) w' := by
  refine ⟨hg.os, hg.tape, hg.output, hg.size, fun b hb => ?_, fun b hb hb' => hg.block b hb (fun e => hn ((h.rl r x b hr e.symm).symm.trans hb'))⟩
  by_cases e : b = g
  · subst e
    rw [rs_same]
    rcases hat with hat | hat
    · exact (h.rl r x _ hr hat).symm
    · omega
  · exact rs_other _ _ e

/-- A new row. -/
theorem Hold.new (h : Hold ρ w E) (hb : Below w.heap.size w w') (ho : w'.ownsRow 0 y.e y.sz y.v y.n y.xs) (hat : ∀ k, y.v.ownBlock = some k → k = g) (hg : w.heap.size ≤ g) : Hold (rs ρ g r) w' (up E r y) :=
  h.turn (fun b hb' => rs_other _ _ (by omega)) (fun b hb' _ => hb.block b hb') ho (fun k hk => by rw [hat k hk]; exact rs_same _ _ _)
theorem Ev.fresh (r : Rl) (hb : Below w.heap.size w w') (hg : w.heap.size ≤ g) : Ev ρ w (rs ρ g r) w' :=
  ⟨hb.os, hb.tape, hb.output, hb.size, fun b hb' => rs_other _ _ (by omega), fun b hl _ => hb.block b hl⟩

theorem own_of_block {sz : Nat} {e : TypeId} {cs : Array Value} (h : w.heap[g]? = some (.cells cs e (0, 0))) (hs : cs.size = sz) : w.ownsRow 0 e sz (.slice (some ⟨g, 0, none⟩) 1 1) 1 cs.toList :=
  ⟨by simp [hs], .inr ⟨g, 1, cs, rfl, Nat.zero_le _, h, Nat.le_refl _, by unfold maxLen; omega, by simp [hs], by rw [List.take_of_length_le (by simp [hs])]⟩⟩

/-- A row is cut short. -/
theorem own_cut {base n m cap sz : Nat} {e : TypeId} {a : Option Addr} {xs : List Value} (h : w.ownsRow base e sz (.slice a n cap) n xs) (hm : m ≤ n) : w.ownsRow base e sz (.slice a m cap) m (xs.take (m * sz)) := by
  refine ⟨by rw [List.length_take, h.1]; exact Nat.min_eq_left (Nat.mul_le_mul_right _ hm), ?_⟩
  rcases h.2 with ⟨e0, h0⟩ | ⟨g, cap', cur, e0, hb, hg, hn, hcm, hs, ht⟩
  · simp at e0; obtain ⟨rfl, rfl, rfl⟩ := e0; obtain rfl : m = 0 := by omega
    exact .inl ⟨rfl, rfl⟩
  · simp at e0; obtain ⟨rfl, rfl⟩ := e0
    refine .inr ⟨g, cap, cur, rfl, hb, hg, Nat.le_trans hm hn, hcm, hs, ?_⟩
    rw [← ht, List.take_take, Nat.min_eq_left (Nat.mul_le_mul_right _ hm)]

theorem own_form {base n sz : Nat} {e : TypeId} {v : Value} {xs : List Value} (h : w.ownsRow base e sz v n xs) : ∃ a cap, v = .slice a n cap ∧ n ≤ cap ∧ cap ≤ maxLen ∧ (a = none ∧ n = 0 ∧ cap = 0 ∨ ∃ g, a = some ⟨g, 0, none⟩ ∧ g < w.heap.size) := by
  rcases h.2 with ⟨rfl, h0⟩ | ⟨g, cap, cur, rfl, hb, hg, hn, hm, hs, ht⟩
  · exact ⟨none, 0, by rw [h0], by omega, by unfold maxLen; omega, .inl ⟨rfl, h0, rfl⟩⟩
  · exact ⟨_, cap, rfl, hn, hm, .inr ⟨g, rfl, lt_of_block hg⟩⟩
theorem own_some {base n sz : Nat} {e : TypeId} {v : Value} {xs : List Value} (h : w.ownsRow base e sz v n xs) (hn : 0 < n) : ∃ g cap, v = .slice (some ⟨g, 0, none⟩) n cap ∧ n ≤ cap ∧ cap ≤ maxLen ∧ g < w.heap.size := by
  rcases h.2 with ⟨rfl, h0⟩ | ⟨g, cap, cur, rfl, hb, hg, hn, hm, hs, ht⟩
  · omega
  · exact ⟨g, cap, rfl, hn, hm, lt_of_block hg⟩
end

end Go.Proofs.Ytlmbgaconjcaiab
