/- Contract: which learned clauses stay. -/
import Derived.Test.YtbmefipobnamjaaWalkE
import Derived.Maps.AppendAt
set_option linter.unusedVariables false
set_option linter.unusedSimpArgs false
namespace Go.Proofs.Ytbmefipobnamjaa
open Go.RowKit

theorem Own.cell {base : Nat} {w : World} {g cap n : Nat} {xs : List Nat} (h : Own base w (.slice (some ⟨g, 0, none⟩) n cap) xs) {i : Nat} (hi : i < xs.length) : w.cell? ⟨g, i, none⟩ = some (.int .i64 ((xs[i] : Nat) : Int)) := by
  rcases h.2 with ⟨e, _⟩ | ⟨g', c', cur, e, _, hg, hn, hm, hs, ht⟩
  · cases e
  · cases e
    have : (cur.toList.take (xs.length * 1))[i]? = some (.int .i64 ((xs[i] : Nat) : Int)) := by rw [ht]; simp [hi]
    rw [List.getElem?_take_of_lt (by omega)] at this
    simp only [World.cell?, hg]
    simpa using this

/-- A slice of the call's own that holds these places, whose block is none of two. -/
structure OwnX (base : Nat) (w : World) (v : Value) (xs : List Nat) (s o : Nat) : Prop where
  own : Own base w v xs
  ns : v.ownBlock ≠ some s
  no : v.ownBlock ≠ some o
  val : ∃ g c, v = .slice (some ⟨g, 0, none⟩) xs.length c

/-- In the midst of Keep: what stays so far, the places in order, those that need not stay. -/
structure KS (w W : World) (L : List Ln) (S : List Nat) (s o oc : Nat) (f : Nat → Bool) (v : Value) (O : List Nat) : Prop where
  bel : Below w.heap.size w W
  bk : Bk W s 4 L.length (fun i => .bool (f i))
  sl : w.heap.size ≤ s
  so : s ≠ o
  ord : Own w.heap.size W (.slice (some ⟨o, 0, none⟩) L.length oc) S
  oth : OwnX w.heap.size W v O s o

theorem Own.far {base : Nat} {w w' : World} {g n c : Nat} {xs : List Nat} (h : Own base w (.slice (some ⟨g, 0, none⟩) n c) xs) (e : w'.heap[g]? = w.heap[g]?) : Own base w' (.slice (some ⟨g, 0, none⟩) n c) xs := by
  refine ⟨h.1, ?_⟩
  rcases h.2 with ⟨e', _⟩ | ⟨g', c', cur, e', hb, hg, r⟩
  · cases e'
  · cases e'
    exact .inr ⟨g, c, cur, rfl, hb, e.trans hg, r⟩

section
variable {w W W' : World} {L : List Ln} {S O : List Nat} {s o oc : Nat} {f : Nat → Bool} {v : Value}
theorem KS.grown (h : KS w W L S s o oc f v O) (hb : Below W.heap.size W W') : KS w W' L S s o oc f v O := by
  obtain ⟨g, c, e⟩ := h.oth.val
  subst e
  have ho := h.ord
  have h1 : o < W.heap.size := (World.ownsRow.lt ho o rfl).2
  have h2 : g < W.heap.size := (World.ownsRow.lt h.oth.own g rfl).2
  exact ⟨h.bel.trans (hb.mono h.bel.size), h.bk.same (hb.block _ h.bk.lt), h.sl, h.so, h.ord.far (hb.block _ h1), ⟨h.oth.own.far (hb.block _ h2), h.oth.ns, h.oth.no, _, _, rfl⟩⟩

theorem KS.set (h : KS w W L S s o oc f v O) {i : Nat} (hi : i < L.length) : KS w (W.setCell ⟨s, i, none⟩ (.bool true)) L S s o oc (upd f i true) v O := by
  obtain ⟨g, c, e⟩ := h.oth.val
  subst e
  have hgs : g ≠ s := fun e => h.oth.ns (by rw [e]; rfl)
  refine ⟨Below.setCell' h.bel h.sl _, (h.bk.set hi (.bool true)).congr ?_, h.sl, h.so, h.ord.far (hd_far (Ne.symm h.so)), ⟨h.oth.own.far (hd_far hgs), h.oth.ns, h.oth.no, _, _, rfl⟩⟩
  intro j hj
  unfold upd
  split <;> rfl
end

theorem Keep.app {w W W2 : World} {L : List Ln} {S O : List Nat} {s o oc x : Nat} {f : Nat → Bool} {v v' : Value} {bx : Obj} (h : KS w W L S s o oc f v O) (h2 : W2.ownsRow w.heap.size 3 1 v' (O.length + 1) (O.map (fun n : Nat => .int .i64 (n : Int)) ++ [.int .i64 (x : Int)]))
    (hg : (W.alloc bx).grownBy W2 v.ownBlock) (hv : v'.ownBlock = v.ownBlock ∨ v'.ownBlock = some (W.alloc bx).heap.size) (hn : v' = .slice none 0 0 ↔ v = .slice none 0 0 ∧ 1 = 0) : KS w W2 L S s o oc f v' (O ++ [x]) := by
  have hS : (W.alloc bx).heap.size = W.heap.size + 1 := by simp
  have ho := h.ord
  have h1 : o < W.heap.size := (World.ownsRow.lt ho o rfl).2
  have hs := h.bk.lt
  have hbel : Below w.heap.size w W2 := (h.bel.alloc h.bel.size bx).grown hg (by have := h.bel.size; omega) (fun g hg => (World.ownsRow.lt h.oth.own g hg).1)
  have es : W2.heap[s]? = W.heap[s]? := (hg.block s (by omega) (fun e => h.oth.ns e.symm)).trans (heap_alloc_old _ _ hs)
  have eo : W2.heap[o]? = W.heap[o]? := (hg.block o (by omega) (fun e => h.oth.no e.symm)).trans (heap_alloc_old _ _ h1)
  refine ⟨hbel, h.bk.same es, h.sl, h.so, h.ord.far eo, ⟨?_, ?_, ?_, ?_⟩⟩
  · unfold Own
    simpa using h2
  · rcases hv with e | e
    · rw [e]; exact h.oth.ns
    · rw [e]; intro e'; simp only [Option.some.injEq] at e'; omega
  · rcases hv with e | e
    · rw [e]; exact h.oth.no
    · rw [e]; intro e'; simp only [Option.some.injEq] at e'; omega
  · rcases h2.2 with ⟨e, _⟩ | ⟨g, c, cur, e, _⟩
    · exact absurd (hn.1 e).2 (by decide)
    · exact ⟨g, c, by rw [e]; simp⟩

end Go.Proofs.Ytbmefipobnamjaa
