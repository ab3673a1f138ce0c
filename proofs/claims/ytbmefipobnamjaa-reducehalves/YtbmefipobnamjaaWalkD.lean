/- Blocks of values in memory; what sorting places leaves; what Order tells. -/
import Derived.Test.YtbmefipobnamjaaWalkC
import Derived.Deep.OwnRows
set_option linter.unusedVariables false
set_option linter.unusedSimpArgs false
namespace Go.Proofs.Ytbmefipobnamjaa
open Go.RowKit

theorem Try.info3 : (Try.prog.info? 3).map (fun i => (i.zero, i.size, i.bytes)) = some (some (.int .i64 0), 1, 8) := by kernel_rfl
theorem Try.info4 : (Try.prog.info? 4).map (fun i => (i.zero, i.size, i.bytes)) = some (some (.bool false), 1, 1) := by kernel_rfl

theorem lt_of_block {w : World} {B : Nat} {o : Obj} (h : w.heap[B]? = some o) : B < w.heap.size := (Array.getElem?_eq_some_iff.1 h).1
theorem hd_set {w : World} {B i : Nat} {cs : Array Value} {v : Value} {t : TypeId} (h : w.heap[B]? = some (.cells cs t (0, 0))) : (w.setCell ⟨B, i, none⟩ v).heap[B]? = some (.cells (cs.setIfInBounds i v) t (0, 0)) := by
  have hlt := lt_of_block h
  have h' : w.heap[B] = .cells cs t (0, 0) := by simpa [Array.getElem?_eq_getElem hlt] using h
  show (w.heap.modify B _)[B]? = _
  rw [Array.getElem?_eq_getElem (by simpa using hlt), Array.getElem_modify_self, h']
  rfl
theorem hd_far {w : World} {B B' i : Nat} {v : Value} (h : B' ≠ B) : (w.setCell ⟨B, i, none⟩ v).heap[B']? = w.heap[B']? := Below.heap_setCell _ _ _ _ h
theorem Below.setCell' {N : Nat} {a w : World} (h : Below N a w) {b i : Nat} (hb : N ≤ b) (v : Value) : Below N a (w.setCell ⟨b, i, none⟩ v) :=
  ⟨h.os, h.tape, h.output, by simpa [World.setCell] using h.size, fun k hk => (hd_far (by omega)).trans (h.block k hk)⟩

/-- A block of values, as a function says. -/
def Bk (w : World) (b : Nat) (t : TypeId) (n : Nat) (f : Nat → Value) : Prop :=
  ∃ cur, w.heap[b]? = some (.cells cur t (0, 0)) ∧ cur.size = n ∧ ∀ i, i < n → cur[i]? = some (f i)
section
variable {w w' : World} {b n : Nat} {t : TypeId} {f g : Nat → Value}
theorem Bk.lt (h : Bk w b t n f) : b < w.heap.size := by obtain ⟨cur, h, _⟩ := h; exact lt_of_block h
theorem Bk.cell (h : Bk w b t n f) {i : Nat} (hi : i < n) : w.cell? ⟨b, i, none⟩ = some (f i) := by
  obtain ⟨cur, h, _, e⟩ := h
  simp [World.cell?, h, e i hi]
theorem Bk.fz (h : Bk w b t n f) (i : Nat) : w.frozen? ⟨b, i, none⟩ = false := by
  obtain ⟨cur, h, _⟩ := h
  simp [World.frozen?, h]
theorem Bk.same (h : Bk w b t n f) (e : w'.heap[b]? = w.heap[b]?) : Bk w' b t n f := by
  obtain ⟨cur, h, r⟩ := h
  exact ⟨cur, e.trans h, r⟩
theorem Bk.congr (h : Bk w b t n f) (e : ∀ i, i < n → g i = f i) : Bk w b t n g := by
  obtain ⟨cur, h, a, r⟩ := h
  exact ⟨cur, h, a, fun i hi => by rw [e i hi]; exact r i hi⟩
theorem Bk.set (h : Bk w b t n f) {i : Nat} (hi : i < n) (x : Value) : Bk (w.setCell ⟨b, i, none⟩ x) b t n (upd f i x) := by
  obtain ⟨cur, h, hc, r⟩ := h
  refine ⟨_, hd_set h, by simpa using hc, fun j hj => ?_⟩
  unfold upd
  by_cases e : j = i
  · subst e; rw [if_pos rfl, Array.getElem?_setIfInBounds_self_of_lt (by omega)]
  · rw [if_neg e, Array.getElem?_setIfInBounds_ne (by omega)]; exact r j hj
theorem bk_made {z : Value} {N : Nat} (h : w.heap[b]? = some (.cells (madeCells #[z] N) t)) : Bk w b t N (fun _ => z) := by
  refine ⟨_, h, size_madeCells _ _, fun i hi => ?_⟩
  rw [← Array.getElem?_toList, toList_madeCells_one]
  simp [hi]
end

/-- A slice of the call's own that holds these places. -/
def Own (base : Nat) (w : World) (v : Value) (xs : List Nat) : Prop := w.ownsRow base 3 1 v xs.length (xs.map fun n : Nat => .int .i64 (n : Int))

theorem Bk.own {w : World} {b n base : Nat} (h : Bk w b 3 n (fun i => .int .i64 (i : Int))) (hb : base ≤ b) (hn : n ≤ maxLen) : Own base w (.slice (some ⟨b, 0, none⟩) n n) (List.range n) := by
  obtain ⟨cur, h, hc, r⟩ := h
  refine ⟨by simp, .inr ⟨b, n, cur, by simp, hb, h, by simp, hn, by omega, ?_⟩⟩
  apply List.ext_getElem?
  intro i
  by_cases hi : i < n
  · rw [List.getElem?_take_of_lt (by simp; omega)]
    have := r i hi
    simp [hi] at this ⊢
    exact this
  · rw [List.getElem?_eq_none (by simp; omega), List.getElem?_eq_none (by simp; omega)]

/-- What sorting leaves. -/
structure SrtP (N : Nat) (W1 w' : World) (L : List Ln) (g cap : Nat) (xs : List Nat) (ys : List Nat) : Prop where
  perm : ys.Perm xs
  srt : ∀ i j (hij : i < j) (hj : j < ys.length), betB L ys[j] (ys[i]'(by omega)) = false
  own : Own N w' (.slice (some ⟨g, 0, none⟩) ys.length cap) ys
  bel : RowKit.Below N W1 w'

/-- What Order tells. -/
structure OrdP (w w' : World) (L : List Ln) (v : Value) (S : List Nat) : Prop where
  srt : Srt L S
  own : Own w.heap.size w' v S
  bel : RowKit.Below w.heap.size w w'
  val : ∃ g c, v = .slice (some ⟨g, 0, none⟩) L.length c

theorem ordP_of {w w1 w' : World} {L : List Ln} {g cap N : Nat} {ys : List Nat} (h : SrtP N w1 w' L g cap (List.range L.length) ys) (hb : RowKit.Below w.heap.size w w1) (hs : w.heap.size ≤ N) : OrdP w w' L (.slice (some ⟨g, 0, none⟩) L.length cap) ys := by
  have hl : ys.length = L.length := by simpa using h.perm.length_eq
  refine ⟨⟨h.perm, ?_⟩, ?_, hb.trans (h.bel.mono hs), g, cap, rfl⟩
  · rw [List.pairwise_iff_getElem]
    intro i j hi hj hij
    exact h.srt i j hij hj
  · have := h.own
    rw [hl] at this
    exact ⟨this.1, this.2.imp id fun ⟨g', c', cur, h1, h2, h3⟩ => ⟨g', c', cur, h1, Nat.le_trans hs h2, h3⟩⟩

end Go.Proofs.Ytbmefipobnamjaa
