/- The law's play: its beginning, its boxes. -/
import Derived.Test.YtjijikkcpnojcaaWalkX
set_option linter.unusedVariables false
set_option linter.unusedSimpArgs false
namespace Go.Proofs.Ytjijikkcpnojcaa
open Go.RowKit Go.Conc

/-- What play tells. -/
def PlayP (w : World) (q off ca N : Nat) (room : Nat → Nat) (e : Ending) (w' : World) : Prop :=
  ∃ p K kc ch left nx b cb d, e = .returned (.tuple #[.pointer (some ⟨p, 0, none⟩), .agg (rv q off ca b cb N d), .bool true]) ∧ Pu w' p K kc N ch room left nx ∧ Rf w' q off b cb N room left ∧ Below w.heap.size w w' ∧ w.heap.size ≤ p ∧ ∀ i, i < N → w.heap.size ≤ ch i

theorem row_rms {w : World} {al : Option Addr} {xs : List Int} (h : Row w al xs) (hm : mayB xs = true) : ∃ q off, al = some ⟨q, off, none⟩ ∧ Rms w q off xs.length (roomF xs) := by
  obtain ⟨h1, h8, hr⟩ := may_parts hm
  obtain ⟨q, off, rfl, _, _⟩ := h 0 h1
  refine ⟨q, off, rfl, fun i hi => ?_⟩
  obtain ⟨q', off', e, hq, hc⟩ := h i hi
  simp at e
  obtain ⟨rfl, rfl⟩ := e
  rw [(hr i hi).1] at hc
  exact ⟨hq, hc⟩
theorem Rms.news {W : World} {q off N : Nat} {room : Nat → Nat} (h : Rms W q off N room) (o : Obj) : ∀ j u, ((List.range N).map fun i => Value.int .i64 (room i : Int))[j]? = some u → (W.alloc o).cell? ((⟨q, off, none⟩ : Addr).add j) = some u := by
  intro j u hu
  rw [List.getElem?_map] at hu
  obtain ⟨x, hx, rfl⟩ := Option.map_eq_some_iff.1 hu
  obtain ⟨hj, e⟩ := List.getElem?_eq_some_iff.1 hx
  simp at e hj
  subst e
  rw [Addr.add_lit, World.cell?_of_block (heap_alloc_old W o (h _ hj).1)]
  exact (h _ hj).2

/-- At the beginning: the document's purse is in its box. -/
theorem play_box {w W w3 : World} {Y q off ca N g cap : Nat} {room : Nat → Nat} {o : Obj} (hW : Below w.heap.size w W) (hY : W.heap[Y]? = some (.cells #[.slice none 0 0, .slice none 0 0, .int .i64 0] 31 (0, 0))) (lY : w.heap.size ≤ Y) (hg : (W.alloc o).grownBy w3 (some W.heap.size)) (hb : Blk w3 g N cap room) :
    Bx2 w (w3.alloc (.cells (rv q off ca g cap N 0) 31)) w3.heap.size Y q off ca g cap N 0 ∧ Blk (w3.alloc (.cells (rv q off ca g cap N 0) 31)) g N cap room := by
  have hb3 := bel_of hW hg
  have hY3 : w3.heap[Y]? = _ := (old_of hg (lt_of_block hY)).trans hY
  have lY3 := lt_of_block hY3
  have lg := hb.lt
  have ls := hb3.size
  exact ⟨⟨heap_alloc_new w3 _, (heap_alloc_old w3 _ lY3).trans hY3, hb3.alloc ls _, ls, lY, by omega⟩, hb.same (heap_alloc_old w3 _ lg)⟩

/-- Both purses are there. -/
theorem play_begin {w W W' : World} {X Y q off ca N g cap p K kc : Nat} {room ch : Nat → Nat} (hB : Bx2 w W X Y q off ca g cap N 0) (hb : Blk W g N cap room) (hr : Rms w q off N room) (hp : Pu W' p K kc N ch room room 0) (hb2 : Below W.heap.size W W') (lp : W.heap.size ≤ p) (lc : ∀ i, i < N → W.heap.size ≤ ch i) :
    Pl w W' X Y p K kc N ch room room 0 q off ca g cap 0 := by
  have h2 := hB.below hb2
  have hs := hB.bel.size
  exact ⟨hp, ⟨hr.below h2.bel, hb.same (hb2.block _ hb.lt)⟩, h2.hd, h2.yd, h2.ne, h2.lx, h2.ly, Nat.le_trans hs lp, fun i hi => Nat.le_trans hs (lc i hi), hr, (Nat.zero_mod N).symm, h2.bel⟩

/-- The box of an act. -/
structure Ab (W : World) (A : Nat) (d k n : Int) : Prop where
  hd : W.heap[A]? = some (.cells #[.int .i64 d, .int .i64 k, .int .i64 n] 40 (0, 0))
theorem Ab.c0 {W : World} {A : Nat} {d k n : Int} (h : Ab W A d k n) : W.cell? ⟨A, 0, none⟩ = some (.int .i64 d) := by simp [World.cell?, h.hd]
theorem Ab.c1 {W : World} {A : Nat} {d k n : Int} (h : Ab W A d k n) : W.cell? ⟨A, 1, none⟩ = some (.int .i64 k) := by simp [World.cell?, h.hd]
theorem Ab.c2 {W : World} {A : Nat} {d k n : Int} (h : Ab W A d k n) : W.cell? ⟨A, 2, none⟩ = some (.int .i64 n) := by simp [World.cell?, h.hd]
theorem Ab.kp {W W' : World} {A : Nat} {d k n : Int} {p K kc N : Nat} {ch room left : Nat → Nat} {nx : Nat} (h : Ab W A d k n) (hp : Pu W p K kc N ch room left nx) (t : Kp (Of p N ch) W W') : Ab W' A d k n :=
  ⟨(t.block A (lt_of_block h.hd) (hp.away h.hd (by decide))).trans h.hd⟩
theorem act_box {w W : World} {X Y p K kc N : Nat} {ch room left : Nat → Nat} {nx q off ca b cb d : Nat} (h : Pl w W X Y p K kc N ch room left nx q off ca b cb d) (x y z : Int) :
    Pl w (W.alloc (.cells #[.int .i64 x, .int .i64 y, .int .i64 z] 40)) X Y p K kc N ch room left nx q off ca b cb d ∧ Ab (W.alloc (.cells #[.int .i64 x, .int .i64 y, .int .i64 z] 40)) W.heap.size x y z :=
  ⟨h.below ((Below.refl _ _).alloc (Nat.le_refl _) _), ⟨heap_alloc_new W _⟩⟩

/-- What the document's Any gave is in a box of its own. -/
theorem any_box {w W w3 : World} {X Y p K kc N : Nat} {ch room left left' : Nat → Nat} {nx nx' q off ca b cb d b' cb' d' : Nat} (h : Pm w W X Y p K kc N ch room left left' nx nx' q off ca b cb d) (hb : Below W.heap.size W w3) (hr : Rf w3 q off b' cb' N room left') :
    Pm w (w3.alloc (.cells (rv q off ca b' cb' N d') 31)) X Y p K kc N ch room left left' nx nx' q off ca b cb d ∧ Rf (w3.alloc (.cells (rv q off ca b' cb' N d') 31)) q off b' cb' N room left' ∧
    (w3.alloc (.cells (rv q off ca b' cb' N d') 31)).heap[w3.heap.size]? = some (.cells (rv q off ca b' cb' N d') 31 (0, 0)) ∧ X ≠ w3.heap.size := by
  have hb4 : Below w3.heap.size w3 (w3.alloc (.cells (rv q off ca b' cb' N d') 31)) := (Below.refl _ _).alloc (Nat.le_refl _) _
  have hx := lt_of_block h.hd
  have hs := hb.size
  exact ⟨h.below (hb.trans (hb4.mono hs)), hr.below hb4, heap_alloc_new w3 _, by omega⟩
end Go.Proofs.Ytjijikkcpnojcaa
