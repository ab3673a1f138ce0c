/- The law's play. -/
import Derived.Test.YtjfjigpmaeaopaaWalkX
set_option linter.unusedVariables false
set_option linter.unusedSimpArgs false
namespace Go.Proofs.Ytjfjigpmaeaopaa
open Go.RowKit Go.Maps

/-- Something that is made. -/
structure ActD where
  d : Int
  a : Int
  b : Int
  c : Int
def ActD.ok (t : ActD) : Prop := inI64 t.a ∧ inI64 t.b ∧ inI64 t.c
/-- What an act makes. -/
def stepF (g : List Gt) (t : ActD) : List Gt × Int :=
  if t.d = 0 then inF g else if t.d = 1 then andF g t.a t.b else if t.d = 2 then orF g t.a t.b else if t.d = 3 then xorF g t.a t.b else if t.d = 4 then iteF g t.c t.a t.b else (g, 0)
def playF : List Gt → List ActD → List Gt
  | g, [] => g
  | g, t :: l => playF (stepF g t).1 l
theorem play_snoc : ∀ (l : List ActD) (g : List Gt) (t : ActD), playF g (l ++ [t]) = (stepF (playF g l) t).1
  | [], g, t => rfl
  | u :: l, g, t => play_snoc l _ _
theorem step_grow {g : List Gt} (hm : May g) (t : ActD) : Grow g (stepF g t).1 3 := by
  unfold stepF
  split
  · exact (in_grow hm).1.mono (by omega)
  split
  · exact (and_grow hm _ _).1.mono (by omega)
  split
  · exact (or_grow hm _ _).1.mono (by omega)
  split
  · exact (xor_grow hm _ _).1
  split
  · exact (ite_grow hm _ _ _).1
  · exact Grow.refl hm _
theorem step_ord {g : List Gt} (hm : May g) (h : Ord g) (t : ActD) : Ord (stepF g t).1 := by
  unfold stepF
  split
  · exact ord_in h
  split
  · exact ord_and hm h _ _
  split
  · exact ord_or hm h _ _
  split
  · exact ord_xor hm h _ _
  split
  · exact ord_ite hm h _ _ _
  · exact h
theorem play_grow : ∀ (l : List ActD) {g : List Gt}, May g → Ord g → Grow g (playF g l) (3 * l.length) ∧ Ord (playF g l)
  | [], g, hm, ho => ⟨Grow.refl hm _, ho⟩
  | t :: l, g, hm, ho => by
    have h1 := step_grow hm t
    have h2 := play_grow l h1.may (step_ord hm ho t)
    exact ⟨(h1.trans h2.1).mono (by simp; omega), h2.2⟩

/-- Acts behind a slice. -/
def Acts (w : World) (al : Option Addr) (l : List ActD) : Prop :=
  ∀ k (h : k < l.length), ∃ q off, al = some ⟨q, off, none⟩ ∧ q < w.heap.size ∧ (w.cell? ⟨q, off + k * 4, none⟩ = some (.int .i64 l[k].d) ∧ w.cell? ⟨q, off + k * 4 + 1, none⟩ = some (.int .i64 l[k].a) ∧ w.cell? ⟨q, off + k * 4 + 2, none⟩ = some (.int .i64 l[k].b) ∧ w.cell? ⟨q, off + k * 4 + 3, none⟩ = some (.int .i64 l[k].c)) ∧ l[k].ok
theorem Acts.below {w W : World} {al : Option Addr} {l : List ActD} (h : Acts w al l) (hb : Below w.heap.size w W) : Acts W al l := by
  intro k hk
  obtain ⟨q, off, e, hq, ⟨h0, h1, h2, h3⟩, ho⟩ := h k hk
  have := hb.block q hq
  exact ⟨q, off, e, Nat.lt_of_lt_of_le hq hb.size, ⟨(World.cell?_of_block this).trans h0, (World.cell?_of_block this).trans h1, (World.cell?_of_block this).trans h2, (World.cell?_of_block this).trans h3⟩, ho⟩

/-- In the midst of the play: the program's graph and the document's list, alike. -/
structure Pl (w W : World) (B M : Nat) (v : Value) (q off : Nat) (g : List Gt) : Prop where
  gr : Gr W B M v g
  gs : GS W (some ⟨q, off, none⟩) g
  apart : ¬ Sv B M v q
  qlt : q < W.heap.size
  bel : Below w.heap.size w W
  lo : ∀ b, Sv B M v b → w.heap.size ≤ b
  ord : Ord g
/-- Behind the program's act. -/
structure Ph (w W : World) (B M : Nat) (v' : Value) (q off : Nat) (g g' : List Gt) : Prop where
  gr : Gr W B M v' g'
  gs : GS W (some ⟨q, off, none⟩) g
  apart : ¬ Sv B M v' q
  qlt : q < W.heap.size
  bel : Below w.heap.size w W
  lo : ∀ b, Sv B M v' b → w.heap.size ≤ b
  ord : Ord g
  may : May g
  le : g.length ≤ 1000
section
variable {w W W1 W2 : World} {B M q off : Nat} {v : Value} {g : List Gt}
theorem sv_lo {v' : Value} (hlo : ∀ b, Sv B M v b → w.heap.size ≤ b) (hn : NewV W v v') (hw : w.heap.size ≤ W.heap.size) : ∀ b, Sv B M v' b → w.heap.size ≤ b := by
  rintro b (h | h | h)
  · exact hlo b (.inl h)
  · exact hlo b (.inr (.inl h))
  · rcases hn with h' | ⟨q, h', h''⟩
    · exact hlo b (.inr (.inr (by rw [← h']; exact h)))
    · rw [h'] at h; cases h; omega
theorem sv_far {v' : Value} (ha : ¬ Sv B M v q) (hn : NewV W v v') (hq : q < W.heap.size) : ¬ Sv B M v' q := by
  rintro (h | h | h)
  · exact ha (.inl h)
  · exact ha (.inr (.inl h))
  · rcases hn with h' | ⟨q', h', h''⟩
    · exact ha (.inr (.inr (by rw [← h']; exact h)))
    · rw [h'] at h; cases h; omega
theorem Pl.prog (h : Pl w W B M v q off g) {g' : List Gt} (k : GrP W B M v g' W1) : ∃ v', Ph w W1 B M v' q off g g' := by
  obtain ⟨v', k1, k2, k3⟩ := k
  exact ⟨v', k1, h.gs.kp k2 (fun b o e => by cases e; exact h.apart), sv_far h.apart k3 h.qlt, Nat.lt_of_lt_of_le h.qlt k2.size, below_kp h.bel k2 h.lo h.bel.size, sv_lo h.lo k3 h.bel.size, h.ord, h.gr.may, h.gr.le⟩
theorem Ph.ref {g' : List Gt} {v' : Value} (h : Ph w W B M v' q off g g') {q' off' : Nat} (hs : GS W1 (some ⟨q', off', none⟩) g') (hb : Below W.heap.size W W1) (hq : q' = q ∨ (W.heap.size ≤ q' ∧ q' < W1.heap.size)) (ho : Ord g') : Pl w W1 B M v' q' off' g' := by
  have h1 := h.qlt
  have h2 := hb.size
  refine ⟨h.gr.below hb, hs, ?_, by omega, h.bel.trans (hb.mono h.bel.size), h.lo, ho⟩
  rcases hq with rfl | ⟨hq, _⟩
  · exact h.apart
  · intro hv
    obtain ⟨l1, l2, l3⟩ := h.gr.lt
    rcases hv with e | e | e
    · omega
    · omega
    · have := l3 _ e; omega
end
end Go.Proofs.Ytjfjigpmaeaopaa
