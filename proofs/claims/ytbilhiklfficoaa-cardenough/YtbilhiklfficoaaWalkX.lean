/- What stays of a graph's blocks. -/
import Derived.Test.YtbilhiklfficoaaWalkI
set_option linter.unusedVariables false
set_option linter.unusedSimpArgs false
namespace Go.Proofs.Ytbilhiklfficoaa
open Go.RowKit Go.Maps

theorem below_kp {N : Nat} {w W1 W2 : World} {S : Nat → Prop} (h : Below N w W1) (k : Kp S W1 W2) (hS : ∀ b, S b → N ≤ b) (hN : N ≤ W1.heap.size) : Below N w W2 :=
  ⟨k.os.trans h.os, k.tape.trans h.tape, k.output.trans h.output, Nat.le_trans h.size k.size, fun b hb => (k.block b (by omega) (fun e => by have := hS b e; omega)).trans (h.block b hb)⟩

section
variable {w W : World} {B M q : Nat} {v : Value}
theorem sv_lo {v' : Value} (hlo : ∀ b, Sv B M v b → w.heap.size ≤ b) (hn : NewV W v v') (hw : w.heap.size ≤ W.heap.size) : ∀ b, Sv B M v' b → w.heap.size ≤ b := by
  rintro b (h | h | h)
  · exact hlo b (.inl h)
  · exact hlo b (.inr (.inl h))
  · rcases hn with h' | ⟨q, h', h''⟩
    · exact hlo b (.inr (.inr (by rw [← h']; exact h)))
    · rw [h'] at h; cases h; omega
theorem sv_far {v' : Value} (ha : ¬ Sv B M v q) (hn : NewV W v v') (hq : q < W.heap.size) : ¬ Sv B M v' q := by
  rintro (h | h | h)
  · exact ha (.inl h)
  · exact ha (.inr (.inl h))
  · rcases hn with h' | ⟨q', h', h''⟩
    · exact ha (.inr (.inr (by rw [← h']; exact h)))
    · rw [h'] at h; cases h; omega
end
end Go.Proofs.Ytbilhiklfficoaa
