/- Bytes as what is put behind others, and behind a row of the call's own. -/
import Derived.Test.YtgklollpajhmlaaDoorWalkP
import Derived.Laws.AppendOwnNone
set_option linter.unusedVariables false
set_option linter.unusedSimpArgs false
namespace Go.Proofs.YtgklollpajhmlaaDoor
open Go.RowKit Go.Maps

attribute [local go_sem ↓] Go.wp_at_zero Go.wp_at_succ

/-- Bytes as what is put behind others. -/
theorem txt_src {B : Nat} {w : World} {a : Option Addr} {cap : Nat} {t : List UInt8} (h : Txt B w a t) (hn : a = none → t = [] ∧ cap = 0) :
    (a = none ∧ t.length = 0 ∧ cap = 0 ∧ byteL t = []) ∨ ∃ ad, a = some ad ∧ (byteL t).length = t.length * 1 ∧ ∀ j u, (byteL t)[j]? = some u → w.cell? (ad.add j) = some u := by
  cases a with
  | none =>
    obtain ⟨rfl, rfl⟩ := hn rfl
    exact .inl ⟨rfl, rfl, rfl, rfl⟩
  | some x =>
    refine .inr ⟨x, rfl, by rw [byteL_len]; omega, fun j u hu => ?_⟩
    obtain ⟨hj, e⟩ := List.getElem?_eq_some_iff.1 hu
    rw [byteL_len] at hj
    obtain ⟨b, off, ex, _, hc⟩ := h j hj
    simp at ex
    subst ex
    rw [Addr.add_lit, hc, ← e]
    simp [byteL]

theorem own_txt {base g n c : Nat} {w : World} {t : List UInt8} (h : w.ownsRow base 5 1 (.slice (some ⟨g, 0, none⟩) n c) n (byteL t)) : n = t.length ∧ Txt w.heap.size w (some ⟨g, 0, none⟩) t ∧ n ≤ c := by
  have hl : (byteL t).length = n * 1 := h.1
  rw [byteL_len] at hl
  refine ⟨by omega, fun i hi => ⟨g, 0, rfl, (h.lt g rfl).2, ?_⟩, ?_⟩
  · have := h.cells (g := g) rfl i (.int .u8 (t[i].toNat : Int)) (by simp [byteL, hi])
    rw [Addr.add_lit] at this
    exact this
  · rcases h.2 with ⟨e, _⟩ | ⟨g', cap, cur, e, _, _, hn, _⟩
    · simp at e
    · simp at e
      obtain ⟨_, rfl⟩ := e
      exact hn

theorem lit0 (W : World) : (W.alloc (.cells #[] 5)).ownsRow W.heap.size 5 1 (.slice (some ⟨W.heap.size, 0, none⟩) 0 0) 0 [] :=
  World.ownsRow_made W #[] 0 (Nat.le_refl _) (Nat.zero_le _) rfl

theorem sameB_self (l : List Stp) : sameB l l = true := by simp [sameB]

end Go.Proofs.YtgklollpajhmlaaDoor
