/- More on the bytes of a literal, as far as they are read; plain functions on lists, no program is named here. -/
import Derived.Test.YtgklollpajhmlaaDoorPlainB
set_option linter.unusedVariables false
set_option linter.unusedSimpArgs false
namespace Go.Proofs.YtgklollpajhmlaaDoor

theorem valB_snoc : ∀ (u : List UInt8) (c : UInt8), valB (u ++ [c]) = valB u + c.toNat % 128 * 128 ^ u.length
  | [], c => by simp [valB]
  | d :: u, c => by
    have ih := valB_snoc u c
    simp only [List.cons_append, valB, ih, List.length_cons, Nat.pow_succ]
    rw [Nat.mul_add, ← Nat.mul_assoc, Nat.mul_comm 128 (c.toNat % 128), Nat.mul_assoc, Nat.mul_comm 128 (128 ^ u.length)]
    omega

theorem valB_lt : ∀ (u : List UInt8), valB u < 128 ^ u.length
  | [] => by simp [valB]
  | c :: u => by
    have ih := valB_lt u
    simp only [valB, List.length_cons, Nat.pow_succ]
    omega

/-- All bytes tell that more follow. -/
def moreB (u : List UInt8) : Bool := u.all (fun c => decide (128 ≤ c.toNat))

theorem form_more : ∀ (u : List UInt8) (c : UInt8), moreB u = true → c.toNat < 128 → formB (u ++ [c]) = true
  | [], c, _, h => by simpa [formB] using h
  | d :: u, c, h, hc => by
    unfold moreB at h
    rw [List.all_cons, Bool.and_eq_true] at h
    have ih := form_more u c h.2 hc
    rw [List.cons_append, formB, if_neg (by simp), ih, h.1]
    rfl

/-- A literal's bytes, as far as they are read: k of them. -/
structure Lt (F : Nat) (t : List UInt8) (k : Nat) : Prop where
  le : k ≤ t.length
  f : k ≤ F
  more : moreB (t.take k) = true
  ans : tkF F [] t = tkF (F - k) (t.take k) (t.drop k)

theorem lt_start (F : Nat) (t : List UInt8) : Lt F t 0 := ⟨Nat.zero_le _, Nat.zero_le _, rfl, by simp⟩

theorem Lt.step {F : Nat} {t : List UInt8} {k : Nat} (h : Lt F t k) (hk : k < t.length) (hf : k < F) :
    tkF F [] t = if t[k].toNat < 128 then finT (t.take (k + 1)) else tkF (F - (k + 1)) (t.take (k + 1)) (t.drop (k + 1)) := by
  obtain ⟨m, hm⟩ : ∃ m, F - k = m + 1 := ⟨F - k - 1, by omega⟩
  rw [h.ans, List.drop_eq_getElem_cons hk, hm, tkF, List.take_succ_eq_append_getElem hk, show F - (k + 1) = m by omega]

theorem Lt.next {F : Nat} {t : List UInt8} {k : Nat} (h : Lt F t k) (hk : k < t.length) (hf : k < F) (hc : 128 ≤ t[k].toNat) : Lt F t (k + 1) := by
  refine ⟨hk, hf, ?_, ?_⟩
  · rw [List.take_succ_eq_append_getElem hk]
    have := h.more
    unfold moreB at this ⊢
    rw [List.all_append, this]
    simp [hc]
  · rw [h.step hk hf, if_neg (by omega)]

theorem Lt.val {F : Nat} {t : List UInt8} {k : Nat} (h : Lt F t k) (hk : k < t.length) : valB (t.take (k + 1)) = valB (t.take k) + t[k].toNat % 128 * 128 ^ k ∧ valB (t.take k) < 128 ^ k := by
  have e : (t.take k).length = k := by simp; omega
  have h1 := valB_snoc (t.take k) t[k]
  have h2 := valB_lt (t.take k)
  rw [e] at h1 h2
  exact ⟨by rw [List.take_succ_eq_append_getElem hk]; exact h1, h2⟩

theorem Lt.last {F : Nat} {t : List UInt8} {k : Nat} (h : Lt F t k) (hk : k < t.length) (hf : k < F) (hc : t[k].toNat < 128) :
    tkF F [] t = if sizeN (litOf (valB (t.take (k + 1)))) = k + 1 then (litOf (valB (t.take (k + 1))), k + 1) else (0, 0) := by
  have e : (t.take (k + 1)).length = k + 1 := by simp; omega
  rw [h.step hk hf, if_pos hc, finT_size, e]
  rw [List.take_succ_eq_append_getElem hk]
  exact form_more _ _ h.more hc

theorem Lt.none {F : Nat} {t : List UInt8} {k : Nat} (h : Lt F t k) (hk : ¬ (k < t.length ∧ k < F)) : tkF F [] t = (0, 0) := by
  rw [h.ans]
  by_cases hf : k < F
  · have : t.drop k = [] := List.drop_eq_nil_of_le (by have := h.le; omega)
    rw [this]
    obtain ⟨m, hm⟩ : ∃ m, F - k = m + 1 := ⟨F - k - 1, by omega⟩
    rw [hm]
    rfl
  · rw [show F - k = 0 by omega]
    rfl

end Go.Proofs.YtgklollpajhmlaaDoor
