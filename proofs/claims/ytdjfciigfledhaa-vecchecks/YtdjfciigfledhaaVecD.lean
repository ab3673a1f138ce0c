/- A round of a division, plain. -/
import Derived.Test.YtdjfciigfledhaaVecC
set_option linter.unusedVariables false
set_option linter.unusedSimpArgs false
namespace Go.Proofs.Ytdjfciigfledhaa

/-- The rest with one bit more. -/
def upR (A R : List Bool) (n k : Nat) : List Bool := A.getD (n - (k + 1)) false :: (R.take k ++ R.drop (k + 1))
def fitB (Y R2 : List Bool) : Bool := carB R2 (Y.map (!·)) true
def lessR (Y R2 : List Bool) (k : Nat) : List Bool := addB (R2.take (k + 1)) ((Y.take (k + 1)).map (!·)) true
def newR (Y R2 : List Bool) (k : Nat) : List Bool := (if fitB Y R2 then lessR Y R2 k else R2.take (k + 1)) ++ R2.drop (k + 1)

theorem div_state (A Y Q R : List Bool) (n k : Nat) (hk : k + 1 ≤ n) (hA : A.length = n) (hY : Y.length = n) (hQ : Q.length = n) (hR : R.length = n)
    (hr : numB R = rstN (numB A) (numB Y) (n - k)) (hq : numB Q = 2 ^ (n - k) * quoN (numB A) (numB Y) n (n - k)) :
    numB (newR Y (upR A R n k) k) = rstN (numB A) (numB Y) (n - (k + 1)) ∧ numB (Q.set (n - (k + 1)) (fitB Y (upR A R n k))) = 2 ^ (n - (k + 1)) * quoN (numB A) (numB Y) n (n - (k + 1)) := by
  obtain ⟨i, hi⟩ : ∃ i, n - (k + 1) = i := ⟨_, rfl⟩
  have hi1 : n - k = i + 1 := by omega
  rw [hi1] at hr hq
  have hlA := numB_lt A
  rw [hA] at hlA
  have hRlt : numB R < 2 ^ k := by
    rw [hr]
    have := rstN_lt (B := numB Y) hlA (by omega : i + 1 ≤ n)
    rwa [show n - (i + 1) = k by omega] at this
  have hx : b2n (A.getD i false) = numB A / 2 ^ i % 2 := by
    rw [numB_bit]
    have : numB A / 2 ^ i % 2 < 2 := Nat.mod_lt _ (by omega)
    by_cases h : numB A / 2 ^ i % 2 = 1
    · simp [h, b2n]
    · rw [decide_eq_false h]; simp [b2n]; omega
  have hR2 : numB (upR A R n k) = 2 * rstN (numB A) (numB Y) (i + 1) + numB A / 2 ^ i % 2 := by
    unfold upR
    rw [hi, numB_up _ hRlt, hx, hr]; omega
  have hl2 : (upR A R n k).length = n := by unfold upR; simp; omega
  have hR2lt : numB (upR A R n k) < 2 ^ (k + 1) := by
    rw [hR2, ← hr, Nat.pow_succ]
    have : numB A / 2 ^ i % 2 < 2 := Nat.mod_lt _ (by omega)
    omega
  have hf : fitB Y (upR A R n k) = decide (numB Y ≤ numB (upR A R n k)) := subB_car _ _ (by rw [hl2, hY])
  have D := div_round (numB A) (numB Y) n i (by omega)
  rw [← hR2] at D
  rw [hi]
  refine ⟨?_, ?_⟩
  · have ht : ((upR A R n k).take (k + 1)).length = k + 1 := by simp [hl2]; omega
    have htn := (numB_high hR2lt).1
    unfold newR
    rw [D.1, hf]
    by_cases hle : numB Y ≤ numB (upR A R n k)
    · rw [if_pos hle]
      simp only [hle, decide_true, if_true]
      have hll : (lessR Y (upR A R n k) k).length = k + 1 := by
        unfold lessR
        rw [addB_len _ _ _ (by simp [hl2, hY]), ht]
      rw [numB_put hR2lt hll]
      unfold lessR
      rw [sub_low _ _ (k + 1) ht (by simp [hY]; omega) (by rw [htn]; exact hle), htn]
    · rw [if_neg hle]
      simp only [hle, decide_false, Bool.false_eq_true, if_false]
      rw [List.take_append_drop]
  · rw [quo_put Q i _ (quoN (numB A) (numB Y) n (i + 1)) (by omega) hq, D.2, hf]
    by_cases hle : numB Y ≤ numB (upR A R n k)
    · simp [hle, b2n]
    · simp [hle, b2n]
theorem upR_len {A R : List Bool} {n k : Nat} (hk : k + 1 ≤ n) (hR : R.length = n) : (upR A R n k).length = n := by unfold upR; simp; omega
end Go.Proofs.Ytdjfciigfledhaa
