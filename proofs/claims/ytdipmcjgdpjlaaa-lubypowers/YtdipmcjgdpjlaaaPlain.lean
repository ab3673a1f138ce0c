/- Plain mathematics of the row: its numbers, and the first ones together. -/
namespace Go.Proofs.Ytdipmcjgdpjlaaa

/-- A place's number, by the greatest power of two that is not greater; so many steps at most. -/
def lubF : Nat → Nat → Nat
  | 0, _ => 1
  | f + 1, n => if n + 1 = 2 * 2 ^ Nat.log2 n then 2 ^ Nat.log2 n else lubF f (n + 1 - 2 ^ Nat.log2 n)
def lub (n : Nat) : Nat := lubF 64 n
/-- The first n numbers, together. -/
def sumL : Nat → Nat
  | 0 => 0
  | n + 1 => sumL n + lub (n + 1)

theorem log2_of {n k : Nat} (h0 : 2 ^ k ≤ n) (h1 : n < 2 ^ (k + 1)) : Nat.log2 n = k := by
  have hp : 0 < 2 ^ k := Nat.two_pow_pos k
  have hn : n ≠ 0 := by omega
  have a : k ≤ Nat.log2 n := (Nat.le_log2 hn).2 h0
  have b : Nat.log2 n < k + 1 := (Nat.log2_lt hn).2 h1
  omega
theorem log_ex (n : Nat) (h : 1 ≤ n) : ∃ k, 2 ^ k ≤ n ∧ n < 2 ^ (k + 1) :=
  ⟨Nat.log2 n, Nat.log2_self_le (by omega), Nat.lt_log2_self⟩
theorem log_le {n k f : Nat} (h0 : 2 ^ k ≤ n) (h1 : n < 2 ^ f) : k + 1 ≤ f := by
  have : 2 ^ k < 2 ^ f := Nat.lt_of_le_of_lt h0 h1
  exact (Nat.pow_lt_pow_iff_right (by omega)).1 this

theorem lubF_end (f : Nat) {n k : Nat} (h : n + 1 = 2 ^ (k + 1)) : lubF (f + 1) n = 2 ^ k := by
  have hp : 0 < 2 ^ k := Nat.two_pow_pos k
  have e : Nat.log2 n = k := log2_of (by rw [Nat.pow_succ] at h; omega) (by omega)
  unfold lubF
  rw [e, if_pos (by rw [Nat.pow_succ] at h; omega)]
theorem lubF_step (f : Nat) {n k : Nat} (h0 : 2 ^ k ≤ n) (h1 : n + 1 < 2 ^ (k + 1)) : lubF (f + 1) n = lubF f (n + 1 - 2 ^ k) := by
  have e : Nat.log2 n = k := log2_of h0 (by omega)
  rw [lubF.eq_2, e, if_neg (by rw [Nat.pow_succ] at h1; omega)]
theorem lubF_fuel : ∀ (f g n : Nat), 1 ≤ n → n < 2 ^ f → n < 2 ^ g → lubF f n = lubF g n
  | 0, _, n, h, h1, _ => by simp at h1; omega
  | _ + 1, 0, n, h, _, h2 => by simp at h2; omega
  | f + 1, g + 1, n, h, h1, h2 => by
    obtain ⟨k, a, b⟩ := log_ex n h
    have hp : 0 < 2 ^ k := Nat.two_pow_pos k
    by_cases e : n + 1 = 2 ^ (k + 1)
    · rw [lubF_end f e, lubF_end g e]
    · have b' : n + 1 < 2 ^ (k + 1) := by omega
      have hf := log_le a h1
      have hg := log_le a h2
      have pf : 2 ^ k ≤ 2 ^ f := Nat.pow_le_pow_right (by omega) (by omega)
      have pg : 2 ^ k ≤ 2 ^ g := Nat.pow_le_pow_right (by omega) (by omega)
      rw [lubF_step f a b', lubF_step g a b']
      rw [Nat.pow_succ] at b'
      exact lubF_fuel f g _ (by omega) (by omega) (by omega)

theorem lub_end {n k : Nat} (h : n + 1 = 2 ^ (k + 1)) : lub n = 2 ^ k := lubF_end 63 h
theorem lub_step {n k : Nat} (h : n < 2 ^ 63) (h0 : 2 ^ k ≤ n) (h1 : n + 1 < 2 ^ (k + 1)) : lub n = lub (n + 1 - 2 ^ k) := by
  unfold lub
  have hp : 0 < 2 ^ k := Nat.two_pow_pos k
  rw [lubF_step 63 h0 h1]
  exact lubF_fuel 63 64 _ (by omega) (by omega) (by omega)
theorem lub_again {k i : Nat} (hk : k ≤ 60) (h1 : 1 ≤ i) (h2 : i < 2 ^ k) : lub (2 ^ k - 1 + i) = lub i := by
  have hp : 2 ^ k ≤ 2 ^ 60 := Nat.pow_le_pow_right (by omega) hk
  rw [lub_step (n := 2 ^ k - 1 + i) (k := k) (by omega) (by omega) (by rw [Nat.pow_succ]; omega)]
  congr 1; omega
theorem lubF_pow : ∀ (f n m : Nat), 1 ≤ n → n < 2 ^ m → ∃ j, j < m ∧ lubF f n = 2 ^ j
  | 0, n, m, h, h1 => ⟨0, by cases m with | zero => simp at h1; omega | succ m => omega, rfl⟩
  | f + 1, n, m, h, h1 => by
    obtain ⟨k, a, b⟩ := log_ex n h
    have hm := log_le a h1
    by_cases e : n + 1 = 2 ^ (k + 1)
    · exact ⟨k, by omega, lubF_end f e⟩
    · have b' : n + 1 < 2 ^ (k + 1) := by omega
      rw [lubF_step f a b']
      refine lubF_pow f _ m (by omega) ?_
      have hp : 0 < 2 ^ k := Nat.two_pow_pos k
      omega
theorem lub_pow {n m : Nat} (h : 1 ≤ n) (h1 : n < 2 ^ m) : ∃ j, j < m ∧ lub n = 2 ^ j := lubF_pow 64 n m h h1
theorem lub_bd {n : Nat} (h : 1 ≤ n) (h1 : n ≤ 1073741824) : 1 ≤ lub n ∧ lub n ≤ 1073741824 := by
  obtain ⟨j, hj, e⟩ := lub_pow h (m := 31) (by omega)
  have hp : 0 < 2 ^ j := Nat.two_pow_pos j
  have : 2 ^ j ≤ 2 ^ 30 := Nat.pow_le_pow_right (by omega) (by omega)
  omega

theorem sumL_again {k : Nat} (hk : k ≤ 60) : ∀ i : Nat, i < 2 ^ k → sumL (2 ^ k - 1 + i) = sumL (2 ^ k - 1) + sumL i
  | 0, _ => rfl
  | i + 1, h => by
    have e : 2 ^ k - 1 + (i + 1) = (2 ^ k - 1 + i) + 1 := by omega
    have l := lub_again hk (i := i + 1) (by omega) h
    rw [e] at l ⊢
    simp only [sumL]
    rw [sumL_again hk i (by omega), l]
    omega
theorem sumL_full : ∀ k : Nat, k ≤ 60 → sumL (2 ^ (k + 1) - 1) = (k + 1) * 2 ^ k
  | 0, _ => by simp [sumL, lub, lubF_end 63 (n := 1) (k := 0) rfl]
  | k + 1, h => by
    have ih := sumL_full k (by omega)
    have hp : 0 < 2 ^ (k + 1) := Nat.two_pow_pos _
    have e : 2 ^ (k + 1 + 1) - 1 = (2 ^ (k + 1) - 1 + (2 ^ (k + 1) - 1)) + 1 := by rw [Nat.pow_succ 2 (k + 1)]; omega
    have l : lub ((2 ^ (k + 1) - 1 + (2 ^ (k + 1) - 1)) + 1) = 2 ^ (k + 1) := lub_end (by rw [Nat.pow_succ 2 (k + 1)]; omega)
    rw [e]
    show sumL _ + lub _ = _
    rw [l, sumL_again (by omega) _ (by omega), ih, Nat.pow_succ]
    rw [show k + 1 + 1 = (k + 1) + 1 from rfl, Nat.add_mul (k + 1) 1]
    have : (k + 1) * (2 ^ k * 2) = (k + 1) * 2 ^ k * 2 := by rw [Nat.mul_assoc]
    rw [this]; omega
theorem sumL_step {n k : Nat} (hk : k < 60) (h0 : 2 ^ (k + 1) ≤ n + 1) (h1 : n + 1 < 2 ^ (k + 1 + 1)) : sumL n = (k + 1) * 2 ^ k + sumL (n + 1 - 2 ^ (k + 1)) := by
  have hp : 0 < 2 ^ (k + 1) := Nat.two_pow_pos _
  have e : n = 2 ^ (k + 1) - 1 + (n + 1 - 2 ^ (k + 1)) := by omega
  conv => lhs; rw [e]
  rw [sumL_again (by omega) _ (by rw [Nat.pow_succ 2 (k + 1)] at h1; omega), sumL_full k (by omega)]
theorem sumL_ge : ∀ n : Nat, n ≤ 1073741824 → n ≤ sumL n
  | 0, _ => Nat.zero_le _
  | n + 1, h => by
    have := sumL_ge n (by omega)
    have := (lub_bd (n := n + 1) (by omega) h).1
    simp only [sumL]; omega
theorem sumL_mono {a b : Nat} (h : a ≤ b) : sumL a ≤ sumL b := by
  induction b with
  | zero => have : a = 0 := by omega
            rw [this]; exact Nat.le_refl _
  | succ b ih =>
    by_cases e : a = b + 1
    · rw [e]; exact Nat.le_refl _
    · have := ih (by omega)
      simp only [sumL]; omega
theorem sumL_top {n : Nat} (h : n ≤ 1073741824) : sumL n ≤ 66571993088 := by
  have a := sumL_mono (a := n) (b := 2 ^ (30 + 1) - 1) (by omega)
  rw [sumL_full 30 (by omega)] at a
  omega

end Go.Proofs.Ytdipmcjgdpjlaaa
