/- Contracts: the document's Div, Rest, Shl, Shr, Bits. -/
import Derived.Test.YtdjfciigfledhaaVn
set_option linter.unusedVariables false
set_option linter.unusedSimpArgs false
namespace Go.Proofs.Ytdjfciigfledhaa
open Go.RowKit Go.Maps

section
variable (w : World)

set_option maxHeartbeats 400000 in
theorem refDiv_any (m n k : Nat) (hm : m ≤ 1048576) (hn : n ≤ 1048576) (hk : k ≤ 40) : Calls Try.prog 18 #[.int .i64 (m : Int), .int .i64 (n : Int), .int .i64 (k : Int)] w fun e w' => e = .returned (.int .i64 ((if n = 0 then 2 ^ k - 1 else m / n : Nat) : Int)) ∧ w' = w := by
  have PW := power_any w k hk
  have hT1 := Nat.two_pow_pos k
  have hT16 : 2 ^ k ≤ 1099511627776 := Nat.le_trans (Nat.pow_le_pow_right (by omega) hk) (by decide)
  generalize 2 ^ k = T at *
  replace PW := hide PW
  by_cases h0 : n = 0
  · subst h0
    rw [if_pos rfl]
    go_enter Try.func18, Try.ntmps18
    go_wp2_with (first | (go_at_call 25; refine (unhide PW).mono ?_; rintro e w0 ⟨rfl, hw0⟩; subst w0))
    go_ret
    exact ⟨ret_int (by omega), rfl⟩
  · rw [if_neg h0]
    have h1 : ¬ (n : Int) = 0 := by omega
    have e1 : ((m / n : Nat) : Int) = (m : Int) / (n : Int) := by norm_cast
    have h2 : (m : Int).tdiv (n : Int) = (m : Int) / (n : Int) := Int.tdiv_eq_ediv_of_nonneg (by omega)
    have h3 : (m : Int) / (n : Int) ≤ (m : Int) := Int.ediv_le_self _ (by omega)
    have h4 : 0 ≤ (m : Int) / (n : Int) := Int.ediv_nonneg (by omega) (by omega)
    rw [e1]
    generalize (m : Int) / (n : Int) = r at *
    clear e1
    go_enter Try.func18, Try.ntmps18
    go_wp2_with fail
    go_ret
    exact ⟨ret_int (by omega), rfl⟩

set_option maxHeartbeats 400000 in
theorem refRest_any (m n : Nat) (hm : m ≤ 1048576) (hn : n ≤ 1048576) : Calls Try.prog 19 #[.int .i64 (m : Int), .int .i64 (n : Int)] w fun e w' => e = .returned (.int .i64 ((m % n : Nat) : Int)) ∧ w' = w := by
  by_cases h0 : n = 0
  · subst h0
    rw [Nat.mod_zero]
    go_enter Try.func19, Try.ntmps19
    go_wp2
    go_ret
    exact ⟨rfl, rfl⟩
  · have h1 : ¬ (n : Int) = 0 := by omega
    have e1 : ((m % n : Nat) : Int) = (m : Int) % (n : Int) := by norm_cast
    have h2 : (m : Int).tmod (n : Int) = (m : Int) % (n : Int) := Int.tmod_eq_emod_of_nonneg (by omega)
    have h3 := Int.emod_lt_of_pos (m : Int) (b := (n : Int)) (by omega)
    have h4 := Int.emod_nonneg (m : Int) (b := (n : Int)) (by omega)
    rw [e1]
    generalize (m : Int) % (n : Int) = r at *
    clear e1
    go_enter Try.func19, Try.ntmps19
    go_wp2_with fail
    go_ret
    exact ⟨ret_int (by omega), rfl⟩

set_option maxHeartbeats 400000 in
theorem refShl_any (m n k : Nat) (hm : m ≤ 1048576) (hk : k ≤ 16) : Calls Try.prog 27 #[.int .i64 (m : Int), .int .i64 (n : Int), .int .i64 (k : Int)] w fun e w' => e = .returned (.int .i64 ((m * 2 ^ n % 2 ^ k : Nat) : Int)) ∧ w' = w := by
  by_cases h : k ≤ n
  · rw [shl_all m n k h]
    have h1 : (k : Int) ≤ n := by omega
    go_enter Try.func27, Try.ntmps27
    go_wp2
    go_ret
    exact ⟨rfl, rfl⟩
  · have h1 : ¬ (k : Int) ≤ n := by omega
    have PW := power_any w n (by omega)
    have hT1 := Nat.two_pow_pos n
    have hT16 : 2 ^ n ≤ 65536 := Nat.le_trans (Nat.pow_le_pow_right (by omega) (by omega : n ≤ 16)) (by decide)
    generalize 2 ^ n = T at *
    have hmul : m * T ≤ 1048576 * 65536 := Nat.mul_le_mul hm hT16
    have hmi : (m : Int) * (T : Int) = ((m * T : Nat) : Int) := by norm_cast
    obtain ⟨P, hP⟩ : ∃ P, m * T = P := ⟨_, rfl⟩
    rw [hP] at hmul hmi ⊢
    have hw : IntKind.i64.wrap (P : Int) = (P : Int) := by rw [IntKind.wrap_i64]; omega
    have MD := mod_any w (P : Int) (by unfold inI64; omega) k (by omega)
    rw [show (P : Int) % ((2 ^ k : Nat) : Int) = ((P % 2 ^ k : Nat) : Int) by norm_cast] at MD
    replace PW := hide PW
    replace MD := hide MD
    generalize P % 2 ^ k = R at *
    clear hP
    go_enter Try.func27, Try.ntmps27
    go_wp2_with (first
      | (go_at_call 25; refine (unhide PW).mono ?_; rintro e w0 ⟨rfl, hw0⟩; subst w0)
      | (go_at_call 10; refine (unhide MD).mono ?_; rintro e w0 ⟨rfl, hw0⟩; subst w0))
    go_ret
    exact ⟨rfl, rfl⟩

set_option maxHeartbeats 400000 in
theorem refShr_any (m n k : Nat) (hm : m < 2 ^ k) (hk : k ≤ 16) : Calls Try.prog 29 #[.int .i64 (m : Int), .int .i64 (n : Int), .int .i64 (k : Int)] w fun e w' => e = .returned (.int .i64 ((m / 2 ^ n : Nat) : Int)) ∧ w' = w := by
  have hm2 : m < 65536 := Nat.lt_of_lt_of_le hm (Nat.le_trans (Nat.pow_le_pow_right (by omega) hk) (by decide))
  by_cases h : k ≤ n
  · rw [shr_all m n k hm h]
    have h1 : (k : Int) ≤ n := by omega
    clear hm
    go_enter Try.func29, Try.ntmps29
    go_wp2
    go_ret
    exact ⟨rfl, rfl⟩
  · have h1 : ¬ (k : Int) ≤ n := by omega
    clear hm
    have PW := power_any w n (by omega)
    have hT1 := Nat.two_pow_pos n
    have hT16 : 2 ^ n ≤ 65536 := Nat.le_trans (Nat.pow_le_pow_right (by omega) (by omega : n ≤ 16)) (by decide)
    generalize 2 ^ n = T at *
    have hT : ¬ (T : Int) = 0 := by omega
    have e1 : ((m / T : Nat) : Int) = (m : Int) / (T : Int) := by norm_cast
    have h2 : (m : Int).tdiv (T : Int) = (m : Int) / (T : Int) := Int.tdiv_eq_ediv_of_nonneg (by omega)
    have h3 : (m : Int) / (T : Int) ≤ (m : Int) := Int.ediv_le_self _ (by omega)
    have h4 : 0 ≤ (m : Int) / (T : Int) := Int.ediv_nonneg (by omega) (by omega)
    rw [e1]
    replace PW := hide PW
    generalize (m : Int) / (T : Int) = r at *
    clear e1
    go_enter Try.func29, Try.ntmps29
    go_wp2_with (first
      | (go_at_call 25; refine (unhide PW).mono ?_; rintro e w0 ⟨rfl, hw0⟩; subst w0))
    go_ret
    exact ⟨ret_int (by omega), rfl⟩
end

/-- A number's bit; what is told bit by bit. -/
def tb (n i : Nat) : Bool := decide (n / 2 ^ i % 2 = 1)
def opK : Nat → Bool → Bool → Bool
  | 0, x, y => x && y
  | 1, x, y => x || y
  | _, x, y => x != y
def zipB (c m n k : Nat) : List Bool := (List.range k).map fun i => opK c (tb m i) (tb n i)
def zipN (c m n k i : Nat) : Nat := numB ((zipB c m n k).drop i)
theorem zipB_len (c m n k : Nat) : (zipB c m n k).length = k := by simp [zipB]
theorem zipN_end (c m n k : Nat) : zipN c m n k k = 0 := by
  unfold zipN
  rw [List.drop_of_length_le (by rw [zipB_len]; exact Nat.le_refl _)]; rfl
theorem zipN_step (c m n k i : Nat) (h : i < k) : zipN c m n k i = b2n (opK c (tb m i) (tb n i)) + 2 * zipN c m n k (i + 1) := by
  unfold zipN
  rw [List.drop_eq_getElem_cons (by rw [zipB_len]; exact h), numB_cons]
  simp [zipB]
theorem zipN_lt (c m n k i : Nat) (hk : k ≤ 16) : zipN c m n k i ≤ 65535 := by
  unfold zipN
  have h1 := numB_lt ((zipB c m n k).drop i)
  have h2 : 2 ^ ((zipB c m n k).drop i).length ≤ 2 ^ 16 := Nat.pow_le_pow_right (by omega) (by rw [List.length_drop, zipB_len]; omega)
  omega
theorem zip_num (c : Nat) (a b : List Bool) (h : a.length = b.length) : numB (List.zipWith (opK c) a b) = zipN c (numB a) (numB b) a.length 0 := by
  unfold zipN
  rw [List.drop_zero]
  congr 1
  refine List.ext_getElem (by simp [zipB, h]) fun i h1 h2 => ?_
  have hi : i < a.length := by simp at h1; omega
  have hb : i < b.length := by omega
  have e1 := numB_bit a i
  have e2 := numB_bit b i
  rw [List.getD_eq_getElem?_getD, List.getElem?_eq_getElem hi] at e1
  rw [List.getD_eq_getElem?_getD, List.getElem?_eq_getElem hb] at e2
  simp only [List.getElem_zipWith, zipB, List.getElem_map, List.getElem_range, tb]
  rw [← e1, ← e2]; rfl

section
variable (w : World)
set_option maxHeartbeats 2000000 in
set_option maxRecDepth 100000 in
theorem refBits_any (c m n k : Nat) (hc : c = 0 ∨ c = 1 ∨ c = 2) (hm : m ≤ 65536) (hn : n ≤ 65536) (hk : k ≤ 16) : Calls Try.prog 21 #[.int .i64 (c : Int), .int .i64 (m : Int), .int .i64 (n : Int), .int .i64 (k : Int)] w fun e w' => e = .returned (.int .i64 (zipN c m n k 0 : Int)) ∧ w' = w := by
  have B1 : Hid (∀ i : Nat, i ≤ 16 → Calls Try.prog 46 #[.int .i64 (m : Int), .int .i64 (i : Int)] w fun e w' => e = .returned (.int .i64 ((m / 2 ^ i % 2 : Nat) : Int)) ∧ w' = w) := fun i hi => bit_any w m i (by omega) (by omega)
  have B2 : Hid (∀ i : Nat, i ≤ 16 → Calls Try.prog 46 #[.int .i64 (n : Int), .int .i64 (i : Int)] w fun e w' => e = .returned (.int .i64 ((n / 2 ^ i % 2 : Nat) : Int)) ∧ w' = w) := fun i hi => bit_any w n i (by omega) (by omega)
  obtain ⟨z, hz⟩ : ∃ z : Int, (c : Int) = z := ⟨_, rfl⟩
  rw [hz]
  have HC : Hid ((c = 0 ∧ z = 0) ∨ (c = 1 ∧ z = 1) ∨ (c = 2 ∧ z = 2)) := by unfold Hid; omega
  clear hc hz
  rcases HC.out with ⟨hc, rfl⟩ | ⟨hc, rfl⟩ | ⟨hc, rfl⟩
  all_goals
   clear HC
   have HC := hide hc
   clear hc
   go_enter Try.func21, Try.ntmps21
   go_wp2
   go_loopw [9, 10] (fun y i W => ∃ j N : Nat, j ≤ k ∧ i = .int .i64 ((j : Int) - 1) ∧ y = .int .i64 (N : Int) ∧ Hid (N = zipN c m n k j) ∧ W = w) (fun _ i _ => (intOf i + 1).toNat)
   case atStart => exact ⟨k, 0, Nat.le_refl _, by go_num, rfl, (zipN_end c m n k).symm, rfl⟩
   case round =>
     obtain ⟨j, N, hj, rfl, rfl, HN, rfl⟩ := hrel
     by_cases hlt : 0 < j
     · obtain ⟨i, rfl⟩ : ∃ i, j = i + 1 := ⟨j - 1, by omega⟩
       have e : ((i + 1 : Nat) : Int) - 1 = (i : Int) := by omega
       rw [e]
       have hst := zipN_step c m n k i (by omega)
       rw [← HN.out] at hst
       have hNl : N ≤ 65535 := by rw [HN.out]; exact zipN_lt _ _ _ _ _ hk
       have b1 := unhide B1 i (by omega)
       have b2 := unhide B2 i (by omega)
       unfold tb at hst
       obtain ⟨bm, hbm⟩ : ∃ z, m / 2 ^ i % 2 = z := ⟨_, rfl⟩
       obtain ⟨bn, hbn⟩ : ∃ z, n / 2 ^ i % 2 = z := ⟨_, rfl⟩
       rw [hbm] at b1 hst
       rw [hbn] at b2 hst
       have hx : bm = 0 ∨ bm = 1 := by omega
       have hy : bn = 0 ∨ bn = 1 := by omega
       have HS := hide hst
       have BB : Hid (∀ x y : Nat, (x = m ∧ y = bm) ∨ (x = n ∧ y = bn) → Calls Try.prog 46 #[.int .i64 (x : Int), .int .i64 (i : Int)] wr fun e w' => e = .returned (.int .i64 (y : Int)) ∧ w' = wr) := by
         rintro x y (⟨rfl, rfl⟩ | ⟨rfl, rfl⟩)
         · exact b1
         · exact b2
       clear hst HN B1 B2 b1 b2 hbm hbn e
       rcases hx with rfl | rfl <;> rcases hy with rfl | rfl <;>
       ( have HS1 := HS.out
         rw [HC.out] at HS1
         simp [opK, b2n] at HS1
         have HS2 := hide HS1
         clear HS HS1
         go_wp2_with (first
           | (go_at_call 46; refine (unhide BB _ _ (by first | exact .inl ⟨rfl, rfl⟩ | exact .inr ⟨rfl, rfl⟩)).mono ?_; rintro e w0 ⟨rfl, hw0⟩; subst w0))
         go_roundw
         case rel =>
           first
             | exact ⟨i, 2 * N, by omega, by go_num, by go_num, by unfold Hid; rw [HC.out, HS2.out], by first | rfl | trivial⟩
             | exact ⟨i, 2 * N + 1, by omega, by go_num, by go_num, by unfold Hid; rw [HC.out, HS2.out]; omega, by first | rfl | trivial⟩
         case measure => first | (simp [intOf]; done) | (simp [intOf]; omega))
     · have hj0 : j = 0 := by omega
       subst hj0
       have hf := HN.out
       go_wp2
       go_ret
       first | exact ⟨rfl, rfl⟩ | exact ⟨ret_int (by rw [hf]), rfl⟩ | exact ⟨ret_int (by rw [← hf]), rfl⟩
end
end Go.Proofs.Ytdjfciigfledhaa
