/- The law of constants and inputs. -/
import Derived.Test.YtdjfciigfledhaaXc
set_option linter.unusedVariables false
set_option linter.unusedSimpArgs false
namespace Go.Proofs.Ytdjfciigfledhaa
open Go.RowKit Go.Maps

theorem mod_bit (x : Int) (n k : Nat) (h : k < n) : ((((x % ((2 ^ n : Nat) : Int)).toNat / 2 ^ k % 2 : Nat)) : Int) = x / 2 ^ k % 2 := by
  have hT := Nat.two_pow_pos n
  have h0 : 0 ≤ x % ((2 ^ n : Nat) : Int) := Int.emod_nonneg _ (by omega)
  have e1 : (((x % ((2 ^ n : Nat) : Int)).toNat / 2 ^ k % 2 : Nat) : Int) = (x % ((2 ^ n : Nat) : Int)) / ((2 ^ k : Nat) : Int) % 2 := by
    rw [Int.natCast_emod, Int.natCast_ediv, Int.toNat_of_nonneg h0]; rfl
  rw [e1, show ((2 ^ k : Nat) : Int) = (2 : Int) ^ k by norm_cast]
  obtain ⟨j, rfl⟩ : ∃ j, n = k + 1 + j := ⟨n - (k + 1), by omega⟩
  have hs : ((2 ^ (k + 1 + j) : Nat) : Int) = (2 : Int) ^ k * (2 * (2 : Int) ^ j) := by
    rw [show ((2 ^ (k + 1 + j) : Nat) : Int) = (2 : Int) ^ (k + 1 + j) by norm_cast, Int.pow_add, Int.pow_add, Int.mul_assoc]; rfl
  have hP : (0 : Int) < 2 ^ k := Int.pow_pos (by omega)
  have hd := Int.mul_ediv_add_emod x ((2 : Int) ^ k * (2 * (2 : Int) ^ j))
  rw [hs]
  generalize (2 : Int) ^ j = J at *
  have key : (x - 2 ^ k * (2 * J) * (x / (2 ^ k * (2 * J)))) / 2 ^ k = x / 2 ^ k - 2 * J * (x / (2 ^ k * (2 * J))) := by
    rw [show x - 2 ^ k * (2 * J) * (x / (2 ^ k * (2 * J))) = x + 2 ^ k * (-(2 * J * (x / (2 ^ k * (2 * J))))) by rw [Int.mul_neg, ← Int.mul_assoc, ← Int.mul_assoc, ← Int.mul_assoc]; omega]
    rw [Int.add_mul_ediv_left _ _ (by omega)]; omega
  rw [Int.emod_def x, key, Int.mul_assoc]
  generalize J * (x / (2 ^ k * (2 * J))) = t
  omega
theorem const_bits (x : Int) (n : Nat) : (constL x n).map (valF []) = bitsN (x % ((2 ^ n : Nat) : Int)).toNat n := by
  refine List.ext_getElem (by simp [constL, bitsN]) fun i h1 h2 => ?_
  have hi : i < n := by simpa [constL] using h1
  have e := mod_bit x n i hi
  simp only [constL, bitsN, List.getElem_map, List.getElem_range, tb]
  rw [← e]
  have hb : (x % ((2 ^ n : Nat) : Int)).toNat / 2 ^ i % 2 = 0 ∨ (x % ((2 ^ n : Nat) : Int)).toNat / 2 ^ i % 2 = 1 := by omega
  rcases hb with h | h
  · rw [h]; rfl
  · rw [h]; rfl

section
variable (w : World)
set_option maxHeartbeats 1000000 in
theorem consts_no (x n : Int) (h : ¬ (1 ≤ n ∧ n ≤ 16)) :
    Calls Try.prog 8 #[.int .i64 x, .int .i64 n] w fun e w' => e = .returned (.bool true) ∧ Below w.heap.size w w' := by
  have CN := hide (const_no w x n h)
  have IN : Hid (∀ (W : World) B, Calls Try.prog 44 #[.pointer (some ⟨B, 0, none⟩), .int .i64 n] W fun e w' => e = .returned (.slice none 0 0) ∧ w' = W) := fun W B => inw_no W B n h
  have h2 : n < 1 ∨ (¬ n < 1 ∧ 16 < n) := by omega
  clear h
  rcases h2 with h | ⟨h, h3⟩
  all_goals
    go_enter Try.func8, Try.ntmps8
    go_wp2_with (first
      | (go_at_call 42; refine (unhide CN).mono ?_; rintro e w0 ⟨rfl, hw0⟩; subst w0)
      | (go_at_call 43; refine (new_any _).mono ?_; rintro e w1 ⟨B, M, rfl, hG, hb1, hB, hM⟩)
      | (go_at_call 44; refine (unhide IN _ _).mono ?_; rintro e w0 ⟨rfl, hw0⟩; subst w0)
      | (go_at_call 16; refine (awake_any _).mono ?_; rintro e w2 ⟨rfl, hb2⟩))
    go_ret
    exact ⟨rfl, hb1.trans (hb2.mono hb1.size)⟩

set_option maxHeartbeats 4000000 in
theorem consts_yes (x : Int) (hx : inI64 x) (n : Nat) (h1 : 1 ≤ n) (h16 : n ≤ 16) :
    Calls Try.prog 8 #[.int .i64 x, .int .i64 (n : Int)] w fun e w' => e = .returned (.bool true) ∧ Below w.heap.size w w' := by
  have CN := hide (const_any w x hx n h1 h16)
  have IN : Hid (∀ (W : World) B M v, Gr W B M v [] → Calls Try.prog 44 #[.pointer (some ⟨B, 0, none⟩), .int .i64 (n : Int)] W fun e w' => ∃ q v' g', e = .returned (.slice (some ⟨q, 0, none⟩) n n) ∧ Ml W w' B M v v' [] g' n n q (inL n) ∧ g'.length = n) := fun W B M v h => inw_any W B M v n h h1 h16
  obtain ⟨m, hm⟩ : ∃ m, (x % ((2 ^ n : Nat) : Int)).toNat = m := ⟨_, rfl⟩
  have hT := Nat.two_pow_pos n
  have hT16 : 2 ^ n ≤ 65536 := Nat.le_trans (Nat.pow_le_pow_right (by omega) h16) (by decide)
  have hm0 : x % ((2 ^ n : Nat) : Int) = (m : Int) := by rw [← hm]; exact (Int.toNat_of_nonneg (Int.emod_nonneg _ (by omega))).symm
  have hml : m < 2 ^ n := by have := Int.emod_lt_of_pos x (b := ((2 ^ n : Nat) : Int)) (by omega); omega
  have MD : Hid (∀ (W : World), Calls Try.prog 10 #[.int .i64 x, .int .i64 (n : Int)] W fun e w' => e = .returned (.int .i64 (m : Int)) ∧ w' = W) := fun W => by
    have h := mod_any W x hx n (by omega)
    rwa [hm0] at h
  have BT : Hid (∀ (W : World) (k : Nat), k < n → Calls Try.prog 46 #[.int .i64 (m : Int), .int .i64 (k : Int)] W fun e w' => e = .returned (.int .i64 (x / 2 ^ k % 2)) ∧ w' = W) := fun W k hk => by
    have h := bit_any W m k (by omega) (by omega)
    have e := mod_bit x n k hk
    rw [hm] at e
    rwa [e] at h
  have hnum : numB ((constL x n).map (valF [])) = m := by rw [const_bits, hm, bitsN_num m n hml]
  have NM : Hid (∀ (W : World) q, Rw W q (constL x n) → Calls Try.prog 47 #[.slice none 0 0, .slice (some ⟨q, 0, none⟩) n n] W fun e w' => e = .returned (.int .i64 (m : Int)) ∧ ∃ j, w' = W.drewN j) := fun W q hr => by
    have h := number_any W none 0 [] (some ⟨q, 0, none⟩) n (constL x n) n (fun k hk => by simp at hk) (by simp) hr.row (constL_len x n) h16
    rwa [hnum] at h
  clear hm hm0 hml hT hT16 hnum hx
  go_enter Try.func8, Try.ntmps8
  go_upto_region 4 with (first
    | (go_at_call 42; refine (unhide CN).mono ?_; rintro e w1 ⟨q1, rfl, hr1, hq1, hb1⟩)
    | (go_at_call 43; refine (new_any _).mono ?_; rintro e w2 ⟨B, M, rfl, hG, hb2, hB, hM⟩)
    | (go_at_call 44; refine (unhide IN _ _ _ _ hG).mono ?_; rintro e w3 ⟨q3, v3, g3, rfl, hl3, hg3⟩))
  have HG := hl3.st.gr
  have hb12 := hb1.trans (hb2.mono hb1.size)
  have HB3 : Hid (Below w.heap.size w w3) := below_kp hb12 hl3.st.kp (by rintro b (h | h | h); have := hb1.size; omega; have := hb1.size; omega; cases h) (hb12.size)
  have HR3 : Hid (Rw w3 q1 (constL x n)) := (hr1.below hb2).same (hl3.st.kp.block q1 (hr1.below hb2).lt (by rintro (h | h | h); have := hr1.lt; omega; have := hr1.lt; omega; cases h))
  have HI3 : Hid (Rw w3 q3 (inL n)) := hl3.rw
  have LN0 := len_any w3 B M v3 g3 HG
  rw [hg3] at LN0
  have LN := hide LN0
  have hz3 : Hid (w.heap.size ≤ w3.heap.size) := HB3.out.size
  clear hr1 hq1 hb1 hb2 hG hB hM hl3 hg3 HG hb12 LN0 CN IN
  have g1 : ¬ (n : Int) < 1 := by omega
  have g2 : ¬ (16 : Int) < n := by omega
  go_upto_region 8 with (first
    | (go_at_call 45; refine (unhide LN).mono ?_; rintro e w0 ⟨rfl, hw0⟩; subst w0))
  go_wp2
  go_loopw [8] (fun i W => ∃ k : Nat, k ≤ n ∧ i = .int .i64 (k : Int) ∧ Hid (Below w.heap.size w W) ∧ Hid (Rw W q1 (constL x n)) ∧ Hid (Rw W q3 (inL n)) ∧ Hid (w.heap.size ≤ W.heap.size)) (fun i _ => n - (intOf i).toNat)
  case atStart => exact ⟨0, by omega, rfl, HB3, HR3, HI3, hz3⟩
  case round =>
    clear HB3 HR3 HI3 LN hz3
    obtain ⟨k, hk, rfl, HB, HR, HI, HZ⟩ := hrel
    by_cases hlt : k < n
    · have ct := HR.out.cell (i := k) (by rw [constL_len]; exact hlt)
      rw [constL_at x n k hlt] at ct
      have cw := HI.out.cell (i := k) (by rw [inL_len]; exact hlt)
      rw [inL_at n k hlt] at cw
      have hkn : (k : Int) < n := by omega
      have BT1 := hide (fun W => unhide BT W k hlt)
      generalize x / 2 ^ k % 2 = ck at *
      obtain ⟨ik, hik⟩ : ∃ ik, 2 * ((k : Int) + 1) = ik := ⟨_, rfl⟩
      rw [hik] at cw
      have hi2 : (ik != 2 * (k : Int) + 2) = false := by rw [← hik]; simp; omega
      have hcc : (ck != ck) = false := by simp
      have hw2 : IntKind.i64.wrap (2 * (k : Int)) = 2 * (k : Int) := by rw [IntKind.wrap_i64]; omega
      have hw3 : IntKind.i64.wrap (2 * (k : Int) + 2) = 2 * (k : Int) + 2 := by rw [IntKind.wrap_i64]; omega
      clear BT hik
      go_wp2
      go_quiet ((first | (go_at_call 10; exact Calls.quiet_of_same (unhide MD _)) | (go_at_call 46; exact Calls.quiet_of_same (unhide BT1 _))))
      go_wp2
      have hbd := below_drewN (Below.refl wr.heap.size wr) nq
      go_roundw
      case rel => exact ⟨k + 1, by omega, by go_num, below_drewN HB.out nq, HR.out.below hbd, HI.out.below hbd, HZ⟩
      case measure => simp [intOf]; omega
    · have hke : k = n := by omega
      subst hke
      have HBo := HB.out
      have NM1 := hide (unhide NM wr q1 HR.out)
      have hz := HZ.out
      clear HR HI NM BT HB HZ
      have hmm : ((m : Int) == (m : Int)) = true := by simp
      go_wp2_with (first
        | (go_at_call 47; refine (unhide NM1).mono ?_; rintro e w5 ⟨rfl, j5, hw5⟩; subst w5)
        | (go_at_call 10; refine (unhide MD _).mono ?_; rintro e w0 ⟨rfl, hw0⟩; subst w0)
        | (go_at_call 16; refine (awake_any _).mono ?_; rintro e w6 ⟨rfl, hb6⟩))
      go_ret
      exact ⟨rfl, (below_drewN HBo j5).trans (hb6.mono hz)⟩
end
end Go.Proofs.Ytdjfciigfledhaa
