/- What is reckoned of words, round by round: sums, products, quotients, shifts. -/
import Derived.Test.YtbilhiklfficoaaVecB
set_option linter.unusedVariables false
set_option linter.unusedSimpArgs false
namespace Go.Proofs.Ytbilhiklfficoaa

theorem addB_snoc : ∀ (a b : List Bool) (c x y : Bool), a.length = b.length → addB (a ++ [x]) (b ++ [y]) c = addB a b c ++ [(x != y) != carB a b c]
  | [], [], c, x, y, _ => rfl
  | [], _ :: _, c, x, y, h => by simp at h
  | _ :: _, [], c, x, y, h => by simp at h
  | u :: a, v :: b, c, x, y, h => by simp only [List.cons_append, addB, carB]; rw [addB_snoc a b _ x y (by simpa using h)]
theorem carB_snoc : ∀ (a b : List Bool) (c x y : Bool), a.length = b.length → carB (a ++ [x]) (b ++ [y]) c = ((x && y) || (carB a b c && (x || y)))
  | [], [], c, x, y, _ => by cases x <;> cases y <;> cases c <;> rfl
  | [], _ :: _, c, x, y, h => by simp at h
  | _ :: _, [], c, x, y, h => by simp at h
  | u :: a, v :: b, c, x, y, h => by simp only [List.cons_append, carB]; rw [carB_snoc a b _ x y (by simpa using h)]
/-- What the sum of a's bits turned and b's carries over: that a is less. -/
theorem less_car (a b : List Bool) (h : a.length = b.length) : carB (a.map (!·)) b false = decide (numB a < numB b) := by
  have hn := notB_num a
  have ha := numB_lt a
  rw [carB_num _ b false (by simpa using h), b2n_f, Bool.eq_iff_iff, List.length_map]
  simp only [decide_eq_true_eq]
  omega

theorem numB_split (p : List Bool) (i : Nat) : numB p = numB (p.take i) + 2 ^ i * numB (p.drop i) := by
  rw [numB_take, numB_drop]; exact (Nat.mod_add_div _ _).symm
theorem mod_low (lo m i k : Nat) (h : lo < 2 ^ i) : (lo + 2 ^ i * m) % (2 ^ i * 2 ^ k) = lo + 2 ^ i * (m % 2 ^ k) := by
  rw [Nat.mod_mul, Nat.add_mul_mod_self_left, Nat.mod_eq_of_lt h, Nat.add_mul_div_left _ _ (Nat.two_pow_pos i), Nat.div_eq_of_lt h, Nat.zero_add]
theorem pow_split {i w : Nat} (h : i ≤ w) : 2 ^ w = 2 ^ i * 2 ^ (w - i) := by rw [← Nat.pow_add, show i + (w - i) = w by omega]
/-- What a round of a product leaves. -/
theorem mul_round (p q : List Bool) (A i w : Nat) (x : Bool) (hi : i ≤ w) (hp : p.length = w) (hq : q.length = w - i) (hn : numB q = if x then A % 2 ^ (w - i) else 0) :
    numB (p.take i ++ addB (p.drop i) q false) = (numB p + (if x then A * 2 ^ i % 2 ^ w else 0)) % 2 ^ w := by
  have hd : (p.drop i).length = q.length := by simp; omega
  have ht : (p.take i).length = i := by simp; omega
  have hl : (p.drop i).length = w - i := by simp; omega
  have hlo := numB_lt (p.take i)
  rw [ht] at hlo
  rw [numB_append, ht, addB_mod _ _ _ hd, hl, b2n_f, Nat.add_zero, hn, numB_split p i]
  generalize numB (p.take i) = lo at *
  generalize numB (p.drop i) = hi' at *
  have hx : (if x then A * 2 ^ i % 2 ^ w else 0) = 2 ^ i * (if x then A % 2 ^ (w - i) else 0) := by
    cases x
    · simp
    · simp only [if_true]
      rw [pow_split hi, Nat.mul_comm A, Nat.mul_mod_mul_left]
  rw [hx, pow_split hi, Nat.add_assoc, ← Nat.mul_add, mod_low _ _ _ _ hlo]
/-- The product of the bits that are met. -/
theorem mul_first (A B w : Nat) (x : Bool) (hA : A < 2 ^ w) (hx : x = decide (B / 2 ^ 0 % 2 = 1)) : (if x then A else 0) = A * (B % 2 ^ 1) % 2 ^ w := by
  have h := mul_step A B 0 w x 0 (by simp [Nat.mod_one]) hx
  rw [← h]
  cases x
  · simp
  · simp [Nat.mod_eq_of_lt hA]
theorem numB_mask (q : List Bool) (x : Bool) : numB (q.map (x && ·)) = if x then numB q else 0 := by
  cases x
  · have : q.map (false && ·) = List.replicate q.length false := by
      apply List.ext_getElem <;> simp
    rw [this, numB_zeros]; rfl
  · simp

/-- The rest and the quotient of a's bits from i on. -/
def rstN (A B i : Nat) : Nat := (A / 2 ^ i) % B
def quoN (A B w i : Nat) : Nat := if B = 0 then 2 ^ (w - i) - 1 else (A / 2 ^ i) / B
theorem rstN_lt {A B w i : Nat} (hA : A < 2 ^ w) (hi : i ≤ w) : rstN A B i < 2 ^ (w - i) := by
  have h1 : A / 2 ^ i < 2 ^ (w - i) := by
    rw [Nat.div_lt_iff_lt_mul (Nat.two_pow_pos i), Nat.mul_comm, ← pow_split hi]; exact hA
  unfold rstN
  exact Nat.lt_of_le_of_lt (Nat.mod_le _ _) h1
theorem div_round (A B w i : Nat) (hi : i + 1 ≤ w) :
    rstN A B i = (if B ≤ 2 * rstN A B (i + 1) + A / 2 ^ i % 2 then 2 * rstN A B (i + 1) + A / 2 ^ i % 2 - B else 2 * rstN A B (i + 1) + A / 2 ^ i % 2) ∧
    quoN A B w i = 2 * quoN A B w (i + 1) + (if B ≤ 2 * rstN A B (i + 1) + A / 2 ^ i % 2 then 1 else 0) := by
  by_cases h0 : B = 0
  · subst h0
    unfold rstN quoN
    simp only [Nat.mod_zero, Nat.zero_le, if_true]
    refine ⟨?_, ?_⟩
    · have e : A / 2 ^ (i + 1) = A / 2 ^ i / 2 := by rw [Nat.pow_succ, Nat.div_div_eq_div_mul]
      rw [e]; omega
    · rw [show w - i = (w - (i + 1)) + 1 by omega, Nat.pow_succ]
      have := Nat.two_pow_pos (w - (i + 1))
      omega
  · have h := div_step A B i (rstN A B (i + 1)) (A / 2 ^ (i + 1) / B) (by omega) rfl rfl
    refine ⟨h.2.1, ?_⟩
    unfold quoN
    rw [if_neg h0, if_neg h0]
    exact h.2.2
theorem rst_end (A B : Nat) : rstN A B 0 = A % B := by unfold rstN; simp
theorem quo_end (A B w : Nat) : quoN A B w 0 = if B = 0 then 2 ^ w - 1 else A / B := by unfold quoN; simp
theorem rst_start {A B w : Nat} (hA : A < 2 ^ w) : rstN A B w = 0 := by unfold rstN; rw [Nat.div_eq_of_lt hA]; simp
theorem quo_start {A B w : Nat} (hA : A < 2 ^ w) : quoN A B w w = 0 := by unfold quoN; rw [Nat.div_eq_of_lt hA]; simp

theorem numB_high {p : List Bool} {n : Nat} (h : numB p < 2 ^ n) : numB (p.take n) = numB p ∧ numB (p.drop n) = 0 := by
  refine ⟨?_, ?_⟩
  · rw [numB_take, Nat.mod_eq_of_lt h]
  · rw [numB_drop, Nat.div_eq_of_lt h]
/-- A bit more at the lowest place: the first n bits have moved up. -/
theorem numB_up {p : List Bool} {n : Nat} (x : Bool) (h : numB p < 2 ^ n) : numB (x :: (p.take n ++ p.drop (n + 1))) = b2n x + 2 * numB p := by
  have h2 : numB p < 2 ^ (n + 1) := by rw [Nat.pow_succ]; omega
  rw [numB_cons, numB_append, (numB_high h).1, (numB_high h2).2]
  simp
/-- The first n bits turned into others. -/
theorem numB_put {p q : List Bool} {n : Nat} (h : numB p < 2 ^ n) (hq : q.length = n) : numB (q ++ p.drop n) = numB q := by
  rw [numB_append, (numB_high h).2]; simp
/-- What fits, less what is taken away. -/
theorem sub_low (r b : List Bool) (n : Nat) (hr : r.length = n) (hb : (b.take n).length = n) (hle : numB b ≤ numB r) : numB (addB r ((b.take n).map (!·)) true) = numB r - numB b := by
  have h := subB_num r (b.take n) (by omega)
  have hlt := numB_lt r
  rw [hr] at hlt h
  have e : numB (b.take n) = numB b := by rw [numB_take, Nat.mod_eq_of_lt (by omega)]
  rw [h, e, show numB r + (2 ^ n - numB b) = (numB r - numB b) + 2 ^ n by omega, Nat.add_mod_right, Nat.mod_eq_of_lt (by omega)]
/-- One bit more of the quotient, ahead of what it has. -/
theorem quo_put (p : List Bool) (i : Nat) (x : Bool) (Q : Nat) (hi : i < p.length) (h : numB p = 2 ^ (i + 1) * Q) : numB (p.set i x) = 2 ^ i * (2 * Q + b2n x) := by
  have hs := numB_split p (i + 1)
  have hlt := numB_lt (p.take (i + 1))
  rw [show (p.take (i + 1)).length = i + 1 by simp; omega] at hlt
  have h0 : numB (p.take (i + 1)) = 0 := by
    have e : numB (p.take (i + 1)) = numB p % 2 ^ (i + 1) := numB_take _ _
    rw [e, h, Nat.mul_mod_right]
  have hq : numB (p.drop (i + 1)) = Q := by
    rw [numB_drop, h, Nat.mul_div_cancel_left _ (Nat.two_pow_pos _)]
  have h00 : numB (p.take i) = 0 := by
    have : p.take i = (p.take (i + 1)).take i := by rw [List.take_take]; congr 1; omega
    rw [this, numB_take, h0, Nat.zero_mod]
  have e : p.set i x = p.take i ++ (x :: p.drop (i + 1)) := List.set_eq_take_append_cons_drop .. |>.trans (by rw [if_pos hi])
  rw [e, numB_append, numB_cons, h00, hq, show (p.take i).length = i by simp; omega, Nat.zero_add, Nat.add_comm (b2n x)]

/-- Moved to the left, within its width. -/
theorem left_num (p : List Bool) (k : Nat) (hk : k ≤ p.length) : numB (List.replicate k false ++ p.take (p.length - k)) = numB p * 2 ^ k % 2 ^ p.length := by
  have e : (List.replicate k false).take p.length = List.replicate k false := List.take_of_length_le (by rw [List.length_replicate]; exact hk)
  rw [← numB_shl p k p.length, List.take_append, List.length_replicate, e]
theorem right_num (p : List Bool) (k : Nat) : numB (p.drop k ++ List.replicate k false) = numB p / 2 ^ k := by
  rw [numB_append, numB_zeros, numB_drop]; simp
theorem ite_bits (x : Bool) (a b : List Bool) (h : a.length = b.length) : List.zipWith (fun u v => if x then u else v) a b = if x then a else b := by
  cases x
  · simp only [Bool.false_eq_true, if_false]
    exact List.ext_getElem (by simp; omega) (fun i h1 h2 => by simp)
  · simp only [if_true]
    exact List.ext_getElem (by simp; omega) (fun i h1 h2 => by simp)
end Go.Proofs.Ytbilhiklfficoaa
