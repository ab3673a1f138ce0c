/- Words of bits as numbers, the lowest bit first: sums, differences, products, comparisons. -/
set_option linter.unusedVariables false
set_option linter.unusedSimpArgs false
namespace Go.Proofs.Ytbilhiklfficoaa

def b2n (x : Bool) : Nat := if x then 1 else 0
/-- A word's number. -/
def numB : List Bool → Nat
  | [] => 0
  | x :: a => b2n x + 2 * numB a
theorem b2n_le (x : Bool) : b2n x ≤ 1 := by cases x <;> simp [b2n]
theorem b2n_t : b2n true = 1 := rfl
theorem b2n_f : b2n false = 0 := rfl
theorem numB_cons (x : Bool) (a : List Bool) : numB (x :: a) = b2n x + 2 * numB a := rfl
theorem numB_lt : ∀ a : List Bool, numB a < 2 ^ a.length
  | [] => by simp [numB]
  | x :: a => by
    have h := numB_lt a
    have hx := b2n_le x
    rw [List.length_cons, Nat.pow_succ, numB_cons]
    omega
theorem numB_append : ∀ a b : List Bool, numB (a ++ b) = numB a + 2 ^ a.length * numB b
  | [], b => by simp [numB]
  | x :: a, b => by
    have h := numB_append a b
    rw [List.cons_append, numB_cons, numB_cons, h, List.length_cons, Nat.pow_succ, Nat.mul_add, Nat.add_assoc, ← Nat.mul_assoc, Nat.mul_comm 2 (2 ^ a.length)]
theorem numB_snoc (a : List Bool) (x : Bool) : numB (a ++ [x]) = numB a + 2 ^ a.length * b2n x := by
  rw [numB_append]; simp [numB]
theorem numB_zeros : ∀ n : Nat, numB (List.replicate n false) = 0
  | 0 => rfl
  | n + 1 => by rw [List.replicate_succ, numB_cons, numB_zeros n]; rfl
theorem numB_inj : ∀ a b : List Bool, a.length = b.length → numB a = numB b → a = b
  | [], [], _, _ => rfl
  | [], y :: b, h, _ => by simp at h
  | x :: a, [], h, _ => by simp at h
  | x :: a, y :: b, h, e => by
    rw [numB_cons, numB_cons] at e
    have hx := b2n_le x
    have hy := b2n_le y
    have e1 : b2n x = b2n y := by omega
    have e2 : numB a = numB b := by omega
    rw [numB_inj a b (by simpa using h) e2]
    cases x <;> cases y <;> simp_all [b2n]
/-- A word's bit. -/
theorem numB_bit : ∀ (a : List Bool) (i : Nat), a.getD i false = decide (numB a / 2 ^ i % 2 = 1)
  | [], i => by simp [numB]
  | x :: a, 0 => by rw [numB_cons]; cases x <;> simp [b2n] <;> omega
  | x :: a, i + 1 => by
    have h := numB_bit a i
    have hx := b2n_le x
    have e : numB (x :: a) / 2 ^ (i + 1) = numB a / 2 ^ i := by
      rw [Nat.pow_succ, Nat.mul_comm, ← Nat.div_div_eq_div_mul, numB_cons]
      congr 1
      omega
    rw [e, ← h]
    rfl
theorem numB_take (a : List Bool) (n : Nat) : numB (a.take n) = numB a % 2 ^ n := by
  by_cases h : n ≤ a.length
  · have e := numB_append (a.take n) (a.drop n)
    rw [List.take_append_drop] at e
    have hl : (a.take n).length = n := by simp; omega
    have hlt := numB_lt (a.take n)
    rw [hl] at e hlt
    rw [e, Nat.add_mul_mod_self_left, Nat.mod_eq_of_lt hlt]
  · rw [List.take_of_length_le (by omega)]
    have := numB_lt a
    have h2 : 2 ^ a.length ≤ 2 ^ n := Nat.pow_le_pow_right (by omega) (by omega)
    rw [Nat.mod_eq_of_lt (by omega)]
theorem numB_drop (a : List Bool) (n : Nat) : numB (a.drop n) = numB a / 2 ^ n := by
  by_cases h : n ≤ a.length
  · have e := numB_append (a.take n) (a.drop n)
    rw [List.take_append_drop] at e
    have hl : (a.take n).length = n := by simp; omega
    have hlt := numB_lt (a.take n)
    rw [hl] at e hlt
    rw [e, Nat.add_mul_div_left _ _ (Nat.two_pow_pos n), Nat.div_eq_of_lt hlt, Nat.zero_add]
  · rw [List.drop_of_length_le (by omega)]
    have := numB_lt a
    have h2 : 2 ^ a.length ≤ 2 ^ n := Nat.pow_le_pow_right (by omega) (by omega)
    rw [Nat.div_eq_of_lt (by omega)]
    rfl
/-- Shifted to the left, cut to its width. -/
theorem numB_shl (a : List Bool) (k w : Nat) : numB ((List.replicate k false ++ a).take w) = numB a * 2 ^ k % 2 ^ w := by
  rw [numB_take, numB_append, numB_zeros, List.length_replicate, Nat.zero_add, Nat.mul_comm]

/-- The sum, bit by bit, and what is carried over. -/
def addB : List Bool → List Bool → Bool → List Bool
  | x :: a, y :: b, c => ((x != y) != c) :: addB a b ((x && y) || (c && (x != y)))
  | _, _, _ => []
def carB : List Bool → List Bool → Bool → Bool
  | x :: a, y :: b, c => carB a b ((x && y) || (c && (x != y)))
  | _, _, c => c
theorem addB_len : ∀ (a b : List Bool) (c : Bool), a.length = b.length → (addB a b c).length = a.length
  | [], [], c, _ => rfl
  | [], y :: b, c, h => by simp at h
  | x :: a, [], c, h => by simp at h
  | x :: a, y :: b, c, h => by simp only [addB, List.length_cons]; rw [addB_len a b _ (by simpa using h)]
theorem full_add (x y c : Bool) : b2n ((x != y) != c) + 2 * b2n ((x && y) || (c && (x != y))) = b2n x + b2n y + b2n c := by
  cases x <;> cases y <;> cases c <;> rfl
theorem addB_num : ∀ (a b : List Bool) (c : Bool), a.length = b.length → numB (addB a b c) + 2 ^ a.length * b2n (carB a b c) = numB a + numB b + b2n c
  | [], [], c, _ => by simp [addB, carB, numB]
  | [], y :: b, c, h => by simp at h
  | x :: a, [], c, h => by simp at h
  | x :: a, y :: b, c, h => by
    have ih := addB_num a b ((x && y) || (c && (x != y))) (by simpa using h)
    have hf := full_add x y c
    simp only [addB, carB, numB_cons, List.length_cons]
    rw [Nat.pow_succ, Nat.mul_comm (2 ^ a.length) 2, Nat.mul_assoc]
    omega
theorem addB_mod (a b : List Bool) (c : Bool) (h : a.length = b.length) : numB (addB a b c) = (numB a + numB b + b2n c) % 2 ^ a.length := by
  have h1 := addB_num a b c h
  have h2 := numB_lt (addB a b c)
  rw [addB_len a b c h] at h2
  rw [← h1, Nat.add_mul_mod_self_left, Nat.mod_eq_of_lt h2]
theorem carB_num (a b : List Bool) (c : Bool) (h : a.length = b.length) : carB a b c = decide (2 ^ a.length ≤ numB a + numB b + b2n c) := by
  have h1 := addB_num a b c h
  have h2 := numB_lt (addB a b c)
  rw [addB_len a b c h] at h2
  cases hc : carB a b c with
  | false => rw [hc, b2n_f, Nat.mul_zero] at h1; symm; simp; omega
  | true => rw [hc, b2n_t, Nat.mul_one] at h1; symm; simp; omega
theorem notB_num : ∀ a : List Bool, numB (a.map (!·)) + numB a = 2 ^ a.length - 1
  | [] => by simp [numB]
  | x :: a => by
    have h := notB_num a
    have hp := Nat.two_pow_pos a.length
    simp only [List.map_cons, numB_cons, List.length_cons, Nat.pow_succ]
    cases x <;> simp [b2n] <;> omega
/-- The difference: the sum with what is unlike, and one more. -/
theorem subB_num (a b : List Bool) (h : a.length = b.length) : numB (addB a (b.map (!·)) true) = (numB a + (2 ^ a.length - numB b)) % 2 ^ a.length := by
  have hn := notB_num b
  have hb := numB_lt b
  rw [addB_mod a _ true (by simpa using h), b2n_t]
  congr 1
  rw [h]
  rw [← h] at hb hn ⊢
  omega
/-- Its carry: that it is not less. -/
theorem subB_car (a b : List Bool) (h : a.length = b.length) : carB a (b.map (!·)) true = decide (numB b ≤ numB a) := by
  have hn := notB_num b
  have hb := numB_lt b
  rw [carB_num a _ true (by simpa using h), b2n_t, Bool.eq_iff_iff]
  rw [← h] at hb hn
  simp only [decide_eq_true_eq]
  omega
/-- Less, the lowest bit first: the highest unlike bit decides. -/
def lessB : List Bool → List Bool → Bool → Bool
  | x :: a, y :: b, c => lessB a b ((!x && y) || (c && (x == y)))
  | _, _, c => c
theorem lessB_num : ∀ (a b : List Bool) (c : Bool), a.length = b.length → lessB a b c = decide (numB a < numB b ∨ (numB a = numB b ∧ c = true))
  | [], [], c, _ => by cases c <;> simp [lessB, numB]
  | [], y :: b, c, h => by simp at h
  | x :: a, [], c, h => by simp at h
  | x :: a, y :: b, c, h => by
    rw [lessB, lessB_num a b _ (by simpa using h), numB_cons, numB_cons, Bool.eq_iff_iff]
    simp only [decide_eq_true_eq]
    cases x <;> cases y <;> cases c <;> simp [b2n] <;> omega
/-- Shift and add: what is reckoned of the bits of b that are met so far. -/
theorem mul_step (a b i w : Nat) (x : Bool) (acc : Nat) (h : acc = a * (b % 2 ^ i) % 2 ^ w) (hx : x = decide (b / 2 ^ i % 2 = 1)) :
    (acc + (if x then a * 2 ^ i % 2 ^ w else 0)) % 2 ^ w = a * (b % 2 ^ (i + 1)) % 2 ^ w := by
  have e : b % 2 ^ (i + 1) = b % 2 ^ i + 2 ^ i * (b / 2 ^ i % 2) := by rw [Nat.pow_succ, Nat.mod_mul]
  rw [e, Nat.mul_add, h]
  by_cases hb : b / 2 ^ i % 2 = 1
  · rw [hx, hb]
    simp
  · have h0 : b / 2 ^ i % 2 = 0 := by omega
    rw [hx, h0]
    simp
/-- One round of the division: the rest with one bit more is below twice the divisor. -/
theorem div_step (a d i r q : Nat) (hd : 0 < d) (hr : r = (a / 2 ^ (i + 1)) % d) (hq : q = (a / 2 ^ (i + 1)) / d) :
    (2 * r + a / 2 ^ i % 2 < 2 * d) ∧
    (a / 2 ^ i) % d = (if d ≤ 2 * r + a / 2 ^ i % 2 then 2 * r + a / 2 ^ i % 2 - d else 2 * r + a / 2 ^ i % 2) ∧
    (a / 2 ^ i) / d = 2 * q + (if d ≤ 2 * r + a / 2 ^ i % 2 then 1 else 0) := by
  have e : a / 2 ^ i = 2 * (a / 2 ^ (i + 1)) + a / 2 ^ i % 2 := by
    rw [Nat.pow_succ, ← Nat.div_div_eq_div_mul]; omega
  have hlt : r < d := by rw [hr]; exact Nat.mod_lt _ hd
  have hx : a / 2 ^ i % 2 < 2 := Nat.mod_lt _ (by omega)
  generalize a / 2 ^ (i + 1) = m at *
  generalize a / 2 ^ i = n at *
  generalize n % 2 = x at *
  have hm : m = d * q + r := by rw [hq, hr]; exact (Nat.div_add_mod m d).symm
  have hn : n = d * (2 * q) + (2 * r + x) := by rw [e, hm, Nat.mul_add, ← Nat.mul_assoc, Nat.mul_comm 2 d, Nat.mul_assoc]; omega
  have h1 : 2 * r + x < 2 * d := by omega
  refine ⟨h1, ?_, ?_⟩
  · split
    · rename_i hle
      have : n = d * (2 * q + 1) + (2 * r + x - d) := by rw [hn, Nat.mul_add]; omega
      rw [this, Nat.mul_add_mod, Nat.mod_eq_of_lt (by omega)]
    · rw [hn, Nat.mul_add_mod, Nat.mod_eq_of_lt (by omega)]
  · split
    · rename_i hle
      have : n = d * (2 * q + 1) + (2 * r + x - d) := by rw [hn, Nat.mul_add]; omega
      rw [this, Nat.mul_add_div hd, Nat.div_eq_of_lt (by omega)]
    · rw [hn, Nat.mul_add_div hd, Nat.div_eq_of_lt (by omega)]
theorem mod_next (b i : Nat) : b % 2 ^ (i + 1) = b % 2 ^ i + (if b / 2 ^ i % 2 = 1 then 2 ^ i else 0) := by
  rw [Nat.pow_succ, Nat.mod_mul]
  have : b / 2 ^ i % 2 < 2 := Nat.mod_lt _ (by omega)
  split
  · rename_i h; rw [h, Nat.mul_one]
  · rename_i h; rw [show b / 2 ^ i % 2 = 0 by omega, Nat.mul_zero]
/-- One stage of a shift to the left by a number's bits. -/
theorem shl_step (a b i w : Nat) (x : Bool) (cur : Nat) (h : cur = a * 2 ^ (b % 2 ^ i) % 2 ^ w) (hx : x = decide (b / 2 ^ i % 2 = 1)) :
    (if x then cur * 2 ^ (2 ^ i) % 2 ^ w else cur) = a * 2 ^ (b % 2 ^ (i + 1)) % 2 ^ w := by
  rw [mod_next]
  by_cases hb : b / 2 ^ i % 2 = 1
  · rw [hx, hb]
    simp only [decide_true, if_true]
    rw [h, Nat.pow_add, ← Nat.mul_assoc, Nat.mod_mul_mod]
  · rw [hx, h]
    simp [hb]
/-- .. to the right. -/
theorem shr_step (a b i : Nat) (x : Bool) (cur : Nat) (h : cur = a / 2 ^ (b % 2 ^ i)) (hx : x = decide (b / 2 ^ i % 2 = 1)) :
    (if x then cur / 2 ^ (2 ^ i) else cur) = a / 2 ^ (b % 2 ^ (i + 1)) := by
  rw [mod_next]
  by_cases hb : b / 2 ^ i % 2 = 1
  · rw [hx, hb]
    simp only [decide_true, if_true]
    rw [h, Nat.pow_add, Nat.div_div_eq_div_mul]
  · rw [hx, h]
    simp [hb]
/-- Shifted by the width or more nothing is left. -/
theorem shl_all (a b w : Nat) (h : w ≤ b) : a * 2 ^ b % 2 ^ w = 0 := by
  rw [show b = w + (b - w) by omega, Nat.pow_add, Nat.mul_left_comm, Nat.mul_mod_right]
theorem shr_all (a b w : Nat) (ha : a < 2 ^ w) (h : w ≤ b) : a / 2 ^ b = 0 := by
  have : 2 ^ w ≤ 2 ^ b := Nat.pow_le_pow_right (by omega) h
  exact Nat.div_eq_of_lt (by omega)
/-- Is a number not 0? -/
theorem any_num : ∀ a : List Bool, a.any id = decide (numB a ≠ 0)
  | [] => rfl
  | x :: a => by
    have h := any_num a
    rw [List.any_cons, h, numB_cons, Bool.eq_iff_iff]
    cases x <;> simp [b2n]
    omega
/-- Are two words alike? -/
theorem eq_num (a b : List Bool) (h : a.length = b.length) : (a = b) ↔ numB a = numB b := ⟨fun e => by rw [e], numB_inj a b h⟩
end Go.Proofs.Ytbilhiklfficoaa
