/- Plain mathematics: which number a word is, and a number's digits. -/
import Derived.Below
set_option linter.unusedVariables false
set_option linter.unusedSimpArgs false
namespace Go.Proofs.YtgklollpajhmlaaDoor

/-- A word without its sign. -/
def bare (l : List UInt8) : List UInt8 := if l.head? = some 45 then l.tail else l
def digB (c : UInt8) : Bool := decide (48 ≤ c.toNat ∧ c.toNat ≤ 57)
def decV (l : List UInt8) : Nat := l.foldl (fun n c => 10 * n + (c.toNat - 48)) 0
def numB (l : List UInt8) : Bool :=
  decide (1 ≤ (bare l).length ∧ (bare l).length ≤ 10 ∧ ¬ ((bare l).head? = some 48 ∧ 1 < l.length)) && (bare l).all digB
def numV (l : List UInt8) : Int := if numB l then (if (bare l).length < l.length then -(decV (bare l) : Int) else decV (bare l)) else 0

theorem decV_snoc (l : List UInt8) (c : UInt8) : decV (l ++ [c]) = 10 * decV l + (c.toNat - 48) := by simp [decV]
theorem decV_nil : decV [] = 0 := rfl

/-- A digit's byte. -/
def dch (r : Nat) : UInt8 := (48 + r).toUInt8

/-- The digits of a number that is not below 0, by so many steps at most. -/
def digF : Nat → Nat → List UInt8
  | 0, n => [dch n]
  | f + 1, n => if n < 10 then [dch n] else digF f (n / 10) ++ [dch (n % 10)]

/-- The digits of a number that is not below 0. -/
def digN (n : Nat) : List UInt8 := digF n n

theorem digF_enough : ∀ (f g n : Nat), n ≤ f → n ≤ g → digF f n = digF g n := by
  intro f
  induction f with
  | zero =>
    intro g n h1 h2
    have hn : n = 0 := by omega
    subst hn
    cases g with
    | zero => rfl
    | succ g => rfl
  | succ f ih =>
    intro g n h1 h2
    cases g with
    | zero =>
      have hn : n = 0 := by omega
      subst hn
      rfl
    | succ g =>
      show (if n < 10 then [dch n] else digF f (n / 10) ++ [dch (n % 10)]) = if n < 10 then [dch n] else digF g (n / 10) ++ [dch (n % 10)]
      by_cases h : n < 10
      · rw [if_pos h, if_pos h]
      · rw [if_neg h, if_neg h, ih g (n / 10) (by omega) (by omega)]

theorem digN_small {n : Nat} (h : n < 10) : digN n = [dch n] := by
  unfold digN
  cases n with
  | zero => rfl
  | succ n => show (if n + 1 < 10 then _ else _) = _; rw [if_pos h]
theorem digN_great {n : Nat} (h : ¬ n < 10) : digN n = digN (n / 10) ++ [dch (n % 10)] := by
  unfold digN
  cases n with
  | zero => omega
  | succ n =>
    show (if n + 1 < 10 then _ else _) = _
    rw [if_neg h, digF_enough n ((n + 1) / 10) ((n + 1) / 10) (by omega) (Nat.le_refl _)]

def digI (n : Int) : List UInt8 := if n < 0 then 45 :: digN n.natAbs else digN n.natAbs

theorem digI_great {n : Nat} (h : ¬ n < 10) : digI n = digI ((n / 10 : Nat) : Int) ++ digI ((n % 10 : Nat) : Int) := by
  have e : ∀ m : Nat, digI m = digN m := by
    intro m; unfold digI; rw [if_neg (by omega)]; rfl
  rw [e, e, e, digN_great h, digN_small (n := n % 10) (by omega)]

theorem toNat_dig {r : Nat} (h : r < 10) : (dch r).toNat = 48 + r := by
  simp [dch]; omega

theorem digB_dig {r : Nat} (h : r < 10) : digB (dch r) = true := by
  unfold digB; rw [toNat_dig h]; simp; omega

theorem digN_props (n : Nat) : (digN n).all digB = true ∧ decV (digN n) = n ∧ 1 ≤ (digN n).length ∧ (10 ≤ n → (digN n).head? ≠ some 48) ∧ (1 ≤ n → (digN n).head? ≠ some 48) := by
  induction n using Nat.strongRecOn with
  | ind n ih =>
    by_cases h : n < 10
    · rw [digN_small h]
      refine ⟨by simp [digB_dig h], ?_, by simp, by omega, ?_⟩
      · show 10 * 0 + ((dch n).toNat - 48) = n
        rw [toNat_dig h]; omega
      · intro h1 e
        simp at e
        have := congrArg UInt8.toNat e
        rw [toNat_dig h] at this
        simp at this; omega
    · obtain ⟨a, b, c, d, e⟩ := ih (n / 10) (by omega)
      rw [digN_great h]
      have hr : n % 10 < 10 := by omega
      have hh : (digN (n / 10) ++ [dch (n % 10)]).head? = (digN (n / 10)).head? := by
        cases hx : digN (n / 10) with
        | nil => rw [hx] at c; simp at c
        | cons x xs => rfl
      refine ⟨by simp [a, digB_dig hr], ?_, by simp, fun _ => by rw [hh]; exact e (by omega), fun _ => by rw [hh]; exact e (by omega)⟩
      rw [decV_snoc, b, toNat_dig hr]; omega

theorem digN_len (n k : Nat) (hk : 1 ≤ k) (h : n < 10 ^ k) : (digN n).length ≤ k := by
  induction k generalizing n with
  | zero => omega
  | succ k ih =>
    by_cases h10 : n < 10
    · rw [digN_small h10]; simp
    · rw [digN_great h10]
      have hk1 : 1 ≤ k := by
        rcases Nat.eq_zero_or_pos k with e | e
        · subst e; simp at h; omega
        · exact e
      have := ih (n / 10) hk1 (by rw [Nat.pow_succ] at h; omega)
      simp; omega

theorem digN_head (n : Nat) : (digN n).head? ≠ some 45 := by
  obtain ⟨a, b, c, d, e⟩ := digN_props n
  cases hx : digN n with
  | nil => simp
  | cons x xs =>
    rw [hx] at a
    simp [digB] at a
    intro e
    simp at e
    subst e
    simp at a

theorem bare_digI (n : Int) : bare (digI n) = digN n.natAbs ∧ (digI n).length = (digN n.natAbs).length + (if n < 0 then 1 else 0) := by
  unfold digI
  by_cases h : n < 0
  · simp [h, bare]
  · simp only [h, if_false, bare]
    rw [if_neg (digN_head _)]; simp

theorem digI_num {n : Int} (h1 : -9999999999 ≤ n) (h2 : n ≤ 9999999999) : numB (digI n) = true ∧ numV (digI n) = n := by
  obtain ⟨e1, e2⟩ := bare_digI n
  obtain ⟨a, b, c, d, e⟩ := digN_props n.natAbs
  have hl := digN_len n.natAbs 10 (by omega) (by omega)
  have hB : numB (digI n) = true := by
    unfold numB
    rw [e1, a, Bool.and_true, decide_eq_true_iff]
    refine ⟨c, hl, ?_⟩
    rintro ⟨f, g⟩
    by_cases h0 : 1 ≤ n.natAbs
    · exact e h0 f
    · have hz : n = 0 := by omega
      subst hz
      rw [e2] at g
      simp [digN_small] at g
  refine ⟨hB, ?_⟩
  unfold numV
  rw [if_pos hB, e1, e2, b]
  by_cases h : n < 0
  · simp [h]; omega
  · simp [h]; omega

theorem dig_back {c : UInt8} (h : digB c = true) : dch (c.toNat - 48) = c := by
  unfold digB at h
  simp at h
  have : 48 + (c.toNat - 48) = c.toNat := by omega
  unfold dch; rw [this]; simp

theorem decV_le {l : List UInt8} (h : l.all digB = true) : decV l < 10 ^ l.length := by
  have key : ∀ l' : List UInt8, l'.all digB = true → decV l'.reverse < 10 ^ l'.length := by
    intro l'
    induction l' with
    | nil => intro _; simp [decV]
    | cons c l' ih =>
      intro h
      simp only [List.all_cons, Bool.and_eq_true] at h
      have := ih h.2
      rw [List.reverse_cons, decV_snoc, List.length_cons, Nat.pow_succ]
      have hc := h.1
      unfold digB at hc
      simp at hc
      omega
  have := key l.reverse (by simpa using h)
  simpa using this

/-- Digits without a 0 ahead of others are those of their number. -/
theorem digN_decV (l : List UInt8) : l.all digB = true → 1 ≤ l.length → (l.head? = some 48 → l.length = 1) → digN (decV l) = l ∧ (l.head? ≠ some 48 → 1 ≤ decV l) := by
  have key : ∀ r : List UInt8, r.all digB = true → 1 ≤ r.length → (r.reverse.head? = some 48 → r.length = 1) → digN (decV r.reverse) = r.reverse ∧ (r.reverse.head? ≠ some 48 → 1 ≤ decV r.reverse) := by
    intro r
    induction r with
    | nil => intro _ h; simp at h
    | cons c r ih =>
      intro ha hl hh
      simp only [List.all_cons, Bool.and_eq_true] at ha
      have hc := ha.1
      have hc' := hc
      unfold digB at hc'
      simp at hc'
      rw [List.reverse_cons, decV_snoc] at *
      cases r with
      | nil =>
        have hr : c.toNat - 48 < 10 := by omega
        simp only [List.reverse_nil, List.nil_append, decV_nil, Nat.mul_zero, Nat.zero_add]
        refine ⟨by rw [digN_small hr, dig_back hc], ?_⟩
        intro hne
        by_cases e : c.toNat = 48
        · exfalso; apply hne; simp; exact UInt8.toNat_inj.1 (by simpa using e)
        · omega
      | cons d r =>
        have hhd : ((d :: r).reverse ++ [c]).head? = (d :: r).reverse.head? := by
          cases hx : (d :: r).reverse with
          | nil => simp at hx
          | cons x xs => rfl
        rw [hhd] at hh ⊢
        have hne : (d :: r).reverse.head? ≠ some 48 := by
          intro e
          have := hh e
          simp at this
        obtain ⟨g1, g2⟩ := ih ha.2 (by simp) (fun e => absurd e hne)
        have g3 := g2 hne
        refine ⟨?_, fun _ => by omega⟩
        rw [digN_great (by omega)]
        have e1 : (10 * decV (d :: r).reverse + (c.toNat - 48)) / 10 = decV (d :: r).reverse := by omega
        have e2 : (10 * decV (d :: r).reverse + (c.toNat - 48)) % 10 = c.toNat - 48 := by omega
        rw [e1, e2, g1, dig_back hc]
  intro h1 h2 h3
  have := key l.reverse (by simpa using h1) (by simpa using h2) (by simpa using h3)
  simpa using this

theorem bare_cases (l : List UInt8) : (l.head? = some 45 ∧ l = 45 :: bare l) ∨ (l.head? ≠ some 45 ∧ bare l = l) := by
  unfold bare
  by_cases h : l.head? = some 45
  · left; rw [if_pos h]
    cases l with
    | nil => simp at h
    | cons c l => simp at h; subst h; simp
  · right; rw [if_neg h]; exact ⟨h, rfl⟩

theorem num_dig {l : List UInt8} (h : numB l = true) : digI (numV l) = l ∧ -9999999999 ≤ numV l ∧ numV l ≤ 9999999999 := by
  have hB := h
  unfold numB at h
  rw [Bool.and_eq_true, decide_eq_true_iff] at h
  obtain ⟨⟨h1, h2, h3⟩, h4⟩ := h
  have hle := decV_le h4
  have hpow : 10 ^ (bare l).length ≤ 10 ^ 10 := Nat.pow_le_pow_right (by omega) h2
  unfold numV
  rw [if_pos hB]
  rcases bare_cases l with ⟨a, b⟩ | ⟨a, b⟩
  · have hlen : l.length = (bare l).length + 1 := by rw [b]; simp [bare]
    rw [if_pos (by omega)]
    have hne : (bare l).head? ≠ some 48 := fun e => h3 ⟨e, by omega⟩
    obtain ⟨g1, g2⟩ := digN_decV (bare l) h4 h1 (fun e => absurd e hne)
    have g3 := g2 hne
    refine ⟨?_, by omega, by omega⟩
    unfold digI
    rw [if_pos (by omega)]
    have : (-(decV (bare l) : Int)).natAbs = decV (bare l) := by omega
    rw [this, g1]; exact b.symm
  · rw [b] at h1 h2 h3 h4 hle hpow ⊢
    rw [if_neg (by omega)]
    obtain ⟨g1, g2⟩ := digN_decV l h4 h1 (fun e => by
      have : ¬ 1 < l.length := fun g => h3 ⟨e, g⟩
      omega)
    refine ⟨?_, by omega, by omega⟩
    unfold digI
    rw [if_neg (by omega)]
    exact g1

/-- The document's own way: the digits of a word, whatever else stands in it. -/
def refF (l : List UInt8) : Nat := l.foldl (fun n c => if digB c then 10 * n + (c.toNat - 48) else n) 0
def refV (l : List UInt8) : Int := if l.head? = some 45 then -(refF l : Int) else refF l

theorem refF_snoc (l : List UInt8) (c : UInt8) : refF (l ++ [c]) = if digB c then 10 * refF l + (c.toNat - 48) else refF l := by simp [refF]

theorem refF_bd (l : List UInt8) : refF l < 10 ^ l.length := by
  have key : ∀ r : List UInt8, refF r.reverse < 10 ^ r.length := by
    intro r
    induction r with
    | nil => simp [refF]
    | cons c r ih =>
      rw [List.reverse_cons, refF_snoc, List.length_cons, Nat.pow_succ]
      split
      · rename_i h
        unfold digB at h
        simp at h
        omega
      · omega
  have := key l.reverse
  simpa using this

theorem refF_digits {l : List UInt8} (h : l.all digB = true) : refF l = decV l := by
  have key : ∀ r : List UInt8, r.all digB = true → refF r.reverse = decV r.reverse := by
    intro r
    induction r with
    | nil => intro _; rfl
    | cons c r ih =>
      intro h
      simp only [List.all_cons, Bool.and_eq_true] at h
      rw [List.reverse_cons, refF_snoc, decV_snoc, if_pos h.1, ih h.2]
  have := key l.reverse (by simpa using h)
  simpa using this

theorem refV_num {l : List UInt8} (h : numB l = true) : refV l = numV l := by
  have hB := h
  unfold numB at h
  rw [Bool.and_eq_true, decide_eq_true_iff] at h
  obtain ⟨⟨h1, h2, h3⟩, h4⟩ := h
  unfold refV numV
  rw [if_pos hB]
  rcases bare_cases l with ⟨a, b⟩ | ⟨a, b⟩
  · have hlen : l.length = (bare l).length + 1 := by rw [b]; simp [bare]
    rw [if_pos a, if_pos (by omega), ← refF_digits h4]
    congr 1
    have : refF (45 :: bare l) = refF (bare l) := by
      unfold refF; rw [List.foldl_cons]; rfl
    rw [← b] at this
    rw [this]
  · rw [if_neg a, b, if_neg (by omega), ← refF_digits (by rw [b] at h4; exact h4)]

/-- A word's number by the document, and whether it is one. -/
def refB (l : List UInt8) : Bool := decide (l.length ≤ 11) && (decide (-9999999999 ≤ refV l ∧ refV l ≤ 9999999999) && (digI (refV l) == l))

theorem refB_num (l : List UInt8) : refB l = numB l := by
  rw [Bool.eq_iff_iff]
  unfold refB
  rw [Bool.and_eq_true, Bool.and_eq_true, decide_eq_true_iff, decide_eq_true_iff, beq_iff_eq]
  constructor
  · rintro ⟨h1, ⟨h2, h3⟩, h4⟩
    have := (digI_num h2 h3).1
    rw [h4] at this; exact this
  · intro h
    obtain ⟨g1, g2, g3⟩ := num_dig h
    have hv := refV_num h
    refine ⟨?_, ⟨by omega, by omega⟩, by rw [hv]; exact g1⟩
    unfold numB at h
    rw [Bool.and_eq_true, decide_eq_true_iff] at h
    obtain ⟨⟨h1, h2, h3⟩, h4⟩ := h
    rcases bare_cases l with ⟨a, b⟩ | ⟨a, b⟩
    · have hlen : l.length = (bare l).length + 1 := by rw [b]; simp [bare]
      omega
    · rw [b] at h2; omega

theorem numV_no {l : List UInt8} (h : numB l = false) : numV l = 0 := by unfold numV; simp [h]
theorem numV_bd (l : List UInt8) : -9999999999 ≤ numV l ∧ numV l ≤ 9999999999 := by
  cases h : numB l with
  | true => exact (num_dig h).2
  | false => rw [numV_no h]; omega

end Go.Proofs.YtgklollpajhmlaaDoor
