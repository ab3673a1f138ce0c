/- What the document's fifth layer says of proofs as bytes: a literal's number and its bytes, a proof's bytes, what is decoded of bytes, or where they are wrong; plain functions on lists, no program is named here. -/
import Derived.Test.YtgklollpajhmlaaPlainV
set_option linter.unusedVariables false
set_option linter.unusedSimpArgs false
namespace Go.Proofs.Ytgklollpajhmlaa

/-- A literal's number. -/
def nbI (l : Int) : Nat := if l < 0 then 2 * l.natAbs + 1 else 2 * l.natAbs

/-- A number's bytes, at most f behind the first. -/
def bytF : Nat → Nat → List UInt8
  | 0, n => [UInt8.ofNat n]
  | f + 1, n => if n < 128 then [UInt8.ofNat n] else UInt8.ofNat (n % 128 + 128) :: bytF f (n / 128)

/-- A literal's bytes. -/
def bytL (l : Int) : List UInt8 := bytF 3 (nbI l)

/-- How many bytes a literal takes. -/
def sizeN (l : Int) : Nat := if litB l 1048576 = true then (bytL l).length else 0

/-- The number of bytes. -/
def valB : List UInt8 → Nat
  | [] => 0
  | c :: r => c.toNat % 128 + 128 * valB r

/-- The literal of a number. -/
def litOf (n : Nat) : Int := if n % 2 = 1 then -((n / 2 : Nat) : Int) else ((n / 2 : Nat) : Int)

/-- All bytes but the last tell that more follow. -/
def formB : List UInt8 → Bool
  | [] => false
  | c :: r => if r = [] then decide (c.toNat < 128) else decide (128 ≤ c.toNat) && formB r

theorem bytF_ne : ∀ (f n : Nat), bytF f n ≠ []
  | 0, n => by simp [bytF]
  | f + 1, n => by unfold bytF; split <;> simp

theorem ofNat_toNat {n : Nat} (h : n < 256) : (UInt8.ofNat n).toNat = n := by
  simp; omega

theorem u8_ofNat {c : UInt8} {n : Nat} (h : c.toNat = n) : c = UInt8.ofNat n := by
  subst h; simp

theorem bytF_form : ∀ (f n : Nat), n < 128 ^ (f + 1) → formB (bytF f n) = true
  | 0, n, h => by
    have : n < 128 := by simpa using h
    simp only [bytF, formB, if_true, decide_eq_true_eq]
    rw [ofNat_toNat (by omega)]; exact this
  | f + 1, n, h => by
    unfold bytF
    by_cases hn : n < 128
    · rw [if_pos hn]
      simp only [formB, if_true, decide_eq_true_eq]
      rw [ofNat_toNat (by omega)]; exact hn
    · rw [if_neg hn]
      have ih := bytF_form f (n / 128) (by rw [Nat.pow_succ] at h; omega)
      simp only [formB, if_neg (bytF_ne f (n / 128)), ih, Bool.and_true, decide_eq_true_eq]
      rw [ofNat_toNat (by omega)]; omega

theorem bytF_val : ∀ (f n : Nat), n < 128 ^ (f + 1) → valB (bytF f n) = n
  | 0, n, h => by
    have : n < 128 := by simpa using h
    simp only [bytF, valB]
    rw [ofNat_toNat (by omega)]; omega
  | f + 1, n, h => by
    unfold bytF
    by_cases hn : n < 128
    · rw [if_pos hn]
      simp only [valB]
      rw [ofNat_toNat (by omega)]; omega
    · rw [if_neg hn]
      have ih := bytF_val f (n / 128) (by rw [Nat.pow_succ] at h; omega)
      simp only [valB, ih]
      rw [ofNat_toNat (by omega)]; omega

theorem bytF_len : ∀ (f n : Nat), 1 ≤ (bytF f n).length ∧ (bytF f n).length ≤ f + 1
  | 0, n => by simp [bytF]
  | f + 1, n => by
    unfold bytF
    by_cases hn : n < 128
    · rw [if_pos hn]; simp
    · rw [if_neg hn]
      have ih := bytF_len f (n / 128)
      simp only [List.length_cons]; omega

theorem form_cons {c : UInt8} {r : List UInt8} (h : formB (c :: r) = true) (hr : r ≠ []) : 128 ≤ c.toNat ∧ formB r = true := by
  simp only [formB, if_neg hr, Bool.and_eq_true, decide_eq_true_eq] at h
  exact h

theorem form_one {c : UInt8} (h : formB [c] = true) : c.toNat < 128 := by
  simpa [formB] using h

/-- Bytes of that number that are as many are these. -/
theorem bytF_unique : ∀ (f n : Nat) (u : List UInt8), n < 128 ^ (f + 1) → formB u = true → valB u = n → u.length = (bytF f n).length → u = bytF f n
  | 0, n, u, h, hf, hv, hl => by
    have hn : n < 128 := by simpa using h
    simp only [bytF, List.length_singleton] at hl ⊢
    obtain ⟨c, rfl⟩ := List.length_eq_one_iff.1 hl
    have hc := form_one hf
    simp only [valB] at hv
    rw [u8_ofNat (c := c) (n := n) (by omega)]
  | f + 1, n, u, h, hf, hv, hl => by
    unfold bytF at hl ⊢
    by_cases hn : n < 128
    · rw [if_pos hn] at hl ⊢
      obtain ⟨c, rfl⟩ := List.length_eq_one_iff.1 hl
      have hc := form_one hf
      simp only [valB] at hv
      rw [u8_ofNat (c := c) (n := n) (by omega)]
    · rw [if_neg hn] at hl ⊢
      cases u with
      | nil => simp at hl
      | cons c r =>
        simp only [List.length_cons] at hl
        have hr : r ≠ [] := by
          intro e; subst e
          have := (bytF_len f (n / 128)).1
          simp only [List.length_nil] at hl; omega
        obtain ⟨hc, hfr⟩ := form_cons hf hr
        simp only [valB] at hv
        have hcl := c.toNat_lt
        rw [bytF_unique f (n / 128) r (by rw [Nat.pow_succ] at h; omega) hfr (by omega) (by omega), u8_ofNat (c := c) (n := n % 128 + 128) (by omega)]

theorem nbI_bd {l : Int} (h : litB l 1048576 = true) : 2 ≤ nbI l ∧ nbI l ≤ 2097153 := by
  have := litB_true.1 h
  unfold nbI
  split <;> omega

theorem litOf_nbI (l : Int) (h : l ≠ 0) : litOf (nbI l) = l := by
  unfold nbI litOf
  split
  · rw [if_pos (by omega)]; omega
  · rw [if_neg (by omega)]; omega

theorem nbI_litOf {n : Nat} (h : litOf n ≠ 0) : nbI (litOf n) = n := by
  unfold litOf at h ⊢
  split at h
  · rename_i e
    rw [if_pos e]
    unfold nbI
    rw [if_pos (by omega)]; omega
  · rename_i e
    rw [if_neg e]
    unfold nbI
    rw [if_neg (by omega)]; omega

theorem bytL_len (l : Int) : 1 ≤ (bytL l).length ∧ (bytL l).length ≤ 4 := bytF_len 3 _

theorem sizeN_le (l : Int) : sizeN l ≤ 4 := by
  unfold sizeN
  have := (bytL_len l).2
  split <;> omega

/-- The literal that bytes are, and how many they are: none (0, 0), if they are no literal's as they must be. -/
def finT (u : List UInt8) : Int × Nat := if litB (litOf (valB u)) 1048576 = true ∧ bytL (litOf (valB u)) = u then (litOf (valB u), u.length) else (0, 0)

/-- Told by how many bytes the literal takes. -/
theorem finT_size {u : List UInt8} (hf : formB u = true) : finT u = if sizeN (litOf (valB u)) = u.length then (litOf (valB u), u.length) else (0, 0) := by
  have hu : 0 < u.length := by cases u with
    | nil => simp [formB] at hf
    | cons c r => simp
  unfold finT
  by_cases hl : litB (litOf (valB u)) 1048576 = true
  · have hne := (litB_true.1 hl).1
    have hb := nbI_bd hl
    have e := nbI_litOf hne
    have hs : sizeN (litOf (valB u)) = (bytL (litOf (valB u))).length := by unfold sizeN; rw [if_pos hl]
    by_cases h : bytL (litOf (valB u)) = u
    · rw [if_pos ⟨hl, h⟩, if_pos (by rw [hs, h])]
    · rw [if_neg (fun x => h x.2), if_neg]
      intro h2
      apply h
      rw [hs] at h2
      unfold bytL at h2 ⊢
      rw [e] at h2 hb ⊢
      exact (bytF_unique 3 _ u (by omega) hf rfl h2.symm).symm
  · rw [if_neg (fun x => hl x.1), if_neg]
    unfold sizeN
    rw [if_neg hl]; omega

/-- The literal at the beginning of bytes: with its bytes so far, and how many more may be. -/
def tkF : Nat → List UInt8 → List UInt8 → Int × Nat
  | 0, _, _ => (0, 0)
  | _ + 1, _, [] => (0, 0)
  | f + 1, u, c :: r => if c.toNat < 128 then finT (u ++ [c]) else tkF f (u ++ [c]) r

def tk (t : List UInt8) : Int × Nat := tkF 4 [] t

theorem finT_long {u : List UInt8} (h : 4 < u.length) : finT u = (0, 0) := by
  unfold finT
  rw [if_neg]
  rintro ⟨_, h2⟩
  have := (bytL_len (litOf (valB u))).2
  rw [h2] at this
  omega

/-- One byte more makes no literal. -/
theorem tkF_more : ∀ (f : Nat) (u t : List UInt8), u.length + f = 4 → tkF (f + 1) u t = tkF f u t
  | 0, u, [], h => rfl
  | 0, u, c :: r, h => by
    simp only [tkF]
    split
    · exact finT_long (by simp; omega)
    · rfl
  | f + 1, u, [], h => rfl
  | f + 1, u, c :: r, h => by
    rw [show tkF (f + 1 + 1) u (c :: r) = if c.toNat < 128 then finT (u ++ [c]) else tkF (f + 1) (u ++ [c]) r from rfl]
    rw [show tkF (f + 1) u (c :: r) = if c.toNat < 128 then finT (u ++ [c]) else tkF f (u ++ [c]) r from rfl]
    rw [tkF_more f (u ++ [c]) r (by simp; omega)]

theorem tk_five (t : List UInt8) : tkF 5 [] t = tk t := tkF_more 4 [] t rfl

/-- How many bytes are taken. -/
theorem tkF_le : ∀ (f : Nat) (u t : List UInt8), (tkF f u t).2 ≤ u.length + t.length
  | 0, u, t => by simp [tkF]
  | f + 1, u, [] => by simp [tkF]
  | f + 1, u, c :: r => by
    simp only [tkF]
    split
    · unfold finT
      split <;> simp
    · have := tkF_le f (u ++ [c]) r
      simp at this ⊢; omega

theorem tk_le (t : List UInt8) : (tk t).2 ≤ t.length := by
  have := tkF_le 4 [] t
  simpa [tk] using this

/-- Bytes that are a literal's are taken. -/
theorem tkF_form : ∀ (v : List UInt8) (f : Nat) (u r : List UInt8), formB v = true → v.length ≤ f → tkF f u (v ++ r) = finT (u ++ v)
  | [], f, u, r, hf, _ => by simp [formB] at hf
  | [c], 0, u, r, hf, hl => by simp at hl
  | [c], f + 1, u, r, hf, hl => by
    have := form_one hf
    simp only [List.cons_append, List.nil_append, tkF, if_pos this]
  | c :: d :: v, 0, u, r, hf, hl => by simp at hl
  | c :: d :: v, f + 1, u, r, hf, hl => by
    obtain ⟨hc, hr⟩ := form_cons hf (by simp)
    rw [List.cons_append]
    show (if c.toNat < 128 then finT (u ++ [c]) else tkF f (u ++ [c]) (d :: v ++ r)) = _
    rw [if_neg (by omega), tkF_form (d :: v) f (u ++ [c]) r hr (by simp at hl ⊢; omega)]
    simp

theorem tk_lit {l : Int} (h : litB l 1048576 = true) (r : List UInt8) : tk (bytL l ++ r) = (l, (bytL l).length) := by
  have hb := nbI_bd h
  have hf := bytF_form 3 (nbI l) (by omega)
  have hv := bytF_val 3 (nbI l) (by omega)
  have hne := (litB_true.1 h).1
  unfold tk
  rw [tkF_form (bytL l) 4 [] r hf (bytL_len l).2, List.nil_append]
  unfold finT
  have e : litOf (valB (bytL l)) = l := by unfold bytL; rw [hv]; exact litOf_nbI l hne
  rw [e, if_pos ⟨h, rfl⟩]

theorem bytL_head {l : Int} (h : litB l 1048576 = true) : ∃ c r, bytL l = c :: r ∧ c ≠ 0 := by
  have hb := nbI_bd h
  unfold bytL bytF
  by_cases hn : nbI l < 128
  · rw [if_pos hn]
    refine ⟨_, _, rfl, ?_⟩
    intro e
    have := congrArg UInt8.toNat e
    rw [ofNat_toNat (by omega)] at this
    simp at this; omega
  · rw [if_neg hn]
    refine ⟨_, _, rfl, ?_⟩
    intro e
    have := congrArg UInt8.toNat e
    rw [ofNat_toNat (by omega)] at this
    simp at this

/-- What is told of a clause's bytes: what is wrong, the place (behind its end), its literals. -/
abbrev Cla := Int × Nat × List Int

/-- A clause's bytes are read: so many bytes are still to be passed by; its literals so far; the place behind those bytes. -/
def clP : Nat → List Int → Nat → List UInt8 → Cla
  | _, _, p, [] => (2, p, [])
  | k + 1, c, p, _ :: r => clP k c p r
  | 0, c, p, b :: r => if b = 0 then (0, p + 1, c) else if (tk (b :: r)).2 = 0 then (2, p, []) else if c.length = 4096 then (3, p, []) else
      clP ((tk (b :: r)).2 - 1) (c ++ [(tk (b :: r)).1]) (p + (tk (b :: r)).2) r

theorem clP_skip : ∀ (r : List UInt8) (k : Nat) (c : List Int) (p : Nat), clP k c p r = clP 0 c p (r.drop k)
  | [], k, c, p => by simp [clP]
  | b :: r, 0, c, p => by simp
  | b :: r, k + 1, c, p => by
    rw [List.drop_succ_cons, ← clP_skip r k c p]
    rfl

theorem clP_nil (c : List Int) (p : Nat) : clP 0 c p [] = (2, p, []) := rfl

theorem clP_cons (c : List Int) (p : Nat) (b : UInt8) (r : List UInt8) : clP 0 c p (b :: r) = if b = 0 then (0, p + 1, c) else if (tk (b :: r)).2 = 0 then (2, p, []) else if c.length = 4096 then (3, p, []) else
      clP 0 (c ++ [(tk (b :: r)).1]) (p + (tk (b :: r)).2) ((b :: r).drop (tk (b :: r)).2) := by
  rw [clP]
  by_cases hb : b = 0
  · rw [if_pos hb, if_pos hb]
  rw [if_neg hb, if_neg hb]
  by_cases h0 : (tk (b :: r)).2 = 0
  · rw [if_pos h0, if_pos h0]
  rw [if_neg h0, if_neg h0]
  by_cases h4 : c.length = 4096
  · rw [if_pos h4, if_pos h4]
  rw [if_neg h4, if_neg h4, clP_skip]
  obtain ⟨m, hm⟩ : ∃ m, (tk (b :: r)).2 = m + 1 := ⟨(tk (b :: r)).2 - 1, by omega⟩
  rw [hm, List.drop_succ_cons, Nat.add_sub_cancel]

/-- Where a clause ends. -/
theorem clP_end : ∀ (n : Nat) (r : List UInt8) (c : List Int) (p : Nat), r.length ≤ n → (clP 0 c p r).1 = 0 → p + 1 ≤ (clP 0 c p r).2.1 ∧ (clP 0 c p r).2.1 ≤ p + r.length
  | _, [], c, p, _, h => by simp [clP_nil] at h
  | 0, b :: r, c, p, hn, h => by simp at hn
  | n + 1, b :: r, c, p, hn, h => by
    rw [clP_cons] at h ⊢
    by_cases hb : b = 0
    · rw [if_pos hb] at h ⊢; simp
    rw [if_neg hb] at h ⊢
    by_cases h0 : (tk (b :: r)).2 = 0
    · rw [if_pos h0] at h; simp at h
    rw [if_neg h0] at h ⊢
    by_cases h4 : c.length = 4096
    · rw [if_pos h4] at h; simp at h
    rw [if_neg h4] at h ⊢
    have hle := tk_le (b :: r)
    have hd : ((b :: r).drop (tk (b :: r)).2).length = (b :: r).length - (tk (b :: r)).2 := List.length_drop
    have ih := clP_end n ((b :: r).drop (tk (b :: r)).2) (c ++ [(tk (b :: r)).1]) (p + (tk (b :: r)).2) (by rw [hd]; simp only [List.length_cons] at hn ⊢; omega) h
    rw [hd] at ih
    omega

/-- No clause has too many literals. -/
theorem clP_wide : ∀ (n : Nat) (r : List UInt8) (c : List Int) (p : Nat), r.length ≤ n → c.length ≤ 4096 → (clP 0 c p r).2.2.length ≤ 4096
  | _, [], c, p, _, h => by simp [clP_nil]
  | 0, b :: r, c, p, hn, h => by simp at hn
  | n + 1, b :: r, c, p, hn, h => by
    rw [clP_cons]
    by_cases hb : b = 0
    · rw [if_pos hb]; exact h
    rw [if_neg hb]
    by_cases h0 : (tk (b :: r)).2 = 0
    · rw [if_pos h0]; simp
    rw [if_neg h0]
    by_cases h4 : c.length = 4096
    · rw [if_pos h4]; simp
    rw [if_neg h4]
    have hle := tk_le (b :: r)
    refine clP_wide n _ _ _ ?_ (by simp; omega)
    rw [List.length_drop]
    simp only [List.length_cons] at hn ⊢; omega

/-- Bytes are decoded: so many bytes are still to be passed by; the steps so far; the place behind those bytes. -/
def dcP : Nat → List Stp → Nat → List UInt8 → Ans
  | _, s, _, [] => (0, 0, s)
  | k + 1, s, p, _ :: r => dcP k s p r
  | 0, s, p, b :: r => if b ≠ 97 ∧ b ≠ 100 then (2, p, []) else if s.length = 262144 then (3, p, []) else if (clP 0 [] (p + 1) r).1 ≠ 0 then ((clP 0 [] (p + 1) r).1, (clP 0 [] (p + 1) r).2.1, []) else
      dcP ((clP 0 [] (p + 1) r).2.1 - (p + 1)) (s ++ [(b == 100, (clP 0 [] (p + 1) r).2.2)]) (clP 0 [] (p + 1) r).2.1 r

theorem dcP_skip : ∀ (r : List UInt8) (k : Nat) (s : List Stp) (p : Nat), dcP k s p r = dcP 0 s p (r.drop k)
  | [], k, s, p => by simp [dcP]
  | b :: r, 0, s, p => by simp
  | b :: r, k + 1, s, p => by
    rw [List.drop_succ_cons, ← dcP_skip r k s p]
    rfl

theorem dcP_nil (s : List Stp) (p : Nat) : dcP 0 s p [] = (0, 0, s) := rfl

theorem dcP_cons (s : List Stp) (p : Nat) (b : UInt8) (r : List UInt8) : dcP 0 s p (b :: r) = if b ≠ 97 ∧ b ≠ 100 then (2, p, []) else if s.length = 262144 then (3, p, []) else if (clP 0 [] (p + 1) r).1 ≠ 0 then ((clP 0 [] (p + 1) r).1, (clP 0 [] (p + 1) r).2.1, []) else
      dcP 0 (s ++ [(b == 100, (clP 0 [] (p + 1) r).2.2)]) (clP 0 [] (p + 1) r).2.1 ((b :: r).drop ((clP 0 [] (p + 1) r).2.1 - p)) := by
  rw [dcP]
  by_cases hb : b ≠ 97 ∧ b ≠ 100
  · rw [if_pos hb, if_pos hb]
  rw [if_neg hb, if_neg hb]
  by_cases h0 : s.length = 262144
  · rw [if_pos h0, if_pos h0]
  rw [if_neg h0, if_neg h0]
  by_cases h4 : (clP 0 [] (p + 1) r).1 ≠ 0
  · rw [if_pos h4, if_pos h4]
  rw [if_neg h4, if_neg h4, dcP_skip]
  have he := clP_end r.length r [] (p + 1) (Nat.le_refl _) (by simpa using h4)
  obtain ⟨m, hm⟩ : ∃ m, (clP 0 [] (p + 1) r).2.1 - p = m + 1 := ⟨(clP 0 [] (p + 1) r).2.1 - (p + 1), by omega⟩
  rw [hm, List.drop_succ_cons, show (clP 0 [] (p + 1) r).2.1 - (p + 1) = m by omega]

/-- A proof's bytes. -/
def litsY (c : List Int) : List UInt8 := c.flatMap bytL
def stepY (s : Stp) : List UInt8 := (if s.1 then 100 else 97) :: (litsY s.2 ++ [0])
def encY (l : List Stp) : List UInt8 := l.flatMap stepY

theorem litsY_snoc {c : List Int} {k : Nat} (h : k < c.length) : litsY (c.take (k + 1)) = litsY (c.take k) ++ bytL c[k] := by
  unfold litsY
  rw [List.take_succ_eq_append_getElem h, List.flatMap_append]
  simp
theorem encY_snoc {l : List Stp} {k : Nat} (h : k < l.length) : encY (l.take (k + 1)) = encY (l.take k) ++ stepY l[k] := by
  unfold encY
  rw [List.take_succ_eq_append_getElem h, List.flatMap_append]
  simp
theorem litsY_len : ∀ (c : List Int), (litsY c).length ≤ 4 * c.length
  | [] => by simp [litsY]
  | l :: c => by
    have := litsY_len c
    have := (bytL_len l).2
    unfold litsY at *
    rw [List.flatMap_cons, List.length_append, List.length_cons]; omega

/-- What is encoded is decoded: a clause. -/
theorem clP_lits : ∀ (d : List Int) (c : List Int) (p : Nat) (r : List UInt8), (∀ l ∈ d, litB l 1048576 = true) → c.length + d.length ≤ 4096 → clP 0 c p (litsY d ++ 0 :: r) = (0, p + (litsY d).length + 1, c ++ d)
  | [], c, p, r, _, _ => by simp [litsY, clP_cons]
  | l :: d, c, p, r, h, hl => by
    have hl0 := h l (by simp)
    obtain ⟨b, v, e, hb⟩ := bytL_head hl0
    have e2 : litsY (l :: d) ++ 0 :: r = b :: (v ++ (litsY d ++ 0 :: r)) := by
      unfold litsY; simp [e]
    have e3 : b :: (v ++ (litsY d ++ 0 :: r)) = bytL l ++ (litsY d ++ 0 :: r) := by rw [e]; rfl
    have hlen : 1 ≤ (bytL l).length := (bytL_len l).1
    simp only [List.length_cons] at hl
    rw [e2, clP_cons, if_neg hb, e3, tk_lit hl0, if_neg (by simp only; omega), if_neg (by omega), List.drop_left]
    rw [clP_lits d (c ++ [l]) (p + (bytL l).length) r (fun x hx => h x (by simp [hx])) (by simp; omega)]
    have e4 : (litsY (l :: d)).length = (bytL l).length + (litsY d).length := by unfold litsY; simp
    rw [e4]
    simp [Nat.add_assoc]

/-- What is encoded is decoded. -/
theorem dcP_enc : ∀ (l : List Stp) (s : List Stp) (p : Nat), (∀ x ∈ l, mayB x.2 1048576 = true) → s.length + l.length ≤ 262144 → dcP 0 s p (encY l) = (0, 0, s ++ l)
  | [], s, p, _, _ => by simp [encY, dcP_nil]
  | x :: l, s, p, h, hl => by
    have hx := h x (by simp)
    have e2 : encY (x :: l) = (if x.1 then 100 else 97) :: (litsY x.2 ++ 0 :: encY l) := by
      unfold encY stepY; simp
    have hc := clP_lits x.2 [] (p + 1) (encY l) (mayB_lit hx) (by simpa using mayB_len hx)
    simp only [List.length_cons] at hl
    rw [e2, dcP_cons, hc]
    have hbb : ¬ ((if x.1 then (100 : UInt8) else 97) ≠ 97 ∧ (if x.1 then (100 : UInt8) else 97) ≠ 100) := by
      cases x.1 <;> simp
    have hbe : ((if x.1 then (100 : UInt8) else 97) == 100) = x.1 := by
      cases x.1 <;> decide
    rw [if_neg hbb, if_neg (by omega), if_neg (by simp), hbe]
    have e5 : p + 1 + (litsY x.2).length + 1 - p = (litsY x.2 ++ [0]).length + 1 := by simp; omega
    have e6 : litsY x.2 ++ 0 :: encY l = (litsY x.2 ++ [0]) ++ encY l := by simp
    simp only
    rw [e5, List.drop_succ_cons, e6, List.drop_left]
    rw [dcP_enc l (s ++ [(x.1, [] ++ x.2)]) _ (fun y hy => h y (by simp [hy])) (by simp; omega)]
    simp

/-- Which bytes can be in a text. -/
def ofT (c : UInt8) : Bool := c == 32 || c == 9 || c == 10 || c == 13 || c == 45 || c == 100 || (decide (48 ≤ c.toNat) && decide (c.toNat ≤ 57))

/-- Which a file is. -/
def binB (t : List UInt8) : Bool := (t.take 10).any (fun c => !ofT c)

/-- What is loaded. -/
def loadP (t : List UInt8) : Ans := if binB t = true then dcP 0 [] 0 t else readP Rs.zero 0 [] t

theorem load_enc {l : List Stp} (h : mayL l = true) (h0 : ∀ x r, l = x :: r → x.1 = false) : loadP (encY l) = (0, 0, l) := by
  unfold mayL at h
  rw [Bool.and_eq_true, List.all_eq_true] at h
  have hd := dcP_enc l [] 0 h.2 (by simpa using of_decide_eq_true h.1)
  unfold loadP
  cases l with
  | nil =>
    have e : encY [] = [] := rfl
    rw [e]
    decide
  | cons x r =>
    have hx := h0 x r rfl
    have hb : binB (encY (x :: r)) = true := by
      unfold encY stepY binB
      rw [List.flatMap_cons, hx]
      simp [ofT]
    rw [if_pos hb, hd]
    rfl

theorem dec_enc {l : List Stp} (h : mayL l = true) : dcP 0 [] 0 (encY l) = (0, 0, l) := by
  unfold mayL at h
  rw [Bool.and_eq_true, List.all_eq_true] at h
  exact dcP_enc l [] 0 h.2 (by simpa using of_decide_eq_true h.1)

end Go.Proofs.Ytgklollpajhmlaa
