/- Plain mathematics of an arena: clauses in one row of numbers, their places, what is wasted, what is packed. -/
namespace Go.Proofs.Ytbibbdkijgaoeaa

/-- A clause, and whether it was dropped. -/
abbrev Itm := List Int × Bool

def words : List Itm → Nat
  | [] => 0
  | it :: r => (2 + it.1.length) + words r

def kindI (g : Bool) : Int := if g then 1 else 0

def enc (it : Itm) : List Int := kindI it.2 :: (it.1.length : Int) :: it.1

def rowOf : List Itm → List Int
  | [] => []
  | it :: r => enc it ++ rowOf r

def plF : Nat → List Itm → List Int
  | _, [] => []
  | n, it :: r => if it.2 then plF (n + (2 + it.1.length)) r else (n : Int) :: plF (n + (2 + it.1.length)) r

def waste : List Itm → Nat
  | [] => 0
  | it :: r => (if it.2 then 2 + it.1.length else 0) + waste r

def keepL (L : List Itm) : List Itm := L.filter (fun it => !it.2)

/-- The index of the clause at a place; -1: none. -/
def atF : Nat → Nat → List Itm → Int → Int
  | _, _, [], _ => -1
  | n, k, it :: r, p => if (n : Int) = p ∧ it.2 = false then (k : Int) else atF (n + (2 + it.1.length)) (k + 1) r p

theorem enc_len (it : Itm) : (enc it).length = 2 + it.1.length := by simp [enc]; omega

theorem words_append (A R : List Itm) : words (A ++ R) = words A + words R := by
  induction A with
  | nil => simp [words]
  | cons a A ih => simp [words, ih]; omega

theorem rowOf_append (A R : List Itm) : rowOf (A ++ R) = rowOf A ++ rowOf R := by
  induction A with
  | nil => simp [rowOf]
  | cons a A ih => simp [rowOf, ih]

theorem rowOf_len (L : List Itm) : (rowOf L).length = words L := by
  induction L with
  | nil => rfl
  | cons a L ih => simp [rowOf, words, ih, enc_len]

theorem waste_append (A R : List Itm) : waste (A ++ R) = waste A + waste R := by
  induction A with
  | nil => simp [waste]
  | cons a A ih => simp [waste, ih]; omega

theorem waste_le (L : List Itm) : waste L ≤ words L := by
  induction L with
  | nil => exact Nat.le_refl _
  | cons a L ih => simp only [waste, words]; split <;> omega

theorem len_le_words (L : List Itm) : 2 * L.length ≤ words L := by
  induction L with
  | nil => exact Nat.le_refl _
  | cons a L ih => simp only [words, List.length_cons]; omega

theorem plF_append (A R : List Itm) (n : Nat) : plF n (A ++ R) = plF n A ++ plF (n + words A) R := by
  induction A generalizing n with
  | nil => simp [plF, words]
  | cons a A ih =>
    simp only [List.cons_append, plF, words]
    rw [ih, Nat.add_assoc]
    split <;> simp

theorem plF_bound (L : List Itm) (n : Nat) (p : Int) (h : p ∈ plF n L) : (n : Int) ≤ p ∧ p + 2 ≤ (n : Int) + words L := by
  induction L generalizing n with
  | nil => simp [plF] at h
  | cons a L ih =>
    simp only [plF] at h
    simp only [words]
    split at h
    · have := ih _ h; omega
    · rcases List.mem_cons.1 h with rfl | h
      · omega
      · have := ih _ h; omega

theorem plF_len (L : List Itm) (n : Nat) : (plF n L).length = (keepL L).length := by
  induction L generalizing n with
  | nil => rfl
  | cons a L ih =>
    simp only [plF, keepL, List.filter_cons]
    cases h : a.2
    · simp; exact ih _
    · simp; exact ih _

theorem plF_len_le (L : List Itm) (n : Nat) : (plF n L).length ≤ L.length := by
  rw [plF_len]; exact List.length_filter_le _ _

/-- A place of a kept clause parts the list there. -/
theorem plF_split (L : List Itm) (n : Nat) (p : Int) (h : p ∈ plF n L) : ∃ A it R, L = A ++ it :: R ∧ it.2 = false ∧ p = ((n + words A : Nat) : Int) := by
  induction L generalizing n with
  | nil => simp [plF] at h
  | cons a L ih =>
    simp only [plF] at h
    split at h
    · obtain ⟨A, it, R, rfl, h1, h2⟩ := ih _ h
      exact ⟨a :: A, it, R, rfl, h1, by rw [h2]; simp only [words]; omega⟩
    · rename_i hg
      rcases List.mem_cons.1 h with rfl | h
      · exact ⟨[], a, L, rfl, by simpa using hg, by simp [words]⟩
      · obtain ⟨A, it, R, rfl, h1, h2⟩ := ih _ h
        exact ⟨a :: A, it, R, rfl, h1, by rw [h2]; simp only [words]; omega⟩

theorem plF_mem (A R : List Itm) (it : Itm) (n : Nat) (h : it.2 = false) : ((n + words A : Nat) : Int) ∈ plF n (A ++ it :: R) := by
  rw [plF_append]; simp [plF, h]

theorem atF_split (A R : List Itm) (it : Itm) (n k : Nat) (h : it.2 = false) : atF n k (A ++ it :: R) ((n + words A : Nat) : Int) = ((k + A.length : Nat) : Int) := by
  induction A generalizing n k with
  | nil => simp [atF, words, h]
  | cons a A ih =>
    simp only [List.cons_append, atF, words, List.length_cons]
    rw [if_neg (by omega)]
    have := ih (n + (2 + a.1.length)) (k + 1)
    rw [show n + (2 + a.1.length + words A) = n + (2 + a.1.length) + words A by omega, this]
    omega

theorem atF_none (L : List Itm) (n k : Nat) (p : Int) (h : p ∉ plF n L) : atF n k L p = -1 := by
  induction L generalizing n k with
  | nil => rfl
  | cons a L ih =>
    simp only [plF] at h
    simp only [atF]
    cases hg : a.2
    · simp only [hg, Bool.false_eq_true, if_false, List.mem_cons, not_or] at h
      rw [if_neg (by intro e; exact h.1 e.1.symm)]
      exact ih _ _ h.2
    · simp only [hg, if_true] at h
      rw [if_neg (by simp)]
      exact ih _ _ h

/-- One step of the search. -/
theorem atF_hit {L : List Itm} {k : Nat} {p : Int} (hk : k < L.length) (h : (words (L.take k) : Int) = p) (hg : L[k].2 = false) : atF (words (L.take k)) k (L.drop k) p = k := by
  rw [List.drop_eq_getElem_cons hk]; simp [atF, h, hg]

theorem words_take_succ {L : List Itm} {k : Nat} (hk : k < L.length) : words (L.take (k + 1)) = words (L.take k) + 2 + L[k].1.length := by
  rw [List.take_succ_eq_append_getElem hk, words_append]; simp [words]; omega

theorem atF_miss {L : List Itm} {k : Nat} {p : Int} (hk : k < L.length) (h : ¬ ((words (L.take k) : Int) = p ∧ L[k].2 = false)) : atF (words (L.take k)) k (L.drop k) p = atF (words (L.take (k + 1))) (k + 1) (L.drop (k + 1)) p := by
  rw [List.drop_eq_getElem_cons hk, words_take_succ hk]; simp only [atF]; rw [if_neg h, Nat.add_assoc]

theorem words_take_le (L : List Itm) (k : Nat) : words (L.take k) ≤ words L := by
  have := words_append (L.take k) (L.drop k); rw [List.take_append_drop] at this; omega

theorem plF_take_keep {L : List Itm} {k : Nat} (hk : k < L.length) (hg : L[k].2 = false) : plF 0 (L.take (k + 1)) = plF 0 (L.take k) ++ [(words (L.take k) : Int)] := by
  rw [List.take_succ_eq_append_getElem hk, plF_append]; simp [plF, hg]
theorem plF_take_gone {L : List Itm} {k : Nat} (hk : k < L.length) (hg : L[k].2 = true) : plF 0 (L.take (k + 1)) = plF 0 (L.take k) := by
  rw [List.take_succ_eq_append_getElem hk, plF_append]; simp [plF, hg]
theorem waste_take {L : List Itm} {k : Nat} (hk : k < L.length) : waste (L.take (k + 1)) = waste (L.take k) + (if L[k].2 then 2 + L[k].1.length else 0) := by
  rw [List.take_succ_eq_append_getElem hk, waste_append]; simp [waste]
theorem waste_take_le (L : List Itm) (k : Nat) : waste (L.take k) ≤ words L := Nat.le_trans (waste_le _) (words_take_le L k)

theorem take_split {L : List Itm} {k : Nat} (hk : k < L.length) : L = L.take k ++ L[k] :: L.drop (k + 1) := by
  rw [← List.drop_eq_getElem_cons hk, List.take_append_drop]

/-! What stands in the row. -/
theorem rowOf_split (A R : List Itm) (it : Itm) : rowOf (A ++ it :: R) = rowOf A ++ (kindI it.2 :: (it.1.length : Int) :: (it.1 ++ rowOf R)) := by
  rw [rowOf_append]; simp [rowOf, enc]

theorem rowOf_kind (A R : List Itm) (it : Itm) : (rowOf (A ++ it :: R))[words A]? = some (kindI it.2) := by
  rw [rowOf_split, List.getElem?_append_right (by rw [rowOf_len]; exact Nat.le_refl _), rowOf_len]; simp
theorem rowOf_count (A R : List Itm) (it : Itm) : (rowOf (A ++ it :: R))[words A + 1]? = some (it.1.length : Int) := by
  rw [rowOf_split, List.getElem?_append_right (by rw [rowOf_len]; omega), rowOf_len]; simp
theorem rowOf_lit (A R : List Itm) (it : Itm) (i : Nat) (h : i < it.1.length) : (rowOf (A ++ it :: R))[words A + 2 + i]? = some it.1[i] := by
  rw [rowOf_split, List.getElem?_append_right (by rw [rowOf_len]; omega), rowOf_len]
  have e : words A + 2 + i - words A = i + 2 := by omega
  rw [e]; simp [List.getElem?_append_left h]

theorem rowOf_drop (A R : List Itm) (it : Itm) : (rowOf (A ++ it :: R)).set (words A) 1 = rowOf (A ++ (it.1, true) :: R) := by
  rw [rowOf_split, rowOf_split, List.set_append_right _ _ (by rw [rowOf_len]; exact Nat.le_refl _), rowOf_len]; simp [kindI]
theorem rowOf_set (A R : List Itm) (c : List Int) (g : Bool) (i : Nat) (v : Int) (h : i < c.length) : (rowOf (A ++ (c, g) :: R)).set (words A + 2 + i) v = rowOf (A ++ (c.set i v, g) :: R) := by
  rw [rowOf_split, rowOf_split, List.set_append_right _ _ (by rw [rowOf_len]; omega), rowOf_len]
  have e : words A + 2 + i - words A = i + 2 := by omega
  rw [e]; simp [List.set_append_left _ _ h]
theorem rowOf_snoc (L : List Itm) (c : List Int) : rowOf (L ++ [(c, false)]) = (rowOf L ++ [0, (c.length : Int)]) ++ c := by
  rw [rowOf_append]; simp [rowOf, enc, kindI]

theorem words_set (A R : List Itm) (it it' : Itm) (h : it'.1.length = it.1.length) : words (A ++ it' :: R) = words (A ++ it :: R) := by
  rw [words_append, words_append]; simp [words, h]

theorem plF_drop (A R : List Itm) (it : Itm) (h : it.2 = false) (p : Int) : p ∈ plF 0 (A ++ (it.1, true) :: R) ↔ p ∈ plF 0 (A ++ it :: R) ∧ p ≠ (words A : Int) := by
  rw [plF_append, plF_append]
  simp only [plF, h, List.mem_append, if_true, Bool.false_eq_true, if_false, List.mem_cons, Nat.zero_add]
  constructor
  · rintro (h1 | h1)
    · have := plF_bound _ _ _ h1; exact ⟨.inl h1, by omega⟩
    · have := plF_bound _ _ _ h1; exact ⟨.inr (.inr h1), by omega⟩
  · rintro ⟨h1 | h1 | h1, h2⟩
    · exact .inl h1
    · exact absurd h1 h2
    · exact .inr h1
theorem plF_drop_len (A R : List Itm) (it : Itm) (h : it.2 = false) : (plF 0 (A ++ (it.1, true) :: R)).length + 1 = (plF 0 (A ++ it :: R)).length := by
  rw [plF_append, plF_append]; simp [plF, h]; omega
theorem plF_swap (A R : List Itm) (c c' : List Int) (g : Bool) (h : c'.length = c.length) : plF 0 (A ++ (c', g) :: R) = plF 0 (A ++ (c, g) :: R) := by
  rw [plF_append, plF_append]; simp [plF, h]
theorem waste_drop (A R : List Itm) (it : Itm) (h : it.2 = false) : waste (A ++ (it.1, true) :: R) = waste (A ++ it :: R) + (2 + it.1.length) := by
  rw [waste_append, waste_append]; simp [waste, h]; omega
theorem waste_swap (A R : List Itm) (c c' : List Int) (g : Bool) (h : c'.length = c.length) : waste (A ++ (c', g) :: R) = waste (A ++ (c, g) :: R) := by
  rw [waste_append, waste_append]; simp [waste, h]
theorem plF_add (L : List Itm) (c : List Int) : plF 0 (L ++ [(c, false)]) = plF 0 L ++ [(words L : Int)] := by
  rw [plF_append]; simp [plF]
theorem waste_add (L : List Itm) (c : List Int) : waste (L ++ [(c, false)]) = waste L := by rw [waste_append]; simp [waste]
theorem words_add (L : List Itm) (c : List Int) : words (L ++ [(c, false)]) = words L + 2 + c.length := by rw [words_append]; simp [words]; omega
theorem not_place_end (L : List Itm) : (words L : Int) ∉ plF 0 L := fun h => by have := plF_bound _ _ _ h; omega

/-! Packed. -/
theorem keepL_append (A R : List Itm) : keepL (A ++ R) = keepL A ++ keepL R := by simp [keepL]
theorem keepL_le (L : List Itm) : words (keepL L) ≤ words L := by
  induction L with
  | nil => exact Nat.le_refl _
  | cons a L ih =>
    rw [show a :: L = [a] ++ L from rfl, keepL_append, words_append, words_append]
    have : words (keepL [a]) ≤ words [a] := by cases h : a.2 <;> simp [keepL, h, words]
    omega
theorem keepL_kept (L : List Itm) : ∀ it ∈ keepL L, it.2 = false := by
  intro it h; have := (List.mem_filter.1 h).2; simpa using this
theorem keepL_idem (L : List Itm) : keepL (keepL L) = keepL L := by simp [keepL]
theorem waste_keepL (L : List Itm) : waste (keepL L) = 0 := by
  induction L with
  | nil => rfl
  | cons a L ih =>
    rw [show a :: L = [a] ++ L from rfl, keepL_append, waste_append, ih]
    cases h : a.2 <;> simp [keepL, h, waste]

theorem plF_gone (G : List Itm) (n : Nat) (h : ∀ it ∈ G, it.2 = true) : plF n G = [] := by
  induction G generalizing n with
  | nil => rfl
  | cons a G ih => simp [plF, h a (by simp), ih _ (fun it hi => h it (by simp [hi]))]
theorem keepL_gone (G : List Itm) (h : ∀ it ∈ G, it.2 = true) : keepL G = [] := by
  unfold keepL; rw [List.filter_eq_nil_iff]; intro a ha; simp [h a ha]

/-- What is left has a first kept clause, or none. -/
theorem first_kept (R : List Itm) : (∀ it ∈ R, it.2 = true) ∨ ∃ G it R', R = G ++ it :: R' ∧ (∀ g ∈ G, g.2 = true) ∧ it.2 = false := by
  induction R with
  | nil => exact .inl (fun _ h => by simp at h)
  | cons a R ih =>
    cases ha : a.2
    · exact .inr ⟨[], a, R, rfl, fun _ h => by simp at h, ha⟩
    · rcases ih with h | ⟨G, it, R', rfl, h1, h2⟩
      · exact .inl (fun it hi => by rcases List.mem_cons.1 hi with rfl | hi; exact ha; exact h it hi)
      · exact .inr ⟨a :: G, it, R', rfl, fun g hg => by rcases List.mem_cons.1 hg with rfl | hg; exact ha; exact h1 g hg, h2⟩

/-- Where the clauses stood and stand. -/
def movesOf (L : List Itm) : List (Int × Int) := (plF 0 L).zip (plF 0 (keepL L))

theorem movesOf_len (L : List Itm) : (movesOf L).length = (plF 0 L).length := by
  unfold movesOf; rw [List.length_zip, plF_len, plF_len, keepL_idem, Nat.min_self]

theorem words_le_of_mem {L : List Itm} {it : Itm} (h : it ∈ L) : 2 + it.1.length ≤ words L := by
  induction L with
  | nil => simp at h
  | cons a L ih => simp only [words]; rcases List.mem_cons.1 h with rfl | h; omega; have := ih h; omega

end Go.Proofs.Ytbibbdkijgaoeaa
