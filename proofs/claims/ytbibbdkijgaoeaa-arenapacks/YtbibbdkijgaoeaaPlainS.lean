/- Plain mathematics of packing: what the row, the places and the moves are round by round. -/
import Derived.Test.YtbibbdkijgaoeaaPlainR
namespace Go.Proofs.Ytbibbdkijgaoeaa

theorem pack_row {A G R : List Itm} {it : Itm} {mid : List Int} (hm : mid.length + words (keepL A) = words A) (hG : ∀ g ∈ G, g.2 = true) (hit : it.2 = false) :
    ∃ mid', mid'.length + words (keepL (A ++ G ++ [it])) = words (A ++ G ++ [it]) ∧
      (rowOf (keepL A) ++ (mid ++ rowOf (G ++ it :: R))).take (words (keepL A)) ++ (enc it ++ (rowOf (keepL A) ++ (mid ++ rowOf (G ++ it :: R))).drop (words (keepL A) + (enc it).length)) = rowOf (keepL (A ++ G ++ [it])) ++ (mid' ++ rowOf R) := by
  have hk : keepL (A ++ G ++ [it]) = keepL A ++ [it] := by rw [keepL_append, keepL_append, keepL_gone G hG]; simp [keepL, hit]
  have hl := rowOf_len (keepL A)
  refine ⟨(mid ++ rowOf G ++ enc it).drop (enc it).length, ?_, ?_⟩
  · rw [hk]
    simp only [List.length_drop, List.length_append, words_append, rowOf_len]
    simp only [words, enc_len]
    omega
  · rw [hk, rowOf_append, rowOf_append]
    rw [List.take_append_of_le_length (by omega), List.take_of_length_le (by omega)]
    rw [List.drop_append, List.drop_of_length_le (by omega), List.nil_append]
    rw [show words (keepL A) + (enc it).length - (rowOf (keepL A)).length = (enc it).length by omega]
    have e : mid ++ (rowOf G ++ rowOf (it :: R)) = (mid ++ rowOf G ++ enc it) ++ rowOf R := by simp [rowOf]
    rw [e, List.drop_append_of_le_length (by simp only [List.length_append]; omega)]
    simp [rowOf]

theorem pack_src {A G R : List Itm} {it : Itm} {mid : List Int} (hm : mid.length + words (keepL A) = words A) :
    ∃ P : List Int, P.length = words (A ++ G) ∧ rowOf (keepL A) ++ (mid ++ rowOf (G ++ it :: R)) = P ++ (enc it ++ rowOf R) := by
  refine ⟨rowOf (keepL A) ++ mid ++ rowOf G, ?_, ?_⟩
  · simp only [List.length_append, rowOf_len, words_append]; omega
  · rw [rowOf_append]; simp [rowOf]

theorem pack_place {A G R : List Itm} {it : Itm} (hG : ∀ g ∈ G, g.2 = true) (hit : it.2 = false) : (plF 0 (A ++ (G ++ it :: R)))[(plF 0 A).length]? = some ((words (A ++ G) : Nat) : Int) := by
  rw [plF_append, List.getElem?_append_right (Nat.le_refl _), Nat.sub_self, plF_append, plF_gone G _ hG, words_append]
  simp [plF, hit]

theorem pack_len {A G : List Itm} {it : Itm} (hG : ∀ g ∈ G, g.2 = true) (hit : it.2 = false) : (plF 0 (A ++ G ++ [it])).length = (plF 0 A).length + 1 := by
  rw [plF_append, plF_append, plF_gone G _ hG]; simp [plF, hit]

theorem keepL_step {A G : List Itm} {it : Itm} (hG : ∀ g ∈ G, g.2 = true) (hit : it.2 = false) : keepL (A ++ G ++ [it]) = keepL A ++ [it] := by
  rw [keepL_append, keepL_append, keepL_gone G hG]; simp [keepL, hit]

def mvs (A : List Itm) : List (Int × Int) := (plF 0 A).zip (plF 0 (keepL A))

theorem mvs_step {A G : List Itm} {it : Itm} (hG : ∀ g ∈ G, g.2 = true) (hit : it.2 = false) : mvs (A ++ G ++ [it]) = mvs A ++ [(((words (A ++ G) : Nat) : Int), ((words (keepL A) : Nat) : Int))] := by
  unfold mvs
  rw [keepL_step hG hit, plF_append, plF_append, plF_gone G _ hG, plF_append]
  simp only [List.append_nil, plF, hit, Bool.false_eq_true, if_false, Nat.zero_add]
  rw [List.zip_append (by rw [plF_len, plF_len, keepL_idem])]
  simp

theorem mvs_len (A : List Itm) : (mvs A).length = (plF 0 A).length := movesOf_len A

/-- The keys of the map while packing. -/
def keysOf (A R : List Itm) : List Int := plF 0 (keepL A) ++ plF (words A) R

theorem keys_start (L : List Itm) : keysOf [] L = plF 0 L := by simp [keysOf, keepL, plF, words]
theorem keys_end {A R : List Itm} (h : ∀ it ∈ R, it.2 = true) : keysOf A R = plF 0 (keepL (A ++ R)) := by
  unfold keysOf; rw [plF_gone R _ h, keepL_append, keepL_gone R h]; simp

theorem keys_mem {A G R : List Itm} {it : Itm} (hG : ∀ g ∈ G, g.2 = true) (hit : it.2 = false) : ((words (A ++ G) : Nat) : Int) ∈ keysOf A (G ++ it :: R) := by
  unfold keysOf; rw [plF_append, plF_gone G _ hG, words_append]; simp [plF, hit]

theorem keys_all {A G R : List Itm} {it : Itm} (hG : ∀ g ∈ G, g.2 = true) (hit : it.2 = false) : keysOf A (G ++ it :: R) = plF 0 (keepL A) ++ (((words (A ++ G) : Nat) : Int) :: plF (words (A ++ G ++ [it])) R) := by
  unfold keysOf
  rw [plF_append, plF_gone G _ hG, List.nil_append, ← words_append]
  simp only [plF, hit, Bool.false_eq_true, if_false]
  rw [words_append (A ++ G) [it]]
  simp [words]

theorem keys_next {A G R : List Itm} {it : Itm} (hG : ∀ g ∈ G, g.2 = true) (hit : it.2 = false) : keysOf (A ++ G ++ [it]) R = plF 0 (keepL A) ++ (((words (keepL A) : Nat) : Int) :: plF (words (A ++ G ++ [it])) R) := by
  unfold keysOf
  rw [keepL_step hG hit, plF_append]
  simp [plF, hit]

/-- Without the place that is left. -/
def keysMid (A G R : List Itm) (it : Itm) : List Int := plF 0 (keepL A) ++ plF (words (A ++ G ++ [it])) R

theorem keys_del {A G R : List Itm} {it : Itm} (hG : ∀ g ∈ G, g.2 = true) (hit : it.2 = false) : (keysMid A G R it).length + 1 = (keysOf A (G ++ it :: R)).length ∧ ∀ k, k ∈ keysMid A G R it ↔ k ∈ keysOf A (G ++ it :: R) ∧ k ≠ ((words (A ++ G) : Nat) : Int) := by
  rw [keys_all hG hit]
  refine ⟨by simp [keysMid]; omega, fun k => ?_⟩
  unfold keysMid
  simp only [List.mem_append, List.mem_cons]
  have hk := keepL_le A
  constructor
  · rintro (h | h)
    · have := plF_bound _ _ _ h; exact ⟨.inl h, by rw [words_append]; omega⟩
    · have := plF_bound _ _ _ h; exact ⟨.inr (.inr h), by rw [words_append (A ++ G) [it]] at this; simp only [words] at this; omega⟩
  · rintro ⟨h | h | h, h2⟩
    · exact .inl h
    · exact absurd h h2
    · exact .inr h

theorem keys_put {A G R : List Itm} {it : Itm} (hG : ∀ g ∈ G, g.2 = true) (hit : it.2 = false) : (keysOf (A ++ G ++ [it]) R).length = (keysMid A G R it).length + 1 ∧ (∀ k, k ∈ keysOf (A ++ G ++ [it]) R ↔ k ∈ keysMid A G R it ∨ k = ((words (keepL A) : Nat) : Int)) ∧ ((words (keepL A) : Nat) : Int) ∉ keysMid A G R it := by
  rw [keys_next hG hit]
  refine ⟨by simp [keysMid]; omega, fun k => ?_, ?_⟩
  · unfold keysMid; simp only [List.mem_append, List.mem_cons]
    constructor
    · rintro (h | h | h)
      · exact .inl (.inl h)
      · exact .inr h
      · exact .inl (.inr h)
    · rintro ((h | h) | h)
      · exact .inl h
      · exact .inr (.inr h)
      · exact .inr (.inl h)
  · have hk := keepL_le A
    unfold keysMid
    simp only [List.mem_append]
    rintro (h | h)
    · have := plF_bound _ _ _ h; omega
    · have := plF_bound _ _ _ h; rw [words_append (A ++ G) [it], words_append] at this; simp only [words] at this; omega

theorem keysOf_len (A R : List Itm) : (keysOf A R).length ≤ A.length + R.length := by
  unfold keysOf
  have h1 := plF_len_le (keepL A) 0
  have h2 := plF_len_le R (words A)
  have h3 : (keepL A).length ≤ A.length := List.length_filter_le _ _
  simp only [List.length_append]; omega

theorem words_zero {L : List Itm} (h : words L = 0) : L = [] := by
  cases L with
  | nil => rfl
  | cons a L => simp only [words] at h; omega

end Go.Proofs.Ytbibbdkijgaoeaa
