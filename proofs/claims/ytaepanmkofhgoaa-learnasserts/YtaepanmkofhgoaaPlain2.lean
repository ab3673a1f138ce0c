/- Literals in order, each once: the document's own way and any way that sorts and drops repeats give one list. -/
import Derived.Test.YtaepanmkofhgoaaPlain
set_option linter.unusedVariables false
set_option linter.unusedSimpArgs false
namespace Go.Proofs.Ytaepanmkofhgoaa

theorem ahead_iff {a b : Int} : aheadB a b = true ↔ (varI a < varI b ∨ (varI a = varI b ∧ b < a)) := by simp [aheadB]
theorem ahead_not {a b : Int} : aheadB a b = false ↔ ¬ (varI a < varI b ∨ (varI a = varI b ∧ b < a)) := by rw [← ahead_iff]; simp
theorem ahead_irrefl (a : Int) : aheadB a a = false := by rw [ahead_not]; omega
theorem ahead_trans {a b c : Int} (h : aheadB a b = true) (g : aheadB b c = true) : aheadB a c = true := by rw [ahead_iff] at *; omega
theorem ahead_total {a b : Int} (h : aheadB a b = false) (g : aheadB b a = false) : a = b := by
  rw [ahead_not] at h g
  have e : ∀ l : Int, (l < 0 ∧ varI l = -l) ∨ (0 ≤ l ∧ varI l = l) := fun l => by unfold varI; split <;> omega
  have ea := e a
  have eb := e b
  omega

/-- In order, each once. -/
def Ordered (xs : List Int) : Prop := xs.Pairwise (fun a b => aheadB a b = true)

theorem ordered_unique : ∀ {xs ys : List Int}, Ordered xs → Ordered ys → (∀ x, x ∈ xs ↔ x ∈ ys) → xs = ys
  | [], [], _, _, _ => rfl
  | [], y :: ys, _, _, h => by have := (h y).2 (by simp); simp at this
  | x :: xs, [], _, _, h => by have := (h x).1 (by simp); simp at this
  | x :: xs, y :: ys, hx, hy, h => by
    have hx' := List.pairwise_cons.1 hx
    have hy' := List.pairwise_cons.1 hy
    have e : x = y := by
      rcases List.mem_cons.1 ((h x).1 (by simp)) with e | e
      · exact e
      rcases List.mem_cons.1 ((h y).2 (by simp)) with f | f
      · exact f.symm
      have a := hy'.1 x e
      have b := hx'.1 y f
      have := ahead_trans a b
      rw [ahead_irrefl] at this; cases this
    subst e
    congr 1
    refine ordered_unique hx'.2 hy'.2 fun z => ?_
    constructor
    · intro hz
      rcases List.mem_cons.1 ((h z).1 (by simp [hz])) with e | e
      · subst e; have := hx'.1 z hz; rw [ahead_irrefl] at this; cases this
      · exact e
    · intro hz
      rcases List.mem_cons.1 ((h z).2 (by simp [hz])) with e | e
      · subst e; have := hy'.1 z hz; rw [ahead_irrefl] at this; cases this
      · exact e

/-- How many of a list stand ahead of a literal, from its head on. -/
def cut (out : List Int) (x : Int) : Nat := (out.takeWhile (fun y => aheadB y x)).length

theorem cut_le (out : List Int) (x : Int) : cut out x ≤ out.length := (List.takeWhile_prefix _).length_le

theorem take_cut (out : List Int) (x : Int) : out.take (cut out x) = out.takeWhile (fun y => aheadB y x) := by
  have h := List.takeWhile_append_dropWhile (p := fun y => aheadB y x) (l := out)
  unfold cut
  conv => lhs; arg 2; rw [← h]
  rw [List.take_left]

theorem drop_cut (out : List Int) (x : Int) : out.drop (cut out x) = out.dropWhile (fun y => aheadB y x) := by
  have h := List.takeWhile_append_dropWhile (p := fun y => aheadB y x) (l := out)
  unfold cut
  conv => lhs; arg 2; rw [← h]
  rw [List.drop_left]

theorem cut_of {out : List Int} {x : Int} {j : Nat} (hj : j ≤ out.length) (h1 : ∀ i (h : i < j), aheadB (out[i]'(by omega)) x = true) (h2 : ∀ h : j < out.length, aheadB out[j] x = false) : cut out x = j := by
  unfold cut
  have e : out.takeWhile (fun y => aheadB y x) = out.take j := by
    conv => lhs; rw [← List.take_append_drop j out]
    rw [List.takeWhile_append_of_pos]
    · have : (out.drop j).takeWhile (fun y => aheadB y x) = [] := by
        by_cases hlt : j < out.length
        · rw [List.drop_eq_getElem_cons hlt, List.takeWhile_cons, h2 hlt]; rfl
        · rw [List.drop_of_length_le (by omega)]; rfl
      rw [this, List.append_nil]
    · intro a ha
      obtain ⟨i, hi, rfl⟩ := List.mem_iff_getElem.1 ha
      rw [List.getElem_take]
      exact h1 i (by simp at hi; omega)
  rw [e, List.length_take]; omega

/-- A literal laid among literals in order. -/
def ins (out : List Int) (x : Int) : List Int := if hasB out x then out else out.take (cut out x) ++ x :: out.drop (cut out x)

theorem hasB_iff {xs : List Int} {n : Int} : hasB xs n = true ↔ n ∈ xs := by simp [hasB]
theorem hasB_not {xs : List Int} {n : Int} : hasB xs n = false ↔ n ∉ xs := by rw [← hasB_iff]; simp

theorem ins_mem {out : List Int} {x z : Int} : z ∈ ins out x ↔ z = x ∨ z ∈ out := by
  unfold ins
  split
  · rename_i h
    rw [hasB_iff] at h
    constructor
    · exact Or.inr
    · rintro (rfl | h')
      · exact h
      · exact h'
  · have : out.take (cut out x) ++ out.drop (cut out x) = out := List.take_append_drop _ _
    conv => rhs; rw [← this]
    simp only [List.mem_append, List.mem_cons]
    constructor
    · rintro (h | h | h) <;> simp [h]
    · rintro (h | h | h) <;> simp [h]

theorem ins_ordered {out : List Int} {x : Int} (h : Ordered out) : Ordered (ins out x) := by
  unfold ins
  split
  · exact h
  rename_i hn
  have hn' : x ∉ out := by rw [← hasB_not]; simpa using hn
  rw [take_cut, drop_cut]
  have hs := List.takeWhile_append_dropWhile (p := fun y => aheadB y x) (l := out)
  have h' : Ordered (out.takeWhile (fun y => aheadB y x) ++ out.dropWhile (fun y => aheadB y x)) := by rw [hs]; exact h
  obtain ⟨p1, p2, p3⟩ := List.pairwise_append.1 h'
  have q1 : ∀ y ∈ out.takeWhile (fun y => aheadB y x), aheadB y x = true := fun y hy => by
    have := List.all_takeWhile (p := fun y => aheadB y x) (l := out); rw [List.all_eq_true] at this; exact this y hy
  have q2 : ∀ y ∈ out.dropWhile (fun y => aheadB y x), aheadB x y = true := by
    intro y hy
    cases hd : out.dropWhile (fun y => aheadB y x) with
    | nil => rw [hd] at hy; cases hy
    | cons z zs =>
      have hz : aheadB z x = false := by
        have := List.head_dropWhile_not (p := fun y => aheadB y x) (l := out) (w := by rw [hd]; simp)
        simpa [hd] using this
      have hzx : aheadB x z = true := by
        cases hc : aheadB x z with
        | true => rfl
        | false =>
          have e := ahead_total hz hc
          exfalso; apply hn'
          rw [← hs, hd, ← e]; simp
      rw [hd] at hy
      rcases List.mem_cons.1 hy with rfl | hy'
      · exact hzx
      · rw [hd] at p2; exact ahead_trans hzx ((List.pairwise_cons.1 p2).1 y hy')
  unfold Ordered
  rw [List.pairwise_append]
  refine ⟨p1, List.pairwise_cons.2 ⟨q2, p2⟩, ?_⟩
  intro a ha b hb
  rcases List.mem_cons.1 hb with rfl | hb
  · exact q1 a ha
  · exact p3 a ha b hb

/-- Literals in order, each once. -/
def order (c : List Int) : List Int := c.foldl ins []

theorem foldl_mem (c : List Int) : ∀ (out : List Int) (z : Int), z ∈ c.foldl ins out ↔ z ∈ c ∨ z ∈ out := by
  induction c with
  | nil => intro out z; simp
  | cons x c ih =>
    intro out z
    rw [List.foldl_cons, ih, ins_mem, List.mem_cons]
    constructor
    · rintro (h | h | h) <;> simp [h]
    · rintro ((h | h) | h) <;> simp [h]

theorem foldl_ordered (c : List Int) : ∀ out, Ordered out → Ordered (c.foldl ins out) := by
  induction c with
  | nil => intro out h; exact h
  | cons x c ih => intro out h; exact ih _ (ins_ordered h)

theorem order_mem {c : List Int} {z : Int} : z ∈ order c ↔ z ∈ c := by unfold order; rw [foldl_mem]; simp
theorem order_ordered (c : List Int) : Ordered (order c) := foldl_ordered c [] List.Pairwise.nil

theorem order_take {c : List Int} {k : Nat} (h : k < c.length) : order (c.take (k + 1)) = ins (order (c.take k)) c[k] := by
  unfold order; rw [List.take_succ_eq_append_getElem h, List.foldl_append]; rfl

theorem ins_len (out : List Int) (x : Int) : (ins out x).length ≤ out.length + 1 := by
  unfold ins; split
  · omega
  · simp; omega

theorem foldl_len (c : List Int) : ∀ out, (c.foldl ins out).length ≤ out.length + c.length := by
  induction c with
  | nil => intro out; simp
  | cons x c ih => intro out; have := ih (ins out x); have := ins_len out x; simp at *; omega

theorem order_len (c : List Int) : (order c).length ≤ c.length := by have := foldl_len c []; simpa [order] using this

end Go.Proofs.Ytaepanmkofhgoaa
