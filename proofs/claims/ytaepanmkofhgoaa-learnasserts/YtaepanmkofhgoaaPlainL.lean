/- What is learned of a broken clause, as plain lists: literals go for the others of their reasons; what is left, in its order. -/
import Derived.Test.YtaepanmkofhgoaaPlainT
set_option linter.unusedVariables false
set_option linter.unusedSimpArgs false
namespace Go.Proofs.Ytaepanmkofhgoaa

/-- How many literals are of a level. -/
def cnt (ts : List As) (lv : Int) (S : List Int) : Nat := (S.filter (fun l => levI ts l == lv)).length

theorem cnt_cons (ts : List As) (lv x : Int) (S : List Int) : cnt ts lv (x :: S) = (if levI ts x = lv then 1 else 0) + cnt ts lv S := by
  unfold cnt
  by_cases e : levI ts x = lv
  · simp [List.filter_cons, e]; omega
  · simp [List.filter_cons, e]
theorem cnt_append (ts : List As) (lv : Int) (A B : List Int) : cnt ts lv (A ++ B) = cnt ts lv A + cnt ts lv B := by
  unfold cnt; rw [List.filter_append, List.length_append]
theorem cnt_le (ts : List As) (lv : Int) (S : List Int) : cnt ts lv S ≤ S.length := List.length_filter_le _ _
theorem cnt_pos {ts : List As} {lv : Int} {S : List Int} : 0 < cnt ts lv S ↔ ∃ l ∈ S, levI ts l = lv := by
  unfold cnt
  rw [List.length_pos_iff_exists_mem]
  constructor
  · rintro ⟨x, hx⟩; rw [List.mem_filter] at hx; exact ⟨x, hx.1, by simpa using hx.2⟩
  · rintro ⟨x, h1, h2⟩; exact ⟨x, List.mem_filter.2 ⟨h1, by simpa using h2⟩⟩

theorem cnt_ins {ts : List As} {lv x : Int} {S : List Int} (h : hasB S x = false) : cnt ts lv (ins S x) = cnt ts lv S + (if levI ts x = lv then 1 else 0) := by
  unfold ins
  rw [h]
  have e : cnt ts lv S = cnt ts lv (S.take (cut S x)) + cnt ts lv (S.drop (cut S x)) := by rw [← cnt_append, List.take_append_drop]
  simp only [Bool.false_eq_true, if_false]
  rw [cnt_append, cnt_cons, e]
  omega
theorem ins_has {S : List Int} {x : Int} (h : hasB S x = true) : ins S x = S := by unfold ins; rw [h]; rfl
theorem cnt_ins_le (ts : List As) (lv x : Int) (S : List Int) : cnt ts lv S ≤ cnt ts lv (ins S x) := by
  cases h : hasB S x with
  | true => rw [ins_has h]; exact Nat.le_refl _
  | false => rw [cnt_ins h]; omega
theorem cnt_foldl_le (ts : List As) (lv : Int) (xs : List Int) : ∀ S, cnt ts lv S ≤ cnt ts lv (xs.foldl ins S) := by
  induction xs with
  | nil => intro S; exact Nat.le_refl _
  | cons x xs ih => intro S; exact Nat.le_trans (cnt_ins_le ts lv x S) (ih _)

theorem ordered_nodup {S : List Int} (h : Ordered S) : S.Nodup := h.imp (fun {a b} hab => by rintro rfl; rw [ahead_irrefl] at hab; cases hab)

theorem wo_absent {S : List Int} {x : Int} (h : x ∉ S) : wo S x = S := by
  unfold wo
  rw [List.filter_eq_self]
  intro a ha
  simp
  rintro rfl
  exact h ha

theorem cnt_wo {ts : List As} {lv x : Int} : ∀ {S : List Int}, S.Nodup → x ∈ S → levI ts x = lv → cnt ts lv (wo S x) + 1 = cnt ts lv S
  | [], _, h, _ => by cases h
  | y :: S, hn, h, hl => by
    have hn' := List.nodup_cons.1 hn
    by_cases e : y = x
    · subst e
      have : wo (y :: S) y = wo S y := by unfold wo; simp [List.filter_cons]
      rw [this, wo_absent hn'.1, cnt_cons, if_pos hl]; omega
    · have : wo (y :: S) x = y :: wo S x := by unfold wo; simp [List.filter_cons, e]
      rw [this, cnt_cons, cnt_cons]
      have := cnt_wo hn'.2 ((List.mem_cons.1 h).resolve_left (fun e2 => e e2.symm)) hl
      omega

theorem wo_mem {S : List Int} {x z : Int} : z ∈ wo S x ↔ z ∈ S ∧ z ≠ x := by unfold wo; rw [List.mem_filter]; simp
theorem wo_ordered {S : List Int} (x : Int) (h : Ordered S) : Ordered (wo S x) := List.Pairwise.filter _ h
theorem order_self {S : List Int} (h : Ordered S) : order S = S := ordered_unique (order_ordered S) h fun x => order_mem
theorem order_append (A B : List Int) : order (A ++ B) = B.foldl ins (order A) := by unfold order; rw [List.foldl_append]

/-- Is it learned? -/
def stopB (ts : List As) (lv : Int) (S : List Int) : Bool := decide (cnt ts lv S = 0) || (decide (cnt ts lv S = 1) && decide (0 < lv))

/-- The literal of a place goes for the others of its reason. -/
def stepL (ts : List As) (i : Nat) (S : List Int) : List Int := if hasB S (-(nth ts i).lit) then (wo (nth ts i).rsn (nth ts i).lit).foldl ins (wo S (-(nth ts i).lit)) else S

/-- From a place on, to the head. -/
def loopL (ts : List As) (lv : Int) : Nat → List Int → List Int
  | 0, S => S
  | i + 1, S => if stopB ts lv S then S else loopL ts lv i (stepL ts i S)

theorem step_order {ts : List As} {i : Nat} {S : List Int} (h : Ordered S) (hh : hasB S (-(nth ts i).lit) = true) : order (wo S (-(nth ts i).lit) ++ wo (nth ts i).rsn (nth ts i).lit) = stepL ts i S := by
  unfold stepL
  rw [hh, order_append, order_self (wo_ordered _ h)]
  rfl

/-- What is known on the way. -/
structure InvL (ts : List As) (lv : Int) (i : Nat) (S : List Int) : Prop where
  ord : Ordered S
  il : i ≤ ts.length
  at_ : ∀ l ∈ S, ∃ j, j < i ∧ (nth ts j).lit = -l ∧ (nth ts j).lev ≤ lv
  len : S.length ≤ 100 + 256 * (ts.length - i)

theorem InvL.lev {ts : List As} (T : Tr ts) {lv : Int} {i : Nat} {S : List Int} (h : InvL ts lv i S) {l : Int} (hl : l ∈ S) : falB ts l = true ∧ pl ts l < i ∧ (nth ts (pl ts l)).lit = -l ∧ levI ts l ≤ lv ∧ 0 ≤ levI ts l := by
  obtain ⟨j, hj, e, hlv⟩ := h.at_ l hl
  have hil := h.il
  have hp := (T.pl_of (by omega) e).1
  refine ⟨falB_iff.2 ⟨j, by omega, e⟩, by omega, by rw [hp]; exact e, by unfold levI; rw [hp]; exact hlv, ?_⟩
  unfold levI; rw [hp]; exact (T.lev_bd j (by omega)).1

/-- What goes is of the level. -/
theorem InvL.top {ts : List As} (T : Tr ts) {lv : Int} {i : Nat} {S : List Int} (h : InvL ts lv (i + 1) S) (hc : 0 < cnt ts lv S) (hh : hasB S (-(nth ts i).lit) = true) : (nth ts i).lev = lv ∧ levI ts (-(nth ts i).lit) = lv := by
  have hil := h.il
  obtain ⟨l, hl, e⟩ := cnt_pos.1 hc
  have h1 := h.lev T hl
  have h2 := T.lev_mono (i := pl ts l) i (by omega) (by omega)
  have h3 := h.lev T (hasB_iff.1 hh)
  have hp := (T.pl_of (l := -(nth ts i).lit) (j := i) (by omega) (by omega)).1
  unfold levI at *
  rw [hp] at h3 ⊢
  omega

theorem InvL.step {ts : List As} (T : Tr ts) {lv : Int} {i : Nat} {S : List Int} (h : InvL ts lv (i + 1) S) : InvL ts lv i (stepL ts i S) := by
  have hil := h.il
  have low : ∀ l ∈ S, l ≠ -(nth ts i).lit → ∃ j, j < i ∧ (nth ts j).lit = -l ∧ (nth ts j).lev ≤ lv := by
    intro l hl hne
    obtain ⟨j, hj, e, hv⟩ := h.at_ l hl
    by_cases ej : j = i
    · subst ej; omega
    · exact ⟨j, by omega, e, hv⟩
  unfold stepL
  split
  · rename_i hh
    have hm := hasB_iff.1 hh
    refine ⟨foldl_ordered _ _ (wo_ordered _ h.ord), by omega, ?_, ?_⟩
    · intro l hl
      rw [foldl_mem] at hl
      rcases hl with hl | hl
      · rw [wo_mem] at hl
        obtain ⟨j, hj, e⟩ := T.rsn (by omega) hl.1 hl.2
        have h1 := T.lev_mono (i := j) i (by omega) (by omega)
        obtain ⟨j', hj', e', hv'⟩ := h.at_ _ hm
        have hp := (T.pl_of (l := -(nth ts i).lit) (j := i) (by omega) (by omega)).1
        have hp' := (T.pl_of (l := -(nth ts i).lit) (j := j') (by omega) e').1
        have : j' = i := by omega
        subst this
        exact ⟨j, hj, e, by omega⟩
      · rw [wo_mem] at hl
        exact low l hl.1 hl.2
    · have h1 := foldl_len (wo (nth ts i).rsn (nth ts i).lit) (wo S (-(nth ts i).lit))
      have h2 := wo_len S (-(nth ts i).lit)
      have h3 := wo_len (nth ts i).rsn (nth ts i).lit
      have h4 := T.rsn_len (j := i) (by omega)
      have h5 := h.len
      omega
  · rename_i hh
    have hh' : hasB S (-(nth ts i).lit) = false := by simpa using hh
    refine ⟨h.ord, by omega, fun l hl => low l hl (fun e => by rw [e] at hl; exact hasB_not.1 hh' hl), ?_⟩
    have h5 := h.len
    omega

theorem InvL.zero {ts : List As} {lv : Int} {S : List Int} (h : InvL ts lv 0 S) : S = [] := by
  cases S with
  | nil => rfl
  | cons x S => obtain ⟨j, hj, _⟩ := h.at_ x (by simp); omega

/-- The greatest level of literals, and that one has it. -/
theorem grt_ge {ts : List As} : ∀ (xs : List Int) (m : Int), m ≤ xs.foldl (fun m l => max m (levI ts l)) m ∧ ∀ l ∈ xs, levI ts l ≤ xs.foldl (fun m l => max m (levI ts l)) m
  | [], m => ⟨by simp, by simp⟩
  | x :: xs, m => by
    have := grt_ge (ts := ts) xs (max m (levI ts x))
    simp only [List.foldl_cons]
    refine ⟨by omega, fun l hl => ?_⟩
    rcases List.mem_cons.1 hl with rfl | hl
    · omega
    · exact this.2 l hl
theorem grt_has {ts : List As} : ∀ (xs : List Int) (m : Int), xs.foldl (fun m l => max m (levI ts l)) m = m ∨ ∃ l ∈ xs, levI ts l = xs.foldl (fun m l => max m (levI ts l)) m
  | [], m => .inl rfl
  | x :: xs, m => by
    simp only [List.foldl_cons]
    rcases grt_has (ts := ts) xs (max m (levI ts x)) with h | ⟨l, hl, h⟩
    · rcases (by omega : max m (levI ts x) = m ∨ max m (levI ts x) = levI ts x) with e | e
      · left; rw [h, e]
      · right; exact ⟨x, by simp, by rw [h, e]⟩
    · right; exact ⟨l, by simp [hl], h⟩

/-- The greatest level of a list. -/
def grt (ts : List As) (xs : List Int) : Int := xs.foldl (fun m l => max m (levI ts l)) 0
theorem grt_take {ts : List As} {xs : List Int} {q : Nat} (h : q < xs.length) : grt ts (xs.take (q + 1)) = max (grt ts (xs.take q)) (levI ts xs[q]) := by
  unfold grt; rw [List.take_succ_eq_append_getElem h, List.foldl_append]; rfl
theorem grt_same {ts : List As} {xs ys : List Int} (h : ∀ x, x ∈ xs ↔ x ∈ ys) : grt ts xs = grt ts ys := by
  have one : ∀ {a b : List Int}, (∀ x, x ∈ a → x ∈ b) → grt ts a ≤ grt ts b := by
    intro a b hab
    rcases grt_has (ts := ts) a 0 with e | ⟨l, hl, e⟩
    · unfold grt; rw [e]; exact (grt_ge b 0).1
    · unfold grt; rw [← e]; exact (grt_ge b 0).2 l (hab l hl)
  have h1 := one (fun x => (h x).1)
  have h2 := one (fun x => (h x).2)
  omega

/-- At the beginning. -/
theorem InvL.start {ts : List As} (T : Tr ts) {c : List Int} (hf : ∀ l ∈ c, falB ts l = true) (hl : c.length ≤ 100) : InvL ts (grt ts c) ts.length (order c) := by
  refine ⟨order_ordered c, Nat.le_refl _, fun l hl => ?_, ?_⟩
  · have hl' := order_mem.1 hl
    have h1 := T.fal (hf l hl')
    exact ⟨pl ts l, h1.1, h1.2.1, (grt_ge c 0).2 l hl'⟩
  · have := order_len c; omega

/-- What is learned, in no order. -/
def learnS (ts : List As) (c : List Int) : List Int := loopL ts (grt ts c) ts.length (order c)

/-- At the end. -/
theorem loopL_inv {ts : List As} (T : Tr ts) {lv : Int} : ∀ i S, InvL ts lv i S → ∃ j, InvL ts lv j (loopL ts lv i S) ∧ (stopB ts lv (loopL ts lv i S) = true)
  | 0, S, h => ⟨0, h, by rw [loopL, h.zero]; simp [stopB, cnt]⟩
  | i + 1, S, h => by
    unfold loopL
    split
    · rename_i hs; exact ⟨i + 1, h, hs⟩
    · exact loopL_inv T i _ (h.step T)

theorem stop_not {ts : List As} {lv : Int} {S : List Int} (h : stopB ts lv S = false) : 0 < cnt ts lv S ∧ (0 < lv → 1 < cnt ts lv S) := by
  unfold stopB at h
  simp at h
  omega

theorem step_cnt {ts : List As} (T : Tr ts) {lv : Int} {i : Nat} {S : List Int} (h : InvL ts lv (i + 1) S) (hs : stopB ts lv S = false) (hlv : 0 < lv) : 0 < cnt ts lv (stepL ts i S) := by
  have hc := stop_not hs
  unfold stepL
  split
  · rename_i hh
    have := cnt_wo (ordered_nodup h.ord) (hasB_iff.1 hh) (h.top T hc.1 hh).2
    have := cnt_foldl_le ts lv (wo (nth ts i).rsn (nth ts i).lit) (wo S (-(nth ts i).lit))
    have := hc.2 hlv
    omega
  · exact hc.1

theorem loopL_cnt {ts : List As} (T : Tr ts) {lv : Int} (hlv : 0 < lv) : ∀ i S, InvL ts lv i S → 0 < cnt ts lv S → 0 < cnt ts lv (loopL ts lv i S)
  | 0, S, h, hc => hc
  | i + 1, S, h, hc => by
    unfold loopL
    split
    · exact hc
    · rename_i hs
      exact loopL_cnt T hlv i _ (h.step T) (step_cnt T h (by simpa using hs) hlv)

end Go.Proofs.Ytaepanmkofhgoaa
