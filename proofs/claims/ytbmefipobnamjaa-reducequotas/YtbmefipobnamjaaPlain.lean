/- What the document says of learned clauses and of the quota, as plain functions; no program is named here. -/
import Derived.Below
set_option linter.unusedVariables false
set_option linter.unusedSimpArgs false
namespace Go.Proofs.Ytbmefipobnamjaa

/-- A learned clause: of how many levels, of how many literals, and whether it must stay. -/
structure Ln where
  lev : Int
  siz : Int
  lck : Bool

def ln0 : Ln := ⟨0, 0, false⟩
def nth (L : List Ln) (i : Nat) : Ln := L.getD i ln0
theorem nth_eq {L : List Ln} {i : Nat} (h : i < L.length) : nth L i = L[i] := by unfold nth; rw [List.getD_eq_getElem?_getD, List.getElem?_eq_getElem h]; rfl

/-- One may be. -/
def mayL (c : Ln) : Bool := decide (0 ≤ c.siz ∧ c.siz ≤ 4096 ∧ 0 ≤ c.lev ∧ c.lev ≤ c.siz)
/-- All may be. -/
def mayA (L : List Ln) : Bool := L.all mayL
/-- One must stay. -/
def mustL (c : Ln) : Bool := c.lck || decide (c.lev ≤ 2)
/-- The one at a is better than the one at b. -/
def betB (L : List Ln) (a b : Nat) : Bool :=
  decide ((nth L a).lev < (nth L b).lev ∨ (nth L a).lev = (nth L b).lev ∧ ((nth L a).siz < (nth L b).siz ∨ (nth L a).siz = (nth L b).siz ∧ b < a))

theorem mayA_to {L : List Ln} {k : Nat} (hk : (L.take k).all mayL = true) (h : k < L.length) (e : mayL (nth L k) = true) : (L.take (k + 1)).all mayL = true := by
  rw [List.take_succ_eq_append_getElem h, List.all_append, hk]
  rw [nth_eq h] at e
  simp [e]
theorem mayA_no {L : List Ln} {k : Nat} (h : k < L.length) (e : mayL (nth L k) = false) : mayA L = false := by
  unfold mayA
  rw [List.all_eq_false]
  rw [nth_eq h] at e
  exact ⟨L[k], List.getElem_mem h, by simp [e]⟩
theorem mayA_all {L : List Ln} {k : Nat} (hk : (L.take k).all mayL = true) (h : L.length ≤ k) : mayA L = true := by
  rw [List.take_of_length_le h] at hk; exact hk

/-- How two numbers stand to each other. -/
def cmpI (x y : Int) : Int := if x < y then -1 else if y < x then 1 else 0
def orI (x y : Int) : Int := if x = 0 then y else x
/-- How two places stand to each other. -/
def cmpN (L : List Ln) (a b : Nat) : Int := orI (cmpI (nth L a).lev (nth L b).lev) (orI (cmpI (nth L a).siz (nth L b).siz) (cmpI (b : Int) (a : Int)))

theorem cmpI_neg {x y : Int} : cmpI x y < 0 ↔ x < y := by
  unfold cmpI
  split
  · omega
  · split <;> omega
theorem cmpI_zero {x y : Int} : cmpI x y = 0 ↔ x = y := by
  unfold cmpI
  split
  · omega
  · split <;> omega
theorem cmpN_neg {L : List Ln} {a b : Nat} : cmpN L a b < 0 ↔ betB L a b = true := by
  unfold cmpN betB orI
  rw [decide_eq_true_eq]
  split
  · rename_i h; rw [cmpI_zero] at h
    split
    · rename_i h2; rw [cmpI_zero] at h2; rw [cmpI_neg]; omega
    · rename_i h2; rw [cmpI_zero] at h2; rw [cmpI_neg]; omega
  · rename_i h; rw [cmpI_zero] at h; rw [cmpI_neg]; omega

/-- Places in order: each once, and no later one is better. -/
structure Srt (L : List Ln) (S : List Nat) : Prop where
  perm : S.Perm (List.range L.length)
  srt : S.Pairwise (fun a b => betB L b a = false)

theorem Srt.len {L : List Ln} {S : List Nat} (h : Srt L S) : S.length = L.length := by simpa using h.perm.length_eq
theorem Srt.lt {L : List Ln} {S : List Nat} (h : Srt L S) {i : Nat} (hi : i ∈ S) : i < L.length := by simpa using h.perm.mem_iff.1 hi
theorem Srt.mem {L : List Ln} {S : List Nat} (h : Srt L S) {i : Nat} (hi : i < L.length) : i ∈ S := h.perm.mem_iff.2 (by simpa using hi)
theorem Srt.nodup {L : List Ln} {S : List Nat} (h : Srt L S) : S.Nodup := h.perm.nodup_iff.2 List.nodup_range

/-- Those of some places that need not stay. -/
def oth (L : List Ln) (S : List Nat) : List Nat := S.filter fun i => !mustL (nth L i)
theorem oth_snoc_yes {L : List Ln} {S : List Nat} {k : Nat} (h : k < S.length) (e : mustL (nth L S[k]) = true) : oth L (S.take (k + 1)) = oth L (S.take k) := by
  unfold oth; rw [List.take_succ_eq_append_getElem h, List.filter_append]; simp [e]
theorem oth_snoc_no {L : List Ln} {S : List Nat} {k : Nat} (h : k < S.length) (e : mustL (nth L S[k]) = false) : oth L (S.take (k + 1)) = oth L (S.take k) ++ [S[k]] := by
  unfold oth; rw [List.take_succ_eq_append_getElem h, List.filter_append]; simp [e]

/-- What stays behind so many places and so many of those that need not stay. -/
def stay (L : List Ln) (S O : List Nat) (i : Nat) : Bool := (mustL (nth L i) && decide (i ∈ S)) || decide (i ∈ O)
def upd {α : Type} (f : Nat → α) (i : Nat) (x : α) (j : Nat) : α := if j = i then x else f j

theorem stay_nil (L : List Ln) : stay L [] [] = fun _ => false := by funext i; unfold stay; simp
theorem mem_take_succ {S : List Nat} {k : Nat} (h : k < S.length) (i : Nat) : i ∈ S.take (k + 1) ↔ (i ∈ S.take k ∨ i = S[k]) := by
  rw [List.take_succ_eq_append_getElem h, List.mem_append, List.mem_singleton]
theorem stay_yes {L : List Ln} {S : List Nat} {k : Nat} (h : k < S.length) (e : mustL (nth L S[k]) = true) : stay L (S.take (k + 1)) [] = upd (stay L (S.take k) []) S[k] true := by
  funext i
  unfold stay upd
  by_cases ei : i = S[k]
  · rw [if_pos ei]; have hm := (mem_take_succ h i).2 (.inr ei); rw [decide_eq_true hm, ei, e]; rfl
  · rw [if_neg ei]; have hm := mem_take_succ h i; simp only [ei, or_false] at hm; rw [decide_eq_decide.2 hm]
theorem stay_no {L : List Ln} {S : List Nat} {k : Nat} (h : k < S.length) (e : mustL (nth L S[k]) = false) : stay L (S.take (k + 1)) [] = stay L (S.take k) [] := by
  funext i
  unfold stay
  by_cases ei : i = S[k]
  · subst ei; rw [e]; rfl
  · have hm := mem_take_succ h i; simp only [ei, or_false] at hm; rw [decide_eq_decide.2 hm]
theorem stay_add {L : List Ln} {S O : List Nat} {k : Nat} (h : k < O.length) : stay L S (O.take (k + 1)) = upd (stay L S (O.take k)) O[k] true := by
  funext i
  unfold stay upd
  by_cases ei : i = O[k]
  · rw [if_pos ei]; have hm := (mem_take_succ h i).2 (.inr ei); rw [decide_eq_true hm, Bool.or_true]
  · rw [if_neg ei]; have hm := mem_take_succ h i; simp only [ei, or_false] at hm; rw [decide_eq_decide.2 hm]

/-- Which stay, by places in order. -/
def keepF (L : List Ln) (S : List Nat) : Nat → Bool := stay L S ((oth L S).take ((oth L S).length / 2))

section
variable {L : List Ln} {S : List Nat}
theorem keep_must (h : Srt L S) {i : Nat} (hi : i < L.length) (e : mustL (nth L i) = true) : keepF L S i = true := by
  unfold keepF stay; simp [e, h.mem hi]
theorem keep_free {i : Nat} (e : mustL (nth L i) = false) : keepF L S i = decide (i ∈ (oth L S).take ((oth L S).length / 2)) := by
  unfold keepF stay; simp [e]

theorem oth_mem (h : Srt L S) {i : Nat} (hi : i < L.length) (e : mustL (nth L i) = false) : i ∈ oth L S := by
  unfold oth; rw [List.mem_filter]; exact ⟨h.mem hi, by simp [e]⟩

/-- None that goes is better than one that stays but need not. -/
theorem keep_best (h : Srt L S) {i j : Nat} (hi : i < L.length) (hj : j < L.length) (ei : mustL (nth L i) = false) (ej : mustL (nth L j) = false) (ki : keepF L S i = true) (kj : keepF L S j = false) : betB L j i = false := by
  rw [keep_free ei, decide_eq_true_eq] at ki
  rw [keep_free ej, decide_eq_false_iff_not] at kj
  have hjo := oth_mem h hj ej
  have hp : (oth L S).Pairwise (fun a b => betB L b a = false) := h.srt.sublist List.filter_sublist
  generalize (oth L S).length / 2 = m at *
  rw [← List.take_append_drop m (oth L S)] at hp hjo
  rw [List.pairwise_append] at hp
  rw [List.mem_append] at hjo
  exact hp.2.2 i ki j (hjo.resolve_left kj)

theorem take_count : ∀ (l : List Nat) (m : Nat), l.Nodup → m ≤ l.length → (l.filter fun x => decide (x ∈ l.take m)).length = m := by
  intro l m hn hm
  have e : (l.filter fun x => decide (x ∈ l.take m)) = l.take m := by
    conv => lhs; arg 2; rw [← List.take_append_drop m l]
    rw [List.filter_append]
    have hd := hn
    rw [← List.take_append_drop m l, List.nodup_append] at hd
    have h1 : (l.take m).filter (fun x => decide (x ∈ l.take m)) = l.take m := by rw [List.filter_eq_self]; intro a ha; simpa using ha
    have h2 : (l.drop m).filter (fun x => decide (x ∈ l.take m)) = [] := by
      rw [List.filter_eq_nil_iff]; intro a ha hc
      simp only [decide_eq_true_eq] at hc
      exact hd.2.2 a hc a ha rfl
    rw [h1, h2, List.append_nil]
  rw [e, List.length_take]; omega

/-- How many of the first k need not stay, and how many of them stay. -/
def freeN (L : List Ln) (k : Nat) : Nat := (List.range k).countP fun i => !mustL (nth L i)
def keptN (L : List Ln) (S : List Nat) (k : Nat) : Nat := (List.range k).countP fun i => !mustL (nth L i) && keepF L S i
theorem freeN_must {k : Nat} (e : mustL (nth L k) = true) : freeN L (k + 1) = freeN L k := by unfold freeN; rw [List.range_succ, List.countP_append]; simp [e]
theorem freeN_free {k : Nat} (e : mustL (nth L k) = false) : freeN L (k + 1) = freeN L k + 1 := by unfold freeN; rw [List.range_succ, List.countP_append]; simp [e]
theorem keptN_must {k : Nat} (e : mustL (nth L k) = true) : keptN L S (k + 1) = keptN L S k := by unfold keptN; rw [List.range_succ, List.countP_append]; simp [e]
theorem keptN_yes {k : Nat} (e : mustL (nth L k) = false) (h : keepF L S k = true) : keptN L S (k + 1) = keptN L S k + 1 := by unfold keptN; rw [List.range_succ, List.countP_append]; simp [e, h]
theorem keptN_no {k : Nat} (e : mustL (nth L k) = false) (h : keepF L S k = false) : keptN L S (k + 1) = keptN L S k := by unfold keptN; rw [List.range_succ, List.countP_append]; simp [e, h]
theorem freeN_le (k : Nat) : freeN L k ≤ k := by unfold freeN; have := List.countP_le_length (p := fun i => !mustL (nth L i)) (l := List.range k); simpa using this
theorem keptN_le (k : Nat) : keptN L S k ≤ k := by unfold keptN; have := List.countP_le_length (p := fun i => !mustL (nth L i) && keepF L S i) (l := List.range k); simpa using this

/-- Of those that need not stay half stay. -/
theorem kept_half (h : Srt L S) : keptN L S L.length = freeN L L.length / 2 := by
  have e1 : freeN L L.length = (oth L S).length := by
    unfold freeN oth
    rw [← h.perm.countP_eq, List.countP_eq_length_filter]
  have e2 : keptN L S L.length = ((oth L S).filter fun x => decide (x ∈ (oth L S).take ((oth L S).length / 2))).length := by
    unfold keptN
    rw [← h.perm.countP_eq, List.countP_eq_length_filter]
    congr 1
    unfold oth
    rw [List.filter_filter]
    apply List.filter_congr
    intro x hx
    by_cases e : mustL (nth L x) = true
    · simp [e]
    · have e' : mustL (nth L x) = false := by simpa using e
      rw [keep_free e']; unfold oth; simp [e']
  have hn : (oth L S).Nodup := h.nodup.sublist List.filter_sublist
  rw [e1, e2]
  exact take_count _ _ hn (by omega)
end

/-- The quota when clauses went so many times. -/
def quo (f : Int) : Nat → Int
  | 0 => f
  | t + 1 => quo f t + quo f t / 10 + 1

theorem quo_pos {f : Int} (h : 1 ≤ f) : ∀ t, 1 ≤ quo f t
  | 0 => h
  | t + 1 => by have := quo_pos h t; show 1 ≤ quo f t + quo f t / 10 + 1; omega
theorem quo_grows {f : Int} (h : 1 ≤ f) (t : Nat) : quo f t < quo f (t + 1) := by have := quo_pos h t; show quo f t < quo f t + quo f t / 10 + 1; omega
theorem quo_mono {f g : Int} (h : f ≤ g) : ∀ t, quo f t ≤ quo g t
  | 0 => h
  | t + 1 => by have := quo_mono h t; show quo f t + quo f t / 10 + 1 ≤ quo g t + quo g t / 10 + 1; omega
theorem quo_up {f : Int} (h : 1 ≤ f) {s t : Nat} (hst : s ≤ t) : quo f s ≤ quo f t := by
  induction hst with
  | refl => exact Int.le_refl _
  | step _ ih => exact Int.le_trans ih (Int.le_of_lt (quo_grows h _))
theorem quo_top : quo 1048576 100 ≤ 100000000000 := by decide +kernel
/-- No quota that is asked for passes this. -/
theorem quo_le {f : Int} (h0 : 1 ≤ f) (h1 : f ≤ 1048576) {t : Nat} (ht : t ≤ 100) : quo f t ≤ 100000000000 :=
  Int.le_trans (quo_mono h1 t) (Int.le_trans (quo_up (by decide) ht) quo_top)

end Go.Proofs.Ytbmefipobnamjaa
