/- What is idle in what was learned; what was learned, shortened; why both are true. -/
import Derived.Test.YtaepanmkofhgoaaPlainM
set_option linter.unusedVariables false
set_option linter.unusedSimpArgs false
namespace Go.Proofs.Ytaepanmkofhgoaa

/-- Is the negation of what stands at a place idle? (The first number is how deep is looked.) -/
def idleF (ts : List As) (L : List Int) : Nat → Nat → Bool
  | 0, _ => false
  | f + 1, j => decide ((nth ts j).rsn.length ≠ 0) && (nth ts j).rsn.all (fun l => l == (nth ts j).lit || (hasB L l || idleF ts L f (pl ts l)))

/-- Is it idle? -/
def idleAt (ts : List As) (L : List Int) (j : Nat) : Bool := idleF ts L (j + 1) j

theorem all_congr {xs : List Int} {p q : Int → Bool} (h : ∀ x ∈ xs, p x = q x) : xs.all p = xs.all q := by
  rw [Bool.eq_iff_iff, List.all_eq_true, List.all_eq_true]
  constructor
  · intro g x hx; rw [← h x hx]; exact g x hx
  · intro g x hx; rw [h x hx]; exact g x hx

theorem idleF_same {ts : List As} (T : Tr ts) (L : List Int) : ∀ f f' j, j < f → j < f' → j < ts.length → idleF ts L f j = idleF ts L f' j
  | 0, _, _, h, _, _ => by omega
  | _ + 1, 0, _, _, h, _ => by omega
  | f + 1, f' + 1, j, h, h', hj => by
    unfold idleF
    congr 1
    refine all_congr fun l hl => ?_
    by_cases e : l = (nth ts j).lit
    · rw [e]; simp
    · obtain ⟨i, hi, e2⟩ := T.rsn hj hl e
      have hp := (T.pl_of (by omega) e2).1
      rw [hp, idleF_same T L f f' i (by omega) (by omega) (by omega)]

theorem idle_eq {ts : List As} (T : Tr ts) (L : List Int) {j : Nat} (hj : j < ts.length) : idleAt ts L j = (decide ((nth ts j).rsn.length ≠ 0) && (nth ts j).rsn.all (fun l => l == (nth ts j).lit || (hasB L l || idleAt ts L (pl ts l)))) := by
  conv => lhs; unfold idleAt; unfold idleF
  congr 1
  refine all_congr fun l hl => ?_
  by_cases e : l = (nth ts j).lit
  · rw [e]; simp
  · obtain ⟨i, hi, e2⟩ := T.rsn hj hl e
    have hp := (T.pl_of (by omega) e2).1
    unfold idleAt
    rw [hp, idleF_same T L j (i + 1) i (by omega) (by omega) (by omega)]

/-- What is of level 0 is idle. -/
theorem idle_zero {ts : List As} (T : Tr ts) (L : List Int) : ∀ m j, j < m → j < ts.length → (nth ts j).lev = 0 → idleAt ts L j = true
  | 0, _, h, _, _ => by omega
  | m + 1, j, h, hj, h0 => by
    rw [idle_eq T L hj]
    have hz := T.zero_rsn hj h0
    have e1 : decide ((nth ts j).rsn.length ≠ 0) = true := by simpa using hz
    rw [e1, Bool.true_and, List.all_eq_true]
    intro l hl
    by_cases e : l = (nth ts j).lit
    · simp [e]
    · obtain ⟨i, hi, e2⟩ := T.rsn hj hl e
      have hp := (T.pl_of (by omega) e2).1
      have hm := T.lev_mono (i := i) j (by omega) hj
      have hb := T.lev_bd i (by omega)
      rw [hp, idle_zero T L m i (by omega) (by omega) (by omega)]
      simp

/-- The document's own way to say it. -/
theorem idle_doc {ts : List As} (T : Tr ts) (L : List Int) {j : Nat} (hj : j < ts.length) : idleAt ts L j = (decide ((nth ts j).rsn.length ≠ 0) && (nth ts j).rsn.all (fun l => !(l != (nth ts j).lit && (decide (0 < levI ts l) && (!hasB L l && !idleAt ts L (pl ts l)))))) := by
  rw [idle_eq T L hj]
  congr 1
  refine all_congr fun l hl => ?_
  by_cases e : l = (nth ts j).lit
  · rw [e]; simp
  · obtain ⟨i, hi, e2⟩ := T.rsn hj hl e
    have hp := (T.pl_of (by omega) e2).1
    have e3 : (l == (nth ts j).lit) = false := by simpa using e
    have e4 : (l != (nth ts j).lit) = true := by simpa using e
    rw [e3, e4]
    by_cases h0 : 0 < levI ts l
    · rw [decide_eq_true h0]; simp
    · have hz : (nth ts i).lev = 0 := by
        have hb := T.lev_bd i (by omega)
        unfold levI at h0
        rw [hp] at h0
        omega
      rw [decide_eq_false h0, hp, idle_zero T L (i + 1) i (by omega) (by omega) hz]
      simp

/-- Is a literal kept at a place of what was learned? -/
def keepB (ts : List As) (L : List Int) (i : Nat) : Bool := decide (i = 0) || !idleAt ts L (pl ts (L.getD i 0))

/-- What was learned, shortened, up to a place. -/
def shortTo (ts : List As) (L : List Int) (k : Nat) : List Int := ((List.range k).filter (keepB ts L)).map (fun i => L.getD i 0)
def shortL (ts : List As) (L : List Int) : List Int := shortTo ts L L.length

theorem short_yes {ts : List As} {L : List Int} {k : Nat} (h : keepB ts L k = true) : shortTo ts L (k + 1) = shortTo ts L k ++ [L.getD k 0] := by
  unfold shortTo; rw [List.range_succ, List.filter_append, List.map_append]; simp [List.filter_cons, h]
theorem short_no {ts : List As} {L : List Int} {k : Nat} (h : keepB ts L k = false) : shortTo ts L (k + 1) = shortTo ts L k := by
  unfold shortTo; rw [List.range_succ, List.filter_append, List.map_append]; simp [List.filter_cons, h]
theorem short_len (ts : List As) (L : List Int) (k : Nat) : (shortTo ts L k).length ≤ k := by
  unfold shortTo
  rw [List.length_map]
  exact Nat.le_trans (List.length_filter_le _ _) (by simp)

theorem getD_mem {L : List Int} {i : Nat} (h : i < L.length) : L.getD i 0 ∈ L := by
  rw [List.getD_eq_getElem?_getD, List.getElem?_eq_getElem h]; exact List.getElem_mem h
theorem getD_at {L : List Int} {i : Nat} (h : i < L.length) : L.getD i 0 = L[i] := by
  rw [List.getD_eq_getElem?_getD, List.getElem?_eq_getElem h]; rfl

theorem short_mem {ts : List As} {L : List Int} {x : Int} : x ∈ shortL ts L ↔ ∃ i, i < L.length ∧ keepB ts L i = true ∧ L.getD i 0 = x := by
  unfold shortL shortTo
  rw [List.mem_map]
  constructor
  · rintro ⟨i, h, e⟩; rw [List.mem_filter, List.mem_range] at h; exact ⟨i, h.1, h.2, e⟩
  · rintro ⟨i, h1, h2, e⟩; exact ⟨i, by rw [List.mem_filter, List.mem_range]; exact ⟨h1, h2⟩, e⟩

theorem short_sub {ts : List As} {L : List Int} {x : Int} (h : x ∈ shortL ts L) : x ∈ L := by
  obtain ⟨i, hi, _, e⟩ := short_mem.1 h
  rw [← e]; exact getD_mem hi

/-- The first one stays the first. -/
theorem short_head {ts : List As} {L : List Int} (h : 0 < L.length) : ∃ R, shortL ts L = L[0] :: R := by
  have : ∀ k, ∃ R, shortTo ts L (k + 1) = L[0] :: R := by
    intro k
    induction k with
    | zero => exact ⟨[], by rw [short_yes (by simp [keepB])]; simp [shortTo]; rw [List.getElem?_eq_getElem h]; rfl⟩
    | succ k ih =>
      obtain ⟨R, e⟩ := ih
      cases hk : keepB ts L (k + 1) with
      | true => exact ⟨R ++ [L.getD (k + 1) 0], by rw [short_yes hk, e]; rfl⟩
      | false => exact ⟨R, by rw [short_no hk, e]⟩
  obtain ⟨R, e⟩ := this (L.length - 1)
  refine ⟨R, ?_⟩
  unfold shortL
  rw [show L.length = L.length - 1 + 1 by omega]
  exact e

theorem short_nil {ts : List As} : shortL ts [] = [] := rfl

theorem short_nodup {ts : List As} {L : List Int} (h : L.Nodup) : (shortL ts L).Nodup := by
  unfold shortL shortTo
  have hf : ((List.range L.length).filter (keepB ts L)).Nodup := List.Pairwise.filter _ List.nodup_range
  unfold List.Nodup at *
  rw [List.pairwise_map]
  refine List.Pairwise.imp_of_mem ?_ hf
  intro i j hi hj hij e
  rw [List.mem_filter, List.mem_range] at hi hj
  rw [getD_at hi.1, getD_at hj.1] at e
  rcases Nat.lt_trichotomy i j with h1 | h1 | h1
  · exact List.pairwise_iff_getElem.1 h i j hi.1 hj.1 h1 e
  · exact hij h1
  · exact List.pairwise_iff_getElem.1 h j i hj.1 hi.1 h1 e.symm

end Go.Proofs.Ytaepanmkofhgoaa
