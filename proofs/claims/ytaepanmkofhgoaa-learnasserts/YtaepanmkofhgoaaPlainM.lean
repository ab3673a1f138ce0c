/- What is learned, by falling levels, of one level by variables; what is idle in it; why it is true. -/
import Derived.Test.YtaepanmkofhgoaaPlainL
set_option linter.unusedVariables false
set_option linter.unusedSimpArgs false
namespace Go.Proofs.Ytaepanmkofhgoaa

/-- Ahead of another one. -/
def RB (ts : List As) (a b : Int) : Prop := levI ts b < levI ts a ∨ (levI ts a = levI ts b ∧ varI a < varI b)

theorem RB.irrefl {ts : List As} {a : Int} : ¬ RB ts a a := by unfold RB; omega
theorem RB.trans {ts : List As} {a b c : Int} (h : RB ts a b) (g : RB ts b c) : RB ts a c := by unfold RB at *; omega

theorem sorted_unique {ts : List As} : ∀ {xs ys : List Int}, xs.Pairwise (RB ts) → ys.Pairwise (RB ts) → (∀ x, x ∈ xs ↔ x ∈ ys) → xs = ys
  | [], [], _, _, _ => rfl
  | [], y :: ys, _, _, h => by have := (h y).2 (by simp); simp at this
  | x :: xs, [], _, _, h => by have := (h x).1 (by simp); simp at this
  | x :: xs, y :: ys, hx, hy, h => by
    have hx' := List.pairwise_cons.1 hx
    have hy' := List.pairwise_cons.1 hy
    have e : x = y := by
      rcases List.mem_cons.1 ((h x).1 (by simp)) with e | e
      · exact e
      rcases List.mem_cons.1 ((h y).2 (by simp)) with f | f
      · exact f.symm
      exact absurd ((hy'.1 x e).trans (hx'.1 y f)) RB.irrefl
    subst e
    congr 1
    refine sorted_unique hx'.2 hy'.2 fun z => ?_
    constructor
    · intro hz
      rcases List.mem_cons.1 ((h z).1 (by simp [hz])) with e | e
      · subst e; exact absurd (hx'.1 z hz) RB.irrefl
      · exact e
    · intro hz
      rcases List.mem_cons.1 ((h z).2 (by simp [hz])) with e | e
      · subst e; exact absurd (hy'.1 z hz) RB.irrefl
      · exact e

/-- By falling levels, from below k on. -/
def downL (ts : List As) (S : List Int) : Nat → List Int
  | 0 => []
  | k + 1 => S.filter (fun l => levI ts l == (k : Int)) ++ downL ts S k

theorem downL_mem {ts : List As} {S : List Int} {x : Int} : ∀ k, x ∈ downL ts S k ↔ x ∈ S ∧ 0 ≤ levI ts x ∧ levI ts x < k
  | 0 => by
    simp [downL]
    try omega
  | k + 1 => by
    unfold downL
    rw [List.mem_append, downL_mem k, List.mem_filter]
    constructor
    · rintro (⟨h1, h2⟩ | ⟨h1, h2, h3⟩)
      · have : levI ts x = k := by simpa using h2
        exact ⟨h1, by omega, by omega⟩
      · exact ⟨h1, h2, by omega⟩
    · rintro ⟨h1, h2, h3⟩
      by_cases e : levI ts x = k
      · exact .inl ⟨h1, by simpa using e⟩
      · exact .inr ⟨h1, h2, by omega⟩

theorem downL_sorted {ts : List As} {S : List Int} (h : Ordered S) (hv : ∀ a ∈ S, ∀ b ∈ S, varI a = varI b → a = b) : ∀ k, (downL ts S k).Pairwise (RB ts)
  | 0 => List.Pairwise.nil
  | k + 1 => by
    unfold downL
    rw [List.pairwise_append]
    refine ⟨?_, downL_sorted h hv k, ?_⟩
    · have h1 : (S.filter (fun l => levI ts l == (k : Int))).Pairwise (fun a b => aheadB a b = true) := List.Pairwise.filter _ h
      refine List.Pairwise.imp_of_mem ?_ h1
      intro a b ha hb hab
      rw [List.mem_filter] at ha hb
      have e1 : levI ts a = k := by simpa using ha.2
      have e2 : levI ts b = k := by simpa using hb.2
      rw [ahead_iff] at hab
      right
      refine ⟨by omega, ?_⟩
      rcases hab with hlt | ⟨e, hlt⟩
      · exact hlt
      · have := hv a ha.1 b hb.1 e
        omega
    · intro a ha b hb
      rw [List.mem_filter] at ha
      rw [downL_mem] at hb
      have e1 : levI ts a = k := by simpa using ha.2
      left; omega

/-- The greatest level of a trail. -/
def maxL (ts : List As) : Int := ts.foldl (fun m a => max m a.lev) 0
theorem foldl_lev_ge : ∀ (ts : List As) (m : Int), m ≤ ts.foldl (fun m a => max m a.lev) m ∧ ∀ a ∈ ts, a.lev ≤ ts.foldl (fun m a => max m a.lev) m
  | [], m => ⟨by simp, by simp⟩
  | x :: ts, m => by
    have := foldl_lev_ge ts (max m x.lev)
    simp only [List.foldl_cons]
    refine ⟨by omega, fun a ha => ?_⟩
    rcases List.mem_cons.1 ha with rfl | ha
    · omega
    · exact this.2 a ha
theorem maxL_take {ts : List As} {q : Nat} (h : q < ts.length) : maxL (ts.take (q + 1)) = max (maxL (ts.take q)) (nth ts q).lev := by
  unfold maxL; rw [List.take_succ_eq_append_getElem h, List.foldl_append, nth_eq h]; rfl
theorem maxL_ge {ts : List As} {j : Nat} (h : j < ts.length) : (nth ts j).lev ≤ maxL ts := by
  rw [nth_eq h]; exact (foldl_lev_ge ts 0).2 _ (List.getElem_mem h)
theorem maxL_nn (ts : List As) : 0 ≤ maxL ts := (foldl_lev_ge ts 0).1

/-- In its order. -/
def turn (ts : List As) (S : List Int) : List Int := downL ts S ((maxL ts).toNat + 1)

/-- What is learned. -/
def learnL (ts : List As) (c : List Int) : List Int := turn ts (learnS ts c)

theorem Tr.vars {ts : List As} (T : Tr ts) {a b : Int} (ha : falB ts a = true) (hb : falB ts b = true) (e : varI a = varI b) : a = b := by
  have h1 := T.fal ha
  have h2 := T.fal hb
  have : pl ts a = pl ts b := by unfold pl; rw [e]
  rw [this] at h1
  omega

theorem turn_mem {ts : List As} (T : Tr ts) {S : List Int} (hf : ∀ l ∈ S, falB ts l = true) {x : Int} : x ∈ turn ts S ↔ x ∈ S := by
  unfold turn
  rw [downL_mem]
  constructor
  · exact fun h => h.1
  · intro h
    have h1 := T.fal (hf x h)
    have h2 := maxL_ge h1.1
    have h3 := T.levI_bd (hf x h)
    refine ⟨h, h3.1, ?_⟩
    unfold levI
    omega

theorem turn_sorted {ts : List As} (T : Tr ts) {S : List Int} (ho : Ordered S) (hf : ∀ l ∈ S, falB ts l = true) : (turn ts S).Pairwise (RB ts) :=
  downL_sorted ho (fun a ha b hb e => T.vars (hf a ha) (hf b hb) e) _

theorem RB_nodup {ts : List As} {xs : List Int} (h : xs.Pairwise (RB ts)) : xs.Nodup := h.imp (fun {a b} hab => by rintro rfl; exact RB.irrefl hab)

/-- All that is known of what is learned. -/
structure Lrn (ts : List As) (c : List Int) : Prop where
  fal : ∀ l ∈ learnL ts c, falB ts l = true
  srt : (learnL ts c).Pairwise (RB ts)
  lev : ∀ l ∈ learnL ts c, levI ts l ≤ grt ts c ∧ 0 ≤ levI ts l
  zero : grt ts c = 0 → learnL ts c = []
  top : 0 < grt ts c → ∀ i (h : i < (learnL ts c).length), (levI ts (learnL ts c)[i] = grt ts c ↔ i = 0)
  len : (learnL ts c).length ≤ 6000

theorem filter_le {p : Int → Bool} : ∀ {xs ys : List Int}, xs.Nodup → (∀ x ∈ xs, x ∈ ys) → (xs.filter p).length ≤ (ys.filter p).length
  | [], ys, _, _ => by simp
  | x :: xs, ys, hn, h => by
    have hn' := List.nodup_cons.1 hn
    have h1 := filter_le (p := p) (xs := xs) (ys := ys.erase x) hn'.2 (fun z hz => (List.mem_erase_of_ne (fun e => hn'.1 (by rw [← e]; exact hz))).2 (h z (by simp [hz])))
    have hp : ys.Perm (x :: ys.erase x) := List.perm_cons_erase (h x (by simp))
    have h2 := (hp.filter p).length_eq
    rw [h2]
    simp only [List.filter_cons]
    split <;> simp <;> omega

theorem Lrn.of {ts : List As} (T : Tr ts) (h20 : ts.length ≤ 20) {c : List Int} (hf : ∀ l ∈ c, falB ts l = true) (hl : c.length ≤ 100) : Lrn ts c := by
  have hst := InvL.start T hf hl
  obtain ⟨j, hI, hs⟩ := loopL_inv T _ _ hst
  have hfl : ∀ l ∈ learnS ts c, falB ts l = true := fun l hl => (hI.lev T hl).1
  have hmem : ∀ x, x ∈ learnL ts c ↔ x ∈ learnS ts c := fun x => turn_mem T hfl
  have hsrt : (learnL ts c).Pairwise (RB ts) := turn_sorted T hI.ord hfl
  have hlen : (learnL ts c).length ≤ 6000 := by
    have h1 := filter_le (p := fun _ => true) (RB_nodup hsrt) (fun x hx => (hmem x).1 hx)
    have h2 := hI.len
    have e1 : (learnL ts c).filter (fun _ => true) = learnL ts c := by simp
    have e2 : (learnS ts c).filter (fun _ => true) = learnS ts c := by simp
    rw [e1, e2] at h1
    unfold learnS at h1
    omega
  refine ⟨fun l hl => hfl l ((hmem l).1 hl), hsrt, fun l hl => (fun h => ⟨h.2.2.2.1, h.2.2.2.2⟩) (hI.lev T ((hmem l).1 hl)), ?_, ?_, hlen⟩
  · intro h0
    cases hS : learnL ts c with
    | nil => rfl
    | cons x xs =>
      exfalso
      have hx : x ∈ learnS ts c := (hmem x).1 (by rw [hS]; simp)
      have h1 := hI.lev T hx
      have hc : 0 < cnt ts (grt ts c) (learnS ts c) := cnt_pos.2 ⟨x, hx, by omega⟩
      unfold stopB at hs
      simp at hs
      unfold learnS at hc
      omega
  · intro hpos
    have hc0 : 0 < cnt ts (grt ts c) (order c) := by
      rw [cnt_pos]
      rcases grt_has (ts := ts) c 0 with e | ⟨l, hl, e⟩
      · unfold grt at hpos; omega
      · exact ⟨l, order_mem.2 hl, e⟩
    have hc1 := loopL_cnt T hpos _ _ hst hc0
    have hc2 : cnt ts (grt ts c) (learnS ts c) = 1 := by
      unfold stopB at hs
      simp at hs
      unfold learnS
      omega
    have hc3 : cnt ts (grt ts c) (learnL ts c) = 1 := by
      have a := filter_le (p := fun l => levI ts l == grt ts c) (RB_nodup hsrt) (fun x hx => (hmem x).1 hx)
      have b := filter_le (p := fun l => levI ts l == grt ts c) (ordered_nodup hI.ord) (fun x hx => (hmem x).2 hx)
      unfold cnt at *
      unfold learnS at *
      omega
    have hpw := List.pairwise_iff_getElem.1 hsrt
    have hlev : ∀ l ∈ learnL ts c, levI ts l ≤ grt ts c := fun l hl => (hI.lev T ((hmem l).1 hl)).2.2.2.1
    have h0 : ∀ (h : 0 < (learnL ts c).length), levI ts (learnL ts c)[0] = grt ts c := by
      intro h
      obtain ⟨l, hl, e⟩ := cnt_pos.1 (by omega : 0 < cnt ts (grt ts c) (learnL ts c))
      obtain ⟨q, hq, rfl⟩ := List.mem_iff_getElem.1 hl
      have := hlev _ (List.getElem_mem h)
      rcases Nat.eq_zero_or_pos q with e0 | hq0
      · subst e0; exact e
      · have := hpw 0 q h hq hq0
        unfold RB at this
        omega
    intro i hi
    constructor
    · intro e
      rcases Nat.eq_zero_or_pos i with e0 | hi0
      · exact e0
      exfalso
      have e0 := h0 (by omega)
      have hlt := hpw 0 i (by omega) hi hi0
      -- two literals of the level
      have hsub : ∀ x ∈ [(learnL ts c)[0], (learnL ts c)[i]], x ∈ learnL ts c := by
        intro x hx
        simp at hx
        rcases hx with rfl | rfl <;> exact List.getElem_mem _
      have hnd : [(learnL ts c)[0], (learnL ts c)[i]].Nodup := by
        simp
        intro e2
        rw [e2] at hlt
        exact RB.irrefl hlt
      have := filter_le (p := fun l => levI ts l == grt ts c) hnd hsub
      unfold cnt at hc3
      simp [e, e0] at this
      omega
    · intro e0; subst e0; exact h0 hi

end Go.Proofs.Ytaepanmkofhgoaa
