/- What literals are, by inputs; what is made means what it is made of. -/
import Derived.Test.YtbilhiklfficoaaPlainB
set_option linter.unusedVariables false
set_option linter.unusedSimpArgs false
namespace Go.Proofs.Ytbilhiklfficoaa

/-- A literal's value, by what is told of the nodes. -/
def valF (v : List Bool) (l : Int) : Bool :=
  if l = 1 then true else if l ≤ 0 ∨ 2 * ((v.length : Int) + 1) ≤ l then false else (v.getD (l / 2 - 1).toNat false != decide (l % 2 = 1))
def bitF (ins v : List Bool) (n : Nat) (t : Gt) : Bool := if isInB t then ins.getD n false else valF v t.1 && valF v t.2
def nextF (n : Nat) (t : Gt) : Nat := if isInB t then n + 1 else n
def evF (ins : List Bool) : List Gt → List Bool → Nat → List Bool
  | [], v, n => v
  | t :: g, v, n => evF ins g (v ++ [bitF ins v n t]) (nextF n t)
/-- What each node is. -/
def allV (ins : List Bool) (g : List Gt) : List Bool := evF ins g [] 0
def cntF : List Gt → Nat → Nat
  | [], n => n
  | t :: g, n => cntF g (nextF n t)

theorem ev_append (ins : List Bool) : ∀ (g h : List Gt) (v : List Bool) (n : Nat), evF ins (g ++ h) v n = evF ins h (evF ins g v n) (cntF g n)
  | [], h, v, n => rfl
  | t :: g, h, v, n => ev_append ins g h _ _
theorem ev_pre (ins : List Bool) : ∀ (g : List Gt) (v : List Bool) (n : Nat), ∃ u, evF ins g v n = v ++ u ∧ u.length = g.length
  | [], v, n => ⟨[], by simp [evF], rfl⟩
  | t :: g, v, n => by
    obtain ⟨u, h1, h2⟩ := ev_pre ins g (v ++ [bitF ins v n t]) (nextF n t)
    exact ⟨bitF ins v n t :: u, by simp [evF, h1], by simp [h2]⟩
theorem allV_len (ins : List Bool) (g : List Gt) : (allV ins g).length = g.length := by
  obtain ⟨u, h1, h2⟩ := ev_pre ins g [] 0
  unfold allV; rw [h1]; simpa using h2
theorem allV_append (ins : List Bool) (g h : List Gt) : ∃ u, allV ins (g ++ h) = allV ins g ++ u := by
  obtain ⟨u, h1, h2⟩ := ev_pre ins h (allV ins g) (cntF g 0)
  exact ⟨u, by unfold allV at *; rw [ev_append, h1]⟩
theorem allV_snoc (ins : List Bool) (g : List Gt) (t : Gt) : allV ins (g ++ [t]) = allV ins g ++ [bitF ins (allV ins g) (cntF g 0) t] := by
  unfold allV; rw [ev_append]; rfl
theorem valF_append {v u : List Bool} {l : Int} (h : l < 2 * ((v.length : Int) + 1)) : valF (v ++ u) l = valF v l := by
  unfold valF
  by_cases h1 : l = 1
  · simp [h1]
  · by_cases h0 : l ≤ 0
    · simp [h1, h0]
    · have e1 : ¬ (l ≤ 0 ∨ 2 * (((v ++ u).length : Int) + 1) ≤ l) := by simp; omega
      have e2 : ¬ (l ≤ 0 ∨ 2 * ((v.length : Int) + 1) ≤ l) := by omega
      rw [if_neg h1, if_neg h1, if_neg e1, if_neg e2]
      have hi : (l / 2 - 1).toNat < v.length := by omega
      rw [List.getD_eq_getElem?_getD, List.getD_eq_getElem?_getD, List.getElem?_append_left hi]
theorem val_ext {ins : List Bool} {g h : List Gt} {l : Int} (hl : isB g l = true) : valF (allV ins (g ++ h)) l = valF (allV ins g) l := by
  obtain ⟨u, e⟩ := allV_append ins g h
  rw [e]
  rw [isB_iff] at hl
  exact valF_append (by rw [allV_len]; exact hl.2)
theorem val_grow {ins : List Bool} {g h : List Gt} {n : Nat} (x : Grow g h n) {l : Int} (hl : isB g l = true) : valF (allV ins h) l = valF (allV ins g) l := by
  obtain ⟨t, rfl, _⟩ := x.pre
  exact val_ext hl
theorem val_not {v : List Bool} {l : Int} (h0 : 0 ≤ l) (h1 : l < 2 * ((v.length : Int) + 1)) : valF v (notI l) = !valF v l := by
  by_cases e1 : l = 1
  · subst e1; rfl
  by_cases e0 : l = 0
  · subst e0; rfl
  have hn : notI l ≠ 1 ∧ ¬ (notI l ≤ 0 ∨ 2 * ((v.length : Int) + 1) ≤ notI l) := by unfold notI; split <;> omega
  have hk : (notI l / 2 - 1).toNat = (l / 2 - 1).toNat := by unfold notI; split <;> omega
  have hp : decide (notI l % 2 = 1) = !decide (l % 2 = 1) := by
    rw [Bool.eq_iff_iff]; unfold notI; split <;> simp <;> omega
  unfold valF
  rw [if_neg hn.1, if_neg hn.2, if_neg e1, if_neg (by omega), hk, hp]
  generalize v.getD (l / 2 - 1).toNat false = x
  generalize decide (l % 2 = 1) = y
  cases x <;> cases y <;> rfl
theorem val_nots {ins : List Bool} {g : List Gt} {l : Int} (hl : isB g l = true) : valF (allV ins g) (notI l) = !valF (allV ins g) l := by
  rw [isB_iff] at hl
  exact val_not hl.1 (by rw [allV_len]; exact hl.2)
theorem val_zero (v : List Bool) : valF v 0 = false := by unfold valF; simp
theorem val_one (v : List Bool) : valF v 1 = true := by unfold valF; simp
/-- An "and" node's literal. -/
theorem val_kid {ins : List Bool} {g : List Gt} (hm : May g) {b : Int} (h2 : 2 ≤ b) (hb : isB g b = true) (hn : isInB (kid g b) = false) :
    valF (allV ins g) b = ((valF (allV ins g) (kid g b).1 && valF (allV ins g) (kid g b).2) != decide (b % 2 = 1)) := by
  obtain ⟨i, hi, e1, e2, ek, ok⟩ := kid_ok hm h2 hb
  have hg : g = (g.take i ++ [g[i]]) ++ g.drop (i + 1) := by
    rw [List.append_assoc, List.singleton_append, List.getElem_cons_drop, List.take_append_drop]
  have hti : (g.take i).length = i := by simp; omega
  rw [ek] at hn ⊢
  have okc := ok
  unfold okAt at okc
  rw [hn] at okc
  simp at okc
  have l1 : isB (g.take i) g[i].1 = true := by rw [isB_iff, hti]; omega
  have l2 : isB (g.take i) g[i].2 = true := by rw [isB_iff, hti]; omega
  have vv : ∀ l, isB (g.take i) l = true → valF (allV ins g) l = valF (allV ins (g.take i)) l := fun l hl => by
    have := val_ext (ins := ins) (h := g.drop i) hl
    rwa [List.take_append_drop] at this
  have v1 := vv _ l1
  have v2 := vv _ l2
  have hbit : bitF ins (allV ins (g.take i)) (cntF (g.take i) 0) g[i] = (valF (allV ins (g.take i)) g[i].1 && valF (allV ins (g.take i)) g[i].2) := by unfold bitF; rw [hn]; rfl
  have hB := isB_iff.1 hb
  have hat : (allV ins g)[i]? = some (bitF ins (allV ins (g.take i)) (cntF (g.take i) 0) g[i]) := by
    obtain ⟨u, e⟩ := allV_append ins (g.take i ++ [g[i]]) (g.drop (i + 1))
    rw [← hg] at e
    rw [e, allV_snoc, List.getElem?_append_left (by simp [allV_len, hti]), List.getElem?_append_right (by simp [allV_len, hti])]
    simp [allV_len, hti]
  rw [v1, v2, ← hbit]
  unfold valF
  rw [if_neg (by omega), if_neg (by rw [allV_len]; omega), e1, List.getD_eq_getElem?_getD, hat]
  rfl

theorem lit_in {g : List Gt} (hm : May g) {b : Int} (h2 : 2 ≤ b) (hb : isB g b = true) (hn : isInB (kid g b) = false) : isB g (kid g b).1 = true ∧ isB g (kid g b).2 = true := by
  obtain ⟨i, hi, e1, e2, ek, ok⟩ := kid_ok hm h2 hb
  rw [ek] at hn ⊢
  unfold okAt at ok
  rw [hn] at ok
  simp at ok
  constructor <;> (rw [isB_iff]; omega)
theorem kid_in {t : Gt} (h : 0 ≤ t.1 ∨ 0 ≤ t.2) : isInB t = false := by unfold isInB; simp; omega

/-- What short tells means the "and". -/
theorem short_mean {ins : List Bool} {g : List Gt} (hm : May g) {a b : Int} (ha : isB g a = true) (hb : isB g b = true) (hab : a ≤ b) (h : shortF g a b ≠ -1) :
    valF (allV ins g) (shortF g a b) = (valF (allV ins g) a && valF (allV ins g) b) := by
  have hA := isB_iff.1 ha
  have hB := isB_iff.1 hb
  by_cases h1 : a = 0 ∨ a = notI b
  · have e : shortF g a b = 0 := by unfold shortF; rw [if_pos h1]
    rw [e, val_zero]
    rcases h1 with h1 | h1
    · rw [h1, val_zero]; rfl
    · rw [h1, val_nots hb]; cases valF (allV ins g) b <;> rfl
  by_cases h2 : a = 1 ∨ a = b
  · have e : shortF g a b = b := by unfold shortF; rw [if_neg h1, if_pos h2]
    rw [e]
    rcases h2 with h2 | h2
    · rw [h2, val_one]; rfl
    · rw [h2]; cases valF (allV ins g) b <;> rfl
  have hna : 0 ≤ notI a := notI_nn.2 hA.1
  have h2b : 2 ≤ b := by omega
  by_cases h3 : ((kid g b).1 = a ∨ (kid g b).2 = a) ∧ b % 2 = 0
  · have e : shortF g a b = b := by unfold shortF; rw [if_neg h1, if_neg h2, if_pos h3]
    have hn := kid_in (t := kid g b) (by omega)
    have hk := val_kid (ins := ins) hm h2b hb hn
    rw [show decide (b % 2 = 1) = false by simp; omega] at hk
    rw [e, hk]
    rcases h3.1 with h | h <;> rw [h]
    · cases valF (allV ins g) a <;> cases valF (allV ins g) (kid g b).2 <;> rfl
    · cases valF (allV ins g) a <;> cases valF (allV ins g) (kid g b).1 <;> rfl
  by_cases h4 : (kid g b).1 = notI a ∨ (kid g b).2 = notI a
  · have hn := kid_in (t := kid g b) (by omega)
    have hk := val_kid (ins := ins) hm h2b hb hn
    have hv := val_nots (ins := ins) ha
    by_cases hp : b % 2 = 0
    · have e : shortF g a b = 0 := by unfold shortF; rw [if_neg h1, if_neg h2, if_neg h3, if_pos h4, if_pos hp]
      rw [show decide (b % 2 = 1) = false by simp; omega] at hk
      rw [e, hk, val_zero]
      rcases h4 with h | h <;> rw [h, hv]
      · cases valF (allV ins g) a <;> cases valF (allV ins g) (kid g b).2 <;> rfl
      · cases valF (allV ins g) a <;> cases valF (allV ins g) (kid g b).1 <;> rfl
    · have e : shortF g a b = a := by unfold shortF; rw [if_neg h1, if_neg h2, if_neg h3, if_pos h4, if_neg hp]
      rw [show decide (b % 2 = 1) = true by simp; omega] at hk
      rw [e, hk]
      rcases h4 with h | h <;> rw [h, hv]
      · cases valF (allV ins g) a <;> cases valF (allV ins g) (kid g b).2 <;> rfl
      · cases valF (allV ins g) a <;> cases valF (allV ins g) (kid g b).1 <;> rfl
  · exact absurd (by unfold shortF; rw [if_neg h1, if_neg h2, if_neg h3, if_neg h4]) h

theorem rest_mean {ins : List Bool} {g : List Gt} (hm : May g) {a b : Int} (ha : isB g a = true) (hb : isB g b = true) (hab : a ≤ b) (hs : shortF g a b = -1) (hr : restF g a b ≠ -1) :
    (valF (allV ins g) a && valF (allV ins g) (restF g a b)) = (valF (allV ins g) a && valF (allV ins g) b) := by
  obtain ⟨h2, hlt, hx⟩ := rest_lit hm ha hb hab hs
  obtain ⟨_, _, hodd⟩ := hx.resolve_left hr
  have h2b : 2 ≤ b := by omega
  unfold restF at hr ⊢
  by_cases g1 : a = (kid g b).1
  · rw [if_pos g1] at hr ⊢
    have hn := kid_in (t := kid g b) (by omega)
    have hk := val_kid (ins := ins) hm h2b hb hn
    have hl := lit_in hm h2b hb hn
    rw [show decide (b % 2 = 1) = true by simp; omega, ← g1] at hk
    rw [hk, val_nots hl.2]
    cases valF (allV ins g) a <;> cases valF (allV ins g) (kid g b).2 <;> rfl
  · rw [if_neg g1] at hr ⊢
    by_cases g2 : a = (kid g b).2
    · rw [if_pos g2] at hr ⊢
      have hn := kid_in (t := kid g b) (by omega)
      have hk := val_kid (ins := ins) hm h2b hb hn
      have hl := lit_in hm h2b hb hn
      rw [show decide (b % 2 = 1) = true by simp; omega, ← g2] at hk
      rw [hk, val_nots hl.1]
      cases valF (allV ins g) a <;> cases valF (allV ins g) (kid g b).1 <;> rfl
    · rw [if_neg g2] at hr; exact absurd rfl hr

theorem node_mean {ins : List Bool} {g : List Gt} (hm : May g) {a b : Int} (h0 : 0 ≤ a) (hab : a ≤ b) :
    valF (allV ins (nodeF g a b).1) (nodeF g a b).2 = (valF (allV ins g) a && valF (allV ins g) b) := by
  unfold nodeF
  cases hf : findF g (a, b) with
  | some i =>
    obtain ⟨hi, hk⟩ := find_lt hf
    have hkey := hk g[i] (List.getElem?_eq_getElem hi)
    dsimp only
    have hb : isB g (2 * ((i : Int) + 1)) = true := by rw [isB_iff]; omega
    have e1 : (2 * ((i : Int) + 1) / 2 - 1).toNat = i := by omega
    have ek : kid g (2 * ((i : Int) + 1)) = g[i] := by
      unfold kid; rw [e1, List.getD_eq_getElem?_getD, List.getElem?_eq_getElem hi]; rfl
    unfold keyF at hkey
    simp at hkey
    have hn : isInB (kid g (2 * ((i : Int) + 1))) = false := by rw [ek]; exact kid_in (by omega)
    have hv := val_kid (ins := ins) hm (by omega) hb hn
    rw [show decide (2 * ((i : Int) + 1) % 2 = 1) = false by simp, ek] at hv
    rw [hv]
    by_cases hle : g[i].1 ≤ g[i].2
    · rw [show a = g[i].1 by omega, show b = g[i].2 by omega]; simp
    · rw [show a = g[i].2 by omega, show b = g[i].1 by omega, Bool.and_comm]; simp
  | none =>
    dsimp only
    rw [allV_snoc]
    have hin : isInB (a, b) = false := kid_in (by dsimp only; omega)
    have hbit : bitF ins (allV ins g) (cntF g 0) (a, b) = (valF (allV ins g) a && valF (allV ins g) b) := by unfold bitF; rw [hin]; rfl
    rw [hbit]
    unfold valF
    rw [if_neg (by omega), if_neg (by simp [allV_len]; omega), show (2 * ((g.length : Int) + 1) / 2 - 1).toNat = g.length by omega, List.getD_eq_getElem?_getD, List.getElem?_append_right (by simp [allV_len])]
    simp [allV_len]
    done

theorem red_mean {ins : List Bool} {g : List Gt} (hm : May g) : ∀ (n : Nat) (a b : Int), isB g a = true → isB g b = true → a + b < n →
    ((redF n g a b).1 ≠ -1 → valF (allV ins g) (redF n g a b).1 = (valF (allV ins g) a && valF (allV ins g) b)) ∧
    ((redF n g a b).1 = -1 → (valF (allV ins g) (redF n g a b).2.1 && valF (allV ins g) (redF n g a b).2.2) = (valF (allV ins g) a && valF (allV ins g) b))
  | 0, a, b, ha, hb, hn => by rw [isB_iff] at ha hb; omega
  | n + 1, a, b, ha, hb, hn => by
    obtain ⟨ha', hb'⟩ := isB_minmax ha hb
    have hmm : (valF (allV ins g) (min a b) && valF (allV ins g) (max a b)) = (valF (allV ins g) a && valF (allV ins g) b) := by
      by_cases hab : a ≤ b
      · rw [(min_le hab).1, (min_le hab).2]
      · rw [show min a b = b by omega, show max a b = a by omega, Bool.and_comm]
    by_cases hs : shortF g (min a b) (max a b) = -1
    · obtain ⟨h2, hlt, hr'⟩ := rest_lit hm ha' hb' (by omega) hs
      by_cases hr : restF g (min a b) (max a b) = -1
      · rw [red_end ha hb hn hs hr]
        exact ⟨fun h => absurd rfl h, fun _ => hmm⟩
      · obtain ⟨hrl, hrb, _⟩ := hr'.resolve_left hr
        have e : redF (n + 1) g a b = redF n g (min a b) (restF g (min a b) (max a b)) := by
          conv => lhs; unfold redF
          rw [if_neg (by omega), if_neg hr]
        have hx := rest_mean (ins := ins) hm ha' hb' (by omega) hs hr
        rw [e, ← hmm, ← hx]
        exact red_mean hm n _ _ ha' hrl (by omega)
    · rw [red_short ha hb hn hs]
      refine ⟨fun _ => ?_, fun h => absurd h hs⟩
      rw [← hmm]
      exact short_mean hm ha' hb' (by omega) hs

theorem and_mean {ins : List Bool} {g : List Gt} (hm : May g) {a b : Int} (ha : isB g a = true) (hb : isB g b = true) :
    valF (allV ins (andF g a b).1) (andF g a b).2 = (valF (allV ins g) a && valF (allV ins g) b) := by
  have hA := isB_iff.1 ha
  have hB := isB_iff.1 hb
  have hr := red_mean (ins := ins) hm (a + b + 1).toNat a b ha hb (by omega)
  have hs := red_spec hm (a + b + 1).toNat a b ha hb (by omega)
  unfold andF
  simp only [ha, hb, Bool.and_self, if_true]
  by_cases h1 : (redF (a + b + 1).toNat g a b).1 ≠ -1
  · rw [if_pos h1]
    exact hr.1 h1
  · rw [if_neg h1]
    have h1' : (redF (a + b + 1).toNat g a b).1 = -1 := by omega
    obtain ⟨_, c1, c2, c3, c4, _⟩ := hs.resolve_left (fun c => by rw [isB_iff] at c; omega)
    rw [node_mean hm (by omega) (by omega)]
    exact hr.2 h1'
theorem or_mean {ins : List Bool} {g : List Gt} (hm : May g) {a b : Int} (ha : isB g a = true) (hb : isB g b = true) :
    valF (allV ins (orF g a b).1) (orF g a b).2 = (valF (allV ins g) a || valF (allV ins g) b) := by
  have na : isB g (notI a) = true := by rw [isB_not]; exact ha
  have nb : isB g (notI b) = true := by rw [isB_not]; exact hb
  have h := and_mean (ins := ins) hm na nb
  have hl := (and_grow hm (notI a) (notI b)).2.1 na nb
  unfold orF
  dsimp only
  rw [(neg_lit hl).1, val_nots hl, h, val_nots ha, val_nots hb]
  cases valF (allV ins g) a <;> cases valF (allV ins g) b <;> rfl
theorem xor_mean {ins : List Bool} {g : List Gt} (hm : May g) {a b : Int} (ha : isB g a = true) (hb : isB g b = true) :
    valF (allV ins (xorF g a b).1) (xorF g a b).2 = (valF (allV ins g) a != valF (allV ins g) b) := by
  have na : isB g (notI a) = true := by rw [isB_not]; exact ha
  have nb : isB g (notI b) = true := by rw [isB_not]; exact hb
  have g1 := and_grow hm a (notI b)
  have m1 := and_mean (ins := ins) hm ha nb
  have l1 := g1.2.1 ha nb
  have g2 := and_grow g1.1.may (notI a) b
  have m2 := and_mean (ins := ins) g1.1.may (g1.1.lit na) (g1.1.lit hb)
  have l2 := g2.2.1 (g1.1.lit na) (g1.1.lit hb)
  unfold xorF
  rw [or_mean g2.1.may (g2.1.lit l1) l2, m2, val_grow g2.1 l1, m1, val_grow g1.1 na, val_grow g1.1 hb, val_nots ha, val_nots hb]
  cases valF (allV ins g) a <;> cases valF (allV ins g) b <;> rfl
theorem ite_mean {ins : List Bool} {g : List Gt} (hm : May g) {c a b : Int} (hc : isB g c = true) (ha : isB g a = true) (hb : isB g b = true) :
    valF (allV ins (iteF g c a b).1) (iteF g c a b).2 = (if valF (allV ins g) c then valF (allV ins g) a else valF (allV ins g) b) := by
  have nc : isB g (notI c) = true := by rw [isB_not]; exact hc
  have g1 := and_grow hm c a
  have m1 := and_mean (ins := ins) hm hc ha
  have l1 := g1.2.1 hc ha
  have g2 := and_grow g1.1.may (notI c) b
  have m2 := and_mean (ins := ins) g1.1.may (g1.1.lit nc) (g1.1.lit hb)
  have l2 := g2.2.1 (g1.1.lit nc) (g1.1.lit hb)
  unfold iteF
  rw [or_mean g2.1.may (g2.1.lit l1) l2, m2, val_grow g2.1 l1, m1, val_grow g1.1 nc, val_grow g1.1 hb, val_nots hc]
  cases valF (allV ins g) c <;> cases valF (allV ins g) a <;> cases valF (allV ins g) b <;> rfl
theorem all_next' (g : List Gt) (x k : Int) (l : List Int) : allF g x (k :: l) = allF (andF g x k).1 (andF g x k).2 l := rfl
theorem all_mean {ins : List Bool} : ∀ (l : List Int) {g : List Gt} (x : Int), May g → isB g x = true → (∀ k ∈ l, isB g k = true) →
    valF (allV ins (allF g x l).1) (allF g x l).2 = (valF (allV ins g) x && l.all fun k => valF (allV ins g) k)
  | [], g, x, hm, hx, hl => by simp [allF]
  | k :: l, g, x, hm, hx, hl => by
    have hk := hl k (by simp)
    have g1 := and_grow hm x k
    have ih := all_mean (ins := ins) l (andF g x k).2 g1.1.may (g1.2.1 hx hk) (fun j hj => g1.1.lit (hl j (by simp [hj])))
    rw [all_next', ih, and_mean hm hx hk]
    have e : (l.all fun k_1 => valF (allV ins (andF g x k).1) k_1) = l.all fun k => valF (allV ins g) k := by
      rw [Bool.eq_iff_iff, List.all_eq_true, List.all_eq_true]
      constructor
      · intro h j hj; rw [← val_grow g1.1 (hl j (by simp [hj]))]; exact h j hj
      · intro h j hj; rw [val_grow g1.1 (hl j (by simp [hj]))]; exact h j hj
    rw [e, List.all_cons, Bool.and_assoc]
end Go.Proofs.Ytbilhiklfficoaa
