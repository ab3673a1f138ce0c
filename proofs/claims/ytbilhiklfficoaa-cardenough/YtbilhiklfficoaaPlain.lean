/- Graphs of "and" in plain words: what is made of two literals. -/
import Derived.WalkKit
set_option linter.unusedVariables false
set_option linter.unusedSimpArgs false
namespace Go.Proofs.Ytbilhiklfficoaa

/-- A node: two literals, or -1 twice. -/
abbrev Gt := Int × Int

def isInB (t : Gt) : Bool := decide (t.1 = -1) && decide (t.2 = -1)
def notI (l : Int) : Int := if l % 2 = 0 then l + 1 else l - 1
/-- The node of a literal. -/
def kid (g : List Gt) (l : Int) : Gt := g.getD (l / 2 - 1).toNat (-1, -1)
/-- The node at a place may be. -/
def okAt (i : Nat) (t : Gt) : Prop := isInB t = true ∨ (0 ≤ t.1 ∧ t.1 < 2 * ((i : Int) + 1) ∧ 0 ≤ t.2 ∧ t.2 < 2 * ((i : Int) + 1))
def May (g : List Gt) : Prop := ∀ i (h : i < g.length), okAt i g[i]
/-- A literal of a graph. -/
def isB (g : List Gt) (l : Int) : Bool := decide (0 ≤ l) && decide (l < 2 * ((g.length : Int) + 1))

def shortF (g : List Gt) (a b : Int) : Int :=
  if a = 0 ∨ a = notI b then 0
  else if a = 1 ∨ a = b then b
  else if ((kid g b).1 = a ∨ (kid g b).2 = a) ∧ b % 2 = 0 then b
  else if (kid g b).1 = notI a ∨ (kid g b).2 = notI a then (if b % 2 = 0 then 0 else a)
  else -1
def restF (g : List Gt) (a b : Int) : Int := if a = (kid g b).1 then notI (kid g b).2 else if a = (kid g b).2 then notI (kid g b).1 else -1
/-- What two literals come to by the first three rules: a literal, or (-1) two literals of which a node is wanted. -/
def redF : Nat → List Gt → Int → Int → Int × Int × Int
  | 0, _, a, b => (-1, a, b)
  | n + 1, g, a, b =>
    if shortF g (min a b) (max a b) ≠ -1 then (shortF g (min a b) (max a b), min a b, max a b)
    else if restF g (min a b) (max a b) = -1 then (-1, min a b, max a b)
    else redF n g (min a b) (restF g (min a b) (max a b))
def keyF (t : Gt) : Gt := (min t.1 t.2, max t.1 t.2)
def findF (g : List Gt) (p : Gt) : Option Nat := g.findIdx? (fun t => keyF t == p)
def nodeF (g : List Gt) (a b : Int) : List Gt × Int :=
  match findF g (a, b) with
  | some i => (g, 2 * ((i : Int) + 1))
  | none => (g ++ [(a, b)], 2 * ((g.length : Int) + 1))
def andF (g : List Gt) (a b : Int) : List Gt × Int :=
  if isB g a && isB g b then
    (if (redF (a + b + 1).toNat g a b).1 ≠ -1 then (g, (redF (a + b + 1).toNat g a b).1) else nodeF g (redF (a + b + 1).toNat g a b).2.1 (redF (a + b + 1).toNat g a b).2.2)
  else (g, -1)
def negF (l : Int) : Int := if l = -1 then -1 else notI l
def inF (g : List Gt) : List Gt × Int := (g ++ [(-1, -1)], 2 * ((g.length : Int) + 1))
def orF (g : List Gt) (a b : Int) : List Gt × Int := ((andF g (notI a) (notI b)).1, negF (andF g (notI a) (notI b)).2)
def xorF (g : List Gt) (a b : Int) : List Gt × Int :=
  orF (andF (andF g a (notI b)).1 (notI a) b).1 (andF g a (notI b)).2 (andF (andF g a (notI b)).1 (notI a) b).2
def iteF (g : List Gt) (c a b : Int) : List Gt × Int :=
  orF (andF (andF g c a).1 (notI c) b).1 (andF g c a).2 (andF (andF g c a).1 (notI c) b).2
def allF : List Gt → Int → List Int → List Gt × Int
  | g, x, [] => (g, x)
  | g, x, k :: l => allF (andF g x k).1 (andF g x k).2 l

theorem isB_iff {g : List Gt} {l : Int} : isB g l = true ↔ 0 ≤ l ∧ l < 2 * ((g.length : Int) + 1) := by simp [isB]
theorem notI_notI (l : Int) : notI (notI l) = l := by unfold notI; split <;> split <;> omega
theorem notI_nn {l : Int} : 0 ≤ notI l ↔ 0 ≤ l := by unfold notI; split <;> omega
theorem notI_lt {l n : Int} : notI l < 2 * n ↔ l < 2 * n := by unfold notI; split <;> omega
theorem notI_ge {l n : Int} : 2 * n ≤ notI l ↔ 2 * n ≤ l := by unfold notI; split <;> omega
theorem notI_ne (l : Int) : notI l ≠ l := by unfold notI; split <;> omega
theorem notI_inj {a b : Int} : notI a = notI b ↔ a = b := ⟨fun h => by rw [← notI_notI a, h, notI_notI], fun h => by rw [h]⟩
theorem notI_eq {a b : Int} : notI a = b ↔ a = notI b := ⟨fun h => by rw [← h, notI_notI], fun h => by rw [h, notI_notI]⟩
theorem isB_not (g : List Gt) (l : Int) : isB g (notI l) = isB g l := by
  rw [Bool.eq_iff_iff, isB_iff, isB_iff, notI_nn, notI_lt]

theorem kid_ok {g : List Gt} (hm : May g) {l : Int} (h2 : 2 ≤ l) (hl : isB g l = true) : ∃ i : Nat, ∃ h : i < g.length, (l / 2 - 1).toNat = i ∧ ((i : Int) = l / 2 - 1) ∧ kid g l = g[i] ∧ okAt i g[i] := by
  rw [isB_iff] at hl
  refine ⟨(l / 2 - 1).toNat, by omega, rfl, by omega, ?_, hm _ _⟩
  have hi : (l / 2 - 1).toNat < g.length := by omega
  unfold kid
  rw [List.getD_eq_getElem?_getD, List.getElem?_eq_getElem hi]; rfl

/-- What stands in the other's place: a literal, of less. -/
theorem rest_lit {g : List Gt} (hm : May g) {a b : Int} (ha : isB g a = true) (hb : isB g b = true) (hab : a ≤ b) (hs : shortF g a b = -1) :
    2 ≤ a ∧ a < b ∧ (restF g a b = -1 ∨ (isB g (restF g a b) = true ∧ restF g a b < b ∧ b % 2 = 1)) := by
  have hA := isB_iff.1 ha
  have hB := isB_iff.1 hb
  unfold shortF at hs
  by_cases h1 : a = 0 ∨ a = notI b
  · rw [if_pos h1] at hs; omega
  rw [if_neg h1] at hs
  by_cases h2 : a = 1 ∨ a = b
  · rw [if_pos h2] at hs; omega
  rw [if_neg h2] at hs
  have h2a : 2 ≤ a := by omega
  have hlt : a < b := by omega
  refine ⟨h2a, hlt, ?_⟩
  by_cases h3 : ((kid g b).1 = a ∨ (kid g b).2 = a) ∧ b % 2 = 0
  · rw [if_pos h3] at hs; omega
  obtain ⟨i, hi, e1, e2, ek, ok⟩ := kid_ok hm (by omega : 2 ≤ b) hb
  rw [ek] at h3
  unfold restF
  rw [ek]
  unfold okAt isInB at ok
  simp at ok
  by_cases g1 : a = g[i].1
  · rw [if_pos g1]
    right
    have hk : 0 ≤ g[i].2 ∧ g[i].2 < 2 * ((i : Int) + 1) := by omega
    refine ⟨isB_iff.2 ⟨notI_nn.2 hk.1, by have := notI_lt.2 hk.2; omega⟩, by have := notI_lt.2 hk.2; omega, ?_⟩
    have : ¬ b % 2 = 0 := fun e => h3 ⟨.inl g1.symm, e⟩
    omega
  · rw [if_neg g1]
    by_cases g2 : a = g[i].2
    · rw [if_pos g2]
      right
      have hk : 0 ≤ g[i].1 ∧ g[i].1 < 2 * ((i : Int) + 1) := by omega
      refine ⟨isB_iff.2 ⟨notI_nn.2 hk.1, by have := notI_lt.2 hk.2; omega⟩, by have := notI_lt.2 hk.2; omega, ?_⟩
      have : ¬ b % 2 = 0 := fun e => h3 ⟨.inr g2.symm, e⟩
      omega
    · rw [if_neg g2]; left; rfl

theorem isB_minmax {g : List Gt} {a b : Int} (ha : isB g a = true) (hb : isB g b = true) : isB g (min a b) = true ∧ isB g (max a b) = true := by
  simp only [isB_iff] at *; omega

/-- Enough fuel is enough. -/
theorem red_fuel {g : List Gt} (hm : May g) : ∀ (n m : Nat) (a b : Int), isB g a = true → isB g b = true → a + b < n → a + b < m → redF n g a b = redF m g a b
  | 0, _, a, b, ha, hb, hn, _ => by rw [isB_iff] at ha hb; omega
  | _, 0, a, b, ha, hb, _, hk => by rw [isB_iff] at ha hb; omega
  | n + 1, m + 1, a, b, ha, hb, hn, hk => by
    unfold redF
    obtain ⟨ha', hb'⟩ := isB_minmax ha hb
    by_cases hs : shortF g (min a b) (max a b) ≠ -1
    · rw [if_pos hs, if_pos hs]
    · rw [if_neg hs, if_neg hs]
      have hs' : shortF g (min a b) (max a b) = -1 := by omega
      obtain ⟨h2, hlt, hr⟩ := rest_lit hm ha' hb' (by omega) hs'
      by_cases hr1 : restF g (min a b) (max a b) = -1
      · rw [if_pos hr1, if_pos hr1]
      · rw [if_neg hr1, if_neg hr1]
        obtain ⟨hrl, hrb, _⟩ := hr.resolve_left hr1
        exact red_fuel hm n m _ _ ha' hrl (by omega) (by omega)

/-- One round more. -/
theorem red_next {g : List Gt} (hm : May g) {n : Nat} {a b : Int} (ha : isB g a = true) (hb : isB g b = true) (hn : a + b < n) (hs : shortF g (min a b) (max a b) = -1) (hr : restF g (min a b) (max a b) ≠ -1) :
    redF n g a b = redF (min a b + restF g (min a b) (max a b) + 1).toNat g (min a b) (restF g (min a b) (max a b)) ∧ isB g (min a b) = true ∧ isB g (restF g (min a b) (max a b)) = true ∧ min a b + restF g (min a b) (max a b) < a + b := by
  obtain ⟨ha', hb'⟩ := isB_minmax ha hb
  obtain ⟨h2, hlt, hr'⟩ := rest_lit hm ha' hb' (by omega) hs
  obtain ⟨hrl, hrb, _⟩ := hr'.resolve_left hr
  refine ⟨?_, ha', hrl, by omega⟩
  cases n with
  | zero => rw [isB_iff] at ha hb; omega
  | succ n =>
    have h0 := isB_iff.1 hrl
    conv => lhs; unfold redF
    rw [if_neg (by omega), if_neg hr]
    exact red_fuel hm _ _ _ _ ha' hrl (by omega) (by omega)
theorem red_short {g : List Gt} {n : Nat} {a b : Int} (ha : isB g a = true) (hb : isB g b = true) (hn : a + b < n) (hs : shortF g (min a b) (max a b) ≠ -1) : redF n g a b = (shortF g (min a b) (max a b), min a b, max a b) := by
  cases n with
  | zero => rw [isB_iff] at ha hb; omega
  | succ n => unfold redF; rw [if_pos hs]
theorem red_end {g : List Gt} {n : Nat} {a b : Int} (ha : isB g a = true) (hb : isB g b = true) (hn : a + b < n) (hs : shortF g (min a b) (max a b) = -1) (hr : restF g (min a b) (max a b) = -1) : redF n g a b = (-1, min a b, max a b) := by
  cases n with
  | zero => rw [isB_iff] at ha hb; omega
  | succ n => unfold redF; rw [if_neg (by omega), if_pos hr]

/-- What short tells is a literal, or -1. -/
theorem short_lit {g : List Gt} {a b : Int} (ha : isB g a = true) (hb : isB g b = true) : shortF g a b = -1 ∨ isB g (shortF g a b) = true := by
  have h0 : isB g 0 = true := by rw [isB_iff]; omega
  unfold shortF
  split
  · exact .inr h0
  split
  · exact .inr hb
  split
  · exact .inr hb
  split
  · split
    · exact .inr h0
    · exact .inr ha
  · exact .inl rfl

/-- How it ends: a literal; or two that no rule strikes at. -/
theorem red_spec {g : List Gt} (hm : May g) : ∀ (n : Nat) (a b : Int), isB g a = true → isB g b = true → a + b < n →
    isB g (redF n g a b).1 = true ∨ ((redF n g a b).1 = -1 ∧ isB g (redF n g a b).2.1 = true ∧ isB g (redF n g a b).2.2 = true ∧ 2 ≤ (redF n g a b).2.1 ∧ (redF n g a b).2.1 < (redF n g a b).2.2 ∧ shortF g (redF n g a b).2.1 (redF n g a b).2.2 = -1 ∧ restF g (redF n g a b).2.1 (redF n g a b).2.2 = -1)
  | 0, a, b, ha, hb, hn => by rw [isB_iff] at ha hb; omega
  | n + 1, a, b, ha, hb, hn => by
    obtain ⟨ha', hb'⟩ := isB_minmax ha hb
    by_cases hs : shortF g (min a b) (max a b) = -1
    · obtain ⟨h2, hlt, hr'⟩ := rest_lit hm ha' hb' (by omega) hs
      by_cases hr : restF g (min a b) (max a b) = -1
      · rw [red_end ha hb hn hs hr]
        exact .inr ⟨rfl, ha', hb', h2, hlt, hs, hr⟩
      · obtain ⟨hrl, hrb, _⟩ := hr'.resolve_left hr
        have e : redF (n + 1) g a b = redF n g (min a b) (restF g (min a b) (max a b)) := by
          conv => lhs; unfold redF
          rw [if_neg (by omega), if_neg hr]
        rw [e]
        exact red_spec hm n _ _ ha' hrl (by omega)
    · rw [red_short ha hb hn hs]
      exact .inl ((short_lit ha' hb').resolve_left hs)

theorem may_snoc {g : List Gt} (hm : May g) {t : Gt} (ht : okAt g.length t) : May (g ++ [t]) := by
  intro i hi
  simp at hi
  by_cases e : i < g.length
  · rw [List.getElem_append_left e]; exact hm i e
  · obtain rfl : i = g.length := by omega
    simpa using ht
theorem find_lt {g : List Gt} {p : Gt} {i : Nat} (h : findF g p = some i) : i < g.length ∧ ∀ t, g[i]? = some t → keyF t = p := by
  unfold findF at h
  rw [List.findIdx?_eq_some_iff_getElem] at h
  obtain ⟨hi, hp, _⟩ := h
  refine ⟨hi, fun t ht => ?_⟩
  rw [List.getElem?_eq_getElem hi] at ht
  cases ht
  simpa using hp

/-- What And leaves: a graph that goes on as it was, one node more at most; a literal of it, or -1 where one of the two is none. -/
structure Grow (g h : List Gt) (n : Nat) : Prop where
  may : May h
  pre : ∃ t, h = g ++ t ∧ t.length ≤ n
theorem Grow.len {g h : List Gt} {n : Nat} (x : Grow g h n) : g.length ≤ h.length ∧ h.length ≤ g.length + n := by
  obtain ⟨t, rfl, ht⟩ := x.pre
  simp; omega
theorem Grow.refl {g : List Gt} (hm : May g) (n : Nat) : Grow g g n := ⟨hm, [], by simp, Nat.zero_le _⟩
theorem Grow.trans {g h k : List Gt} {n m : Nat} (x : Grow g h n) (y : Grow h k m) : Grow g k (n + m) := by
  obtain ⟨t, rfl, ht⟩ := x.pre
  obtain ⟨u, rfl, hu⟩ := y.pre
  exact ⟨y.may, t ++ u, by simp, by simp; omega⟩
theorem Grow.lit {g h : List Gt} {n : Nat} (x : Grow g h n) {l : Int} (hl : isB g l = true) : isB h l = true := by
  have := x.len
  rw [isB_iff] at *; omega
theorem Grow.mono {g h : List Gt} {n m : Nat} (x : Grow g h n) (hm : n ≤ m) : Grow g h m := ⟨x.may, by obtain ⟨t, e, ht⟩ := x.pre; exact ⟨t, e, by omega⟩⟩

theorem node_grow {g : List Gt} (hm : May g) {a b : Int} (ha : isB g a = true) (hb : isB g b = true) : Grow g (nodeF g a b).1 1 ∧ isB (nodeF g a b).1 (nodeF g a b).2 = true := by
  unfold nodeF
  cases hf : findF g (a, b) with
  | some i =>
    have := (find_lt hf).1
    exact ⟨Grow.refl hm _, by rw [isB_iff]; dsimp only; omega⟩
  | none =>
    rw [isB_iff] at ha hb
    refine ⟨⟨may_snoc hm (.inr ⟨ha.1, ha.2, hb.1, hb.2⟩), _, rfl, by simp⟩, by rw [isB_iff]; simp; omega⟩
theorem and_grow {g : List Gt} (hm : May g) (a b : Int) : Grow g (andF g a b).1 1 ∧ (isB g a = true → isB g b = true → isB (andF g a b).1 (andF g a b).2 = true) ∧ ((isB g a && isB g b) = false → andF g a b = (g, -1)) := by
  unfold andF
  by_cases h : (isB g a && isB g b) = true
  · simp only [h, if_true]
    simp at h
    obtain ⟨ha, hb⟩ := h
    have hA := isB_iff.1 ha
    have hB := isB_iff.1 hb
    have hs := red_spec hm (a + b + 1).toNat a b ha hb (by omega)
    by_cases h1 : (redF (a + b + 1).toNat g a b).1 ≠ -1
    · rw [if_pos h1]
      exact ⟨Grow.refl hm _, fun _ _ => hs.resolve_right (fun c => h1 c.1), fun c => by cases c⟩
    · rw [if_neg h1]
      have h1' : (redF (a + b + 1).toNat g a b).1 = -1 := by omega
      obtain ⟨_, c1, c2, _⟩ := hs.resolve_left (fun c => by rw [h1', isB_iff] at c; omega)
      have := node_grow hm c1 c2
      exact ⟨this.1, fun _ _ => this.2, fun c => by cases c⟩
  · simp only [h]
    refine ⟨Grow.refl hm _, fun ha hb => ?_, fun _ => rfl⟩
    simp [ha, hb] at h
theorem in_grow {g : List Gt} (hm : May g) : Grow g (inF g).1 1 ∧ isB (inF g).1 (inF g).2 = true := by
  refine ⟨⟨may_snoc hm (.inl rfl), _, rfl, by simp⟩, ?_⟩
  rw [isB_iff]; simp [inF]; omega
theorem neg_lit {g : List Gt} {l : Int} (h : isB g l = true) : negF l = notI l ∧ isB g (negF l) = true := by
  have : negF l = notI l := by unfold negF; rw [isB_iff] at h; rw [if_neg (by omega)]
  rw [this]
  exact ⟨rfl, by rw [isB_not]; exact h⟩
theorem or_grow {g : List Gt} (hm : May g) (a b : Int) : Grow g (orF g a b).1 1 ∧ (isB g a = true → isB g b = true → isB (orF g a b).1 (orF g a b).2 = true) ∧ ((isB g a && isB g b) = false → orF g a b = (g, -1)) := by
  have h := and_grow hm (notI a) (notI b)
  rw [isB_not, isB_not] at h
  refine ⟨h.1, fun ha hb => (neg_lit (h.2.1 ha hb)).2, fun c => ?_⟩
  unfold orF
  rw [h.2.2 c]
  rfl
theorem xor_grow {g : List Gt} (hm : May g) (a b : Int) : Grow g (xorF g a b).1 3 ∧ (isB g a = true → isB g b = true → isB (xorF g a b).1 (xorF g a b).2 = true) := by
  have h1 := and_grow hm a (notI b)
  have h2 := and_grow h1.1.may (notI a) b
  have h3 := or_grow h2.1.may (andF g a (notI b)).2 (andF (andF g a (notI b)).1 (notI a) b).2
  refine ⟨(h1.1.trans h2.1).trans h3.1, fun ha hb => h3.2.1 ?_ ?_⟩
  · exact h2.1.lit (h1.2.1 ha (by rw [isB_not]; exact hb))
  · exact h2.2.1 (by rw [isB_not]; exact h1.1.lit ha) (h1.1.lit hb)
theorem ite_grow {g : List Gt} (hm : May g) (c a b : Int) : Grow g (iteF g c a b).1 3 ∧ (isB g c = true → isB g a = true → isB g b = true → isB (iteF g c a b).1 (iteF g c a b).2 = true) := by
  have h1 := and_grow hm c a
  have h2 := and_grow h1.1.may (notI c) b
  have h3 := or_grow h2.1.may (andF g c a).2 (andF (andF g c a).1 (notI c) b).2
  refine ⟨(h1.1.trans h2.1).trans h3.1, fun hc ha hb => h3.2.1 ?_ ?_⟩
  · exact h2.1.lit (h1.2.1 hc ha)
  · exact h2.2.1 (by rw [isB_not]; exact h1.1.lit hc) (h1.1.lit hb)
theorem all_grow : ∀ (l : List Int) {g : List Gt} (x : Int), May g → Grow g (allF g x l).1 l.length ∧ (isB g x = true → (∀ k ∈ l, isB g k = true) → isB (allF g x l).1 (allF g x l).2 = true)
  | [], g, x, hm => ⟨Grow.refl hm _, fun h _ => h⟩
  | k :: l, g, x, hm => by
    have h1 := and_grow hm x k
    have h2 := all_grow l (andF g x k).2 h1.1.may
    refine ⟨(h1.1.trans h2.1).mono (by simp; omega), fun hx hl => ?_⟩
    exact h2.2 (h1.2.1 hx (hl k (by simp))) (fun j hj => h1.1.lit (hl j (by simp [hj])))
end Go.Proofs.Ytbilhiklfficoaa
