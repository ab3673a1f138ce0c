/- What is made is shared: no rule strikes at a node that was made, and it is found again. -/
import Derived.Test.YtjfjigpmaeaopaaPlainB
set_option linter.unusedVariables false
set_option linter.unusedSimpArgs false
namespace Go.Proofs.Ytjfjigpmaeaopaa

/-- A node that was made. -/
structure Made (g : List Gt) (i : Nat) (t : Gt) : Prop where
  lo : 2 ≤ t.1
  lt : t.1 < t.2
  hi : t.2 < 2 * ((i : Int) + 1)
  sh : shortF g t.1 t.2 = -1
  rs : restF g t.1 t.2 = -1
  fd : findF g t = some i
def Irr (g : List Gt) : Prop := ∀ i (h : i < g.length), g[i] = (-1, -1) ∨ Made g i g[i]

theorem kid_append {g h : List Gt} {b : Int} (h2 : 2 ≤ b) (hb : isB g b = true) : kid (g ++ h) b = kid g b := by
  rw [isB_iff] at hb
  unfold kid
  have hi : (b / 2 - 1).toNat < g.length := by omega
  rw [List.getD_eq_getElem?_getD, List.getD_eq_getElem?_getD, List.getElem?_append_left hi]
theorem short_append {g h : List Gt} {a b : Int} (h2 : 2 ≤ b) (hb : isB g b = true) : shortF (g ++ h) a b = shortF g a b := by unfold shortF; rw [kid_append h2 hb]
theorem rest_append {g h : List Gt} {a b : Int} (h2 : 2 ≤ b) (hb : isB g b = true) : restF (g ++ h) a b = restF g a b := by unfold restF; rw [kid_append h2 hb]
theorem find_append {g h : List Gt} {p : Gt} {i : Nat} (hf : findF g p = some i) : findF (g ++ h) p = some i := by
  unfold findF at *
  rw [List.findIdx?_append, hf]
  rfl
theorem find_self {g : List Gt} {p : Gt} (hp : keyF p = p) (hf : findF g p = none) : findF (g ++ [p]) p = some g.length := by
  unfold findF at *
  rw [List.findIdx?_append, hf]
  simp [hp]
theorem Made.append {g h : List Gt} {i : Nat} {t : Gt} (x : Made g i t) (hi : i < g.length) : Made (g ++ h) i t := by
  have hl := x.lo
  have hlt := x.lt
  have hh := x.hi
  have hb : isB g t.2 = true := by rw [isB_iff]; omega
  exact ⟨x.lo, x.lt, x.hi, by rw [short_append (by omega) hb]; exact x.sh, by rw [rest_append (by omega) hb]; exact x.rs, find_append x.fd⟩
theorem irr_snoc {g : List Gt} (h : Irr g) {t : Gt} (ht : t = (-1, -1) ∨ Made (g ++ [t]) g.length t) : Irr (g ++ [t]) := by
  intro i hi
  simp at hi
  by_cases e : i < g.length
  · rw [List.getElem_append_left e]
    rcases h i e with h' | h'
    · exact .inl h'
    · exact .inr (h'.append e)
  · obtain rfl : i = g.length := by omega
    simpa using ht
theorem irr_in {g : List Gt} (h : Irr g) : Irr (inF g).1 := irr_snoc h (.inl rfl)
theorem irr_and {g : List Gt} (hm : May g) (h : Irr g) (a b : Int) : Irr (andF g a b).1 := by
  by_cases hc : (isB g a && isB g b) = true
  · simp at hc
    obtain ⟨ha, hb⟩ := hc
    have h1 := isB_iff.1 ha
    have h2 := isB_iff.1 hb
    have hs := red_spec hm (a + b + 1).toNat a b ha hb (by omega)
    unfold andF
    simp only [ha, hb, Bool.and_self, if_true]
    split
    · exact h
    · rename_i hne
      obtain ⟨_, c1, c2, c3, c4, c5, c6⟩ := hs.resolve_left (fun c => by rw [isB_iff] at c; omega)
      generalize (redF (a + b + 1).toNat g a b).2.1 = x at *
      generalize (redF (a + b + 1).toNat g a b).2.2 = y at *
      unfold nodeF
      cases hf : findF g (x, y) with
      | some i => exact h
      | none =>
        have hy := isB_iff.1 c2
        refine irr_snoc h (.inr ⟨c3, c4, hy.2, ?_, ?_, find_self ?_ hf⟩)
        · rw [short_append (by omega) c2]; exact c5
        · rw [rest_append (by omega) c2]; exact c6
        · unfold keyF; apply Prod.ext <;> simp <;> omega
  · rw [(and_grow hm a b).2.2 (by simpa using hc)]; exact h
theorem irr_or {g : List Gt} (hm : May g) (h : Irr g) (a b : Int) : Irr (orF g a b).1 := irr_and hm h _ _
theorem irr_xor {g : List Gt} (hm : May g) (h : Irr g) (a b : Int) : Irr (xorF g a b).1 :=
  irr_or (and_grow (and_grow hm _ _).1.may _ _).1.may (irr_and (and_grow hm _ _).1.may (irr_and hm h _ _) _ _) _ _
theorem irr_ite {g : List Gt} (hm : May g) (h : Irr g) (c a b : Int) : Irr (iteF g c a b).1 :=
  irr_or (and_grow (and_grow hm _ _).1.may _ _).1.may (irr_and (and_grow hm _ _).1.may (irr_and hm h _ _) _ _) _ _

/-- What the law asks of a node that was made. -/
theorem Made.law {g : List Gt} (hm : May g) (ho : Ord g) {i : Nat} {t : Gt} (x : Made g i t) (hi : i < g.length) (e : g[i] = t) : ¬ t.2 / 2 = t.1 / 2 ∧ (∀ k (hk : k < i), g[k] ≠ t) ∧ andF g t.2 t.1 = (g, 2 * ((i : Int) + 1)) := by
  have hl := x.lo
  have hlt := x.lt
  have hh := x.hi
  have hb : isB g t.2 = true := by rw [isB_iff]; omega
  have ha : isB g t.1 = true := by rw [isB_iff]; omega
  refine ⟨fun h => ?_, fun k hk e' => ?_, ?_⟩
  · have hs := x.sh
    unfold shortF at hs
    have : t.1 = notI t.2 := by unfold notI; split <;> omega
    rw [if_pos (.inr this)] at hs
    omega
  · have hf := x.fd
    have hkl : k < g.length := by omega
    unfold findF at hf
    rw [List.findIdx?_eq_some_iff_getElem] at hf
    obtain ⟨_, _, hno⟩ := hf
    have := hno k hk
    rw [ord_key ho hkl, e'] at this
    simp at this
  · rw [and_comm', and_end hm ha hb (by omega) x.sh x.rs]
    unfold nodeF
    rw [show (t.1, t.2) = t from rfl, x.fd]
end Go.Proofs.Ytjfjigpmaeaopaa
