/- What is told where a short proof is looked at: plain. -/
import Derived.Test.YtlmbgaconjcaiabGreatPlainO
set_option linter.unusedVariables false
namespace Go.Proofs.YtlmbgaconjcaiabGreat
section
variable {s : PS}

theorem no_both (h : Inv s) {x : Int} (h1 : x ∈ s.trail) (h2 : -x ∈ s.trail) : False := by
  have hl := h.tr.ok x h1
  have a := (h.vone hl).2 h1
  have b := (h.vneg hl).2 h2
  omega
theorem done_cl (h : Inv s) (hl : s.late = []) (hh : s.head = s.trail.length) {css : List (List Int)} (hk : s.cls.map key = css.map (fun c => (c, false))) {i : Nat} {c : List Int} (hc : css[i]? = some c) :
    (∃ x ∈ c, x ∈ s.trail) ∨ ∃ x y, x ∈ c ∧ y ∈ c ∧ x ≠ y ∧ -x ∉ s.trail ∧ -y ∉ s.trail := by
  obtain ⟨C, h1, h2, h3⟩ := keys_get hk (i := i) (k := (c, false)) (by rw [List.getElem?_map, hc]; rfl)
  rcases done_ok h hl hh h1 h3 with ⟨x, a, b⟩ | ⟨x, y, a, b, c', d, e⟩
  · exact .inl ⟨x, by rw [h2] at a; exact a, b⟩
  · rw [List.take_length] at d e
    rw [h2] at a b
    exact .inr ⟨x, y, a, b, c', d, e⟩
/-- Of two literals the other one is true where one is false. -/
theorem bin_l (h : Inv s) (hl : s.late = []) (hh : s.head = s.trail.length) {css : List (List Int)} (hk : s.cls.map key = css.map (fun c => (c, false))) {i : Nat} {a b : Int} (hc : css[i]? = some [a, b]) (hf : -b ∈ s.trail) : a ∈ s.trail := by
  rcases done_cl h hl hh hk hc with ⟨x, hx, ht⟩ | ⟨x, y, hx, hy, hne, h1, h2⟩
  · simp at hx
    rcases hx with rfl | rfl
    · exact ht
    · exact (no_both h ht hf).elim
  · simp at hx hy
    rcases hx with rfl | rfl
    · rcases hy with rfl | rfl
      · exact absurd rfl hne
      · exact absurd hf h2
    · exact absurd hf h1
theorem one_l (h : Inv s) (hl : s.late = []) (hh : s.head = s.trail.length) {css : List (List Int)} (hk : s.cls.map key = css.map (fun c => (c, false))) {i : Nat} {a : Int} (hc : css[i]? = some [a]) : a ∈ s.trail := by
  rcases done_cl h hl hh hk hc with ⟨x, hx, ht⟩ | ⟨x, y, hx, hy, hne, h1, h2⟩
  · simp at hx; subst hx; exact ht
  · simp at hx hy; subst hx hy; exact absurd rfl hne

def css4 : List (List Int) := [[1, 2], [-1, 2], [1, -2], [-1, -2]]
def css5 : List (List Int) := [[1, 2], [-1, 2], [1, -2], [-1, -2], [2]]

theorem aw_one (h : Inv s) (hl : s.late = []) (hh : s.head = s.trail.length) (hk : s.cls.map key = css4.map (fun c => (c, false))) (h2 : -2 ∈ s.trail) : False := by
  have a := bin_l h hl hh hk (i := 0) (a := 1) (b := 2) rfl h2
  have b := bin_l h hl hh hk (i := 1) (a := -1) (b := 2) rfl h2
  exact no_both h a b
theorem aw_two (h : Inv s) (hl : s.late = []) (hh : s.head = s.trail.length) (hk : s.cls.map key = css5.map (fun c => (c, false))) : False := by
  have h2 := one_l h hl hh hk (i := 4) (a := 2) rfl
  have a := bin_l h hl hh hk (i := 2) (a := 1) (b := -2) rfl h2
  have b := bin_l h hl hh hk (i := 3) (a := -1) (b := -2) rfl h2
  exact no_both h a b

theorem aw_trail (h : Inv s) (hk : s.cls.map key = css4.map (fun c => (c, false))) (hd : s.dec = [3]) : ∀ x ∈ s.trail, x = 3 := by
  have main : ∀ (n i : Nat) (x : Int), i < n → s.trail[i]? = some x → x = 3 := by
    intro n
    induction n with
    | zero => intro i x hi; omega
    | succ n ih =>
      intro i x hi hx
      obtain ⟨r, _, hR⟩ := h.tr.fc i x hx
      rcases hR with ⟨_, u, hu, e⟩ | ⟨_, k, c, _, e2, e3, e4, e5⟩
      · have hm : x ∈ s.dec := by
          unfold PS.dec
          refine List.mem_map.2 ⟨u, hu, ?_⟩
          rw [e, List.getD_eq_getElem?_getD, hx]; rfl
        rw [hd] at hm; simpa using hm
      · exfalso
        have hkk := keys_at hk e2
        have hall : ∀ y ∈ c.lits, y ≠ x → -y = 3 := by
          intro y hy hne
          obtain ⟨j, hj, hyj⟩ := mem_take_iff.1 (e5 y hy hne)
          exact ih j (-y) (by omega) hyj
        have hcl : c.lits ∈ css4 := by
          have : (c.lits, c.gone) ∈ css4.map (fun c => (c, false)) := List.mem_of_getElem? hkk
          obtain ⟨d, hd, e⟩ := List.mem_map.1 this
          injection e with e _
          rw [← e]; exact hd
        simp [css4] at hcl
        rcases hcl with e | e | e | e
        all_goals
          rw [e] at e4 hall
          simp at e4 hall
          omega
  intro x hx
  obtain ⟨i, hi⟩ := List.mem_iff_getElem?.1 hx
  exact main (i + 1) i x (by omega) hi
theorem aw_three (h : Inv s) (hk : s.cls.map key = css4.map (fun c => (c, false))) (hd : s.dec = [3]) {n : Int} (hb : Brk s n) : False := by
  obtain ⟨i, c, _, e1, e2, e3⟩ := hb
  have hkk := keys_at hk e1
  have hcl : c.lits ∈ css4 := by
    have : (c.lits, c.gone) ∈ css4.map (fun c => (c, false)) := List.mem_of_getElem? hkk
    obtain ⟨d, hd, e⟩ := List.mem_map.1 this
    injection e with e _
    rw [← e]; exact hd
  have ht := aw_trail h hk hd
  simp [css4] at hcl
  rcases hcl with e | e | e | e
  all_goals
    rw [e] at e3
    simp at e3
    have a := ht _ e3.1
    omega
end
end Go.Proofs.YtlmbgaconjcaiabGreat
