/- Plain mathematics: where Run tells that no clause is broken, none is unit; the formula that every promise looks at first. -/
import Derived.Test.YtlmbgaconjcaiabHa
set_option linter.unusedVariables false
set_option linter.unusedSimpArgs false
namespace Go.Proofs.Ytlmbgaconjcaiab

section
variable {s : PS}

theorem done_ok (h : Inv s) (hl : s.late = []) (hh : s.head = s.trail.length) {i : Nat} {c : Cl} (hc : s.cls[i]? = some c) (hg : c.gone = false) :
    (∃ x ∈ c.lits, x ∈ s.trail) ∨ Two c s.trail s.trail.length := by
  have hno : s.lvs[s.lvs.length]? = none := by simp
  have htk : tk s s.lvs.length = s.trail.length := by unfold tk; rw [hno]
  have hhk : hk s s.lvs.length = s.head := by unfold hk; rw [hno]
  rcases h.la.i1 s.lvs.length (Nat.le_refl _) i c hc hg with hlt | hok
  · rcases hlt with hm | ⟨j, v, hj, hv, _⟩
    · rw [hl] at hm; simp at hm
    · rw [List.getElem?_eq_none hj] at hv; cases hv
  · rw [htk, hhk, hh] at hok
    rcases hok with ⟨x, h1, h2⟩ | ⟨h1, h2, h3⟩
    · exact .inl ⟨x, h1, List.mem_of_mem_take h2⟩
    · obtain ⟨a1, a2, a3, _⟩ := h.wt.ww i c hc hg h1
      exact .inr ⟨c.w0, c.w1, a2, a3, a1, h2, h3⟩

theorem keys_at {ks : List (List Int × Bool)} (h : s.cls.map key = ks) {i : Nat} {c : Cl} (hc : s.cls[i]? = some c) : ks[i]? = some (c.lits, c.gone) := by
  rw [← h, List.getElem?_map, hc]; rfl
theorem keys_get {ks : List (List Int × Bool)} (h : s.cls.map key = ks) {i : Nat} {k : List Int × Bool} (hk : ks[i]? = some k) : ∃ c, s.cls[i]? = some c ∧ c.lits = k.1 ∧ c.gone = k.2 := by
  rw [← h, List.getElem?_map] at hk
  cases e : s.cls[i]? with
  | none => rw [e] at hk; cases hk
  | some c => rw [e] at hk; simp [key] at hk; exact ⟨c, rfl, by rw [← hk], by rw [← hk]⟩

theorem awake_end (h : Inv s) (hV : s.vars = 3) (hk : s.cls.map key = [([-1, 2], false), ([-2, 3], false)]) (hd : s.dec = [1]) {n : Int} (hn : (n = -1 ∧ s.late = [] ∧ s.head = s.trail.length) ∨ Brk s n) :
    n = -1 ∧ s.trail.length = 3 ∧ s.valT 3 = 1 ∧ s.rsnT 2 = 0 := by
  have hat : ∀ (i : Nat) c, s.cls[i]? = some c → (i = 0 ∧ c.lits = [-1, 2]) ∨ (i = 1 ∧ c.lits = [-2, 3]) := by
    intro i c hc
    have := keys_at hk hc
    match i, this with
    | 0, this => simp at this; exact .inl ⟨rfl, this.1.symm⟩
    | 1, this => simp at this; exact .inr ⟨rfl, this.1.symm⟩
    | i + 2, this => simp at this
  let v : Int → Int := fun x => if 0 < x then 1 else if x < 0 then -1 else 0
  have hneg : ∀ x, v (-x) = - v x := by
    intro x; simp only [v]; split <;> split <;> (try split) <;> omega
  have hc : ∀ (i : Nat) c, s.cls[i]? = some c → c.gone = false → ∃ x ∈ c.lits, v x = 1 := by
    intro i c hc _
    rcases hat i c hc with ⟨_, e⟩ | ⟨_, e⟩
    · exact ⟨2, by rw [e]; simp, rfl⟩
    · exact ⟨3, by rw [e]; simp, rfl⟩
  have hdd : ∀ l ∈ s.dec, v l = 1 := by rw [hd]; intro l hl; simp at hl; subst hl; rfl
  obtain ⟨e, hl, hh⟩ := hn.resolve_right (fun hb => sound_broken h v hneg hc hdd hb)
  have hpos : ∀ x ∈ s.trail, 0 < x := by
    intro x hx
    have := sound_trail h v hneg hc hdd x hx
    simp only [v] at this
    split at this
    · assumption
    · split at this <;> omega
  obtain ⟨v0, hlv, hst⟩ : ∃ v0, s.lvs = [v0] ∧ s.trail.getD v0.start 0 = 1 := by
    unfold PS.dec at hd
    match e : s.lvs with
    | [] => rw [e] at hd; simp at hd
    | [v0] => rw [e] at hd; simp only [List.map_cons, List.map_nil, List.cons.injEq, and_true] at hd; exact ⟨v0, rfl, hd⟩
    | _ :: _ :: _ => rw [e] at hd; simp at hd
  have hs0 := h.tr.sl v0 (by rw [hlv]; simp)
  have hget1 : s.trail[v0.start]? = some 1 := by
    rw [List.getD_eq_getElem?_getD, List.getElem?_eq_getElem hs0] at hst
    rw [List.getElem?_eq_getElem hs0]; simpa using hst
  have m1 : (1 : Int) ∈ s.trail := List.mem_of_getElem? hget1
  obtain ⟨c0, hc0, hl0, hg0⟩ := keys_get hk (i := 0) rfl
  obtain ⟨c1, hc1, hl1, hg1⟩ := keys_get hk (i := 1) rfl
  simp only at hl0 hg0 hl1 hg1
  have step : ∀ (c : Cl) (a b : Int), c.lits = [-a, b] → ((∃ x ∈ c.lits, x ∈ s.trail) ∨ Two c s.trail s.trail.length) → 0 < a → a ∈ s.trail → b ∈ s.trail := by
    intro c a b ec hor ha hm
    rcases hor with ⟨x, h1, h2⟩ | ⟨x, y, h1, h2, h3, h4, h5⟩
    · rw [ec] at h1
      simp only [List.mem_cons, List.not_mem_nil, or_false] at h1
      rcases h1 with rfl | rfl
      · have := hpos _ h2; omega
      · exact h2
    · rw [ec] at h1 h2
      rw [List.take_of_length_le (Nat.le_refl _)] at h4 h5
      simp only [List.mem_cons, List.not_mem_nil, or_false] at h1 h2
      rcases h1 with rfl | rfl
      · exact absurd (by simpa using hm) h4
      · rcases h2 with rfl | rfl
        · exact absurd (by simpa using hm) h5
        · exact absurd rfl h3
  have m2 : (2 : Int) ∈ s.trail := step c0 1 2 hl0 (done_ok h hl hh hc0 hg0) (by omega) m1
  have m3 : (3 : Int) ∈ s.trail := step c1 2 3 hl1 (done_ok h hl hh hc1 hg1) (by omega) m2
  have hle := trail_len h.tr
  obtain ⟨i1, q1⟩ := List.mem_iff_getElem?.1 m1
  obtain ⟨i2, q2⟩ := List.mem_iff_getElem?.1 m2
  obtain ⟨i3, q3⟩ := List.mem_iff_getElem?.1 m3
  have l1 := (List.getElem?_eq_some_iff.1 q1).1
  have l2 := (List.getElem?_eq_some_iff.1 q2).1
  have l3 := (List.getElem?_eq_some_iff.1 q3).1
  have n12 : i1 ≠ i2 := by rintro rfl; rw [q1] at q2; simp at q2
  have n13 : i1 ≠ i3 := by rintro rfl; rw [q1] at q3; simp at q3
  have n23 : i2 ≠ i3 := by rintro rfl; rw [q2] at q3; simp at q3
  have hval : ∀ x : Int, Lt s.vars x → x ∈ s.trail → s.valT x = 1 := by
    intro x hx hm
    unfold PS.valT
    rw [if_pos (ltB_true.2 hx), h.tr.vl x hx]
    exact tval_one.2 hm
  have t3 : Lt s.vars 3 := by rw [hV]; unfold Lt; omega
  have t2 : Lt s.vars 2 := by rw [hV]; unfold Lt; omega
  refine ⟨e, by omega, hval 3 t3 m3, ?_⟩
  unfold PS.rsnT
  rw [if_neg (by rw [hval 2 t2 m2]; omega)]
  obtain ⟨r, er, hR⟩ := h.tr.fc i2 2 q2
  rw [er]
  show r = 0
  rcases hR with ⟨_, v1, hv1, e1⟩ | ⟨_, k, c, ek, hck, _, hm, _⟩
  · rw [hlv] at hv1; simp at hv1; subst hv1
    rw [e1, q2] at hget1; simp at hget1
  · rcases hat k c hck with ⟨rfl, _⟩ | ⟨_, el⟩
    · exact ek
    · rw [el] at hm; simp at hm
end
end Go.Proofs.Ytlmbgaconjcaiab
