/- Contracts: One: clauses that say that just one is true. -/
import Derived.Test.YtbilhiklfficoaaCi
import Derived.OneCell
set_option linter.unusedVariables false
set_option linter.unusedSimpArgs false
namespace Go.Proofs.Ytbilhiklfficoaa
open Go.RowKit Go.Maps

/-! ### in plain words -/
def pairF (a : Int) (r : List Int) : List (List Int) := r.map fun b => [notI a, notI b]
def pairsF : List Int → List (List Int)
  | [] => []
  | a :: r => pairF a r ++ pairsF r
theorem pairs_drop {l : List Int} {i : Nat} (h : i < l.length) : pairsF (l.drop i) = pairF l[i] (l.drop (i + 1)) ++ pairsF (l.drop (i + 1)) := by
  rw [List.drop_eq_getElem_cons h]; rfl
theorem pairs_len : ∀ l : List Int, (pairsF l).length ≤ l.length * l.length
  | [] => Nat.le_refl _
  | a :: r => by
    have := pairs_len r
    show (pairF a r ++ pairsF r).length ≤ (r.length + 1) * (r.length + 1)
    rw [List.length_append, pairF, List.length_map, Nat.add_mul, Nat.mul_add]; omega
theorem cnt_zero : ∀ a : List Bool, cntT a = 0 ↔ ∀ x ∈ a, x = false
  | [] => by simp [cntT]
  | x :: a => by
    have := cnt_zero a
    show b2n x + cntT a = 0 ↔ _
    cases x
    · rw [b2n_f, Nat.zero_add, this]; simp
    · rw [b2n_t]; simp
/-- No two of them are true. -/
theorem pairs_one (T : Int → Bool) : ∀ l : List Int, (∀ k ∈ l, T (notI k) = !T k) → ((∀ c ∈ pairsF l, 0 < cntT (c.map T)) ↔ cntT (l.map T) ≤ 1)
  | [], _ => by simp [pairsF, cntT]
  | a :: r, h => by
    have ih := pairs_one T r (fun k hk => h k (by simp [hk]))
    have ha := h a (by simp)
    have hp : (∀ c ∈ pairF a r, 0 < cntT (c.map T)) ↔ (T a = true → cntT (r.map T) = 0) := by
      rw [cnt_zero]
      constructor
      · intro hc ht x hx
        obtain ⟨b, hb, rfl⟩ := List.mem_map.1 hx
        have h1 := hc [notI a, notI b] (List.mem_map.2 ⟨b, hb, rfl⟩)
        have h2 := h b (by simp [hb])
        simp only [List.map_cons, List.map_nil, ha, h2, ht, cntT] at h1
        cases hq : T b
        · rfl
        · rw [hq] at h1; simp [b2n] at h1
      · intro hc c hcm
        obtain ⟨b, hb, rfl⟩ := List.mem_map.1 hcm
        have h2 := h b (by simp [hb])
        simp only [List.map_cons, List.map_nil, ha, h2, cntT]
        cases hq : T a
        · simp only [Bool.not_false, b2n_t]; omega
        · have := hc hq (T b) (List.mem_map.2 ⟨b, hb, rfl⟩)
          rw [this]; simp [b2n]
    have e : (∀ c ∈ pairsF (a :: r), 0 < cntT (c.map T)) ↔ (∀ c ∈ pairF a r, 0 < cntT (c.map T)) ∧ (∀ c ∈ pairsF r, 0 < cntT (c.map T)) := by
      show (∀ c ∈ pairF a r ++ pairsF r, _) ↔ _
      constructor
      · intro hh; exact ⟨fun c hc => hh c (List.mem_append_left _ hc), fun c hc => hh c (List.mem_append_right _ hc)⟩
      · rintro ⟨h1, h2⟩ c hc
        rcases List.mem_append.1 hc with hc | hc
        · exact h1 c hc
        · exact h2 c hc
    rw [e, hp, ih]
    show _ ↔ b2n (T a) + cntT (r.map T) ≤ 1
    cases T a
    · rw [b2n_f]; simp
    · rw [b2n_t]
      constructor
      · rintro ⟨h1, _⟩; have := h1 rfl; omega
      · intro h1; exact ⟨fun _ => by omega, by omega⟩
def oneF (l : List Int) : List (List Int) := l :: pairsF l
theorem one_one (T : Int → Bool) (l : List Int) (h : ∀ k ∈ l, T (notI k) = !T k) : (∀ c ∈ oneF l, 0 < cntT (c.map T)) ↔ cntT (l.map T) = 1 := by
  have hp := pairs_one T l h
  have e : (∀ c ∈ oneF l, 0 < cntT (c.map T)) ↔ 0 < cntT (l.map T) ∧ ∀ c ∈ pairsF l, 0 < cntT (c.map T) := by
    unfold oneF; simp
  rw [e, hp]; omega
theorem one_lit {g : List Gt} : ∀ {l : List Int}, (∀ k ∈ l, isB g k = true) → ∀ c ∈ oneF l, ∀ k ∈ c, isB g k = true := by
  intro l h c hc
  have hp : ∀ (l : List Int), (∀ k ∈ l, isB g k = true) → ∀ c ∈ pairsF l, ∀ k ∈ c, isB g k = true := by
    intro l
    induction l with
    | nil => intro _ c hc; simp [pairsF] at hc
    | cons a r ih =>
      intro h c hc
      rcases List.mem_append.1 (show c ∈ pairF a r ++ pairsF r from hc) with hc | hc
      · obtain ⟨b, hb, rfl⟩ := List.mem_map.1 hc
        intro k hk
        simp at hk
        rcases hk with rfl | rfl
        · rw [isB_not]; exact h a (by simp)
        · rw [isB_not]; exact h b (by simp [hb])
      · exact ih (fun k hk => h k (by simp [hk])) c hc
  rcases List.mem_cons.1 hc with rfl | hc
  · exact h
  · exact hp l h c hc
theorem one_short {l : List Int} : ∀ c ∈ oneF l, c.length ≤ l.length + 2 := by
  intro c hc
  have hp : ∀ (l : List Int), ∀ c ∈ pairsF l, c.length = 2 := by
    intro l
    induction l with
    | nil => intro c hc; simp [pairsF] at hc
    | cons a r ih =>
      intro c hc
      rcases List.mem_append.1 (show c ∈ pairF a r ++ pairsF r from hc) with hc | hc
      · obtain ⟨b, hb, rfl⟩ := List.mem_map.1 hc
        rfl
      · exact ih c hc
  rcases List.mem_cons.1 hc with rfl | hc
  · omega
  · have := hp l c hc; omega

/-! ### in memory -/
theorem Try.info24 : (Try.prog.info? 24).map (fun i => (i.zero, i.size, i.bytes)) = some (some (.slice none 0 0), 1, 24) := by kernel_rfl
/-- Numbers behind a slice of the call's own. -/
def OwI (base : Nat) (w : World) (v : Value) (l : List Int) : Prop := w.ownsRow base 3 1 v l.length (l.map (Value.int .i64))
/-- A slice of slices, all of the call's own. -/
def OG (base : Nat) (w : World) (v : Value) (css : List (List Int)) : Prop :=
  ∃ vs : List Value, w.ownsRow base 24 1 v css.length vs ∧ ∀ i (h : i < css.length), ∃ u, vs[i]? = some u ∧ OwI base w u css[i]
theorem own_block {base : Nat} {w : World} {e : TypeId} {v : Value} {n : Nat} {vs : List Value} (h : w.ownsRow base e 1 v n vs) {g : Nat} (hg : v.ownBlock = some g) : ∃ cur, w.heap[g]? = some (.cells cur e (0, 0)) := by
  rcases h.2 with ⟨rfl, _⟩ | ⟨g', cap, cur, rfl, _, hh, _⟩
  · simp [Value.ownBlock] at hg
  · simp [Value.ownBlock] at hg; subst hg; exact ⟨cur, hh⟩
theorem own_apart {base base' : Nat} {w : World} {u v : Value} {c : List Int} {n : Nat} {vs : List Value} (h : OwI base w u c) (g : w.ownsRow base' 24 1 v n vs) : u.ownBlock = Option.none ∨ u.ownBlock ≠ v.ownBlock := by
  cases hu : u.ownBlock with
  | none => exact .inl rfl
  | some k =>
    right
    intro e
    obtain ⟨c1, e1⟩ := own_block h hu
    obtain ⟨c2, e2⟩ := own_block g e.symm
    rw [e1] at e2
    simp at e2
theorem OG.below {base : Nat} {w w' : World} {v : Value} {css : List (List Int)} (h : OG base w v css) (hb : Below w.heap.size w w') : OG base w' v css := by
  obtain ⟨vs, h1, h2⟩ := h
  refine ⟨vs, row_below h1 hb, fun i hi => ?_⟩
  obtain ⟨u, e, ho⟩ := h2 i hi
  exact ⟨u, e, row_below ho hb⟩
/-- One clause more. -/
theorem OG.snoc {base : Nat} {w w' : World} {v v' u : Value} {css : List (List Int)} {c : List Int} {vs : List Value}
    (h1 : w.ownsRow base 24 1 v css.length vs) (h2 : ∀ i (h : i < css.length), ∃ u, vs[i]? = some u ∧ OwI base w u css[i]) (hu : OwI base w u c)
    (h3 : w'.ownsRow base 24 1 v' (css.length + 1) (vs ++ [u])) (hg : w.grownBy w' v.ownBlock) : OG base w' v' (css ++ [c]) := by
  have hl : vs.length = css.length := by simpa using h1.1
  refine ⟨vs ++ [u], by simpa using h3, fun i hi => ?_⟩
  rcases Nat.lt_or_ge i css.length with h | h
  · obtain ⟨x, e, ho⟩ := h2 i h
    refine ⟨x, by rw [List.getElem?_append_left (by omega)]; exact e, ?_⟩
    rw [List.getElem_append_left h]
    exact World.ownsRow.kept ho hg (own_apart ho h1)
  · have e : i = css.length := by simp at hi; omega
    subst e
    refine ⟨u, by rw [List.getElem?_append_right (by omega), hl]; simp, ?_⟩
    rw [List.getElem_append_right (Nat.le_refl _)]
    simp only [Nat.sub_self, List.getElem_cons_zero]
    exact World.ownsRow.kept hu hg (own_apart hu h1)
theorem own_lit1 (W : World) (u : Value) (t : TypeId) : (W.alloc (.cells #[u] t)).ownsRow W.heap.size t 1 (.slice (some ⟨W.heap.size, 0, none⟩) 1 1) 1 [u] :=
  ⟨rfl, .inr ⟨_, _, _, rfl, Nat.le_refl _, heap_alloc_new _ _, Nat.le_refl _, by unfold maxLen; omega, rfl, rfl⟩⟩
theorem own_lit2 (W : World) (u v : Value) (t : TypeId) : (W.alloc (.cells #[u, v] t)).ownsRow W.heap.size t 1 (.slice (some ⟨W.heap.size, 0, none⟩) 2 2) 2 [u, v] :=
  ⟨rfl, .inr ⟨_, _, _, rfl, Nat.le_refl _, heap_alloc_new _ _, Nat.le_refl _, by unfold maxLen; omega, rfl, rfl⟩⟩
theorem own_less {w : World} {base base' : Nat} {e : TypeId} {v : Value} {n : Nat} {vs : List Value} (h : w.ownsRow base e 1 v n vs) (hb : base' ≤ base) : w.ownsRow base' e 1 v n vs := by
  refine ⟨h.1, ?_⟩
  rcases h.2 with h0 | ⟨g, cap, cur, h1, h2, h3⟩
  · exact .inl h0
  · exact .inr ⟨g, cap, cur, h1, Nat.le_trans hb h2, h3⟩
/-- A row of rows that begins with one row. -/
theorem og_one {W : World} {base : Nat} {u : Value} {c : List Int} (hu : OwI base W u c) (hb : base ≤ W.heap.size) : OG base (W.alloc (.cells #[u] 24)) (.slice (some ⟨W.heap.size, 0, none⟩) 1 1) [c] :=
  ⟨[u], own_less (own_lit1 W u 24) hb, fun i hi => by
    obtain rfl : i = 0 := by simpa using hi
    exact ⟨u, rfl, row_below hu (below_alloc W _)⟩⟩
/-- What stands at a place of such a row. -/
theorem OG.at {base : Nat} {w : World} {v : Value} {css : List (List Int)} (h : OG base w v css) : ∃ a cap, v = .slice a css.length cap ∧ ∀ i (hi : i < css.length), ∃ b ai ci, a = some ⟨b, 0, none⟩ ∧ b < w.heap.size ∧ w.cell? ⟨b, i, none⟩ = some (.slice ai css[i].length ci) ∧ Row w ai css[i] := by
  obtain ⟨vs, h1, h2⟩ := h
  have hl : vs.length = css.length := by simpa using h1.1
  rcases h1.2 with ⟨rfl, h0⟩ | ⟨g, cap, cur, rfl, hb, hg, hn, hm, hs, ht⟩
  · exact ⟨none, 0, by rw [h0], fun i hi => by omega⟩
  · refine ⟨_, cap, rfl, fun i hi => ?_⟩
    obtain ⟨u, e, ho⟩ := h2 i hi
    have hc := h1.cells (g := g) rfl i _ e
    rw [Addr.add_lit, Nat.zero_add] at hc
    rcases ho.2 with ⟨rfl, h0⟩ | ⟨g', cap', cur', rfl, _⟩
    · refine ⟨g, none, 0, rfl, lt_of_block hg, by rw [h0]; exact hc, fun k hk => by omega⟩
    · exact ⟨g, some ⟨g', 0, none⟩, cap', rfl, lt_of_block hg, hc, (rx_own ho).2.1.row.1⟩
end Go.Proofs.Ytbilhiklfficoaa
