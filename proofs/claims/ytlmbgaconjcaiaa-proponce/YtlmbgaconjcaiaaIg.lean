/- Contracts: what was dropped is taken out of all lists. -/
import Derived.Test.YtlmbgaconjcaiaaIf
import Derived.Test.YtlmbgaconjcaiaaGi
import Derived.Test.YtlmbgaconjcaiaaPlainAll
import Derived.Deep.RegionHeld3
import Derived.Deep.RegionWith
set_option linter.unusedVariables false
set_option linter.unusedSimpArgs false
namespace Go.Proofs.Ytlmbgaconjcaiaa
open Go.RowKit

/-- A list of which the first ones were gone through. -/
def Thru {α : Type} (F : α → α) (A L : List α) (k : Nat) : Prop := L.length = A.length ∧ ∀ i, L[i]? = if i < k then (A[i]?).map F else A[i]?
theorem Thru.zero {α : Type} (F : α → α) (A : List α) : Thru F A A 0 := ⟨rfl, fun i => by simp⟩
theorem Thru.at {α : Type} {F : α → α} {A L : List α} {k : Nat} (h : Thru F A L k) : L[k]? = A[k]? := by rw [h.2 k, if_neg (by omega)]
theorem Thru.step {α : Type} {F : α → α} {A L : List α} {k : Nat} {x : α} (h : Thru F A L k) (hx : A[k]? = some x) : Thru F A (L.set k (F x)) (k + 1) := by
  have hk : k < A.length := (List.getElem?_eq_some_iff.1 hx).1
  refine ⟨by simp [h.1], fun i => ?_⟩
  by_cases e : i = k
  · subst e
    rw [List.getElem?_set_self (by rw [h.1]; exact hk), if_pos (by omega), hx]; rfl
  · rw [List.getElem?_set_ne (Ne.symm e), h.2 i]
    by_cases h1 : i < k
    · rw [if_pos h1, if_pos (by omega)]
    · rw [if_neg h1, if_neg (by omega)]
theorem Thru.done {α : Type} {F : α → α} {A L : List α} {k : Nat} (h : Thru F A L k) (hk : A.length ≤ k) : L = A.map F := by
  apply List.ext_getElem?
  intro i
  rw [h.2 i, List.getElem?_map]
  by_cases h1 : i < k
  · rw [if_pos h1]
  · rw [if_neg h1, List.getElem?_eq_none (by omega)]; rfl

section
variable {ρ : Nat → Rl} {w : World} {B : Nat} {H : Hd} {s : PS}

/-- What DeleteFunc asks of clauses. -/
theorem Rep.aliveAt (h : Rep ρ w B H s) {i : Nat} (hi : i < s.cls.length) : w.cell? ⟨H.cb i, 4, none⟩ = some (.bool (!s.alive i)) ∧ H.cb i < w.heap.size := by
  obtain ⟨c, hc⟩ : ∃ c, s.cls[i]? = some c := ⟨_, List.getElem?_eq_getElem hi⟩
  obtain ⟨_, _, _, _, o4, _, hlt, _⟩ := h.obj hc
  refine ⟨?_, hlt⟩
  rw [o4]; unfold PS.alive; rw [hc]; simp
theorem Rep.cbNe (h : Rep ρ w B H s) {i g : Nat} (hi : i < s.cls.length) {r : Rl} {x : Ent} (hr : ents B H s r = some x) (hg : x.v.ownBlock = some g) (hn : r.1 ≠ 2) : H.cb i ≠ g := by
  obtain ⟨c, hc⟩ : ∃ c, s.cls[i]? = some c := ⟨_, List.getElem?_eq_getElem hi⟩
  have hr2 : ents B H s (2, i) = some ⟨93, 5, obj1 (H.cb i), 1, objC i (H.cl i) c⟩ := by simp [ents, hc]
  exact h.hold.ne hr2 rfl hr hg (fun e => hn (by rw [← e]))

/-- A literal's watches are swept. -/
theorem Rep.sweepW (h : Rep ρ w B H s) {j : Nat} {q : List (Nat × Int)} (hq : s.wat[j]? = some q) (hidx : ∀ p ∈ q, p.1 < s.cls.length) (al : Nat → Bool) (hal : ∀ i, i < s.cls.length → al i = s.alive i) (hqn : q.length ≤ 1048576) :
    ∃ gw cw u cu, H.wv = .slice (some ⟨gw, 0, none⟩) s.wat.length cw ∧ gw ≠ B ∧ w.cell? ⟨gw, j, none⟩ = some (.slice u q.length cu) ∧ w.frozen? ⟨gw, j, none⟩ = false ∧ gw < w.heap.size ∧
    (∀ x, Ev ρ w ρ x → (∀ b, b < w.heap.size → x.heap[b]? = w.heap[b]?) → Calls Try.prog 78 #[.slice u q.length cu, .func (.func 79) #[] #[]] x fun e w' => e = .returned (.slice u (q.filter (fun p => al p.1)).length cu) ∧
      (w'.cell? ⟨B, 6, none⟩ = some H.wv ∧ w'.cell? ⟨gw, j, none⟩ = some (.slice u q.length cu) ∧ w'.frozen? ⟨gw, j, none⟩ = false) ∧ ∃ ρ' H', H'.wv = H.wv ∧ H'.cb = H.cb ∧ Hid (Rep ρ' (w'.setCell ⟨gw, j, none⟩ (.slice u (q.filter (fun p => al p.1)).length cu)) B H' { s with wat := s.wat.set j (q.filter (fun p => al p.1)) }) ∧ Hid (Ev ρ w ρ' (w'.setCell ⟨gw, j, none⟩ (.slice u (q.filter (fun p => al p.1)).length cu)))) := by
  have hj : j < s.wat.length := (List.getElem?_eq_some_iff.1 hq).1
  obtain ⟨gw, cw, e, hgw, _, _, hs, hB, hc, hf⟩ := h.row (r := (5, 0)) rfl (by decide) (by simp only; omega)
  simp only at e hc
  obtain ⟨uv, hu⟩ : ∃ u, H.wr[j]? = some u := ⟨_, List.getElem?_eq_getElem (by rw [h.wr]; exact hj)⟩
  have hr : ents B H s (6, j) = some ⟨103, 2, uv, q.length, watC H.cb q⟩ := by simp [ents, hq, hu, watE]
  have hown := h.hold.own _ _ hr
  simp only at hown
  obtain ⟨u, cu, eu, _, _, hform⟩ := own_form hown
  subst eu
  refine ⟨gw, cw, u, cu, e, hB, hc j _ hu, hf j, hs, fun x hE hx => ?_⟩
  have hownx : x.ownsRow 0 103 2 (.slice u q.length cu) q.length (watC H.cb q) := own_same hown (fun k hk => hx k (World.ownsRow.lt hown k hk).2)
  have hcell : ∀ (b i : Nat) (v : Value), b < w.heap.size → w.cell? ⟨b, i, none⟩ = some v → x.cell? ⟨b, i, none⟩ = some v := fun b i v hb hv => (World.cell?_of_block (a := ⟨b, i, none⟩) (hx b hb)).trans hv
  refine (del63 x H.cb al u q.length cu q rfl (by omega) hownx (fun p hp => ?_)).mono ?_
  · obtain ⟨k1, k2⟩ := h.aliveAt (hidx p hp)
    rw [← hal _ (hidx p hp)] at k1
    exact ⟨hcell _ _ _ k2 k1, Nat.lt_of_lt_of_le k2 hE.size, fun g hg => h.cbNe (hidx p hp) hr hg (by simp)⟩
  · rintro e' w' ⟨rfl, hg, ho⟩
    have hgw' : w.grownBy w' (Value.slice u q.length cu).ownBlock := ⟨hg.os.trans hE.os, hg.tape.trans hE.tape, hg.output.trans hE.output, Nat.le_trans hE.size hg.size, fun b hb hne => (hg.block b (Nat.lt_of_lt_of_le hb hE.size) hne).trans (hx b hb)⟩
    have eB : w'.heap[B]? = w.heap[B]? := hgw'.block B h.lt (fun e => (h.hold.ne hr e.symm (q := (0, 0)) rfl rfl (by simp)) rfl)
    have eG : w'.heap[gw]? = w.heap[gw]? := hgw'.block gw hs (fun e => (h.hold.ne hr e.symm (q := (5, 0)) rfl hgw (by simp)) rfl)
    refine ⟨rfl, ⟨(World.cell?_of_block (a := ⟨B, 6, none⟩) eB).trans h.c6, (World.cell?_of_block (a := ⟨gw, j, none⟩) eG).trans (hc j _ hu), (World.frozen?_of_block (a := ⟨gw, j, none⟩) eG).trans (hf j)⟩, ?_⟩
    rcases hform with ⟨rfl, h0, rfl⟩ | ⟨g, rfl, hg2⟩
    · obtain ⟨k1, k2⟩ := h.wTurn (gg := w.heap.size) hq hu hgw hgw' ho (fun g hg => by simp [Value.ownBlock] at hg) (.inr (Nat.le_refl _))
      refine ⟨_, _, ?_, ?_, k1, k2⟩ <;> rfl
    · obtain ⟨k1, k2⟩ := h.wTurn (gg := g) hq hu hgw hgw' ho (fun g' hg' => by simp [Value.ownBlock] at hg'; exact hg'.symm) (.inl rfl)
      refine ⟨_, _, ?_, ?_, k1, k2⟩ <;> rfl

/-- A level's late clauses are swept. -/
theorem Rep.sweepL (h : Rep ρ w B H s) {j : Nat} {p : Lv} (hp : s.lvs[j]? = some p) (hidx : ∀ i ∈ p.late, i < s.cls.length) (al : Nat → Bool) (hal : ∀ i, i < s.cls.length → al i = s.alive i) (hqn : p.late.length ≤ 1048576) :
    ∃ gl cl u cu, H.lv = .slice (some ⟨gl, 0, none⟩) s.lvs.length cl ∧ gl ≠ B ∧ w.cell? ⟨gl, j * 3 + 2, none⟩ = some (.slice u p.late.length cu) ∧ w.frozen? ⟨gl, j * 3 + 2, none⟩ = false ∧ gl < w.heap.size ∧
    (∀ x, Ev ρ w ρ x → (∀ b, b < w.heap.size → x.heap[b]? = w.heap[b]?) → Calls Try.prog 80 #[.slice u p.late.length cu, .func (.func 81) #[] #[]] x fun e w' => e = .returned (.slice u (p.late.filter al).length cu) ∧
      (w'.cell? ⟨B, 10, none⟩ = some H.lv ∧ w'.cell? ⟨gl, j * 3 + 2, none⟩ = some (.slice u p.late.length cu) ∧ w'.frozen? ⟨gl, j * 3 + 2, none⟩ = false) ∧ ∃ ρ' H', H'.lv = H.lv ∧ H'.cb = H.cb ∧ Hid (Rep ρ' (w'.setCell ⟨gl, j * 3 + 2, none⟩ (.slice u (p.late.filter al).length cu)) B H' { s with lvs := s.lvs.set j { p with late := p.late.filter al } }) ∧ Hid (Ev ρ w ρ' (w'.setCell ⟨gl, j * 3 + 2, none⟩ (.slice u (p.late.filter al).length cu)))) := by
  obtain ⟨gl, cl, uv, e, hgl, hu, q0, q1, q2, qf, hown, hglB, hub, hgllt, _, _⟩ := h.lvLast hp
  have hr : ents B H s (10, j) = some ⟨90, 1, uv, p.late.length, ptrsC H.cb p.late⟩ := by simp only [ents, hp, hu, lvlE]
  obtain ⟨u, cu, eu, _, _, hform⟩ := own_form hown
  subst eu
  have hset : s.lvs.modify j (fun a => { a with late := p.late.filter al }) = s.lvs.set j { p with late := p.late.filter al } := by
    apply List.ext_getElem?
    intro i
    rw [List.getElem?_modify]
    by_cases e : i = j
    · subst e
      rw [List.getElem?_set_self (List.getElem?_eq_some_iff.1 hp).1, hp]; simp
    · rw [List.getElem?_set_ne (Ne.symm e)]
      cases s.lvs[i]? <;> simp [Ne.symm e]
  refine ⟨gl, cl, u, cu, e, hglB, q2, qf _, hgllt, fun x hE hx => ?_⟩
  have hownx : x.ownsRow 0 90 1 (.slice u p.late.length cu) p.late.length (ptrsC H.cb p.late) := own_same hown (fun k hk => hx k (World.ownsRow.lt hown k hk).2)
  have hcell : ∀ (b i : Nat) (v : Value), b < w.heap.size → w.cell? ⟨b, i, none⟩ = some v → x.cell? ⟨b, i, none⟩ = some v := fun b i v hb hv => (World.cell?_of_block (a := ⟨b, i, none⟩) (hx b hb)).trans hv
  refine (del65 x H.cb al u p.late.length cu p.late rfl (by omega) hownx (fun i hi => ?_)).mono ?_
  · obtain ⟨k1, k2⟩ := h.aliveAt (hidx i hi)
    rw [← hal _ (hidx i hi)] at k1
    exact ⟨hcell _ _ _ k2 k1, Nat.lt_of_lt_of_le k2 hE.size, fun g hg => h.cbNe (hidx i hi) hr hg (by simp)⟩
  · rintro e' w' ⟨rfl, hg, ho⟩
    have hgw' : w.grownBy w' (Value.slice u p.late.length cu).ownBlock := ⟨hg.os.trans hE.os, hg.tape.trans hE.tape, hg.output.trans hE.output, Nat.le_trans hE.size hg.size, fun b hb hne => (hg.block b (Nat.lt_of_lt_of_le hb hE.size) hne).trans (hx b hb)⟩
    have eB : w'.heap[B]? = w.heap[B]? := hgw'.block B h.lt (fun e => (h.hold.ne hr e.symm (q := (0, 0)) rfl rfl (by simp)) rfl)
    have eG : w'.heap[gl]? = w.heap[gl]? := hgw'.block gl hgllt (fun e => (h.hold.ne hr e.symm (q := (9, 0)) rfl hgl (by simp)) rfl)
    refine ⟨rfl, ⟨(World.cell?_of_block (a := ⟨B, 10, none⟩) eB).trans h.c10, (World.cell?_of_block (a := ⟨gl, j * 3 + 2, none⟩) eG).trans q2, (World.frozen?_of_block (a := ⟨gl, j * 3 + 2, none⟩) eG).trans (qf _)⟩, ?_⟩
    rcases hform with ⟨rfl, h0, rfl⟩ | ⟨g, rfl, hg2⟩
    · obtain ⟨k1, k2⟩ := h.llTurn (gg := w.heap.size) hp hu hgl hgw' ho (fun g hg => by simp [Value.ownBlock] at hg) (.inr (Nat.le_refl _))
      rw [hset] at k1
      refine ⟨_, _, ?_, ?_, k1, k2⟩ <;> rfl
    · obtain ⟨k1, k2⟩ := h.llTurn (gg := g) hp hu hgl hgw' ho (fun g' hg' => by simp [Value.ownBlock] at hg'; exact hg'.symm) (.inl rfl)
      rw [hset] at k1
      refine ⟨_, _, ?_, ?_, k1, k2⟩ <;> rfl

/-- The late clauses are swept. -/
theorem Rep.sweepA (h : Rep ρ w B H s) (hidx : ∀ i ∈ s.late, i < s.cls.length) (al : Nat → Bool) (hal : ∀ i, i < s.cls.length → al i = s.alive i) (hqn : s.late.length ≤ 1048576) :
    ∃ u cu, H.av = .slice u s.late.length cu ∧ Calls Try.prog 80 #[.slice u s.late.length cu, .func (.func 81) #[] #[]] w fun e w' => e = .returned (.slice u (s.late.filter al).length cu) ∧
      (w'.cell? ⟨B, 11, none⟩ = some (.slice u s.late.length cu) ∧ w'.frozen? ⟨B, 11, none⟩ = false) ∧ ∃ ρ' H', Hid (Rep ρ' (w'.setCell ⟨B, 11, none⟩ (.slice u (s.late.filter al).length cu)) B H' { s with late := s.late.filter al }) ∧ Hid (Ev ρ w ρ' (w'.setCell ⟨B, 11, none⟩ (.slice u (s.late.filter al).length cu))) := by
  have hr : ents B H s (11, 0) = some ⟨90, 1, H.av, s.late.length, ptrsC H.cb s.late⟩ := rfl
  have hown := h.hold.own _ _ hr
  simp only at hown
  obtain ⟨u, cu, eu, _, _, hform⟩ := own_form hown
  rw [eu] at hown
  refine ⟨u, cu, eu, ?_⟩
  refine (del65 w H.cb al u s.late.length cu s.late rfl (by omega) hown (fun i hi => ?_)).mono ?_
  · obtain ⟨k1, k2⟩ := h.aliveAt (hidx i hi)
    rw [← hal _ (hidx i hi)] at k1
    exact ⟨k1, k2, fun g hg => h.cbNe (hidx i hi) hr (by simp only; rw [eu]; exact hg) (by simp)⟩
  · rintro e' w' ⟨rfl, hg, ho⟩
    have hgw' : w.grownBy w' H.av.ownBlock := by rw [eu]; exact hg
    have eB : w'.heap[B]? = w.heap[B]? := hgw'.block B h.lt (fun e => (h.hold.ne hr e.symm (q := (0, 0)) rfl rfl (by simp)) rfl)
    refine ⟨rfl, ⟨(World.cell?_of_block (a := ⟨B, 11, none⟩) eB).trans (by rw [h.c11, eu]), (World.frozen?_of_block (a := ⟨B, 11, none⟩) eB).trans (h.fz 11)⟩, ?_⟩
    rcases hform with ⟨rfl, h0, rfl⟩ | ⟨g, rfl, hg2⟩
    · obtain ⟨k1, k2⟩ := h.avTurn (gg := w.heap.size) hgw' ho (fun g hg => by simp [Value.ownBlock] at hg) (.inr (Nat.le_refl _))
      exact ⟨_, _, k1, k2⟩
    · obtain ⟨k1, k2⟩ := h.avTurn (gg := g) hgw' ho (fun g' hg' => by simp [Value.ownBlock] at hg'; exact hg'.symm) (.inl (by rw [eu]; rfl))
      exact ⟨_, _, k1, k2⟩
end
end Go.Proofs.Ytlmbgaconjcaiaa
