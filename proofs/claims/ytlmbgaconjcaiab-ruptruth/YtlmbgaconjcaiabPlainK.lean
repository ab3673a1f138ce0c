/- Plain mathematics: what a run leaves as it was; how great a state's lists are. -/
import Derived.Test.YtlmbgaconjcaiabPlainJ
set_option linter.unusedVariables false
set_option linter.unusedSimpArgs false
namespace Go.Proofs.Ytlmbgaconjcaiab

def key (c : Cl) : List Int × Bool := (c.lits, c.gone)

/-- The clauses and the decisions stay; the trail grows. -/
structure Frm (s s' : PS) : Prop where
  vars : s'.vars = s.vars
  cl : s'.cls.map key = s.cls.map key
  count : s'.count = s.count
  stale : s'.stale = s.stale
  lv : s'.lvs.map sh = s.lvs.map sh
  tr : ∃ m, s'.trail = s.trail ++ m

theorem Frm.refl (s : PS) : Frm s s := ⟨rfl, rfl, rfl, rfl, rfl, [], by simp⟩
theorem Frm.trans {a b c : PS} (h : Frm a b) (k : Frm b c) : Frm a c := by
  obtain ⟨m, hm⟩ := h.tr
  obtain ⟨n, hn⟩ := k.tr
  exact ⟨k.vars.trans h.vars, k.cl.trans h.cl, k.count.trans h.count, k.stale.trans h.stale, k.lv.trans h.lv, m ++ n, by rw [hn, hm, List.append_assoc]⟩

theorem Frm.len {s s' : PS} (h : Frm s s') : s'.cls.length = s.cls.length := by simpa using congrArg List.length h.cl
theorem Frm.lits {s s' : PS} (h : Frm s s') (hl : ∀ c ∈ s.cls, c.lits.length ≤ 10000) : ∀ c ∈ s'.cls, c.lits.length ≤ 10000 := by
  intro c hc
  have : key c ∈ s.cls.map key := by rw [← h.cl]; exact List.mem_map_of_mem hc
  obtain ⟨c', hc', e⟩ := List.mem_map.1 this
  simp only [key, Prod.mk.injEq] at e
  rw [← e.1]; exact hl c' hc'

theorem nodup_len : ∀ (n : Nat) (l : List Nat), l.Nodup → (∀ x ∈ l, x < n) → l.length ≤ n
  | 0, l, _, h => by
    cases l with
    | nil => exact Nat.le_refl _
    | cons x r => have := h x (by simp); omega
  | n + 1, l, hn, h => by
    by_cases hm : n ∈ l
    · obtain ⟨a, b, rfl⟩ := List.append_of_mem hm
      rw [List.nodup_append, List.nodup_cons] at hn
      obtain ⟨h1, ⟨h2, h3⟩, h4⟩ := hn
      have := nodup_len n (a ++ b) (by rw [List.nodup_append]; exact ⟨h1, h3, fun x hx y hy => h4 x hx y (List.mem_cons_of_mem _ hy)⟩) (fun x hx => by
        have hlt := h x (by rcases List.mem_append.1 hx with h | h <;> simp [h])
        have : x ≠ n := by
          rcases List.mem_append.1 hx with hx | hx
          · exact h4 x hx n (by simp)
          · rintro rfl; exact h2 hx
        omega)
      simp only [List.length_append, List.length_cons] at this ⊢; omega
    · have := nodup_len n l hn (fun x hx => by
        have := h x hx
        have : x ≠ n := by rintro rfl; exact hm hx
        omega)
      omega

theorem le_sum : ∀ (l : List Lv) (v : Lv), v ∈ l → v.late.length ≤ (l.map (fun v => v.late.length)).sum
  | [], v, h => by cases h
  | a :: r, v, h => by
    simp only [List.map_cons, List.sum_cons]
    rcases List.mem_cons.1 h with rfl | h
    · omega
    · have := le_sum r v h; omega

section
variable {s : PS}
theorem Inv.widx (h : Inv s) {j : Nat} {q : List (Nat × Int)} (hq : s.wat[j]? = some q) : ∀ p ∈ q, p.1 < s.cls.length := by
  intro p hp
  obtain ⟨c, hc, _⟩ := h.wt.we j q hq p hp
  exact (List.getElem?_eq_some_iff.1 hc).1
theorem Inv.wlen (h : Inv s) {j : Nat} {q : List (Nat × Int)} (hq : s.wat[j]? = some q) : q.length ≤ s.cls.length := by
  have := nodup_len s.cls.length (q.map Prod.fst) (h.wt.nd j q hq) (fun x hx => by
    obtain ⟨p, hp, rfl⟩ := List.mem_map.1 hx
    exact h.widx hq p hp)
  simpa using this

theorem put_frm (l r : Int) : Frm s (s.put l r) := ⟨rfl, rfl, rfl, rfl, rfl, [l], rfl⟩
theorem settle_frm (i : Nat) (ls : List Int) (late : List Nat) : Frm s { (s.settle i ls).2 with late := late } := by
  unfold PS.settle
  have e0 : Frm s { s with late := late } := ⟨rfl, rfl, rfl, rfl, rfl, [], by simp⟩
  split
  · exact e0
  · split
    · exact e0
    · simp only
      have e : ∀ t : PS, Frm s t → Frm s { (if t.lvs.length = 0 then t else t.lateLv i) with late := late } := by
        intro t ht
        split
        · exact ⟨ht.vars, ht.cl, ht.count, ht.stale, ht.lv, ht.tr⟩
        · exact ⟨ht.vars, ht.cl, ht.count, ht.stale, (show (t.lateLv i).lvs.map sh = t.lvs.map sh from modify_sh t.lvs _ _ (fun v => rfl)).trans ht.lv, ht.tr⟩
      split
      · exact e _ (put_frm _ _)
      · exact e _ (Frm.refl s)
theorem settle_late (i : Nat) (ls : List Int) : (s.settle i ls).2.late = s.late ∧ (s.settle i ls).2.cls = s.cls := by
  unfold PS.settle
  split
  · exact ⟨rfl, rfl⟩
  · split
    · exact ⟨rfl, rfl⟩
    · simp only
      split <;> split <;> exact ⟨rfl, rfl⟩

theorem late_pop (s : PS) (h : s.late ≠ []) : ∃ pre i, s.late = pre ++ [i] := ⟨_, _, (List.dropLast_concat_getLast h).symm⟩
end

/-- A clause of a state is broken. -/
def Brk (s : PS) (n : Int) : Prop := ∃ (i : Nat) (c : Cl), n = (i : Int) ∧ s.cls[i]? = some c ∧ c.gone = false ∧ ∀ x ∈ c.lits, -x ∈ s.trail

end Go.Proofs.Ytlmbgaconjcaiab
