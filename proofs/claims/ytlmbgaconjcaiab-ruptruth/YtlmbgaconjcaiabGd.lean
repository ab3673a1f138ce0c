/- Contracts: a clause watches a literal. -/
import Derived.Test.YtlmbgaconjcaiabGdx
set_option linter.unusedVariables false
set_option linter.unusedSimpArgs false
namespace Go.Proofs.Ytlmbgaconjcaiab
open Go.RowKit

theorem modify_set {α : Type} {l : List α} {j : Nat} {q : α} (f : α → α) (h : l[j]? = some q) : l.modify j f = l.set j (f q) := by
  apply List.ext_getElem?
  intro k
  by_cases e : k = j
  · subst e
    have hk : k < l.length := (List.getElem?_eq_some_iff.1 h).1
    rw [List.getElem?_set_self hk, List.getElem?_modify, h]; simp
  · rw [List.getElem?_set_ne (Ne.symm e), List.getElem?_modify]
    simp [Ne.symm e]

section
variable {ρ : Nat → Rl} {w : World} {B : Nat} {H : Hd} {s : PS}

def WatchP (ρ : Nat → Rl) (w : World) (B : Nat) (H : Hd) (s : PS) (l : Int) (i : Nat) (hint : Int) (w' : World) : Prop :=
  ∃ ρ' v, Rep ρ' w' B { H with wr := H.wr.set (ix s.vars l) v } (s.watch l i hint) ∧ Ev ρ w ρ' w'

/-- The watches of a literal. -/
theorem Rep.wAt (h : Rep ρ w B H s) {j : Nat} {q : List (Nat × Int)} (hq : s.wat[j]? = some q) : ∃ u gw cap, H.wr[j]? = some u ∧ H.wv = .slice (some ⟨gw, 0, none⟩) s.wat.length cap ∧ H.wv.ownBlock = some gw ∧ gw ≠ B ∧ w.cell? ⟨gw, j, none⟩ = some u ∧ w.frozen? ⟨gw, j, none⟩ = false ∧ gw < w.heap.size ∧ w.ownsRow 0 100 2 u q.length (watC H.cb q) ∧ (∀ k, u.ownBlock = some k → k ≠ B ∧ k ≠ gw) ∧ cap ≤ maxLen ∧ s.wat.length ≤ cap := by
  have hlt : j < s.wat.length := (List.getElem?_eq_some_iff.1 hq).1
  obtain ⟨u, hu⟩ : ∃ u, H.wr[j]? = some u := ⟨_, List.getElem?_eq_getElem (by rw [h.wr]; exact hlt)⟩
  obtain ⟨g, cap, e, hg, hn, hm, hs, hB, hc, hf⟩ := h.row (r := (5, 0)) rfl (by decide) (by simp only; omega)
  have hr : ents B H s (6, j) = some ⟨100, 2, u, q.length, watC H.cb q⟩ := by simp only [ents, hq, hu, watE]
  exact ⟨_, g, cap, hu, e, hg, hB, hc j _ hu, hf j, hs, h.hold.own _ _ hr, fun k hk => ⟨h.hold.ne hr hk (q := (0, 0)) rfl rfl (by simp), h.hold.ne hr hk (q := (5, 0)) rfl hg (by simp)⟩, hm, hn⟩

set_option maxRecDepth 100000 in
set_option maxHeartbeats 4000000 in
theorem watch_any (h : Rep ρ w B H s) (l : Int) (i : Nat) (hint : Int) (hl : Lt s.vars l) (hS : Shp s) (hn : ∀ q, s.wat[ix s.vars l]? = some q → q.length ≤ 2000000) :
    Calls Try.prog 49 #[.pointer (some ⟨B, 0, none⟩), .int .i64 l, .pointer (some ⟨H.cb i, 0, none⟩), .int .i64 hint] w fun e w' => e = .returned (.tuple #[]) ∧ WatchP ρ w B H s l i hint w' := by
  have hV := hS.vars
  have hlt := ix_lt hl
  have hi := ix_int hl
  have hsw := hS.wat
  obtain ⟨q, hq⟩ : ∃ q, s.wat[ix s.vars l]? = some q := ⟨_, List.getElem?_eq_getElem (by omega)⟩
  obtain ⟨u, gw, cap, hu, ewv, hgw, hgwB, d1, z1, hgwlt, hown, hsep, hcm, hcn⟩ := h.wAt hq
  have c6 := h.c6
  rw [ewv] at c6
  unfold Lt at hl
  refine (watch_raw w B s.vars s.wat.length cap gw (ix s.vars l) (H.cb i) q.length l hint u (watC H.cb q) (by omega) (by omega) (by omega) (by omega) (by omega) rfl h.c1 c6 d1 z1 hown (hn q hq) hsep).mono ?_
  rintro e w' ⟨rfl, g3, cap3, w3, hown3, hgrow3, hat3, rfl⟩
  have hfin := (h.drew.alloc (.cells #[.pointer (some ⟨H.cb i, 0, none⟩), .int .i64 hint] 100)).wTurn (v := .slice (some ⟨g3, 0, none⟩) (q.length + 1) cap3) (q' := q ++ [(i, hint)]) (gg := g3) hq hu hgw hgrow3 (by rw [List.length_append, watC_append]; simpa [watC, ptrC] using hown3) (fun g hg => by simp [Value.ownBlock] at hg; exact hg.symm) (by rcases hat3 with h | h; exact .inl h; exact .inr (by simp; omega))
  have e : s.watch l i hint = { s with wat := s.wat.set (ix s.vars l) (q ++ [(i, hint)]) } := by
    unfold PS.watch; rw [modify_set _ hq]
  have h1 := hfin.1
  rw [← e] at h1
  exact ⟨rfl, _, _, h1, ((Ev.drew ρ w).trans (Ev.alloc _)).trans hfin.2⟩
end

end Go.Proofs.Ytlmbgaconjcaiab
