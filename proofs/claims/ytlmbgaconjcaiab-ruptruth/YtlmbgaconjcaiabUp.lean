/- What becomes of a propagator in memory when one of its rows turns. -/
import Derived.Test.YtlmbgaconjcaiabGb
set_option linter.unusedVariables false
set_option linter.unusedSimpArgs false
namespace Go.Proofs.Ytlmbgaconjcaiab
open Go.RowKit

/-- A world is forgotten but for what is known of it. -/
theorem forget {P : World → Prop} {w : World} (I : World → Prop) (h : I w) (k : ∀ w', I w' → P w') : P w := k w h

/-- All roles of a propagator's rows. -/
theorem rl_cases {p : Rl → Prop} (h0 : p (0, 0)) (h1 : p (1, 0)) (h2 : ∀ i, p (2, i)) (h3 : ∀ i, p (3, i)) (h4 : p (4, 0)) (h5 : p (5, 0)) (h6 : ∀ i, p (6, i)) (h7 : p (7, 0)) (h8 : p (8, 0)) (h9 : p (9, 0)) (h10 : ∀ i, p (10, i)) (h11 : p (11, 0))
    (hx : ∀ k i, (∀ B H s, ents B H s (k, i) = none) → (k, i) ≠ (0, 0) → (k, i) ≠ (1, 0) → (k, i) ≠ (4, 0) → (k, i) ≠ (5, 0) → (k, i) ≠ (7, 0) → (k, i) ≠ (8, 0) → (k, i) ≠ (9, 0) → (k, i) ≠ (11, 0) → k ≠ 2 → k ≠ 3 → k ≠ 6 → k ≠ 10 → p (k, i)) : ∀ r, p r
  | (0, 0) => h0 | (1, 0) => h1 | (2, i) => h2 i | (3, i) => h3 i | (4, 0) => h4 | (5, 0) => h5 | (6, i) => h6 i | (7, 0) => h7 | (8, 0) => h8 | (9, 0) => h9 | (10, i) => h10 i | (11, 0) => h11
  | (0, i + 1) => hx _ _ (fun _ _ _ => rfl) (by simp) (by simp) (by simp) (by simp) (by simp) (by simp) (by simp) (by simp) (by simp) (by simp) (by simp) (by simp)
  | (1, i + 1) => hx _ _ (fun _ _ _ => rfl) (by simp) (by simp) (by simp) (by simp) (by simp) (by simp) (by simp) (by simp) (by simp) (by simp) (by simp) (by simp)
  | (4, i + 1) => hx _ _ (fun _ _ _ => rfl) (by simp) (by simp) (by simp) (by simp) (by simp) (by simp) (by simp) (by simp) (by simp) (by simp) (by simp) (by simp)
  | (5, i + 1) => hx _ _ (fun _ _ _ => rfl) (by simp) (by simp) (by simp) (by simp) (by simp) (by simp) (by simp) (by simp) (by simp) (by simp) (by simp) (by simp)
  | (7, i + 1) => hx _ _ (fun _ _ _ => rfl) (by simp) (by simp) (by simp) (by simp) (by simp) (by simp) (by simp) (by simp) (by simp) (by simp) (by simp) (by simp)
  | (8, i + 1) => hx _ _ (fun _ _ _ => rfl) (by simp) (by simp) (by simp) (by simp) (by simp) (by simp) (by simp) (by simp) (by simp) (by simp) (by simp) (by simp)
  | (9, i + 1) => hx _ _ (fun _ _ _ => rfl) (by simp) (by simp) (by simp) (by simp) (by simp) (by simp) (by simp) (by simp) (by simp) (by simp) (by simp) (by simp)
  | (11, i + 1) => hx _ _ (fun _ _ _ => rfl) (by simp) (by simp) (by simp) (by simp) (by simp) (by simp) (by simp) (by simp) (by simp) (by simp) (by simp) (by simp)
  | (k + 12, i) => hx _ _ (fun _ _ _ => rfl) (by simp) (by simp) (by simp) (by simp) (by simp) (by simp) (by simp) (by simp) (by simp) (by simp) (by simp) (by simp)

section
variable {ρ ρ' : Nat → Rl} {w w' : World} {B : Nat} {H : Hd} {s : PS}

theorem Rep.setVal (h : Rep ρ w B H s) {g : Nat} (hg : H.vv.ownBlock = some g) (i : Nat) (u : Int) : Rep ρ (w.setCell ⟨g, i, none⟩ (.int .i8 u)) B H { s with vals := s.vals.set i u } := by
  refine ⟨(h.hold.set (r := (4, 0)) rfl hg i (.int .i8 u)).eqv ?_, h.wr, h.lr⟩
  refine rl_cases rfl rfl (fun _ => rfl) (fun _ => rfl) ?_ rfl (fun _ => rfl) rfl rfl rfl (fun _ => rfl) rfl (fun k i hn _ _ h4 _ _ _ _ _ _ _ _ _ => ?_)
  · rw [up_same]; simp [ents, valC_set]
  · rw [hn, up_other _ _ h4, hn]

theorem Rep.setFact (h : Rep ρ w B H s) {g : Nat} (hg : H.fv.ownBlock = some g) (i : Nat) (p : Int × Int × Int) :
    Rep ρ (((w.setCell ⟨g, i * 3, none⟩ (.int .i64 p.1)).setCell ⟨g, i * 3 + 1, none⟩ (.int .i64 p.2.1)).setCell ⟨g, i * 3 + 2, none⟩ (.int .i64 p.2.2)) B H { s with fac := s.fac.set i p } := by
  refine ⟨((((h.hold.set (r := (7, 0)) rfl hg (i * 3) (.int .i64 p.1)).set (r := (7, 0)) (up_same _ _ _) hg (i * 3 + 1) (.int .i64 p.2.1)).set (r := (7, 0)) (up_same _ _ _) hg (i * 3 + 2) (.int .i64 p.2.2))).eqv ?_, h.wr, h.lr⟩
  refine rl_cases rfl rfl (fun _ => rfl) (fun _ => rfl) rfl rfl (fun _ => rfl) ?_ rfl rfl (fun _ => rfl) rfl (fun k i hn _ _ _ _ h7 _ _ _ _ _ _ _ => ?_)
  · rw [up_same]; simp [ents, ← facC_set]
  · rw [hn, up_other _ _ h7, up_other _ _ h7, up_other _ _ h7, hn]

theorem Rep.roleB (h : Rep ρ w B H s) : ρ B ≠ oth := by
  rw [h.hold.rl (0, 0) _ B rfl rfl]; decide
theorem Rep.roleOf (h : Rep ρ w B H s) {r : Rl} {x : Ent} {g : Nat} (hr : ents B H s r = some x) (hg : x.v.ownBlock = some g) (hn : r ≠ oth) : ρ g ≠ oth := by
  rw [h.hold.rl r x g hr hg]; exact hn

theorem Rep.setCount (h : Rep ρ w B H s) (u : Int) : Rep ρ (w.setCell ⟨B, 3, none⟩ (.int .i64 u)) B H { s with count := u } := by
  refine ⟨(h.hold.set (r := (0, 0)) rfl rfl 3 (.int .i64 u)).eqv ?_, h.wr, h.lr⟩
  refine rl_cases rfl rfl (fun _ => rfl) (fun _ => rfl) rfl rfl (fun _ => rfl) rfl rfl rfl (fun _ => rfl) rfl (fun k i hn h0 _ _ _ _ _ _ _ _ _ _ _ => ?_)
  rw [hn, up_other _ _ h0, hn]
theorem Rep.setStale (h : Rep ρ w B H s) (u : Int) : Rep ρ (w.setCell ⟨B, 4, none⟩ (.int .i64 u)) B H { s with stale := u } := by
  refine ⟨(h.hold.set (r := (0, 0)) rfl rfl 4 (.int .i64 u)).eqv ?_, h.wr, h.lr⟩
  refine rl_cases rfl rfl (fun _ => rfl) (fun _ => rfl) rfl rfl (fun _ => rfl) rfl rfl rfl (fun _ => rfl) rfl (fun k i hn h0 _ _ _ _ _ _ _ _ _ _ _ => ?_)
  rw [hn, up_other _ _ h0, hn]
theorem Rep.setHead (h : Rep ρ w B H s) (u : Nat) : Rep ρ (w.setCell ⟨B, 9, none⟩ (.int .i64 u)) B H { s with head := u } := by
  refine ⟨(h.hold.set (r := (0, 0)) rfl rfl 9 (.int .i64 u)).eqv ?_, h.wr, h.lr⟩
  refine rl_cases rfl rfl (fun _ => rfl) (fun _ => rfl) rfl rfl (fun _ => rfl) rfl rfl rfl (fun _ => rfl) rfl (fun k i hn h0 _ _ _ _ _ _ _ _ _ _ _ => ?_)
  rw [hn, up_other _ _ h0, hn]

/-- A row turned, in place or anew. -/
theorem Hold.row2 {E : Ents} {r : Rl} {x y : Ent} {gg : Nat} (h : Hold ρ w E) (hr : E r = some x) (hg : w.grownBy w' x.v.ownBlock) (ho : w'.ownsRow 0 y.e y.sz y.v y.n y.xs) (hat : ∀ g, y.v.ownBlock = some g → g = gg) (hgg : x.v.ownBlock = some gg ∨ w.heap.size ≤ gg) (hn : r ≠ oth) :
    Hold (rs ρ gg r) w' (up E r y) ∧ Ev ρ w (rs ρ gg r) w' := by
  have ha : ∀ b, b < w.heap.size → rs ρ gg r b = ρ b := by
    intro b hb
    by_cases e : b = gg
    · subst e
      rw [rs_same]
      rcases hgg with hat | hat
      · exact (h.rl r x _ hr hat).symm
      · omega
    · exact rs_other _ _ e
  refine ⟨h.turn ha (fun b hb hne => hg.block b hb (fun e => hne (h.rl r x b hr e.symm))) ho (fun k hk => by rw [hat k hk]; exact rs_same _ _ _), ?_⟩
  exact ⟨hg.os, hg.tape, hg.output, hg.size, ha, fun b hb hb' => hg.block b hb (fun e => hn ((h.rl r x b hr e.symm).symm.trans hb'))⟩

/-- The trail's row turned. -/
theorem Rep.tvTurn (h : Rep ρ w B H s) {gg : Nat} {v : Value} {tr : List Int} (hg : w.grownBy w' H.tv.ownBlock) (ho : w'.ownsRow 0 3 1 v tr.length (intC tr)) (hat : ∀ g, v.ownBlock = some g → g = gg) (hgg : H.tv.ownBlock = some gg ∨ w.heap.size ≤ gg) :
    Rep (rs ρ gg (8, 0)) (w'.setCell ⟨B, 8, none⟩ v) B { H with tv := v } { s with trail := tr } ∧ Ev ρ w (rs ρ gg (8, 0)) (w'.setCell ⟨B, 8, none⟩ v) := by
  obtain ⟨h1, h2⟩ := h.hold.row2 (r := (8, 0)) (y := ⟨3, 1, v, tr.length, intC tr⟩) rfl hg ho hat hgg (by decide)
  have h3 := h1.set (r := (0, 0)) (up_other _ _ (by decide)) (g := B) rfl 8 v
  have hB : rs ρ gg (8, 0) B ≠ oth := by rw [h2.agree B h.lt]; exact h.roleB
  refine ⟨⟨h3.eqv ?_, h.wr, h.lr⟩, h2.trans (Ev.set hB 8 v)⟩
  refine rl_cases rfl rfl (fun _ => rfl) (fun _ => rfl) rfl rfl (fun _ => rfl) rfl rfl rfl (fun _ => rfl) rfl (fun k i hn h0 _ _ _ _ h8 _ _ _ _ _ _ => ?_)
  rw [hn, up_other _ _ h0, up_other _ _ h8, hn]

/-- The late clauses' row turned. -/
theorem Rep.avTurn (h : Rep ρ w B H s) {gg : Nat} {v : Value} {tr : List Nat} (hg : w.grownBy w' H.av.ownBlock) (ho : w'.ownsRow 0 80 1 v tr.length (ptrsC H.cb tr)) (hat : ∀ g, v.ownBlock = some g → g = gg) (hgg : H.av.ownBlock = some gg ∨ w.heap.size ≤ gg) :
    Rep (rs ρ gg (11, 0)) (w'.setCell ⟨B, 11, none⟩ v) B { H with av := v } { s with late := tr } ∧ Ev ρ w (rs ρ gg (11, 0)) (w'.setCell ⟨B, 11, none⟩ v) := by
  obtain ⟨h1, h2⟩ := h.hold.row2 (r := (11, 0)) (y := ⟨80, 1, v, tr.length, ptrsC H.cb tr⟩) rfl hg ho hat hgg (by decide)
  have h3 := h1.set (r := (0, 0)) (up_other _ _ (by decide)) (g := B) rfl 11 v
  have hB : rs ρ gg (11, 0) B ≠ oth := by rw [h2.agree B h.lt]; exact h.roleB
  refine ⟨⟨h3.eqv ?_, h.wr, h.lr⟩, h2.trans (Ev.set hB 11 v)⟩
  refine rl_cases rfl rfl (fun _ => rfl) (fun _ => rfl) rfl rfl (fun _ => rfl) rfl rfl rfl (fun _ => rfl) rfl (fun k i hn h0 _ _ _ _ _ _ h11 _ _ _ _ => ?_)
  rw [hn, up_other _ _ h0, up_other _ _ h11, hn]

/-- A level is begun. -/
theorem Rep.lvApp (h : Rep ρ w B H s) {gg : Nat} {v : Value} {p : Lv} (hp : p.late = []) (hg : w.grownBy w' H.lv.ownBlock) (ho : w'.ownsRow 0 95 3 v (s.lvs.length + 1) (lvsC s.lvs H.lr ++ [.int .i64 p.start, .int .i64 p.head, .slice none 0 0])) (hat : ∀ g, v.ownBlock = some g → g = gg) (hgg : H.lv.ownBlock = some gg ∨ w.heap.size ≤ gg) :
    Rep (rs ρ gg (9, 0)) (w'.setCell ⟨B, 10, none⟩ v) B { H with lv := v, lr := H.lr ++ [.slice none 0 0] } { s with lvs := s.lvs ++ [p] } ∧ Ev ρ w (rs ρ gg (9, 0)) (w'.setCell ⟨B, 10, none⟩ v) := by
  rw [← lvsC_append _ _ _ _ h.lr] at ho
  obtain ⟨h1, h2⟩ := h.hold.row2 (r := (9, 0)) (y := ⟨95, 3, v, s.lvs.length + 1, lvsC (s.lvs ++ [p]) (H.lr ++ [.slice none 0 0])⟩) rfl hg ho hat hgg (by decide)
  have h3 := h1.set (r := (0, 0)) (up_other _ _ (by decide)) (g := B) rfl 10 v
  have hB : rs ρ gg (9, 0) B ≠ oth := by rw [h2.agree B h.lt]; exact h.roleB
  have h4 := h3.turn (ρ' := rs ρ gg (9, 0)) (w' := w'.setCell ⟨B, 10, none⟩ v) (r := (10, s.lvs.length)) (y := ⟨80, 1, .slice none 0 0, 0, []⟩) (fun _ _ => rfl) (fun _ _ _ => rfl) (World.ownsRow_nil _ _ _ _) (fun g hg => by simp [Value.ownBlock] at hg)
  refine ⟨⟨h4.eqv ?_, h.wr, by simp [h.lr]⟩, h2.trans (Ev.set hB 10 v)⟩
  refine rl_cases rfl rfl (fun _ => rfl) (fun _ => rfl) rfl rfl (fun _ => rfl) rfl rfl ?_ (fun i => ?_) rfl (fun k i hn h0 _ _ _ _ _ h9 _ _ _ _ h10 => ?_)
  · rw [up_other _ _ (by simp), up_other _ _ (by simp), up_same]; simp [ents]
  · by_cases e : i = s.lvs.length
    · subst e
      rw [up_same]
      simp [ents, List.getElem?_append_right, ← h.lr, lvlE, hp, ptrsC]
    · rw [up_other _ _ (by simp [e]), up_other _ _ (by simp), up_other _ _ (by simp)]
      have e1 : (s.lvs ++ [p])[i]? = s.lvs[i]? := by
        rcases Nat.lt_or_ge i s.lvs.length with hl | hl
        · rw [List.getElem?_append_left hl]
        · rw [List.getElem?_eq_none (by simp; omega), List.getElem?_eq_none hl]
      have e2 : (H.lr ++ [Value.slice none 0 0])[i]? = H.lr[i]? := by
        have := h.lr
        rcases Nat.lt_or_ge i s.lvs.length with hl | hl
        · rw [List.getElem?_append_left (by omega)]
        · rw [List.getElem?_eq_none (by simp; omega), List.getElem?_eq_none (by omega)]
      simp only [ents, e1, e2]
  · rw [hn, up_other _ _ (by simp [h10]), up_other _ _ h0, up_other _ _ h9, hn]

/-- Levels are taken back: their row is cut. -/
theorem Rep.lvCut (h : Rep ρ w B H s) {gg m : Nat} {v : Value} (hm : m ≤ s.lvs.length) (hg : w.grownBy w' H.lv.ownBlock) (ho : w'.ownsRow 0 95 3 v m (lvsC (s.lvs.take m) (H.lr.take m))) (hat : ∀ g, v.ownBlock = some g → g = gg) (hgg : H.lv.ownBlock = some gg ∨ w.heap.size ≤ gg) :
    Rep (rs ρ gg (9, 0)) (w'.setCell ⟨B, 10, none⟩ v) B { H with lv := v, lr := H.lr.take m } { s with lvs := s.lvs.take m } ∧ Ev ρ w (rs ρ gg (9, 0)) (w'.setCell ⟨B, 10, none⟩ v) := by
  obtain ⟨h1, h2⟩ := h.hold.row2 (r := (9, 0)) (y := ⟨95, 3, v, m, lvsC (s.lvs.take m) (H.lr.take m)⟩) rfl hg ho hat hgg (by decide)
  have h3 := h1.set (r := (0, 0)) (up_other _ _ (by decide)) (g := B) rfl 10 v
  have hB : rs ρ gg (9, 0) B ≠ oth := by rw [h2.agree B h.lt]; exact h.roleB
  refine ⟨⟨h3.weak ?_, h.wr, by simp [h.lr]⟩, h2.trans (Ev.set hB 10 v)⟩
  refine rl_cases (fun _ e => e) (fun _ e => e) (fun _ _ e => e) (fun _ _ e => e) (fun _ e => e) (fun _ e => e) (fun _ _ e => e) (fun _ e => e) (fun _ e => e) (fun x e => ?_) (fun i x e => ?_) (fun _ e => e) (fun k i hn h0 _ _ _ _ _ h9 _ _ _ _ h10 => ?_)
  · rw [up_other _ _ (by simp), up_same]
    simpa [ents, Nat.min_eq_left hm] using e
  · rw [up_other _ _ (by simp), up_other _ _ (by simp)]
    simp only [ents, List.getElem?_take] at e ⊢
    by_cases hi : i < m
    · simp only [hi, if_true] at e
      revert e
      cases s.lvs[i]? <;> cases H.lr[i]? <;> exact fun e => e
    · simp [hi, lvlE] at e
  · intro x e; rw [hn] at e; cases e

/-- A level's late clauses turned. -/
theorem Rep.llTurn (h : Rep ρ w B H s) {gg gl k : Nat} {v : Value} {p : Lv} {u : Value} {q : List Nat} (hp : s.lvs[k]? = some p) (hu : H.lr[k]? = some u) (hgl : H.lv.ownBlock = some gl) (hg : w.grownBy w' u.ownBlock) (ho : w'.ownsRow 0 80 1 v q.length (ptrsC H.cb q)) (hat : ∀ g, v.ownBlock = some g → g = gg) (hgg : u.ownBlock = some gg ∨ w.heap.size ≤ gg) :
    Rep (rs ρ gg (10, k)) (w'.setCell ⟨gl, k * 3 + 2, none⟩ v) B { H with lr := H.lr.set k v } { s with lvs := s.lvs.modify k (fun a => { a with late := q }) } ∧ Ev ρ w (rs ρ gg (10, k)) (w'.setCell ⟨gl, k * 3 + 2, none⟩ v) := by
  have hr : ents B H s (10, k) = some ⟨80, 1, u, p.late.length, ptrsC H.cb p.late⟩ := by simp [ents, hp, hu, lvlE]
  obtain ⟨h1, h2⟩ := h.hold.row2 (r := (10, k)) (y := ⟨80, 1, v, q.length, ptrsC H.cb q⟩) hr hg ho hat hgg (by simp [oth])
  have h3 := h1.set (r := (9, 0)) (up_other _ _ (by simp)) (g := gl) hgl (k * 3 + 2) v
  have hlt : gl < w.heap.size := h.hold.lt (r := (9, 0)) rfl hgl
  have hB : rs ρ gg (10, k) gl ≠ oth := by rw [h2.agree gl hlt]; exact h.roleOf (r := (9, 0)) rfl hgl (by decide)
  refine ⟨⟨h3.eqv ?_, h.wr, by simp [h.lr]⟩, h2.trans (Ev.set hB _ v)⟩
  refine rl_cases rfl rfl (fun _ => rfl) (fun _ => rfl) rfl rfl (fun _ => rfl) rfl rfl ?_ (fun i => ?_) rfl (fun kk i hn h0 _ _ _ _ _ h9 _ _ _ _ h10 => ?_)
  · rw [up_same]
    simp only [ents, List.length_modify]
    rw [lvsC_set _ _ _ _ (fun a => { a with late := q }) (fun a => ⟨rfl, rfl⟩) h.lr]
  · rw [up_other _ _ (by simp)]
    by_cases e : i = k
    · subst e
      rw [up_same]
      have hk : i < H.lr.length := (List.getElem?_eq_some_iff.1 hu).1
      simp [ents, List.getElem?_modify, hp, List.getElem?_set_self hk, lvlE]
    · rw [up_other _ _ (by simp [e])]
      simp only [ents, List.getElem?_modify, List.getElem?_set_ne (Ne.symm e), if_neg (Ne.symm e)]
      cases s.lvs[i]? <;> cases H.lr[i]? <;> rfl
  · rw [hn, up_other _ _ h9, up_other _ _ (by simp [h10]), hn]

/-- A literal's watches turned. -/
theorem Rep.wTurn (h : Rep ρ w B H s) {gg gw j : Nat} {v u : Value} {q q' : List (Nat × Int)} (hq : s.wat[j]? = some q) (hu : H.wr[j]? = some u) (hgw : H.wv.ownBlock = some gw) (hg : w.grownBy w' u.ownBlock) (ho : w'.ownsRow 0 100 2 v q'.length (watC H.cb q')) (hat : ∀ g, v.ownBlock = some g → g = gg) (hgg : u.ownBlock = some gg ∨ w.heap.size ≤ gg) :
    Rep (rs ρ gg (6, j)) (w'.setCell ⟨gw, j, none⟩ v) B { H with wr := H.wr.set j v } { s with wat := s.wat.set j q' } ∧ Ev ρ w (rs ρ gg (6, j)) (w'.setCell ⟨gw, j, none⟩ v) := by
  have hr : ents B H s (6, j) = some ⟨100, 2, u, q.length, watC H.cb q⟩ := by simp [ents, hq, hu, watE]
  obtain ⟨h1, h2⟩ := h.hold.row2 (r := (6, j)) (y := ⟨100, 2, v, q'.length, watC H.cb q'⟩) hr hg ho hat hgg (by simp [oth])
  have h3 := h1.set (r := (5, 0)) (up_other _ _ (by simp)) (g := gw) hgw j v
  have hlt : gw < w.heap.size := h.hold.lt (r := (5, 0)) rfl hgw
  have hB : rs ρ gg (6, j) gw ≠ oth := by rw [h2.agree gw hlt]; exact h.roleOf (r := (5, 0)) rfl hgw (by decide)
  refine ⟨⟨h3.eqv ?_, by simp [h.wr], h.lr⟩, h2.trans (Ev.set hB _ v)⟩
  refine rl_cases rfl rfl (fun _ => rfl) (fun _ => rfl) rfl ?_ (fun i => ?_) rfl rfl rfl (fun _ => rfl) rfl (fun kk i hn h0 _ _ h5 _ _ _ _ _ _ h6 _ => ?_)
  · rw [up_same]; simp [ents]
  · rw [up_other _ _ (by simp)]
    by_cases e : i = j
    · subst e
      rw [up_same]
      have hk : i < H.wr.length := (List.getElem?_eq_some_iff.1 hu).1
      have hk2 : i < s.wat.length := (List.getElem?_eq_some_iff.1 hq).1
      simp only [ents, List.getElem?_set_self hk, List.getElem?_set_self hk2, watE]
    · rw [up_other _ _ (by simp [e])]
      simp only [ents, List.getElem?_set_ne (Ne.symm e)]
  · rw [hn, up_other _ _ h5, up_other _ _ (by simp [h6]), hn]

/-- Within a literal's watches something turned, in place. -/
theorem Rep.wIn (h : Rep ρ w B H s) {j : Nat} {u : Value} {q q' : List (Nat × Int)} (hq : s.wat[j]? = some q) (hu : H.wr[j]? = some u) (hg : w.grownBy w' u.ownBlock) (hl : q'.length = q.length) (ho : w'.ownsRow 0 100 2 u q'.length (watC H.cb q')) :
    Rep ρ w' B H { s with wat := s.wat.set j q' } ∧ Ev ρ w ρ w' := by
  have hr : ents B H s (6, j) = some ⟨100, 2, u, q.length, watC H.cb q⟩ := by simp [ents, hq, hu, watE]
  have h1 := h.hold.turn (ρ' := ρ) (w' := w') (r := (6, j)) (y := ⟨100, 2, u, q'.length, watC H.cb q'⟩) (fun _ _ => rfl) (fun b hb hne => hg.block b hb (fun e => hne (h.hold.rl _ _ b hr e.symm))) ho (fun g hg => h.hold.rl _ _ g hr hg)
  refine ⟨⟨h1.eqv ?_, by simp [h.wr], h.lr⟩, Ev.grown hg (fun k hk => h.roleOf hr hk (by simp [oth]))⟩
  refine rl_cases rfl rfl (fun _ => rfl) (fun _ => rfl) rfl ?_ (fun i => ?_) rfl rfl rfl (fun _ => rfl) rfl (fun kk i hn h0 _ _ h5 _ _ _ _ _ _ h6 _ => ?_)
  · rw [up_other _ _ (by simp)]; simp [ents]
  · by_cases e : i = j
    · subst e
      rw [up_same]
      have hk2 : i < s.wat.length := (List.getElem?_eq_some_iff.1 hq).1
      simp only [ents, hu, List.getElem?_set_self hk2, watE]
    · rw [up_other _ _ (by simp [e])]
      simp only [ents, List.getElem?_set_ne (Ne.symm e)]
  · rw [hn, up_other _ _ (by simp [h6]), hn]

theorem clsC_set (cb : Nat → Nat) (cs : List Cl) (i : Nat) (c : Cl) : (clsC cb cs).set i (if c.gone then .pointer none else ptrC cb i) = clsC cb (cs.set i c) := by
  apply List.ext_getElem?
  intro k
  by_cases e : k = i
  · subst e
    by_cases hk : k < cs.length
    · rw [List.getElem?_set_self (by rw [clsC_len]; exact hk)]
      rw [clsC_get cb (List.getElem?_set_self hk)]
    · rw [List.getElem?_eq_none (by simp [clsC_len]; omega), List.getElem?_eq_none (by simp [clsC_len]; omega)]
  · rw [List.getElem?_set_ne (Ne.symm e)]
    simp [clsC, List.getElem?_mapIdx, List.getElem?_set_ne (Ne.symm e)]

theorem set_self {α : Type} {l : List α} {i : Nat} {x : α} (h : l[i]? = some x) : l.set i x = l := by
  obtain ⟨hi, rfl⟩ := List.getElem?_eq_some_iff.1 h
  exact List.set_getElem_self hi

/-- What a clause watches is set. -/
theorem Rep.setWatched (h : Rep ρ w B H s) {i : Nat} {c : Cl} (hc : s.cls[i]? = some c) (p q : Int) :
    Rep ρ ((w.setCell ⟨H.cb i, 2, none⟩ (.int .i64 p)).setCell ⟨H.cb i, 3, none⟩ (.int .i64 q)) B H (s.setCl i { c with w0 := p, w1 := q }) := by
  have hr : ents B H s (2, i) = some ⟨84, 5, obj1 (H.cb i), 1, objC i (H.cl i) c⟩ := by simp [ents, hc]
  have hlt : i < s.cls.length := (List.getElem?_eq_some_iff.1 hc).1
  refine ⟨((h.hold.set hr (g := H.cb i) rfl 2 (.int .i64 p)).set (up_same _ _ _) (g := H.cb i) rfl 3 (.int .i64 q)).eqv ?_, h.wr, h.lr⟩
  refine rl_cases rfl ?_ (fun k => ?_) (fun k => ?_) rfl rfl (fun _ => rfl) rfl rfl rfl (fun _ => rfl) rfl (fun kk k hn _ _ _ _ _ _ _ _ h2 _ _ _ => ?_)
  · rw [up_other _ _ (by simp), up_other _ _ (by simp)]
    simp only [ents, PS.setCl, List.length_set]
    rw [← clsC_set]
    have : (clsC H.cb s.cls).set i (if c.gone then .pointer none else ptrC H.cb i) = clsC H.cb s.cls := by
      rw [clsC_set, set_self hc]
    exact congrArg _ (congrArg _ this)
  · by_cases e : k = i
    · subst e
      rw [up_same]
      simp [ents, PS.setCl, List.getElem?_set_self hlt, objC]
    · rw [up_other _ _ (by simp [e]), up_other _ _ (by simp [e])]
      simp only [ents, PS.setCl, List.getElem?_set_ne (Ne.symm e)]
  · rw [up_other _ _ (by simp), up_other _ _ (by simp)]
    by_cases e : k = i
    · subst e
      simp [ents, PS.setCl, List.getElem?_set_self hlt, hc]
    · simp only [ents, PS.setCl, List.getElem?_set_ne (Ne.symm e)]
  · rw [hn, up_other _ _ (by simp [h2]), up_other _ _ (by simp [h2]), hn]

/-- A clause is dropped: its struct, its literals, its place in the row. -/
theorem Rep.dropCl (h : Rep ρ w B H s) {i gc : Nat} {c : Cl} (hc : s.cls[i]? = some c) (hg : H.cv.ownBlock = some gc) :
    Rep ρ (((w.setCell ⟨H.cb i, 4, none⟩ (.bool true)).setCell ⟨H.cb i, 1, none⟩ (.slice none 0 0)).setCell ⟨gc, i, none⟩ (.pointer none)) B { H with cl := fun k => if k = i then .slice none 0 0 else H.cl k } { s with cls := s.cls.set i { c with gone := true, lits := [] } } := by
  have hr : ents B H s (2, i) = some ⟨84, 5, obj1 (H.cb i), 1, objC i (H.cl i) c⟩ := by simp [ents, hc]
  have hlt : i < s.cls.length := (List.getElem?_eq_some_iff.1 hc).1
  have h1 := (h.hold.set hr (g := H.cb i) rfl 4 (.bool true)).set (up_same _ _ _) (g := H.cb i) rfl 1 (.slice none 0 0)
  have h2 := h1.set (r := (1, 0)) (x := ⟨80, 1, H.cv, s.cls.length, clsC H.cb s.cls⟩) (by rw [up_other _ _ (by simp), up_other _ _ (by simp)]; rfl) hg i (.pointer none)
  have h3 := h2.turn (ρ' := ρ) (w' := ((w.setCell ⟨H.cb i, 4, none⟩ (.bool true)).setCell ⟨H.cb i, 1, none⟩ (.slice none 0 0)).setCell ⟨gc, i, none⟩ (.pointer none)) (r := (3, i)) (y := ⟨3, 1, .slice none 0 0, 0, []⟩) (fun _ _ => rfl) (fun _ _ _ => rfl) (World.ownsRow_nil _ _ _ _) (fun g hg => by simp [Value.ownBlock] at hg)
  refine ⟨h3.eqv ?_, h.wr, h.lr⟩
  refine rl_cases rfl ?_ (fun k => ?_) (fun k => ?_) rfl rfl (fun _ => rfl) rfl rfl rfl (fun _ => rfl) rfl (fun kk k hn _ h1 _ _ _ _ _ _ h2 h3 _ _ => ?_)
  · rw [up_other _ _ (by simp), up_same]
    simp only [ents, List.length_set]
    rw [← clsC_set]
    rfl
  · rw [up_other _ _ (by simp), up_other _ _ (by simp)]
    by_cases e : k = i
    · subst e
      rw [up_same]
      simp [ents, List.getElem?_set_self hlt, objC]
    · rw [up_other _ _ (by simp [e]), up_other _ _ (by simp [e])]
      simp only [ents, List.getElem?_set_ne (Ne.symm e), if_neg e]
  · by_cases e : k = i
    · subst e
      rw [up_same]
      simp [ents, List.getElem?_set_self hlt, intC]
    · rw [up_other _ _ (by simp [e]), up_other _ _ (by simp), up_other _ _ (by simp), up_other _ _ (by simp)]
      simp only [ents, List.getElem?_set_ne (Ne.symm e), if_neg e]
  · rw [hn, up_other _ _ (by simp [h3]), up_other _ _ h1, up_other _ _ (by simp [h2]), up_other _ _ (by simp [h2]), hn]

/-- All numbers of clauses in the lists are of clauses. -/
structure Vld (s : PS) : Prop where
  wat : ∀ q ∈ s.wat, ∀ p ∈ q, p.1 < s.cls.length
  lvs : ∀ v ∈ s.lvs, ∀ i ∈ v.late, i < s.cls.length
  late : ∀ i ∈ s.late, i < s.cls.length

def addCb (cb : Nat → Nat) (n b : Nat) : Nat → Nat := fun k => if k = n then b else cb k
def addV (cl : Nat → Value) (n : Nat) (v : Value) : Nat → Value := fun k => if k = n then v else cl k

theorem ptrsC_congr {cb cb' : Nat → Nat} {l : List Nat} (h : ∀ i ∈ l, cb' i = cb i) : ptrsC cb' l = ptrsC cb l :=
  List.map_congr_left (fun i hi => by simp only [ptrC, h i hi])
theorem clsC_congr {cb cb' : Nat → Nat} {cs : List Cl} (h : ∀ i, i < cs.length → cb' i = cb i) : clsC cb' cs = clsC cb cs := by
  apply List.ext_getElem?
  intro k
  by_cases hk : k < cs.length
  · rw [clsC_get cb' (List.getElem?_eq_getElem hk), clsC_get cb (List.getElem?_eq_getElem hk)]
    simp only [ptrC, h k hk]
  · rw [List.getElem?_eq_none (by rw [clsC_len]; omega), List.getElem?_eq_none (by rw [clsC_len]; omega)]
theorem clsC_snoc (cb : Nat → Nat) (cs : List Cl) (c : Cl) (hc : c.gone = false) : clsC cb (cs ++ [c]) = clsC cb cs ++ [ptrC cb cs.length] := by
  simp [clsC, List.mapIdx_append, hc]

/-- The rows of a new clause. -/
def newE (E : Ents) (n b : Nat) (v : Value) (lits : List Int) : Ents :=
  up (up E (3, n) ⟨3, 1, v, lits.length, intC lits⟩) (2, n) ⟨84, 5, obj1 b, 1, objC n v ⟨lits, 0, 0, false⟩⟩

theorem Rep.newCl (h : Rep ρ w B H s) {w1 : World} {v : Value} {lits : List Int} (n : Nat) (hb : Below w.heap.size w w1) (ho : Own w.heap.size w1 v lits) :
    ∃ ρ1, Hold ρ1 (w1.alloc (.cells #[.int .i64 n, v, .int .i64 0, .int .i64 0, .bool false] 84)) (newE (ents B H s) n w1.heap.size v lits) ∧ Ev ρ w ρ1 (w1.alloc (.cells #[.int .i64 n, v, .int .i64 0, .int .i64 0, .bool false] 84)) := by
  have ho0 : w1.ownsRow 0 3 1 v lits.length (intC lits) := Own.mono ho (Nat.zero_le _)
  have hsz := hb.size
  have h1 : ∃ ρ0, Hold ρ0 w1 (up (ents B H s) (3, n) ⟨3, 1, v, lits.length, intC lits⟩) ∧ Ev ρ w ρ0 w1 := by
    obtain ⟨a, cap, hv, _, _, hc⟩ := own_form ho
    cases a with
    | none =>
      subst hv
      exact ⟨rs ρ w.heap.size (3, n), h.hold.new hb ho0 (fun k hk => by simp [Value.ownBlock] at hk) (Nat.le_refl _), Ev.fresh _ hb (Nat.le_refl _)⟩
    | some ad =>
      have hge := World.ownsRow.lt ho ad.block (by rw [hv]; rfl)
      exact ⟨rs ρ ad.block (3, n), h.hold.new hb ho0 (fun k hk => by rw [hv] at hk; simp [Value.ownBlock] at hk; exact hk.symm) hge.1, Ev.fresh _ hb hge.1⟩
  obtain ⟨ρ0, h2, h3⟩ := h1
  refine ⟨rs ρ0 w1.heap.size (2, n), ?_, h3.trans (Ev.fresh _ (below_alloc w1 _) (Nat.le_refl _))⟩
  refine h2.new (below_alloc w1 _) ?_ (fun k hk => by simp [obj1, Value.ownBlock] at hk; exact hk.symm) (Nat.le_refl _)
  exact own_of_block (heap_alloc_new w1 _) rfl

theorem Rep.clApp (h : Rep ρ w B H s) (hV : Vld s) {ρ1 : Nat → Rl} {w2 w3 : World} {b gg : Nat} {v u : Value} {lits : List Int} (h1 : Hold ρ1 w2 (newE (ents B H s) s.cls.length b v lits)) (hB : ρ1 B ≠ oth)
    (hg : w2.grownBy w3 H.cv.ownBlock) (ho : w3.ownsRow 0 80 1 u (s.cls.length + 1) (clsC H.cb s.cls ++ [.pointer (some ⟨b, 0, none⟩)])) (hat : ∀ g, u.ownBlock = some g → g = gg) (hgg : H.cv.ownBlock = some gg ∨ w2.heap.size ≤ gg) :
    Rep (rs ρ1 gg (1, 0)) (w3.setCell ⟨B, 2, none⟩ u) B { H with cv := u, cb := addCb H.cb s.cls.length b, cl := addV H.cl s.cls.length v } { s with cls := s.cls ++ [⟨lits, 0, 0, false⟩] } ∧ Ev ρ1 w2 (rs ρ1 gg (1, 0)) (w3.setCell ⟨B, 2, none⟩ u) := by
  have hr : newE (ents B H s) s.cls.length b v lits (1, 0) = some ⟨80, 1, H.cv, s.cls.length, clsC H.cb s.cls⟩ := by unfold newE; rw [up_other _ _ (by simp), up_other _ _ (by simp)]; rfl
  obtain ⟨h2, h3⟩ := h1.row2 (r := (1, 0)) (y := ⟨80, 1, u, s.cls.length + 1, clsC H.cb s.cls ++ [.pointer (some ⟨b, 0, none⟩)]⟩) hr hg ho hat hgg (by decide)
  have hr0 : up (newE (ents B H s) s.cls.length b v lits) (1, 0) ⟨80, 1, u, s.cls.length + 1, clsC H.cb s.cls ++ [.pointer (some ⟨b, 0, none⟩)]⟩ (0, 0) = some ⟨67, 12, obj1 B, 1, headC B H s⟩ := by unfold newE; rw [up_other _ _ (by simp), up_other _ _ (by simp), up_other _ _ (by simp)]; rfl
  have h4 := h2.set hr0 (g := B) rfl 2 u
  have hlt : B < w2.heap.size := h1.lt (r := (0, 0)) (x := ⟨67, 12, obj1 B, 1, headC B H s⟩) (by unfold newE; rw [up_other _ _ (by simp), up_other _ _ (by simp)]; rfl) rfl
  have hcb : ∀ i, i < s.cls.length → addCb H.cb s.cls.length b i = H.cb i := fun i hi => if_neg (by omega)
  have hcl : ∀ i, i < s.cls.length → addV H.cl s.cls.length v i = H.cl i := fun i hi => if_neg (by omega)
  have hcbn : addCb H.cb s.cls.length b s.cls.length = b := if_pos rfl
  have hcln : addV H.cl s.cls.length v s.cls.length = v := if_pos rfl
  refine ⟨⟨h4.eqv ?_, h.wr, h.lr⟩, h3.trans (Ev.set (by rw [h3.agree B hlt]; exact hB) 2 u)⟩
  refine rl_cases rfl ?_ (fun k => ?_) (fun k => ?_) rfl rfl (fun k => ?_) rfl rfl rfl (fun k => ?_) ?_ (fun kk k hn h0 h1 _ _ _ _ _ _ h2 h3 _ _ => ?_)
  · rw [up_other _ _ (by simp), up_same]
    simp only [ents, List.length_append, List.length_singleton]
    rw [clsC_snoc _ _ _ rfl, clsC_congr hcb, ptrC, hcbn]
  · unfold newE
    rw [up_other _ _ (by simp), up_other _ _ (by simp)]
    by_cases e : k = s.cls.length
    · subst e
      rw [up_same]
      simp [ents, hcbn, hcln]
    · rw [up_other _ _ (by simp [e]), up_other _ _ (by simp)]
      rcases Nat.lt_or_ge k s.cls.length with hk | hk
      · simp only [ents, List.getElem?_append_left hk, hcb k hk, hcl k hk]
      · simp only [ents]
        rw [List.getElem?_eq_none (by simp; omega), List.getElem?_eq_none hk]
        rfl
  · unfold newE
    rw [up_other _ _ (by simp), up_other _ _ (by simp), up_other _ _ (by simp)]
    by_cases e : k = s.cls.length
    · subst e
      rw [up_same]
      simp [ents, hcbn, hcln]
    · rw [up_other _ _ (by simp [e])]
      rcases Nat.lt_or_ge k s.cls.length with hk | hk
      · simp only [ents, List.getElem?_append_left hk, hcb k hk, hcl k hk]
      · simp only [ents]
        rw [List.getElem?_eq_none (by simp; omega), List.getElem?_eq_none hk]
        rfl
  · unfold newE
    rw [up_other _ _ (by simp), up_other _ _ (by simp), up_other _ _ (by simp), up_other _ _ (by simp)]
    simp only [ents]
    cases hq : s.wat[k]? with
    | none => rfl
    | some q =>
      cases H.wr[k]? with
      | none => rfl
      | some x =>
        simp only [watE]
        rw [watC_congr (fun p hp => hcb p.1 (hV.wat q (List.mem_of_getElem? hq) p hp))]
  · unfold newE
    rw [up_other _ _ (by simp), up_other _ _ (by simp), up_other _ _ (by simp), up_other _ _ (by simp)]
    simp only [ents]
    cases hq : s.lvs[k]? with
    | none => rfl
    | some q =>
      cases H.lr[k]? with
      | none => rfl
      | some x =>
        simp only [lvlE]
        rw [ptrsC_congr (fun i hi => hcb i (hV.lvs q (List.mem_of_getElem? hq) i hi))]
  · unfold newE
    rw [up_other _ _ (by simp), up_other _ _ (by simp), up_other _ _ (by simp), up_other _ _ (by simp)]
    simp only [ents]
    rw [ptrsC_congr (fun i hi => hcb i (hV.late i hi))]
  · unfold newE
    rw [hn, up_other _ _ h0, up_other _ _ h1, up_other _ _ (by simp [h2]), up_other _ _ (by simp [h3]), hn]
end

end Go.Proofs.Ytlmbgaconjcaiab
