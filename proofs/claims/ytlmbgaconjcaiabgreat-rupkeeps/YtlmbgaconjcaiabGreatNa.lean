/- The law's world in memory: its clauses, which are gone, its decisions. -/
import Derived.Test.YtlmbgaconjcaiabGreatPXll
set_option linter.unusedVariables false
set_option linter.unusedSimpArgs false
namespace Go.Proofs.YtlmbgaconjcaiabGreat
open Go.RowKit

theorem bquiet {b : Nat} {a w : World} (h : Below b a w) (n : Nat) : Below b a (w.drewN n) := ⟨h.os, h.tape, h.output, h.size, h.block⟩
theorem bdrew {b : Nat} {a w : World} (h : Below b a w.drew) : Below b a w := ⟨h.os, h.tape, h.output, h.size, h.block⟩

section
variable {ρ ρ' : Nat → Rl} {N : Nat} {w w' wr : World} {a : Option Addr}

/-- A block that came in, or that is of none of the law's own types. -/
def Far (N : Nat) (w : World) (b : Nat) : Prop := b < N ∨ ∃ cs e, w.heap[b]? = some (.cells cs e (0, 0)) ∧ e ≠ 36 ∧ e ≠ 41 ∧ e ≠ 4
theorem Far.keep {b : Nat} (h : Far N w b) (e : w'.heap[b]? = w.heap[b]?) : Far N w' b := by
  rcases h with h | ⟨cs, t, h1, h2⟩
  · exact .inl h
  · exact .inr ⟨cs, t, e.trans h1, h2⟩

/-- A row of numbers that is nobody's, wherever it lies. -/
def RowO (ρ : Nat → Rl) (N : Nat) (w : World) (a : Option Addr) (xs : List Int) : Prop :=
  ∀ i (h : i < xs.length), ∃ b off, a = some ⟨b, off, none⟩ ∧ b < w.heap.size ∧ ρ b = oth ∧ Far N w b ∧ w.cell? ⟨b, off + i, none⟩ = some (.int .i64 xs[i])
theorem RowO.row {xs : List Int} (h : RowO ρ N w a xs) : Row w a xs := fun i hi => by
  obtain ⟨b, off, e, hb, _, _, hc⟩ := h i hi
  exact ⟨b, off, e, hb, hc⟩
theorem RowO.ev {xs : List Int} (h : RowO ρ N w a xs) (hE : Ev ρ w ρ' w') : RowO ρ' N w' a xs := fun i hi => by
  obtain ⟨b, off, e, hb, hr, hf, hc⟩ := h i hi
  exact ⟨b, off, e, Nat.lt_of_lt_of_le hb hE.size, (hE.agree b hb).trans hr, hf.keep (hE.keep b hb hr), (World.cell?_of_block (a := ⟨b, off + i, none⟩) (hE.keep b hb hr)).trans hc⟩
theorem Row.rowO {xs : List Int} (h : Row w a xs) (hE : Ev free w ρ wr) : RowO ρ w.heap.size wr a xs := fun i hi => by
  obtain ⟨b, off, e, hb, hc⟩ := h i hi
  exact ⟨b, off, e, Nat.lt_of_lt_of_le hb hE.size, hE.agree b hb, .inl hb, (World.cell?_of_block (a := ⟨b, off + i, none⟩) (hE.keep b hb rfl)).trans hc⟩

/-- Rows of numbers behind a row of slices, all nobody's; the slices' values beside. -/
structure GV (ρ : Nat → Rl) (N : Nat) (w : World) (a : Option Addr) (css : List (List Int)) (vs : List Value) : Prop where
  len : vs.length = css.length
  row : ∀ i (h : i < css.length), ∃ ai ci, vs[i]? = some (.slice ai css[i].length ci) ∧ RowO ρ N w ai css[i] ∧ css[i].length ≤ maxLen ∧ (ai = none → ci = 0)
  cell : ∀ i u, vs[i]? = some u → ∃ b off, a = some ⟨b, off, none⟩ ∧ b < w.heap.size ∧ ρ b = oth ∧ Far N w b ∧ w.cell? ⟨b, off + i, none⟩ = some u

theorem GV.ev {css : List (List Int)} {vs : List Value} (h : GV ρ N w a css vs) (hE : Ev ρ w ρ' w') : GV ρ' N w' a css vs := by
  refine ⟨h.len, fun i hi => ?_, fun i u hu => ?_⟩
  · obtain ⟨ai, ci, h1, h2, h3, h4⟩ := h.row i hi
    exact ⟨ai, ci, h1, h2.ev hE, h3, h4⟩
  · obtain ⟨b, off, e, hb, hr, hf, hc⟩ := h.cell i u hu
    exact ⟨b, off, e, Nat.lt_of_lt_of_le hb hE.size, (hE.agree b hb).trans hr, hf.keep (hE.keep b hb hr), (World.cell?_of_block (a := ⟨b, off + i, none⟩) (hE.keep b hb hr)).trans hc⟩
theorem GV.grid {css : List (List Int)} {vs : List Value} (h : GV ρ N w a css vs) : GridC w a css := by
  intro i hi
  obtain ⟨ai, ci, h1, h2, h3, h4⟩ := h.row i hi
  obtain ⟨b, off, e, hb, _, _, hc⟩ := h.cell i _ h1
  exact ⟨b, off, ai, ci, e, hb, hc, h2.row, h3, h4⟩
theorem GridC.gv {css : List (List Int)} (h : GridC w a css) (hE : Ev free w ρ wr) : ∃ vs, GV ρ w.heap.size wr a css vs := by
  cases ha : a with
  | none =>
    have : css = [] := by
      cases css with
      | nil => rfl
      | cons c r => obtain ⟨b, off, _, _, e, _⟩ := h 0 (by simp); rw [ha] at e; cases e
    subst this
    exact ⟨[], rfl, fun i hi => by simp at hi, fun i u hu => by simp at hu⟩
  | some ad =>
    refine ⟨(List.range css.length).map (fun i => (wr.cell? (ad.add i)).getD (.int .i64 0)), by simp, fun i hi => ?_, fun i u hu => ?_⟩
    · obtain ⟨b, off, ai, ci, e, hb, hc, hr, hl, hn⟩ := h i hi
      rw [ha] at e; cases e
      have hc' := (World.cell?_of_block (a := ⟨b, off + i, none⟩) (hE.keep b hb rfl)).trans hc
      refine ⟨ai, ci, ?_, hr.rowO hE, hl, hn⟩
      rw [List.getElem?_map, List.getElem?_range hi]
      simp only [Option.map_some, Addr.add_lit, hc', Option.getD_some]
    · have hi : i < css.length := by
        have := (List.getElem?_eq_some_iff.1 hu).1; simpa using this
      obtain ⟨b, off, ai, ci, e, hb, hc, hr, hl, hn⟩ := h i hi
      rw [ha] at e; cases e
      have hc' := (World.cell?_of_block (a := ⟨b, off + i, none⟩) (hE.keep b hb rfl)).trans hc
      rw [List.getElem?_map, List.getElem?_range hi] at hu
      simp only [Option.map_some, Addr.add_lit, hc', Option.getD_some, Option.some.injEq] at hu
      subst hu
      exact ⟨b, off, rfl, Nat.lt_of_lt_of_le hb hE.size, hE.agree b hb, .inl hb, hc'⟩
/-- The slices' values as a source of an append. -/
theorem GV.src {css : List (List Int)} {vs : List Value} {c : Nat} (h : GV ρ N w a css vs) (hn : a = none → c = 0) (x : World) (hx : Below w.heap.size w x) : (a = none ∧ css.length = 0 ∧ c = 0 ∧ vs = []) ∨ ∃ ad, a = some ad ∧ vs.length = css.length * 1 ∧ ∀ j u, vs[j]? = some u → x.cell? (ad.add j) = some u := by
  cases ha : a with
  | none =>
    left
    have : vs = [] := by
      cases vs with
      | nil => rfl
      | cons v r => obtain ⟨b, off, e, _⟩ := h.cell 0 v (by simp); rw [ha] at e; cases e
    exact ⟨rfl, by rw [← h.len, this]; rfl, hn ha, this⟩
  | some ad =>
    right
    refine ⟨ad, rfl, by rw [h.len, Nat.mul_one], fun j u hu => ?_⟩
    obtain ⟨b, off, e, hb, _, _, hc⟩ := h.cell j u hu
    rw [ha] at e; cases e
    rw [Addr.add_lit]
    exact (hx.cell (p := ⟨b, off + j, none⟩) hb).trans hc
theorem GV.one {css : List (List Int)} {vs : List Value} (h : GV ρ N w a css vs) : ∀ u ∈ vs, u.oneCell' = true := by
  intro u hu
  obtain ⟨i, hi⟩ := List.mem_iff_getElem?.1 hu
  have hl : i < css.length := by rw [← h.len]; exact (List.getElem?_eq_some_iff.1 hi).1
  obtain ⟨ai, ci, h1, _⟩ := h.row i hl
  rw [hi] at h1; cases h1; rfl
/-- One clause more, behind a new row. -/
theorem GV.snoc {css : List (List Int)} {vs : List Value} {c : List Int} {g cap : Nat} {ac : Option Addr} {cc : Nat} (h : GV ρ N w a css vs) (hr : RowO ρ N w ac c) (hl : c.length ≤ maxLen) (hcc : ac = none → cc = 0) (ho : w.ownsRow 0 25 1 (.slice (some ⟨g, 0, none⟩) (css.length + 1) cap) (css.length + 1) (vs ++ [.slice ac c.length cc])) (hg : ρ g = oth) :
    GV ρ N w (some ⟨g, 0, none⟩) (css ++ [c]) (vs ++ [.slice ac c.length cc]) := by
  refine ⟨by simp [h.len], fun i hi => ?_, fun i u hu => ?_⟩
  · rcases Nat.lt_or_ge i css.length with q | q
    · obtain ⟨ai, ci, h1, h2, h3, h4⟩ := h.row i q
      refine ⟨ai, ci, ?_, ?_, ?_, h4⟩
      · rw [List.getElem?_append_left (by rw [h.len]; exact q), h1]; simp [List.getElem_append_left q]
      · simpa [List.getElem_append_left q] using h2
      · simpa [List.getElem_append_left q] using h3
    · obtain rfl : i = css.length := by simp at hi; omega
      refine ⟨ac, cc, ?_, ?_, ?_, hcc⟩
      · rw [List.getElem?_append_right (by rw [h.len]; exact Nat.le_refl _), h.len]; simp
      · simpa using hr
      · simpa using hl
  · obtain ⟨cs, hcs⟩ := own_ty ho rfl
    refine ⟨g, 0, rfl, (World.ownsRow.lt ho g rfl).2, hg, .inr ⟨cs, 25, hcs, by decide, by decide, by decide⟩, ?_⟩
    have := own_cell (i := i) ho rfl hu
    simpa using this

/-- A row of Booleans that is nobody's. -/
def boolC (gs : List Bool) : List Value := gs.map Value.bool
def BR (ρ : Nat → Rl) (w : World) (v : Value) (n : Nat) (gs : List Bool) : Prop := w.ownsRow 0 4 1 v n (boolC gs) ∧ ∀ g, v.ownBlock = some g → ρ g = oth
theorem BR.ev {v : Value} {n : Nat} {gs : List Bool} (h : BR ρ w v n gs) (hE : Ev ρ w ρ' w') : BR ρ' w' v n gs := by
  have hlt : ∀ g, v.ownBlock = some g → g < w.heap.size := fun g hg => (World.ownsRow.lt h.1 g hg).2
  exact ⟨own_same h.1 (fun k hk => hE.keep k (hlt k hk) (h.2 k hk)), fun g hg => (hE.agree g (hlt g hg)).trans (h.2 g hg)⟩
theorem boolC_get {gs : List Bool} {i : Nat} (h : i < gs.length) : (boolC gs)[i]? = some (.bool gs[i]) := by simp [boolC, List.getElem?_eq_getElem h]
theorem BR.rowB {gs : List Bool} {c : Nat} (h : BR ρ w (.slice a gs.length c) gs.length gs) : RowB w a gs := by
  intro i hi
  obtain ⟨g, cap, e, _, _, hlt⟩ := own_some h.1 (by omega)
  simp at e
  obtain ⟨rfl, rfl⟩ := e
  refine ⟨g, 0, rfl, hlt, ?_⟩
  have := own_cell (i := i) h.1 rfl (boolC_get hi)
  simpa using this
theorem BR.new {n g : Nat} (hb : w.heap[g]? = some (.cells (madeCells #[.bool false] n) 4 (0, 0))) (hr : ρ g = oth) (hn : n ≤ maxLen) : BR ρ w (.slice (some ⟨g, 0, none⟩) n n) n (List.replicate n false) := by
  refine ⟨⟨by simp [boolC], .inr ⟨g, n, madeCells #[.bool false] n, rfl, Nat.zero_le _, hb, Nat.le_refl _, hn, by simp [madeCells], ?_⟩⟩, fun k hk => ?_⟩
  · rw [made_rep, List.take_of_length_le (by simp)]; simp [boolC]
  · simp [Value.ownBlock] at hk; subst hk; exact hr

/-- The law's world: a propagator, and the document's clauses and decisions beside. -/
structure LW (ρ : Nat → Rl) (N : Nat) (w : World) (B V : Nat) (s : PS) (css : List (List Int)) (gs : List Bool) (a2 a3 a4 : Option Addr) (c2 c3 c4 : Nat) : Prop where
  rep : ∃ H, Rep ρ w B H s
  inv : Inv s
  cnt : Cnt s
  vars : s.vars = V
  kys : Kys s css gs
  lits : ∀ c ∈ s.cls, c.lits.length ≤ 4096
  g : ∃ vs, GV ρ N w a2 css vs
  n2 : a2 = none → c2 = 0
  b : BR ρ w (.slice a3 gs.length c3) gs.length gs
  d : DR ρ w (.slice a4 s.dec.length c4) s.dec.length s.dec

variable {B V : Nat} {s t : PS} {css : List (List Int)} {gs : List Bool} {a2 a3 a4 : Option Addr} {c2 c3 c4 : Nat}

theorem LW.below (h : LW ρ N w B V s css gs a2 a3 a4 c2 c3 c4) (hb : Below w.heap.size w w') : LW ρ N w' B V s css gs a2 a3 a4 c2 c3 c4 := by
  obtain ⟨H, hR⟩ := h.rep
  obtain ⟨vs, hg⟩ := h.g
  exact ⟨⟨H, hR.below hb⟩, h.inv, h.cnt, h.vars, h.kys, h.lits, ⟨vs, hg.ev (Ev.below hb)⟩, h.n2, h.b.ev (Ev.below hb), h.d.ev (Ev.below hb)⟩
theorem LW.fr (h : LW ρ N w B V s css gs a2 a3 a4 c2 c3 c4) (hb : Below w.heap.size w w') : LW (fr ρ w.heap.size) N w' B V s css gs a2 a3 a4 c2 c3 c4 := by
  obtain ⟨H, hR⟩ := h.rep
  obtain ⟨vs, hg⟩ := h.g
  exact ⟨⟨H, hR.fr hb⟩, h.inv, h.cnt, h.vars, h.kys, h.lits, ⟨vs, hg.ev (Ev.fr hb)⟩, h.n2, h.b.ev (Ev.fr hb), h.d.ev (Ev.fr hb)⟩

theorem ents_e2 (B : Nat) (H : Hd) (s : PS) : ∀ r x, ents B H s r = some x → x.e ≠ 36 ∧ x.e ≠ 41 := by
  refine rl_cases ?_ ?_ (fun i => ?_) (fun i => ?_) ?_ ?_ (fun i => ?_) ?_ ?_ ?_ (fun i => ?_) ?_ (fun k i hn _ _ _ _ _ _ _ _ _ _ _ _ => ?_)
  all_goals intro x hx
  case _ => simp only [ents, Option.some.injEq] at hx; subst hx; simp
  case _ => simp only [ents, Option.some.injEq] at hx; subst hx; simp
  case _ => simp only [ents, Option.map_eq_some_iff] at hx; obtain ⟨c, _, rfl⟩ := hx; simp
  case _ => simp only [ents, Option.map_eq_some_iff] at hx; obtain ⟨c, _, rfl⟩ := hx; simp
  case _ => simp only [ents, Option.some.injEq] at hx; subst hx; simp
  case _ => simp only [ents, Option.some.injEq] at hx; subst hx; simp
  case _ => simp only [ents] at hx; unfold watE at hx; split at hx <;> simp at hx; subst hx; simp
  case _ => simp only [ents, Option.some.injEq] at hx; subst hx; simp
  case _ => simp only [ents, Option.some.injEq] at hx; subst hx; simp
  case _ => simp only [ents, Option.some.injEq] at hx; subst hx; simp
  case _ => simp only [ents] at hx; unfold lvlE at hx; split at hx <;> simp at hx; subst hx; simp
  case _ => simp only [ents, Option.some.injEq] at hx; subst hx; simp
  case _ => rw [hn] at hx; cases hx

/-- A block of one of the law's own types turned; all others stay. -/
structure Off (W W' : World) (g : Nat) : Prop where
  ty : ∃ cs e, W.heap[g]? = some (.cells cs e (0, 0)) ∧ (e = 36 ∨ e = 41)
  off : ∀ b, b ≠ g → W'.heap[b]? = W.heap[b]?
  size : W'.heap.size = W.heap.size
  rest : W'.os = W.os ∧ W'.tape = W.tape ∧ W'.output = W.output
theorem Off.ne {W W' : World} {g k : Nat} {cs : Array Value} {e : TypeId} (h : Off W W' g) (he : e ≠ 36 ∧ e ≠ 41) (hk : W.heap[k]? = some (.cells cs e (0, 0))) : k ≠ g := by
  rintro rfl
  obtain ⟨cs', e', h1, h2⟩ := h.ty
  rw [h1] at hk; simp at hk
  rcases h2 with h2 | h2
  · exact he.1 (hk.2.symm.trans h2)
  · exact he.2 (hk.2.symm.trans h2)
theorem Off.own {W W' : World} {g base e sz n : Nat} {v : Value} {xs : List Value} (h : Off W W' g) (ho : W.ownsRow base e sz v n xs) (he : e ≠ 36 ∧ e ≠ 41) : W'.ownsRow base e sz v n xs :=
  own_same ho (fun k hk => by obtain ⟨cs, hc⟩ := own_ty ho hk; exact h.off k (h.ne he hc))
theorem Off.rep {W W' : World} {g : Nat} {H : Hd} (h : Off W W' g) (hR : Rep ρ W B H s) : Rep ρ W' B H s :=
  ⟨⟨fun r x hx => h.own (hR.hold.own r x hx) (ents_e2 _ _ _ r x hx), hR.hold.rl⟩, hR.wr, hR.lr⟩
theorem Off.ev {W W' : World} {g : Nat} (h : Off W W' g) (hE : Ev ρ w ρ' W) (hg : w.heap.size ≤ g) : Ev ρ w ρ' W' :=
  ⟨h.rest.1.trans hE.os, h.rest.2.1.trans hE.tape, h.rest.2.2.trans hE.output, by rw [h.size]; exact hE.size, hE.agree, fun b hb ho => (h.off b (by omega)).trans (hE.keep b hb ho)⟩
theorem U5.offs {W W' : World} {g : Nat} {xs : List Value} {cs : Array Value} (h : U5 W W' g xs) (hg : W.heap[g]? = some (.cells cs 36 (0, 0))) : Off W W' g := ⟨⟨cs, 36, hg, .inl rfl⟩, h.off, h.size, h.rest⟩

theorem Off.far {W W' : World} {g b : Nat} (h : Off W W' g) (hg : N ≤ g) (hf : Far N W b) : b ≠ g := by
  rcases hf with hf | ⟨cs, e, h1, h2⟩
  · omega
  · exact h.ne ⟨h2.1, h2.2.1⟩ h1
theorem Off.rowO {W W' : World} {g : Nat} {xs : List Int} (h : Off W W' g) (hg : N ≤ g) (hr : RowO ρ N W a xs) : RowO ρ N W' a xs := fun i hi => by
  obtain ⟨b, off, e, hb, hr, hf, hc⟩ := hr i hi
  have hk := h.off b (h.far hg hf)
  exact ⟨b, off, e, by rw [h.size]; exact hb, hr, hf.keep hk, (World.cell?_of_block (a := ⟨b, off + i, none⟩) hk).trans hc⟩
theorem Off.gv {W W' : World} {g : Nat} {vs : List Value} (h : Off W W' g) (hg : N ≤ g) (hG : GV ρ N W a css vs) : GV ρ N W' a css vs := by
  refine ⟨hG.len, fun i hi => ?_, fun i u hu => ?_⟩
  · obtain ⟨ai, ci, h1, h2, h3, h4⟩ := hG.row i hi
    exact ⟨ai, ci, h1, h.rowO hg h2, h3, h4⟩
  · obtain ⟨b, off, e, hb, hr, hf, hc⟩ := hG.cell i u hu
    have hk := h.off b (h.far hg hf)
    exact ⟨b, off, e, by rw [h.size]; exact hb, hr, hf.keep hk, (World.cell?_of_block (a := ⟨b, off + i, none⟩) hk).trans hc⟩
theorem Off.lw {W W' : World} {g : Nat} (h : Off W W' g) (hg : N ≤ g) (hL : LW ρ N W B V s css gs a2 a3 a4 c2 c3 c4) : LW ρ N W' B V s css gs a2 a3 a4 c2 c3 c4 := by
  obtain ⟨H, hR⟩ := hL.rep
  obtain ⟨vs, hG⟩ := hL.g
  exact ⟨⟨H, h.rep hR⟩, hL.inv, hL.cnt, hL.vars, hL.kys, hL.lits, ⟨vs, h.gv hg hG⟩, hL.n2, ⟨h.own hL.b.1 (by decide), hL.b.2⟩, ⟨h.own hL.d.1 (by decide), hL.d.2⟩⟩

/-- What an act of the law leaves. -/
def ActR (ρ : Nat → Rl) (N : Nat) (w : World) (B V M : Nat) (e : Ending) (w' : World) : Prop := ∃ ρ' s css gs a2 a3 a4 c2 c3 c4, e = .returned (.tuple #[.agg #[.pointer (some ⟨B, 0, none⟩), .int .i64 V, .slice a2 css.length c2, .slice a3 gs.length c3, .slice a4 s.dec.length c4], .bool true]) ∧ LW ρ' N w' B V s css gs a2 a3 a4 c2 c3 c4 ∧ Ev ρ w ρ' w' ∧ css.length ≤ M

/-- In the midst of an act: the law's world, and the three blocks that the act keeps for itself. -/
structure AS (ρ : Nat → Rl) (N : Nat) (w : World) (ρ0 : Nat → Rl) (W : World) (B V : Nat) (s : PS) (css : List (List Int)) (gs : List Bool) (a2 a3 a4 : Option Addr) (c2 c3 c4 : Nat) (b2 b3 b4 : Nat) (wv av rv : Array Value) : Prop where
  lw : LW ρ0 N W B V s css gs a2 a3 a4 c2 c3 c4
  ev : Ev ρ w ρ0 W
  bx : Bx W b2 b3 b4 wv av rv
  ro : ρ0 b2 = oth ∧ ρ0 b3 = oth ∧ ρ0 b4 = oth
theorem AS.below {ρ0 : Nat → Rl} {W W' : World} {b2 b3 b4 : Nat} {wv av rv : Array Value} (h : AS ρ N w ρ0 W B V s css gs a2 a3 a4 c2 c3 c4 b2 b3 b4 wv av rv) (hb : Below W.heap.size W W') : AS ρ N w ρ0 W' B V s css gs a2 a3 a4 c2 c3 c4 b2 b3 b4 wv av rv :=
  ⟨h.lw.below hb, h.ev.trans (Ev.below hb), h.bx.below hb, h.ro⟩

theorem AS.ev2 {ρ0 ρ1 : Nat → Rl} {W W1 : World} {b2 b3 b4 : Nat} {wv av rv : Array Value} {css' : List (List Int)} {gs' : List Bool} {a2' a3' a4' : Option Addr} {c2' c3' c4' : Nat} (h : AS ρ N w ρ0 W B V s css gs a2 a3 a4 c2 c3 c4 b2 b3 b4 wv av rv) (hE : Ev ρ0 W ρ1 W1) (hl : LW ρ1 N W1 B V t css' gs' a2' a3' a4' c2' c3' c4') : AS ρ N w ρ1 W1 B V t css' gs' a2' a3' a4' c2' c3' c4' b2 b3 b4 wv av rv :=
  ⟨hl, h.ev.trans hE, h.bx.ev hE h.ro, (hE.agree _ (lt_of_block h.bx.k2)).trans h.ro.1, (hE.agree _ (lt_of_block h.bx.k3)).trans h.ro.2.1, (hE.agree _ (lt_of_block h.bx.k4)).trans h.ro.2.2⟩

def wv0 (B V : Nat) (a2 a3 a4 : Option Addr) (n2 n3 n4 c2 c3 c4 : Nat) : Array Value := #[.pointer (some ⟨B, 0, none⟩), .int .i64 V, .slice a2 n2 c2, .slice a3 n3 c3, .slice a4 n4 c4]

theorem act_set (h : LW ρ N w B V s css gs a2 a3 a4 c2 c3 c4) (wv av rv : Array Value) :
    AS ρ N w (Go.Proofs.YtlmbgaconjcaiabGreat.fr ρ w.heap.size) (((w.alloc (.cells wv 36)).alloc (.cells av 41)).alloc (.cells rv 36)) B V s css gs a2 a3 a4 c2 c3 c4 w.heap.size (w.heap.size + 1) (w.heap.size + 1 + 1) wv av rv := by
  have hB0 : Below w.heap.size w (((w.alloc (.cells wv 36)).alloc (.cells av 41)).alloc (.cells rv 36)) := (((Below.refl _ _).alloc (Nat.le_refl _) _).alloc (by simp) _).alloc (by simp; omega) _
  have hx := heap3 w (.cells wv 36) (.cells av 41) (.cells rv 36)
  exact ⟨h.fr hB0, Ev.fr hB0, ⟨hx.1.1, hx.1.2.1, hx.1.2.2⟩, fr_new (Nat.le_refl _), fr_new (by omega), fr_new (by omega)⟩

theorem U5.block {w W : World} {g : Nat} {x0 x1 x2 x3 x4 : Value} (h : U5 w W g [x0, x1, x2, x3, x4]) : W.heap[g]? = some (.cells #[x0, x1, x2, x3, x4] 36 (0, 0)) := by
  rcases h.own.2 with ⟨e, _⟩ | ⟨g', cap, cur, e, _, hg, hn, _, hs, ht⟩
  · simp [obj1] at e
  · simp [obj1] at e
    obtain ⟨rfl, rfl⟩ := e
    rw [hg]
    have : cur.toList = [x0, x1, x2, x3, x4] := by
      rw [← ht, List.take_of_length_le]
      simp [hs]
    have e2 : cur = #[x0, x1, x2, x3, x4] := by
      apply Array.ext'
      rw [this]
    rw [e2]
/-- The act's own block turned. -/
structure U3 (w W : World) (g : Nat) (xs : List Value) : Prop where
  own : W.ownsRow 0 41 3 (obj1 g) 1 xs
  off : ∀ b, b ≠ g → W.heap[b]? = w.heap[b]?
  size : W.heap.size = w.heap.size
  rest : W.os = w.os ∧ W.tape = w.tape ∧ W.output = w.output
theorem U3.set {w W : World} {g : Nat} {xs : List Value} (h : U3 w W g xs) (i : Nat) (v : Value) : U3 w (W.setCell ⟨g, i, none⟩ v) g (xs.set i v) :=
  ⟨own_set h.own rfl v, fun b hb => (Below.heap_setCell _ _ _ _ hb).trans (h.off b hb), by rw [← h.size]; simp [World.setCell], h.rest⟩
theorem U3.first {w : World} {g : Nat} {x : Array Value} (hx : x.size = 3) (hb : w.heap[g]? = some (.cells x 41 (0, 0))) : U3 w w g x.toList :=
  ⟨own_of_block hb hx, fun _ _ => rfl, rfl, rfl, rfl, rfl⟩
theorem U3.block {w W : World} {g : Nat} {x0 x1 x2 : Value} (h : U3 w W g [x0, x1, x2]) : W.heap[g]? = some (.cells #[x0, x1, x2] 41 (0, 0)) := by
  rcases h.own.2 with ⟨e, _⟩ | ⟨g', cap, cur, e, _, hg, hn, _, hs, ht⟩
  · simp [obj1] at e
  · simp [obj1] at e
    obtain ⟨rfl, rfl⟩ := e
    rw [hg]
    have : cur.toList = [x0, x1, x2] := by
      rw [← ht, List.take_of_length_le]
      simp [hs]
    have e2 : cur = #[x0, x1, x2] := by
      apply Array.ext'
      rw [this]
    rw [e2]
theorem AS.up2 {ρ0 : Nat → Rl} {W W' : World} {b2 b3 b4 : Nat} {wv av rv : Array Value} {y0 y1 y2 y3 y4 : Value} (h : AS ρ N w ρ0 W B V s css gs a2 a3 a4 c2 c3 c4 b2 b3 b4 wv av rv) (hU : U5 W W' b2 [y0, y1, y2, y3, y4]) (hN : N ≤ w.heap.size) (hge : w.heap.size ≤ b2) (h3 : b2 ≠ b3) (h4 : b2 ≠ b4) : AS ρ N w ρ0 W' B V s css gs a2 a3 a4 c2 c3 c4 b2 b3 b4 #[y0, y1, y2, y3, y4] av rv :=
  ⟨(hU.offs h.bx.k2).lw (by omega) h.lw, (hU.offs h.bx.k2).ev h.ev hge, ⟨hU.block, (hU.off b3 (Ne.symm h3)).trans h.bx.k3, (hU.off b4 (Ne.symm h4)).trans h.bx.k4⟩, h.ro⟩
theorem AS.up3 {ρ0 : Nat → Rl} {W W' : World} {b2 b3 b4 : Nat} {wv av rv : Array Value} {y0 y1 y2 : Value} (h : AS ρ N w ρ0 W B V s css gs a2 a3 a4 c2 c3 c4 b2 b3 b4 wv av rv) (hU : U3 W W' b3 [y0, y1, y2]) (hN : N ≤ w.heap.size) (hge : w.heap.size ≤ b3) (h3 : b2 ≠ b3) (h4 : b3 ≠ b4) : AS ρ N w ρ0 W' B V s css gs a2 a3 a4 c2 c3 c4 b2 b3 b4 wv #[y0, y1, y2] rv := by
  have hO : Off W W' b3 := ⟨⟨_, 41, h.bx.k3, .inr rfl⟩, hU.off, hU.size, hU.rest⟩
  exact ⟨hO.lw (by omega) h.lw, hO.ev h.ev hge, ⟨(hU.off b2 h3).trans h.bx.k2, hU.block, (hU.off b4 (Ne.symm h4)).trans h.bx.k4⟩, h.ro⟩

/-- In the midst of an act, the memory alone. -/
structure AM (ρ : Nat → Rl) (N : Nat) (w : World) (ρ0 : Nat → Rl) (W : World) (B : Nat) (s : PS) (css : List (List Int)) (gs : List Bool) (D : List Int) (a2 a3 a4 : Option Addr) (c3 c4 : Nat) (b2 b3 b4 : Nat) (wv av rv : Array Value) : Prop where
  rep : ∃ H, Rep ρ0 W B H s
  g : ∃ vs, GV ρ0 N W a2 css vs
  b : BR ρ0 W (.slice a3 gs.length c3) gs.length gs
  d : DR ρ0 W (.slice a4 D.length c4) D.length D
  ev : Ev ρ w ρ0 W
  bx : Bx W b2 b3 b4 wv av rv
  ro : ρ0 b2 = oth ∧ ρ0 b3 = oth ∧ ρ0 b4 = oth

variable {ρ0 ρ1 : Nat → Rl} {W W' : World} {D : List Int} {b2 b3 b4 : Nat} {wv av rv : Array Value}

theorem AS.am (h : AS ρ N w ρ0 W B V s css gs a2 a3 a4 c2 c3 c4 b2 b3 b4 wv av rv) : AM ρ N w ρ0 W B s css gs s.dec a2 a3 a4 c3 c4 b2 b3 b4 wv av rv := ⟨h.lw.rep, h.lw.g, h.lw.b, h.lw.d, h.ev, h.bx, h.ro⟩
theorem AM.as (h : AM ρ N w ρ0 W B s css gs s.dec a2 a3 a4 c3 c4 b2 b3 b4 wv av rv) (hI : Inv s) (hC : Cnt s) (hV : s.vars = V) (hK : Kys s css gs) (hL : ∀ c ∈ s.cls, c.lits.length ≤ 4096) (hn : a2 = none → c2 = 0) : AS ρ N w ρ0 W B V s css gs a2 a3 a4 c2 c3 c4 b2 b3 b4 wv av rv := ⟨⟨h.rep, hI, hC, hV, hK, hL, h.g, hn, h.b, h.d⟩, h.ev, h.bx, h.ro⟩
theorem AM.below (h : AM ρ N w ρ0 W B s css gs D a2 a3 a4 c3 c4 b2 b3 b4 wv av rv) (hb : Below W.heap.size W W') : AM ρ N w ρ0 W' B s css gs D a2 a3 a4 c3 c4 b2 b3 b4 wv av rv := by
  obtain ⟨H, hR⟩ := h.rep
  obtain ⟨vs, hg⟩ := h.g
  exact ⟨⟨H, hR.below hb⟩, ⟨vs, hg.ev (Ev.below hb)⟩, h.b.ev (Ev.below hb), h.d.ev (Ev.below hb), h.ev.trans (Ev.below hb), h.bx.below hb, h.ro⟩
/-- A call of the propagator. -/
theorem AM.call (h : AM ρ N w ρ0 W B s css gs D a2 a3 a4 c3 c4 b2 b3 b4 wv av rv) (hR : ∃ H, Rep ρ1 W' B H t) (hE : Ev ρ0 W ρ1 W') : AM ρ N w ρ1 W' B t css gs D a2 a3 a4 c3 c4 b2 b3 b4 wv av rv := by
  obtain ⟨vs, hg⟩ := h.g
  exact ⟨hR, ⟨vs, hg.ev hE⟩, h.b.ev hE, h.d.ev hE, h.ev.trans hE, h.bx.ev hE h.ro, (hE.agree _ (lt_of_block h.bx.k2)).trans h.ro.1, (hE.agree _ (lt_of_block h.bx.k3)).trans h.ro.2.1, (hE.agree _ (lt_of_block h.bx.k4)).trans h.ro.2.2⟩
theorem AM.up2 {y0 y1 y2 y3 y4 : Value} (h : AM ρ N w ρ0 W B s css gs D a2 a3 a4 c3 c4 b2 b3 b4 wv av rv) (hU : U5 W W' b2 [y0, y1, y2, y3, y4]) (hN : N ≤ w.heap.size) (hge : w.heap.size ≤ b2) (h3 : b2 ≠ b3) (h4 : b2 ≠ b4) : AM ρ N w ρ0 W' B s css gs D a2 a3 a4 c3 c4 b2 b3 b4 #[y0, y1, y2, y3, y4] av rv := by
  have hO := hU.offs h.bx.k2
  obtain ⟨H, hR⟩ := h.rep
  obtain ⟨vs, hG⟩ := h.g
  exact ⟨⟨H, hO.rep hR⟩, ⟨vs, hO.gv (by omega) hG⟩, ⟨hO.own h.b.1 (by decide), h.b.2⟩, ⟨hO.own h.d.1 (by decide), h.d.2⟩, hO.ev h.ev hge, ⟨hU.block, (hU.off b3 (Ne.symm h3)).trans h.bx.k3, (hU.off b4 (Ne.symm h4)).trans h.bx.k4⟩, h.ro⟩
theorem own0 {base e sz n : Nat} {v : Value} {xs : List Value} (h : W.ownsRow base e sz v n xs) : W.ownsRow 0 e sz v n xs := by
  refine ⟨h.1, ?_⟩
  rcases h.2 with h | ⟨g, cap, cur, h1, _, h3⟩
  · exact .inl h
  · exact .inr ⟨g, cap, cur, h1, Nat.zero_le _, h3⟩
/-- A new row of Booleans. -/
theorem AM.newB {gs' : List Bool} {g cap : Nat} (h : AM ρ N w ρ0 W B s css gs D a2 a3 a4 c3 c4 b2 b3 b4 wv av rv) (hb : Below W.heap.size W W') (ho : W'.ownsRow W.heap.size 4 1 (.slice (some ⟨g, 0, none⟩) gs'.length cap) gs'.length (boolC gs')) : AM ρ N w (Go.Proofs.YtlmbgaconjcaiabGreat.fr ρ0 W.heap.size) W' B s css gs' D a2 (some ⟨g, 0, none⟩) a4 cap c4 b2 b3 b4 wv av rv := by
  obtain ⟨H, hR⟩ := h.rep
  obtain ⟨vs, hg⟩ := h.g
  have hlt := World.ownsRow.lt ho g rfl
  refine ⟨⟨H, hR.fr hb⟩, ⟨vs, hg.ev (Ev.fr hb)⟩, ⟨own0 ho, fun k hk => ?_⟩, h.d.ev (Ev.fr hb), h.ev.trans (Ev.fr hb), h.bx.below hb, (fr_old (lt_of_block h.bx.k2)).trans h.ro.1, (fr_old (lt_of_block h.bx.k3)).trans h.ro.2.1, (fr_old (lt_of_block h.bx.k4)).trans h.ro.2.2⟩
  simp [Value.ownBlock] at hk; subst hk; exact fr_new hlt.1
/-- A new row of clauses, one more. -/
theorem AM.newG {c : List Int} {ac : Option Addr} {cc g cap : Nat} {vs : List Value} (h : AM ρ N w ρ0 W B s css gs D a2 a3 a4 c3 c4 b2 b3 b4 wv av rv) (hg : GV ρ0 N W a2 css vs) (hr : RowO ρ0 N W ac c) (hl : c.length ≤ maxLen) (hcc : ac = none → cc = 0) (hb : Below W.heap.size W W') (ho : W'.ownsRow W.heap.size 25 1 (.slice (some ⟨g, 0, none⟩) (css.length + 1) cap) (css.length + 1) (vs ++ [.slice ac c.length cc])) : AM ρ N w (Go.Proofs.YtlmbgaconjcaiabGreat.fr ρ0 W.heap.size) W' B s (css ++ [c]) gs D (some ⟨g, 0, none⟩) a3 a4 c3 c4 b2 b3 b4 wv av rv := by
  obtain ⟨H, hR⟩ := h.rep
  have hlt := World.ownsRow.lt ho g rfl
  exact ⟨⟨H, hR.fr hb⟩, ⟨_, (hg.ev (Ev.fr hb)).snoc (hr.ev (Ev.fr hb)) hl hcc (own0 ho) (fr_new hlt.1)⟩, h.b.ev (Ev.fr hb), h.d.ev (Ev.fr hb), h.ev.trans (Ev.fr hb), h.bx.below hb, (fr_old (lt_of_block h.bx.k2)).trans h.ro.1, (fr_old (lt_of_block h.bx.k3)).trans h.ro.2.1, (fr_old (lt_of_block h.bx.k4)).trans h.ro.2.2⟩
/-- One of the Booleans is set. -/
theorem AM.setB {g cap i : Nat} (h : AM ρ N w ρ0 W B s css gs D a2 (some ⟨g, 0, none⟩) a4 cap c4 b2 b3 b4 wv av rv) (hN : N ≤ g) (hwg : w.heap.size ≤ g) (x : Bool) : AM ρ N w ρ0 (W.setCell ⟨g, i, none⟩ (.bool x)) B s css (gs.set i x) D a2 (some ⟨g, 0, none⟩) a4 cap c4 b2 b3 b4 wv av rv := by
  obtain ⟨H, hR⟩ := h.rep
  obtain ⟨vs, hG⟩ := h.g
  obtain ⟨cs, hcs⟩ := own_ty h.b.1 rfl
  have hrg := h.b.2 g rfl
  have hoff : ∀ b, b ≠ g → (W.setCell ⟨g, i, none⟩ (.bool x)).heap[b]? = W.heap[b]? := fun b hb => Below.heap_setCell _ _ _ _ hb
  have hsz : (W.setCell ⟨g, i, none⟩ (.bool x)).heap.size = W.heap.size := by simp [World.setCell]
  have hfar : ∀ b, Far N W b → b ≠ g := by
    rintro b (hb | ⟨cs', e, h1, h2⟩) rfl
    · omega
    · rw [hcs] at h1; simp at h1; exact h2.2.2 h1.2.symm
  have hty : ∀ (e : TypeId) (cs' : Array Value) (k : Nat), e ≠ 4 → W.heap[k]? = some (.cells cs' e (0, 0)) → k ≠ g := by
    rintro e cs' k he hk rfl
    rw [hcs] at hk; simp at hk; exact he hk.2.symm
  have e1 : boolC (gs.set i x) = (boolC gs).set i (.bool x) := by simp [boolC, List.map_set]
  refine ⟨⟨H, hR.off (fun b hb hr => hoff b (by rintro rfl; exact hr hrg))⟩, ⟨vs, hG.len, fun j hj => ?_, fun j u hu => ?_⟩, ⟨?_, h.b.2⟩, ⟨own_same h.d.1 (fun k hk => ?_), h.d.2⟩, ?_, ⟨?_, ?_, ?_⟩, h.ro⟩
  · obtain ⟨ai, ci, h1, h2, h3, h4⟩ := hG.row j hj
    refine ⟨ai, ci, h1, fun k hk => ?_, h3, h4⟩
    obtain ⟨b, off, e, hb, hr, hf, hc⟩ := h2 k hk
    have hk' := hoff b (hfar b hf)
    exact ⟨b, off, e, by rw [hsz]; exact hb, hr, hf.keep hk', (World.cell?_of_block (a := ⟨b, off + k, none⟩) hk').trans hc⟩
  · obtain ⟨b, off, e, hb, hr, hf, hc⟩ := hG.cell j u hu
    have hk' := hoff b (hfar b hf)
    exact ⟨b, off, e, by rw [hsz]; exact hb, hr, hf.keep hk', (World.cell?_of_block (a := ⟨b, off + j, none⟩) hk').trans hc⟩
  · rw [e1, List.length_set]; exact own_set h.b.1 rfl _
  · obtain ⟨cs', hc⟩ := own_ty h.d.1 hk
    exact hoff k (hty _ _ _ (by decide) hc)
  · exact ⟨h.ev.os, h.ev.tape, h.ev.output, by rw [hsz]; exact h.ev.size, h.ev.agree, fun b hb ho => (hoff b (by omega)).trans (h.ev.keep b hb ho)⟩
  · exact (hoff _ (hty _ _ _ (by decide) h.bx.k2)).trans h.bx.k2
  · exact (hoff _ (hty _ _ _ (by decide) h.bx.k3)).trans h.bx.k3
  · exact (hoff _ (hty _ _ _ (by decide) h.bx.k4)).trans h.bx.k4

/-- The result is stored: what is left is an act's. -/
theorem AS.fin {ρ0 : Nat → Rl} {W W' : World} {b2 b3 b4 M : Nat} {wv av : Array Value} {cs : Array Value} {x0 x1 x2 x3 x4 : Value} (h : AS ρ N w ρ0 W B V s css gs a2 a3 a4 c2 c3 c4 b2 b3 b4 wv av cs) (hU : U5 W W' b4 [x0, x1, x2, x3, x4]) (hN : N ≤ w.heap.size) (hge : w.heap.size ≤ b4) (hM : css.length ≤ M) :
    ActR ρ N w B V M (.returned (.tuple #[.agg #[.pointer (some ⟨B, 0, none⟩), .int .i64 V, .slice a2 css.length c2, .slice a3 gs.length c3, .slice a4 s.dec.length c4], .bool true])) W' := by
  have hO := hU.offs h.bx.k4
  exact ⟨ρ0, s, css, gs, a2, a3, a4, c2, c3, c4, rfl, hO.lw (by omega) h.lw, hO.ev h.ev hge, hM⟩
end
end Go.Proofs.YtlmbgaconjcaiabGreat
