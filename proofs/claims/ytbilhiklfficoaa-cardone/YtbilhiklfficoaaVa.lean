/- A graph, and words beside it: what acts leave of them; what literals and words mean. -/
import Derived.Test.YtbilhiklfficoaaWalkX
import Derived.Test.YtbilhiklfficoaaVecC
import Derived.Deep.OwnRows
set_option linter.unusedVariables false
set_option linter.unusedSimpArgs false
namespace Go.Proofs.Ytbilhiklfficoaa
open Go.RowKit Go.Maps

/-- What a literal means, by inputs; what a word does. -/
def Lt (g : List Gt) (x : Int) (X : List Bool → Bool) : Prop := isB g x = true ∧ ∀ ins, valF (allV ins g) x = X ins
def Wt (g : List Gt) (a : List Int) (A : List Bool → List Bool) : Prop := Wd g a ∧ ∀ ins, bitsW ins g a = A ins
section
variable {g h : List Gt} {k : Nat} {x : Int} {a b : List Int} {X : List Bool → Bool} {A C : List Bool → List Bool}
theorem Lt.grow (hx : Lt g x X) (e : Grow g h k) : Lt h x X := ⟨e.lit hx.1, fun ins => (val_grow e hx.1).trans (hx.2 ins)⟩
theorem Lt.congr {Y : List Bool → Bool} (hx : Lt g x X) (e : ∀ ins, X ins = Y ins) : Lt g x Y := ⟨hx.1, fun ins => (hx.2 ins).trans (e ins)⟩
theorem Wt.grow (ha : Wt g a A) (e : Grow g h k) : Wt h a A := ⟨ha.1.grow e, fun ins => (bitsW_grow e ha.1).trans (ha.2 ins)⟩
theorem Wt.congr (ha : Wt g a A) (e : ∀ ins, A ins = C ins) : Wt g a C := ⟨ha.1, fun ins => (ha.2 ins).trans (e ins)⟩
theorem Wt.len (ha : Wt g a A) (ins : List Bool) : (A ins).length = a.length := by rw [← ha.2 ins, bitsW_len]
theorem Wt.at (ha : Wt g a A) {i : Nat} (hi : i < a.length) : Lt g a[i] (fun ins => (A ins).getD i false) := by
  refine ⟨ha.1 _ (List.getElem_mem hi), fun ins => ?_⟩
  show _ = (A ins).getD i false
  rw [← ha.2 ins]
  unfold bitsW
  rw [List.getD_eq_getElem?_getD, List.getElem?_map, List.getElem?_eq_getElem hi]
  rfl
theorem Wt.nil : Wt g [] (fun _ => []) := ⟨fun k hk => by simp at hk, fun _ => rfl⟩
theorem Wt.snoc (ha : Wt g a A) (hx : Lt g x X) : Wt g (a ++ [x]) (fun ins => A ins ++ [X ins]) :=
  ⟨ha.1.snoc hx.1, fun ins => by have h1 := ha.2 ins; have h2 := hx.2 ins; unfold bitsW at *; rw [List.map_append, h1, List.map_singleton, h2]⟩
theorem Wt.append (ha : Wt g a A) (hb : Wt g b C) : Wt g (a ++ b) (fun ins => A ins ++ C ins) :=
  ⟨fun k hk => by rcases List.mem_append.1 hk with h | h; exact ha.1 k h; exact hb.1 k h, fun ins => by have h1 := ha.2 ins; have h2 := hb.2 ins; unfold bitsW at *; rw [List.map_append, h1, h2]⟩
theorem Wt.take (ha : Wt g a A) (n : Nat) : Wt g (a.take n) (fun ins => (A ins).take n) :=
  ⟨fun k hk => ha.1 k (List.mem_of_mem_take hk), fun ins => by have h1 := ha.2 ins; unfold bitsW at *; rw [List.map_take, h1]⟩
theorem Wt.drop (ha : Wt g a A) (n : Nat) : Wt g (a.drop n) (fun ins => (A ins).drop n) :=
  ⟨fun k hk => ha.1 k (List.mem_of_mem_drop hk), fun ins => by have h1 := ha.2 ins; unfold bitsW at *; rw [List.map_drop, h1]⟩
theorem Wt.set (ha : Wt g a A) (hx : Lt g x X) (i : Nat) : Wt g (a.set i x) (fun ins => (A ins).set i (X ins)) :=
  ⟨fun k hk => by rcases List.mem_or_eq_of_mem_set hk with h | h; exact ha.1 k h; rw [h]; exact hx.1, fun ins => by have h1 := ha.2 ins; have h2 := hx.2 ins; unfold bitsW at *; rw [List.map_set, h1, h2]⟩
theorem Wt.not (ha : Wt g a A) : Wt g (a.map notI) (fun ins => (A ins).map (!·)) := ⟨wd_not ha.1, fun ins => by rw [bits_not ha.1, ha.2 ins]⟩
theorem Lt.not (hx : Lt g x X) : Lt g (notI x) (fun ins => !X ins) := ⟨by rw [isB_not]; exact hx.1, fun ins => by rw [val_nots hx.1, hx.2 ins]⟩
theorem lt_zero (g : List Gt) : Lt g 0 (fun _ => false) := ⟨by rw [isB_iff]; omega, fun ins => val_zero _⟩
theorem lt_one (g : List Gt) : Lt g 1 (fun _ => true) := ⟨by rw [isB_iff]; omega, fun ins => val_one _⟩
theorem wt_zeros (g : List Gt) (n : Nat) : Wt g (List.replicate n 0) (fun _ => List.replicate n false) :=
  ⟨fun k hk => by rw [(List.mem_replicate.1 hk).2]; exact (lt_zero g).1, fun ins => by unfold bitsW; rw [List.map_replicate, val_zero]⟩
theorem Lt.i64 (hx : Lt g x X) (hl : g.length ≤ 1000000) : inI64 x ∧ 0 ≤ x ∧ x ≤ 5000000 := by
  have := isB_iff.1 hx.1
  unfold inI64; omega
end

/-- Numbers in a block of their own. -/
def Rw (w : World) (q : Nat) (l : List Int) : Prop := w.heap[q]? = some (.cells (l.map (Value.int .i64)).toArray 3 (0, 0))
section
variable {w w' : World} {q i : Nat} {l : List Int}
theorem Rw.lt (h : Rw w q l) : q < w.heap.size := lt_of_block h
theorem Rw.cell (h : Rw w q l) (hi : i < l.length) : w.cell? ⟨q, i, none⟩ = some (.int .i64 l[i]) := by
  unfold Rw at h
  simp [World.cell?, h, hi]
theorem Rw.fz (h : Rw w q l) (i : Nat) : w.frozen? ⟨q, i, none⟩ = false := by
  unfold Rw at h
  simp [World.frozen?, h]
theorem Rw.same (h : Rw w q l) (e : w'.heap[q]? = w.heap[q]?) : Rw w' q l := e.trans h
theorem Rw.set (h : Rw w q l) (i : Nat) (x : Int) : Rw (w.setCell ⟨q, i, none⟩ (.int .i64 x)) q (l.set i x) := by
  unfold Rw at *
  rw [hd_set h]
  congr 2
  apply Array.ext'
  simp [List.map_set]
theorem Rw.row (h : Rw w q l) : Row w (some ⟨q, 0, none⟩) l := fun k hk => ⟨q, 0, rfl, h.lt, by rw [Nat.zero_add]; exact h.cell hk⟩
theorem rw_made {N : Nat} (h : w.heap[q]? = some (.cells (madeCells #[.int .i64 0] N) 3)) : Rw w q (List.replicate N 0) := by
  unfold Rw
  rw [h]
  congr 2
  apply Array.ext'
  rw [toList_madeCells_one]
  simp
theorem Row.drop {b off : Nat} (h : Row w (some ⟨b, off, none⟩) l) (n : Nat) : Row w (some ⟨b, off + n, none⟩) (l.drop n) := by
  intro k hk
  rw [List.length_drop] at hk
  obtain ⟨b', off', e, hb, hc⟩ := h (n + k) (by omega)
  cases e
  refine ⟨b, off + n, rfl, hb, ?_⟩
  rw [List.getElem_drop, Nat.add_assoc]
  exact hc
theorem Row.take {al : Option Addr} (h : Row w al l) (n : Nat) : Row w al (l.take n) := by
  intro k hk
  have hk' : k < l.length := by simp at hk; omega
  obtain ⟨b', off', e, hb, hc⟩ := h k hk'
  exact ⟨b', off', e, hb, by rw [List.getElem_take]; exact hc⟩
end

/-- Numbers behind a slice that are none of a graph's. -/
structure Fr (w : World) (B M : Nat) (v : Value) (al : Option Addr) (l : List Int) : Prop where
  row : Row w al l
  far : ∀ b off, al = some ⟨b, off, none⟩ → b < w.heap.size ∧ ¬ Sv B M v b
theorem Fr.take {w : World} {B M : Nat} {v : Value} {al : Option Addr} {l : List Int} (h : Fr w B M v al l) (n : Nat) : Fr w B M v al (l.take n) := ⟨h.row.take n, h.far⟩
theorem Fr.drop {w : World} {B M b off : Nat} {v : Value} {l : List Int} (h : Fr w B M v (some ⟨b, off, none⟩) l) (n : Nat) : Fr w B M v (some ⟨b, off + n, none⟩) (l.drop n) :=
  ⟨h.row.drop n, fun b' off' e => by cases e; exact h.far b off rfl⟩
theorem Fr.addr {w : World} {B M : Nat} {v : Value} {al : Option Addr} {l : List Int} (h : Fr w B M v al l) (hl : 0 < l.length) : ∃ b off, al = some ⟨b, off, none⟩ := by
  obtain ⟨b, off, e, _⟩ := h.row 0 hl
  exact ⟨b, off, e⟩

/-- The graph as it has become. -/
structure St (w W : World) (B M : Nat) (v v' : Value) (g g' : List Gt) (k : Nat) : Prop where
  gr : Gr W B M v' g'
  kp : Kp (Sv B M v) w W
  nv : NewV w v v'
  grow : Grow g g' k
  emp : g = [] → g' = []
section
variable {w W W1 : World} {B M k j q : Nat} {v v' v'' : Value} {g g' g'' : List Gt}
theorem St.refl (h : Gr w B M v g) : St w w B M v v g g 0 := ⟨h, Kp.refl _ _, .inl rfl, Grow.refl h.may _, id⟩
theorem St.trans (h : St w W B M v v' g g' k) (h2 : St W W1 B M v' v'' g' g'' j) : St w W1 B M v v'' g g'' (k + j) :=
  ⟨h2.gr, h.kp.trans h2.kp (sv_new h.nv), h.nv.trans h2.nv h.kp.size, h.grow.trans h2.grow, fun e => h2.emp (h.emp e)⟩
theorem St.below (h : St w W B M v v' g g' k) (hb : Below W.heap.size W W1) : St w W1 B M v v' g g' k :=
  ⟨h.gr.below hb, h.kp.trans (Kp.of_below (S := fun _ => False) hb) (fun _ _ e => e.elim), h.nv, h.grow, h.emp⟩
theorem St.mono (h : St w W B M v v' g g' k) (hk : k ≤ j) : St w W B M v v' g g' j := ⟨h.gr, h.kp, h.nv, h.grow.mono hk, h.emp⟩
theorem St.len (h : St w W B M v v' g g' k) : g'.length ≤ g.length + k := h.grow.len.2
theorem St.fr (h : St w W B M v v' g g' k) {al : Option Addr} {l : List Int} (hr : Fr w B M v al l) : Fr W B M v' al l :=
  ⟨hr.row.kp h.kp (fun b off e => (hr.far b off e).2), fun b off e => ⟨Nat.lt_of_lt_of_le (hr.far b off e).1 h.kp.size, sv_far (hr.far b off e).2 h.nv (hr.far b off e).1⟩⟩
theorem St.far (h : St w W B M v v' g g' k) (hq : q < w.heap.size) (hf : ¬ Sv B M v q) : ¬ Sv B M v' q := sv_far hf h.nv hq
theorem St.set (h : St w W B M v v' g g' k) (hq : w.heap.size ≤ q) (hf : ¬ Sv B M v' q) (i : Nat) (x : Value) : St w (W.setCell ⟨q, i, none⟩ x) B M v v' g g' k :=
  ⟨h.gr.kp (fun b => b = q) ((Kp.refl (fun b => b = q) W).setCell (p := ⟨q, i, none⟩) (fun _ => rfl) x) (fun b hb e => hf (e ▸ hb)), h.kp.setCell (fun hlt => absurd hlt (by show ¬ q < _; omega)) _, h.nv, h.grow, h.emp⟩
/-- A block that the graph has not, known whole, and others turn at no other place. -/
theorem St.turn (h : St w W B M v v' g g' k) (hq : w.heap.size ≤ q) (hf : ¬ Sv B M v' q) (hg : W.grownBy W1 (some q)) : St w W1 B M v v' g g' k :=
  ⟨h.gr.kp (fun b => b = q) ((Kp.refl (fun b => b = q) W).grown hg (fun b _ e => by cases e; rfl)) (fun b hb e => hf (e ▸ hb)), h.kp.grown hg (fun b hlt e => by cases e; omega), h.nv, h.grow, h.emp⟩
end

/-- What an act tells: a literal that means m. -/
def AP (w : World) (B M : Nat) (v : Value) (g : List Gt) (k : Nat) (m : List Bool → Bool) (e : Ending) (w' : World) : Prop :=
  ∃ l v' g', e = .returned (.int .i64 l) ∧ St w w' B M v v' g g' k ∧ Lt g' l m
/-- A word of the call's own. -/
structure WR (w w' : World) (B M : Nat) (v' : Value) (g' : List Gt) (n q : Nat) (l : List Int) (f : List Bool → List Bool) : Prop where
  rw : Rw w' q l
  len : l.length = n
  new : w.heap.size ≤ q
  far : ¬ Sv B M v' q
  wt : Wt g' l f
/-- What an act tells: a word that means f. -/
def WP (w : World) (B M : Nat) (v : Value) (g : List Gt) (n k : Nat) (f : List Bool → List Bool) (e : Ending) (w' : World) : Prop :=
  ∃ q l v' g', e = .returned (.slice (some ⟨q, 0, none⟩) n n) ∧ St w w' B M v v' g g' k ∧ WR w w' B M v' g' n q l f

/-- A word in the making. -/
structure Ml (w W : World) (B M : Nat) (v v' : Value) (g g' : List Gt) (k n q : Nat) (l : List Int) : Prop where
  st : St w W B M v v' g g' k
  rw : Rw W q l
  len : l.length = n
  new : w.heap.size ≤ q
  far : ¬ Sv B M v' q
section
variable {w W W1 : World} {B M k j n q : Nat} {v v' v'' : Value} {g g' g'' : List Gt} {l : List Int}
theorem Ml.start (h : Gr w B M v g) (n : Nat) : Ml w (w.alloc (.cells (madeCells #[.int .i64 0] n) 3)) B M v v g g 0 n w.heap.size (List.replicate n 0) := by
  have hb := below_alloc w (.cells (madeCells #[.int .i64 0] n) 3)
  refine ⟨(St.refl h).below hb, rw_made (heap_alloc_new _ _), by simp, Nat.le_refl _, ?_⟩
  have l1 := h.lt
  rintro (e | e | e)
  · omega
  · omega
  · have := l1.2.2 _ e; omega
theorem Ml.act (h : Ml w W B M v v' g g' k n q l) (s : St W W1 B M v' v'' g' g'' j) : Ml w W1 B M v v'' g g'' (k + j) n q l :=
  ⟨h.st.trans s, h.rw.same (s.kp.block q h.rw.lt h.far), h.len, h.new, s.far h.rw.lt h.far⟩
theorem Ml.below (h : Ml w W B M v v' g g' k n q l) (hb : Below W.heap.size W W1) : Ml w W1 B M v v' g g' k n q l :=
  ⟨h.st.below hb, h.rw.same (hb.block q h.rw.lt), h.len, h.new, h.far⟩
theorem Ml.set (h : Ml w W B M v v' g g' k n q l) (i : Nat) (x : Int) : Ml w (W.setCell ⟨q, i, none⟩ (.int .i64 x)) B M v v' g g' k n q (l.set i x) :=
  ⟨h.st.set h.new h.far i _, h.rw.set i x, by rw [List.length_set]; exact h.len, h.new, h.far⟩
theorem Ml.cell (h : Ml w W B M v v' g g' k n q l) {i : Nat} (hi : i < n) : W.cell? ⟨q, i, none⟩ = some (.int .i64 (l[i]'(by rw [h.len]; exact hi))) := h.rw.cell (by rw [h.len]; exact hi)
theorem Ml.fz (h : Ml w W B M v v' g g' k n q l) (i : Nat) : W.frozen? ⟨q, i, none⟩ = false := h.rw.fz i
theorem Ml.fr (h : Ml w W B M v v' g g' k n q l) : Fr W B M v' (some ⟨q, 0, none⟩) l := ⟨h.rw.row, fun b off e => by cases e; exact ⟨h.rw.lt, h.far⟩⟩
theorem Ml.mono (h : Ml w W B M v v' g g' k n q l) (hk : k ≤ j) : Ml w W B M v v' g g' j n q l := ⟨h.st.mono hk, h.rw, h.len, h.new, h.far⟩
theorem Ml.wp (h : Ml w W B M v v' g g' k n q l) {f : List Bool → List Bool} (hw : Wt g' l f) : WP w B M v g n k f (.returned (.slice (some ⟨q, 0, none⟩) n n)) W :=
  ⟨q, l, v', g', rfl, h.st, h.rw, h.len, h.new, h.far, hw⟩
theorem WR.fr {f : List Bool → List Bool} (h : WR w W B M v' g' n q l f) : Fr W B M v' (some ⟨q, 0, none⟩) l := ⟨h.rw.row, fun b off e => by cases e; exact ⟨h.rw.lt, h.far⟩⟩
theorem WR.ml {f : List Bool → List Bool} (h : WR w W B M v' g' n q l f) (s : St w W B M v v' g g' k) : Ml w W B M v v' g g' k n q l := ⟨s, h.rw, h.len, h.new, h.far⟩
theorem take_set (l : List Int) (i : Nat) (x : Int) (hi : i < l.length) : (l.set i x).take (i + 1) = l.take i ++ [x] := by
  rw [List.take_succ_eq_append_getElem (by simpa using hi), List.take_set_of_le (Nat.le_refl _)]
  simp
theorem take_getD {A : List Bool} {i : Nat} (hi : i < A.length) : A.take (i + 1) = A.take i ++ [A.getD i false] := by
  rw [List.take_succ_eq_append_getElem hi, List.getD_eq_getElem?_getD, List.getElem?_eq_getElem hi]; rfl
end

/-! ### what aig's calls make -/
section
variable {w : World} {B M : Nat} {v : Value} {g : List Gt} {a b c : Int} {X Y Z : List Bool → Bool}
theorem ap_of {R : List Gt × Int} {k : Nat} {m : List Bool → Bool} (hg : Grow g R.1 k) (hm : Lt R.1 R.2 m) (hem : g = [] → R.1 = []) {e : Ending} {w' : World} (h : ActP w B M v R e w') : AP w B M v g k m e w' := by
  obtain ⟨rfl, v', h1, h2, h3⟩ := h
  exact ⟨R.2, v', R.1, rfl, ⟨h1, h2, h3, hg, hem⟩, hm⟩
theorem isB_nil {x : Int} (h : isB [] x = true) : x = 0 ∨ x = 1 := by have := isB_iff.1 h; simp at this; omega
theorem and_emp (ha : isB g a = true) (hb : isB g b = true) (e : g = []) : (andF g a b).1 = [] := by
  subst e
  rcases isB_nil ha with rfl | rfl <;> rcases isB_nil hb with rfl | rfl <;> decide
theorem or_emp (ha : isB g a = true) (hb : isB g b = true) (e : g = []) : (orF g a b).1 = [] := by
  subst e
  rcases isB_nil ha with rfl | rfl <;> rcases isB_nil hb with rfl | rfl <;> decide
theorem xor_emp (ha : isB g a = true) (hb : isB g b = true) (e : g = []) : (xorF g a b).1 = [] := by
  subst e
  rcases isB_nil ha with rfl | rfl <;> rcases isB_nil hb with rfl | rfl <;> decide
/-- A literal of a graph without nodes is a constant. -/
theorem lt_nil {x : Int} {X : List Bool → Bool} (h : Lt [] x X) (ins : List Bool) : x = if X ins then 1 else 0 := by
  have h2 := h.2 ins
  rcases isB_nil h.1 with rfl | rfl
  · rw [val_zero] at h2; rw [← h2]; rfl
  · rw [val_one] at h2; rw [← h2]; rfl
theorem andM (hA : Gr w B M v g) (hl : g.length ≤ 999990) (ha : Lt g a X) (hb : Lt g b Y) :
    Calls Try.prog 61 #[.pointer (some ⟨B, 0, none⟩), .int .i64 a, .int .i64 b] w (AP w B M v g 1 (fun ins => X ins && Y ins)) := by
  refine (and_any w B M v g a b hA (by omega)).mono fun e w' h => ?_
  have q := and_grow hA.may a b
  exact ap_of q.1 ⟨q.2.1 ha.1 hb.1, fun ins => by rw [and_mean hA.may ha.1 hb.1, ha.2, hb.2]⟩ (and_emp ha.1 hb.1) h
theorem orM (hA : Gr w B M v g) (hl : g.length ≤ 999990) (ha : Lt g a X) (hb : Lt g b Y) :
    Calls Try.prog 59 #[.pointer (some ⟨B, 0, none⟩), .int .i64 a, .int .i64 b] w (AP w B M v g 1 (fun ins => X ins || Y ins)) := by
  refine (or_any w B M v g a b hA (by omega) (ha.i64 hA.le).1 (hb.i64 hA.le).1).mono fun e w' h => ?_
  have q := or_grow hA.may a b
  exact ap_of q.1 ⟨q.2.1 ha.1 hb.1, fun ins => by rw [or_mean hA.may ha.1 hb.1, ha.2, hb.2]⟩ (or_emp ha.1 hb.1) h
theorem xorM (hA : Gr w B M v g) (hl : g.length ≤ 999990) (ha : Lt g a X) (hb : Lt g b Y) :
    Calls Try.prog 55 #[.pointer (some ⟨B, 0, none⟩), .int .i64 a, .int .i64 b] w (AP w B M v g 3 (fun ins => X ins != Y ins)) := by
  refine (xor_any w B M v g a b hA (by omega) (ha.i64 hA.le).1 (hb.i64 hA.le).1).mono fun e w' h => ?_
  have q := xor_grow hA.may a b
  exact ap_of q.1 ⟨q.2 ha.1 hb.1, fun ins => by rw [xor_mean hA.may ha.1 hb.1, ha.2, hb.2]⟩ (xor_emp ha.1 hb.1) h
end
end Go.Proofs.Ytbilhiklfficoaa
