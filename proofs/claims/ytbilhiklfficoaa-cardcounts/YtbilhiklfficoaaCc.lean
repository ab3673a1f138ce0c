/- A column of bits and what is carried, in the midst of a sum. -/
import Derived.Test.YtbilhiklfficoaaCb
set_option linter.unusedVariables false
set_option linter.unusedSimpArgs false
namespace Go.Proofs.Ytbilhiklfficoaa
open Go.RowKit Go.Maps

theorem wp_append_rx {w : World} {o : Oper} {a : Act} {K : Act → World → Prop} {Q : Exit → Act → World → Prop} (s x : Operand)
    (ho : o.op = .call { callee := .builtin .append, args := #[s, x], argTypes := #[24, 24] })
    {v : Value} {zs : List Int} (hs : a.eval s = v) (h : RX w v zs) (ad : Addr) (n : Int) (hx : a.eval x = .slice (some ad) 1 1) (hc : w.cell? ad = some (.int .i64 n)) (hl : zs.length ≤ 4000000000)
    (hK : ∀ a' cap' w', RX w' (.slice a' (zs.length + 1) cap') (zs ++ [n]) → w.grownBy w' (blkX v) → (∀ b, blkX (.slice a' (zs.length + 1) cap') = some b → blkX v = some b ∨ b = w.heap.size) → K (a.put o.dst (.slice a' (zs.length + 1) cap')) w') : o.wp Try.prog a w K Q := by
  obtain ⟨a', cap', w', hr, h2, h3, h4⟩ := run_append_rx h o.type ad n hc hl
  unfold Oper.wp execOp
  simp only [ho, resolve, invoke, builtin, Sem.run_bind, Sem.run_pure, Result.andThen_ok, List.map_toArray, List.map_cons, List.map_nil, hs, hx, hr]
  exact hK a' cap' w' h2 h3 h4
theorem wpList_append_rx {w : World} {ops : Array Oper} {rest : List Oper} {o : Oper} {a : Act} {Q : Exit → Act → World → Prop} (hgd : o.guard = none) (s x : Operand)
    (ho : o.op = .call { callee := .builtin .append, args := #[s, x], argTypes := #[24, 24] })
    {v : Value} {zs : List Int} (hs : a.eval s = v) (h : RX w v zs) (ad : Addr) (n : Int) (hx : a.eval x = .slice (some ad) 1 1) (hc : w.cell? ad = some (.int .i64 n)) (hl : zs.length ≤ 4000000000)
    (hK : ∀ a' cap' w', RX w' (.slice a' (zs.length + 1) cap') (zs ++ [n]) → w.grownBy w' (blkX v) → (∀ b, blkX (.slice a' (zs.length + 1) cap') = some b → blkX v = some b ∨ b = w.heap.size) → wpList Try.prog ops Q rest (a.put o.dst (.slice a' (zs.length + 1) cap')) w') : wpList Try.prog ops Q (o :: rest) a w :=
  wpList_plain hgd fun _ hK' => wp_append_rx s x ho hs h ad n hx hc hl fun a' cap' w' h2 h3 h4 => hK' _ _ (hK a' cap' w' h2 h3 h4)

theorem rx_nil (w : World) (a : Option Addr) : RX w (.slice a 0 0) [] := .inl ⟨rfl, a, rfl⟩
theorem RX.below {w w' : World} {v : Value} {zs : List Int} (h : RX w v zs) (hb : Below w.heap.size w w') : RX w' v zs := h.same fun b e => hb.block b (h.lt e)
/-- What stands in such a row. -/
theorem RX.row {w : World} {al : Option Addr} {n c : Nat} {zs : List Int} (h : RX w (.slice al n c) zs) : Row w al zs ∧ n = zs.length := by
  rcases h with ⟨rfl, a, e⟩ | ⟨b, off, cap, cs, e, h1, h2, h3, h4, h5⟩
  · cases e; exact ⟨fun k hk => by simp at hk, rfl⟩
  · cases e
    exact ⟨fun k hk => ⟨b, off, rfl, lt_of_block h3, cell_of_block h3 (h5 k hk)⟩, rfl⟩
/-- The row behind its first three numbers. -/
theorem RX.tail3 {w : World} {x y z : Int} {r : List Int} {b off cap : Nat} (h : RX w (.slice (some ⟨b, off, none⟩) (r.length + 3) cap) (x :: y :: z :: r)) :
    w.cell? ⟨b, off, none⟩ = some (.int .i64 x) ∧ w.cell? ⟨b, off + 1, none⟩ = some (.int .i64 y) ∧ w.cell? ⟨b, off + 2, none⟩ = some (.int .i64 z) ∧ r.length + 3 ≤ cap ∧ cap ≤ maxLen ∧ b < w.heap.size ∧ (cap = 3 → RX w (.slice (some ⟨b, off, none⟩) 0 0) r) ∧ (cap ≠ 3 → RX w (.slice (some ⟨b, off + 3, none⟩) r.length (cap - 3)) r) ∧ blkX (.slice (some ⟨b, off, none⟩) (r.length + 3) cap) = some b := by
  rcases h with ⟨h, _⟩ | ⟨b', off', cap', cs, e, h1, h2, h3, h4, h5⟩
  · simp at h
  · simp at e
    obtain ⟨⟨rfl, rfl⟩, rfl⟩ := e
    have h1' : r.length + 3 ≤ cap' + 1 := by simpa using h1
    refine ⟨cell_of_block h3 (h5 0 (by simp)), cell_of_block h3 (h5 1 (by simp)), cell_of_block h3 (h5 2 (by simp)), h1', h2, lt_of_block h3, fun h0 => ?_, fun h0 => ?_, rfl⟩
    · obtain rfl : r = [] := List.eq_nil_of_length_eq_zero (by omega)
      exact rx_nil _ _
    · refine .inr ⟨b, off + 3, cap' + 1 - 3 - 1, cs, by rw [show cap' + 1 - 3 = cap' + 1 - 3 - 1 + 1 by omega]; rfl, by omega, by omega, h3, by omega, fun i hi => ?_⟩
      have := h5 (i + 3) (by simpa using hi)
      rw [show off + 3 + i = off + (i + 3) by omega]
      simpa using this

/-- In the midst of a sum: a graph, a column of bits, what is carried. -/
structure Tl (w W : World) (B M : Nat) (v v' : Value) (g g' : List Gt) (k : Nat) (cv0 cv : Value) (col : List Int) (rv : Value) (car : List Int) : Prop where
  gr : Gr W B M v' g'
  kp : Kp (fun b => Sv B M v b ∨ blkX cv0 = some b) w W
  nv : NewV w v v'
  grow : Grow g g' k
  emp : g = [] → g' = []
  c : RX W cv col
  r : RX W rv car
  cw : ∀ b, blkX cv = some b → blkX cv0 = some b ∨ w.heap.size ≤ b
  rw : ∀ b, blkX rv = some b → w.heap.size ≤ b
  cf : ∀ b, blkX cv = some b → ¬ Sv B M v' b
  rf : ∀ b, blkX rv = some b → ¬ Sv B M v' b
  ne : ∀ b, blkX cv = some b → blkX rv ≠ some b
section
variable {w W W1 : World} {B M k j : Nat} {v v' v'' : Value} {g g' g'' : List Gt} {cv0 cv cv' rv rv' : Value} {col col' car car' : List Int}
theorem Tl.start (hA : Gr w B M v g) (hc : RX w cv col) (hf : ∀ b, blkX cv = some b → ¬ Sv B M v b) : Tl w w B M v v g g 0 cv cv col (.slice none 0 0) [] :=
  ⟨hA, Kp.refl _ _, .inl rfl, Grow.refl hA.may _, id, hc, rx_nil _ _, fun b h => .inl h, fun b h => (by cases h), hf, fun b h => (by cases h), fun b h e => (by cases e)⟩
theorem Tl.act (h : Tl w W B M v v' g g' k cv0 cv col rv car) (s : St W W1 B M v' v'' g' g'' j) : Tl w W1 B M v v'' g g'' (k + j) cv0 cv col rv car :=
  ⟨s.gr, h.kp.trans s.kp (fun x hx hs => .inl (sv_new h.nv x hx hs)), h.nv.trans s.nv h.kp.size, h.grow.trans s.grow, fun e => s.emp (h.emp e),
    h.c.same fun b e => s.kp.block b (h.c.lt e) (h.cf b e), h.r.same fun b e => s.kp.block b (h.r.lt e) (h.rf b e), h.cw, h.rw,
    fun b e => s.far (h.c.lt e) (h.cf b e), fun b e => s.far (h.r.lt e) (h.rf b e), h.ne⟩
theorem Tl.below (h : Tl w W B M v v' g g' k cv0 cv col rv car) (hb : Below W.heap.size W W1) : Tl w W1 B M v v' g g' k cv0 cv col rv car :=
  ⟨h.gr.below hb, h.kp.trans (Kp.of_below (S := fun _ => False) hb) (fun _ _ e => e.elim), h.nv, h.grow, h.emp, h.c.below hb, h.r.below hb, h.cw, h.rw, h.cf, h.rf, h.ne⟩
theorem Tl.mono (h : Tl w W B M v v' g g' k cv0 cv col rv car) (hk : k ≤ j) : Tl w W B M v v' g g' j cv0 cv col rv car :=
  ⟨h.gr, h.kp, h.nv, h.grow.mono hk, h.emp, h.c, h.r, h.cw, h.rw, h.cf, h.rf, h.ne⟩
theorem Gr.new_far {w : World} (h : Gr w B M v g) {b : Nat} (hb : w.heap.size ≤ b) : ¬ Sv B M v b := by
  have l1 := h.lt
  rintro (e | e | e)
  · omega
  · omega
  · have := l1.2.2 _ e; omega
/-- The column is another row, of the same block or of a new one. -/
theorem Tl.colT (h : Tl w W B M v v' g g' k cv0 cv col rv car) (hr : RX W1 cv' col') (hg : W.grownBy W1 (blkX cv)) (hn : ∀ b, blkX cv' = some b → blkX cv = some b ∨ b = W.heap.size) : Tl w W1 B M v v' g g' k cv0 cv' col' rv car := by
  refine ⟨h.gr.kp (fun b => blkX cv = some b) ((Kp.refl _ W).grown hg (fun b _ e => e)) (fun b hb e => h.cf b e hb), h.kp.grown hg (fun b hb e => ?_), h.nv, h.grow, h.emp, hr, h.r.same fun b e => hg.block b (h.r.lt e) (fun e' => h.ne b e'.symm e), fun b e => ?_, h.rw, fun b e => ?_, h.rf, fun b e e' => ?_⟩
  · rcases h.cw b e with e | e
    · exact .inr e
    · omega
  · rcases hn b e with e | e
    · exact h.cw b e
    · have := h.kp.size; exact .inr (by omega)
  · rcases hn b e with e | e
    · exact h.cf b e
    · exact h.gr.new_far (by omega)
  · rcases hn b e with e | e
    · exact h.ne b e e'
    · have := h.r.lt e'; omega
theorem Tl.carT (h : Tl w W B M v v' g g' k cv0 cv col rv car) (hr : RX W1 rv' car') (hg : W.grownBy W1 (blkX rv)) (hn : ∀ b, blkX rv' = some b → blkX rv = some b ∨ b = W.heap.size) : Tl w W1 B M v v' g g' k cv0 cv col rv' car' := by
  refine ⟨h.gr.kp (fun b => blkX rv = some b) ((Kp.refl _ W).grown hg (fun b _ e => e)) (fun b hb e => h.rf b e hb), h.kp.grown hg (fun b hb e => ?_), h.nv, h.grow, h.emp, h.c.same fun b e => hg.block b (h.c.lt e) (fun e' => h.ne b e e'.symm), hr, h.cw, fun b e => ?_, h.cf, fun b e => ?_, fun b e e' => ?_⟩
  · have := h.rw b e; omega
  · rcases hn b e with e | e
    · exact h.rw b e
    · have := h.kp.size; omega
  · rcases hn b e with e | e
    · exact h.rf b e
    · exact h.gr.new_far (by omega)
  · rcases hn b e' with e' | e'
    · exact h.ne b e e'
    · have := h.c.lt e; omega
end

theorem cnt3 : ∀ a : List Bool, 3 ≤ a.length → cntT a = b2n (a.getD 0 false) + b2n (a.getD 1 false) + b2n (a.getD 2 false) + cntT (a.drop 3)
  | [], h => by simp at h
  | [_], h => by simp at h
  | [_, _], h => by simp at h
  | x :: y :: z :: r, _ => by show b2n x + (b2n y + (b2n z + cntT r)) = b2n x + b2n y + b2n z + cntT r; omega
theorem round3 {C R : List Bool} {n : Nat} (h3 : 3 ≤ C.length) (h : cntT C + 2 * cntT R = n) :
    cntT (C.drop 3 ++ [threeS (C.getD 0 false) (C.getD 1 false) (C.getD 2 false)]) + 2 * cntT (R ++ [threeC (C.getD 0 false) (C.getD 1 false) (C.getD 2 false)]) = n := by
  rw [cntT_snoc, cntT_snoc]
  have e1 := cnt3 C h3
  have e2 := three_num (C.getD 0 false) (C.getD 1 false) (C.getD 2 false)
  omega
end Go.Proofs.Ytbilhiklfficoaa
