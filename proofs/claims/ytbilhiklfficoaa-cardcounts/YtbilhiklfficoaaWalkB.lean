/- A graph in memory; contracts: given, literal, place, isNegation, not, input, isInput, Is, Len. -/
import Derived.Test.YtbilhiklfficoaaWalkA
set_option linter.unusedVariables false
set_option linter.unusedSimpArgs false
namespace Go.Proofs.Ytbilhiklfficoaa
open Go.RowKit Go.Maps

/-- All blocks but those named stayed. -/
structure Kp (S : Nat → Prop) (w w' : World) : Prop where
  os : w'.os = w.os
  tape : w'.tape = w.tape
  output : w'.output = w.output
  size : w.heap.size ≤ w'.heap.size
  block : ∀ k, k < w.heap.size → ¬ S k → w'.heap[k]? = w.heap[k]?

theorem Kp.refl (S : Nat → Prop) (w : World) : Kp S w w := ⟨rfl, rfl, rfl, Nat.le_refl _, fun _ _ _ => rfl⟩
theorem Kp.of_below {S : Nat → Prop} {w w' : World} (h : Below w.heap.size w w') : Kp S w w' := ⟨h.os, h.tape, h.output, h.size, fun k hk _ => h.block k hk⟩
theorem Kp.trans {S T : Nat → Prop} {a b c : World} (h : Kp S a b) (k : Kp T b c) (hT : ∀ x, x < a.heap.size → T x → S x) : Kp S a c :=
  ⟨k.os.trans h.os, k.tape.trans h.tape, k.output.trans h.output, Nat.le_trans h.size k.size, fun i hi hs => (k.block i (Nat.lt_of_lt_of_le hi h.size) (fun e => hs (hT i hi e))).trans (h.block i hi hs)⟩
theorem Kp.grown {S : Nat → Prop} {a w w' : World} {row : Option Nat} (h : Kp S a w) (hg : w.grownBy w' row) (hr : ∀ k, k < a.heap.size → row = some k → S k) : Kp S a w' :=
  ⟨hg.os.trans h.os, hg.tape.trans h.tape, hg.output.trans h.output, Nat.le_trans h.size hg.size, fun i hi hs => (hg.block i (Nat.lt_of_lt_of_le hi h.size) (fun e => hs (hr i hi e.symm))).trans (h.block i hi hs)⟩
theorem Kp.alloc {S : Nat → Prop} {a w : World} (h : Kp S a w) (o : Obj) : Kp S a (w.alloc o) := h.grown (World.grownBy_alloc w o none) (fun k _ e => by cases e)
theorem Kp.setCell {S : Nat → Prop} {a w : World} (h : Kp S a w) {p : Addr} (hp : p.block < a.heap.size → S p.block) (u : Value) : Kp S a (w.setCell p u) :=
  ⟨h.os, h.tape, h.output, by simpa [World.setCell] using h.size, fun i hi hs => (Below.heap_setCell _ _ _ _ (fun e => hs (by rw [e]; exact hp (by rw [← e]; exact hi)))).trans (h.block i hi hs)⟩
theorem Kp.drewN {S : Nat → Prop} {a w : World} (h : Kp S a w) (n : Nat) : Kp S a (w.drewN n) := ⟨h.os, h.tape, h.output, h.size, h.block⟩

theorem lt_of_block {w : World} {B : Nat} {o : Obj} (h : w.heap[B]? = some o) : B < w.heap.size := (Array.getElem?_eq_some_iff.1 h).1
theorem hd_set {w : World} {B i : Nat} {cs : Array Value} {v : Value} {t : TypeId} (h : w.heap[B]? = some (.cells cs t (0, 0))) : (w.setCell ⟨B, i, none⟩ v).heap[B]? = some (.cells (cs.setIfInBounds i v) t (0, 0)) := by
  have hlt := lt_of_block h
  have h' : w.heap[B] = .cells cs t (0, 0) := by simpa [Array.getElem?_eq_getElem hlt] using h
  show (w.heap.modify B _)[B]? = _
  rw [Array.getElem?_eq_getElem (by simpa using hlt), Array.getElem_modify_self, h']
  rfl
theorem hd_far {w : World} {B B' i : Nat} {v : Value} (h : B' ≠ B) : (w.setCell ⟨B, i, none⟩ v).heap[B']? = w.heap[B']? := Below.heap_setCell _ _ _ _ h

/-- A node's value. -/
def gv (t : Gt) : Value := .agg #[.int .i64 t.1, .int .i64 t.2]
/-- Nodes as cells. -/
def gcl (g : List Gt) : List Value := g.flatMap fun t => [.int .i64 t.1, .int .i64 t.2]
theorem gcl_len (g : List Gt) : (gcl g).length = g.length * 2 := by
  induction g with
  | nil => rfl
  | cons t g ih => simp only [gcl, List.flatMap_cons, List.length_append, List.length_cons, List.length_nil] at *; omega
theorem gcl_at : ∀ (g : List Gt) (i : Nat) (h : i < g.length), (gcl g)[i * 2]? = some (.int .i64 g[i].1) ∧ (gcl g)[i * 2 + 1]? = some (.int .i64 g[i].2)
  | t :: g, 0, _ => ⟨rfl, rfl⟩
  | t :: g, i + 1, h => by
    have := gcl_at g i (by simpa using h)
    have e1 : (gcl (t :: g))[(i + 1) * 2]? = (gcl g)[i * 2]? := by
      rw [show (i + 1) * 2 = i * 2 + 2 by omega]; rfl
    have e2 : (gcl (t :: g))[(i + 1) * 2 + 1]? = (gcl g)[i * 2 + 1]? := by
      rw [show (i + 1) * 2 + 1 = i * 2 + 1 + 2 by omega]; rfl
    rw [e1, e2]
    exact this
theorem gcl_snoc (g : List Gt) (t : Gt) : gcl (g ++ [t]) = gcl g ++ [.int .i64 t.1, .int .i64 t.2] := by simp [gcl]
theorem gcl_append (g h : List Gt) : gcl (g ++ h) = gcl g ++ gcl h := by simp [gcl]

/-- What the map tells. -/
def MapOk (D : DataW Unit) (g : List Gt) : Prop :=
  ∀ a b : Int, 0 ≤ a → a ≤ b → b ≤ 9223372036854775807 →
    match findF g (a, b) with
    | some i => Maps.has D (kl a b) = true ∧ D.atKey (kl a b) (.lit (.int .i64 0)) = .lit (.int .i64 (2 * ((i : Int) + 1)))
    | none => Maps.has D (kl a b) = false

/-- A graph of New's or Load's as it lies in memory. -/
structure Gr (w : World) (B M : Nat) (v : Value) (g : List Gt) : Prop where
  head : w.heap[B]? = some (.cells #[.pointer (some ⟨B, 0, none⟩), v, .map (some M)] 65 (0, 0))
  row : w.ownsRow 0 60 2 v g.length (gcl g)
  map : ∃ D : DataW Unit, w.ownsMap Try.prog 60 (plainElem Try.prog 3) M g.length D ∧ MapOk D g
  may : May g
  le : g.length ≤ 1000000

/-- The blocks of a graph. -/
def Sv (B M : Nat) (v : Value) (b : Nat) : Prop := b = B ∨ b = M ∨ v.ownBlock = some b

section
variable {w w' : World} {B M : Nat} {v : Value} {g : List Gt}
theorem Gr.c0 (h : Gr w B M v g) : w.cell? ⟨B, 0, none⟩ = some (.pointer (some ⟨B, 0, none⟩)) := by simp [World.cell?, h.head]
theorem Gr.c1 (h : Gr w B M v g) : w.cell? ⟨B, 1, none⟩ = some v := by simp [World.cell?, h.head]
theorem Gr.c2 (h : Gr w B M v g) : w.cell? ⟨B, 2, none⟩ = some (.map (some M)) := by simp [World.cell?, h.head]
theorem Gr.fz (h : Gr w B M v g) (i : Nat) : w.frozen? ⟨B, i, none⟩ = false := by simp [World.frozen?, h.head]
theorem Gr.form (h : Gr w B M v g) : (v = .slice none 0 0 ∧ g = []) ∨ ∃ N c, v = .slice (some ⟨N, 0, none⟩) g.length c ∧ N < w.heap.size := by
  rcases h.row.2 with ⟨e, hz⟩ | ⟨N, c, cur, e, _, hN, _⟩
  · exact .inl ⟨e, List.length_eq_zero_iff.1 hz⟩
  · exact .inr ⟨N, c, e, lt_of_block hN⟩
theorem Gr.len_le (h : Gr w B M v g) : g.length ≤ 1000000 := h.le
theorem Gr.kp (h : Gr w B M v g) (S : Nat → Prop) (hk : Kp S w w') (hS : ∀ b, Sv B M v b → ¬ S b) : Gr w' B M v g := by
  refine ⟨(hk.block B (lt_of_block h.head) (hS B (.inl rfl))).trans h.head, ?_, ?_, h.may, h.le⟩
  · have hrow := h.row
    refine ⟨hrow.1, ?_⟩
    rcases hrow.2 with hn | ⟨N, c, cur, e, hb, hN, r⟩
    · exact .inl hn
    · refine .inr ⟨N, c, cur, e, hb, (hk.block N (lt_of_block hN) (hS N (.inr (.inr (by rw [e]; rfl))))).trans hN, r⟩
  · obtain ⟨D, ⟨es, clock, hb, r⟩, hD⟩ := h.map
    exact ⟨D, ⟨es, clock, (hk.block M (lt_of_block hb) (hS M (.inr (.inl rfl)))).trans hb, r⟩, hD⟩
theorem Gr.below (h : Gr w B M v g) (hb : Below w.heap.size w w') : Gr w' B M v g := h.kp (fun _ => False) (Kp.of_below hb) (fun _ _ e => e)
theorem Gr.drewN (h : Gr w B M v g) (n : Nat) : Gr (w.drewN n) B M v g := h.below ⟨rfl, rfl, rfl, Nat.le_refl _, fun _ _ => rfl⟩
theorem Gr.lt (h : Gr w B M v g) : B < w.heap.size ∧ M < w.heap.size ∧ (∀ b, v.ownBlock = some b → b < w.heap.size) := by
  obtain ⟨D, ⟨es, clock, hb, r⟩, hD⟩ := h.map
  refine ⟨lt_of_block h.head, lt_of_block hb, fun b e => ?_⟩
  rcases h.form with ⟨rfl, _⟩ | ⟨N, c, rfl, hN⟩
  · cases e
  · cases e; exact hN
theorem Gr.cell (h : Gr w B M v g) {N c : Nat} (hv : v = .slice (some ⟨N, 0, none⟩) g.length c) {i : Nat} (hi : i < g.length) : w.cell? ⟨N, i * 2, none⟩ = some (.int .i64 g[i].1) ∧ w.cell? ⟨N, i * 2 + 1, none⟩ = some (.int .i64 g[i].2) := by
  have h2 := gcl_at g i hi
  have hc := h.row
  rw [hv] at hc
  have a1 := hc.cells (g := N) rfl (i * 2) _ h2.1
  have a2 := hc.cells (g := N) rfl (i * 2 + 1) _ h2.2
  rw [Addr.add_lit, Nat.zero_add] at a1 a2
  exact ⟨a1, a2⟩
end

set_option maxHeartbeats 400000 in
theorem given_any (w : World) (B M : Nat) (v : Value) (g : List Gt) (hA : Gr w B M v g) :
    Calls Try.prog 34 #[.pointer (some ⟨B, 0, none⟩)] w fun e w' => e = .returned (.bool true) ∧ w' = w := by
  have c0 := hA.c0
  clear hA
  obtain ⟨j, hj, _⟩ := Option.map_eq_some_iff.1 Try.info65
  have heq := run_eql_ptr_same (P := Try.prog) w ⟨B, 0, none⟩ Try.underlying25 hj
  go_enter Try.func34, Try.ntmps34
  go_wp2
  all_goals
    go_ret
    exact ⟨ret_bool (by simp), rfl⟩

set_option maxHeartbeats 400000 in
theorem literal_any (w : World) (i : Int) (h0 : 0 ≤ i) (h1 : i ≤ 2000000) :
    Calls Try.prog 41 #[.int .i64 i] w fun e w' => e = .returned (.int .i64 (2 * (i + 1))) ∧ w' = w := by
  go_enter Try.func41, Try.ntmps41
  go_wp2
  all_goals
    go_ret
    exact ⟨ret_int (by omega), rfl⟩

set_option maxHeartbeats 400000 in
theorem place_any (w : World) (l : Int) (h0 : 2 ≤ l) (h1 : l ≤ 5000000) :
    Calls Try.prog 42 #[.int .i64 l] w fun e w' => e = .returned (.int .i64 (l / 2 - 1)) ∧ w' = w := by
  go_enter Try.func42, Try.ntmps42
  go_wp2
  all_goals
    go_ret
    exact ⟨ret_int (by omega), rfl⟩

/-- Is a literal negated? -/
def oddB (l : Int) : Bool := decide (l % 2 = 1)
set_option maxHeartbeats 400000 in
theorem isNegation_any (w : World) (l : Int) (h0 : 0 ≤ l) (h1 : l ≤ 5000000) :
    Calls Try.prog 43 #[.int .i64 l] w fun e w' => e = .returned (.bool (oddB l)) ∧ w' = w := by
  have hb := and_one (a := l) (by unfold inI64; omega)
  have hr : oddB l = !(decide (l % 2 = 0)) := by unfold oddB; rw [Bool.eq_iff_iff]; simp; omega
  rw [hr]
  go_enter Try.func43, Try.ntmps43
  go_wp2
  all_goals
    go_ret
    exact ⟨ret_bool (by first | rfl | simp), rfl⟩

set_option maxHeartbeats 400000 in
theorem not_any (w : World) (l : Int) (h : inI64 l) :
    Calls Try.prog 62 #[.int .i64 l] w fun e w' => e = .returned (.int .i64 (notI l)) ∧ w' = w := by
  have hb := xor_one h
  obtain ⟨h1, h2⟩ := h
  generalize notI l = r at *
  go_enter Try.func62, Try.ntmps62
  go_wp2
  all_goals
    go_ret
    exact ⟨ret_int (by omega), rfl⟩

set_option maxHeartbeats 400000 in
theorem input_any (w : World) :
    Calls Try.prog 49 #[] w fun e w' => e = .returned (.agg #[.int .i64 (-1), .int .i64 (-1)]) ∧ Below w.heap.size w w' := by
  go_enter Try.func49, Try.ntmps49
  go_wp2
  exact bodyPost_ret (v := .agg #[.int .i64 (-1), .int .i64 (-1)]) (by simp [results, Try.results49, go_sem]) rfl ⟨rfl, by first | exact below_alloc w _ | exact (((Below.refl _ _).alloc (Nat.le_refl _) _).setCell (by simp) _).setCell (by simp) _⟩

set_option maxHeartbeats 400000 in
theorem isLit_any (w : World) (B M : Nat) (v : Value) (g : List Gt) (l : Int) (hA : Gr w B M v g) :
    Calls Try.prog 46 #[.pointer (some ⟨B, 0, none⟩), .int .i64 l] w fun e w' => e = .returned (.bool (isB g l)) ∧ w' = w := by
  have G := hide (given_any w B M v g hA)
  have c1 := hA.c1
  have hn := hA.le
  have L := hide (literal_any w (g.length : Int) (by omega) (by omega))
  have hform := hA.form
  clear hA
  have hisB : isB g l = (decide (0 ≤ l) && decide (l < 2 * ((g.length : Int) + 1))) := rfl
  rw [hisB]
  clear hisB
  rcases hform with ⟨rfl, rfl⟩ | ⟨N, c, rfl, _⟩
  · by_cases h0 : 0 ≤ l
    · go_enter Try.func46, Try.ntmps46
      go_wp2_with (first | (go_at_call 34; refine (unhide G).mono ?_; rintro e w0 ⟨rfl, hw0⟩; subst w0) | (go_at_call 41; refine (unhide L).mono ?_; rintro e w0 ⟨rfl, hw0⟩; subst w0))
      all_goals
        go_ret
        exact ⟨ret_bool (by simp [h0]; try omega), rfl⟩
    · have h0' : decide (0 ≤ l) = false := by simpa using h0
      go_enter Try.func46, Try.ntmps46
      go_wp2_with (first | (go_at_call 34; refine (unhide G).mono ?_; rintro e w0 ⟨rfl, hw0⟩; subst w0) | (go_at_call 41; refine (unhide L).mono ?_; rintro e w0 ⟨rfl, hw0⟩; subst w0))
      all_goals
        go_ret
        exact ⟨ret_bool (by simp [h0]; try omega), rfl⟩
  · by_cases h0 : 0 ≤ l
    · go_enter Try.func46, Try.ntmps46
      go_wp2_with (first | (go_at_call 34; refine (unhide G).mono ?_; rintro e w0 ⟨rfl, hw0⟩; subst w0) | (go_at_call 41; refine (unhide L).mono ?_; rintro e w0 ⟨rfl, hw0⟩; subst w0))
      all_goals
        go_ret
        exact ⟨ret_bool (by simp [h0]; try omega), rfl⟩
    · have h0' : decide (0 ≤ l) = false := by simpa using h0
      go_enter Try.func46, Try.ntmps46
      go_wp2_with (first | (go_at_call 34; refine (unhide G).mono ?_; rintro e w0 ⟨rfl, hw0⟩; subst w0) | (go_at_call 41; refine (unhide L).mono ?_; rintro e w0 ⟨rfl, hw0⟩; subst w0))
      all_goals
        go_ret
        exact ⟨ret_bool (by simp [h0]; try omega), rfl⟩

set_option maxHeartbeats 400000 in
theorem len_any (w : World) (B M : Nat) (v : Value) (g : List Gt) (hA : Gr w B M v g) :
    Calls Try.prog 21 #[.pointer (some ⟨B, 0, none⟩)] w fun e w' => e = .returned (.int .i64 (g.length : Int)) ∧ w' = w := by
  have G := hide (given_any w B M v g hA)
  have c1 := hA.c1
  have hn := hA.le
  have hform := hA.form
  clear hA
  rcases hform with ⟨rfl, rfl⟩ | ⟨N, c, rfl, _⟩
  all_goals
    go_enter Try.func21, Try.ntmps21
    go_wp2_with (first | (go_at_call 34; refine (unhide G).mono ?_; rintro e w0 ⟨rfl, hw0⟩; subst w0))
    all_goals
      go_ret
      exact ⟨ret_int (by simp), rfl⟩
end Go.Proofs.Ytbilhiklfficoaa
