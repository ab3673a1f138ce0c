/- A heap as it lies in memory, and the contracts of the small functions. -/
import Derived.Test.YtidhnmooloedmaaRows
import Derived.Test.YtidhnmooloedmaaPlainB
import Derived.WalkKit
import Derived.WalkSpells
import Derived.BigQuiet
import Derived.OneCell
import Derived.LaidEqlPtr
import Derived.Laws.AppendOwnNone
import Derived.Maps.AppendAt
import Derived.Deep.AppendLies
set_option linter.unusedVariables false
set_option linter.unusedSimpArgs false
namespace Go.Proofs.Ytidhnmooloedmaa
open Go.RowKit

theorem hide {p : Prop} (h : p) : Hid p := h
theorem unhide {p : Prop} (h : Hid p) : p := h
theorem ret_bool {a b : Bool} (h : a = b) : Ending.returned (.bool a) = .returned (.bool b) := by rw [h]
theorem ret_int {k : IntKind} {a b : Int} (h : a = b) : Ending.returned (.int k a) = .returned (.int k b) := by rw [h]
/-- A world is forgotten but for what is known of it. -/
theorem forget {P : World → Prop} {w : World} (I : World → Prop) (h : I w) (k : ∀ w', I w' → P w') : P w := k w h

theorem Try.info3 : (Try.prog.info? 3).map (fun i => (i.zero, i.size, i.bytes)) = some (some (.int .i64 0), 1, 8) := by kernel_rfl
theorem Try.info46 : (Try.prog.info? 46).map (·.size) = some 5 := by kernel_rfl

/-- All blocks but those named stayed. -/
structure Kp (S : Nat → Prop) (w w' : World) : Prop where
  os : w'.os = w.os
  tape : w'.tape = w.tape
  output : w'.output = w.output
  size : w.heap.size ≤ w'.heap.size
  block : ∀ k, k < w.heap.size → ¬ S k → w'.heap[k]? = w.heap[k]?

theorem Kp.refl (S : Nat → Prop) (w : World) : Kp S w w := ⟨rfl, rfl, rfl, Nat.le_refl _, fun _ _ _ => rfl⟩
theorem Kp.of_below {S : Nat → Prop} {w w' : World} (h : Below w.heap.size w w') : Kp S w w' := ⟨h.os, h.tape, h.output, h.size, fun k hk _ => h.block k hk⟩
theorem Kp.trans {S : Nat → Prop} {a b c : World} (h : Kp S a b) (k : Kp S b c) : Kp S a c :=
  ⟨k.os.trans h.os, k.tape.trans h.tape, k.output.trans h.output, Nat.le_trans h.size k.size, fun i hi hs => (k.block i (Nat.lt_of_lt_of_le hi h.size) hs).trans (h.block i hi hs)⟩
theorem Kp.grown {S : Nat → Prop} {a w w' : World} {row : Option Nat} (h : Kp S a w) (hg : w.grownBy w' row) (hr : ∀ k, k < a.heap.size → row = some k → S k) : Kp S a w' :=
  ⟨hg.os.trans h.os, hg.tape.trans h.tape, hg.output.trans h.output, Nat.le_trans h.size hg.size, fun i hi hs => (hg.block i (Nat.lt_of_lt_of_le hi h.size) (fun e => hs (hr i hi e.symm))).trans (h.block i hi hs)⟩
theorem Kp.alloc {S : Nat → Prop} {a w : World} (h : Kp S a w) (o : Obj) : Kp S a (w.alloc o) := h.grown (World.grownBy_alloc w o none) (fun k _ e => by cases e)
theorem Kp.setCell {S : Nat → Prop} {a w : World} (h : Kp S a w) {p : Addr} (hp : S p.block) (u : Value) : Kp S a (w.setCell p u) :=
  ⟨h.os, h.tape, h.output, by simpa [World.setCell] using h.size, fun i hi hs => (Below.heap_setCell _ _ _ _ (fun e => hs (by rw [e]; exact hp))).trans (h.block i hi hs)⟩
theorem Kp.drewN {S : Nat → Prop} {a w : World} (h : Kp S a w) (n : Nat) : Kp S a (w.drewN n) := ⟨h.os, h.tape, h.output, h.size, h.block⟩

theorem lt_of_block {w : World} {B : Nat} {o : Obj} (h : w.heap[B]? = some o) : B < w.heap.size := (Array.getElem?_eq_some_iff.1 h).1
theorem hd_set {w : World} {B i : Nat} {cs : Array Value} {v : Value} {t : TypeId} (h : w.heap[B]? = some (.cells cs t (0, 0))) : (w.setCell ⟨B, i, none⟩ v).heap[B]? = some (.cells (cs.setIfInBounds i v) t (0, 0)) := by
  have hlt := lt_of_block h
  have h' : w.heap[B] = .cells cs t (0, 0) := by simpa [Array.getElem?_eq_getElem hlt] using h
  show (w.heap.modify B _)[B]? = _
  rw [Array.getElem?_eq_getElem (by simpa using hlt), Array.getElem_modify_self, h']
  rfl
theorem hd_far {w : World} {B B' i : Nat} {v : Value} (h : B' ≠ B) : (w.setCell ⟨B, i, none⟩ v).heap[B']? = w.heap[B']? := Below.heap_setCell _ _ _ _ h

/-- A block of numbers: its first m are as a function says. -/
def Blk (w : World) (b m c : Nat) (f : Nat → Int) : Prop :=
  ∃ cur, w.heap[b]? = some (.cells cur 3 (0, 0)) ∧ cur.size = c ∧ m ≤ c ∧ c ≤ maxLen ∧ ∀ i, i < m → cur[i]? = some (.int .i64 (f i))
theorem Blk.lt {w : World} {b m c : Nat} {f : Nat → Int} (h : Blk w b m c f) : b < w.heap.size := by obtain ⟨cur, h, _⟩ := h; exact lt_of_block h
theorem Blk.cell {w : World} {b m c : Nat} {f : Nat → Int} (h : Blk w b m c f) {i : Nat} (hi : i < m) : w.cell? ⟨b, i, none⟩ = some (.int .i64 (f i)) := by
  obtain ⟨cur, h, _, _, _, e⟩ := h
  simp [World.cell?, h, e i hi]
theorem Blk.fz {w : World} {b m c : Nat} {f : Nat → Int} (h : Blk w b m c f) (i : Nat) : w.frozen? ⟨b, i, none⟩ = false := by
  obtain ⟨cur, h, _⟩ := h
  simp [World.frozen?, h]
theorem Blk.same {w w' : World} {b m c : Nat} {f : Nat → Int} (h : Blk w b m c f) (e : w'.heap[b]? = w.heap[b]?) : Blk w' b m c f := by
  obtain ⟨cur, h, r⟩ := h
  exact ⟨cur, e.trans h, r⟩
theorem Blk.congr {w : World} {b m c : Nat} {f g : Nat → Int} (h : Blk w b m c f) (e : ∀ i, i < m → g i = f i) : Blk w b m c g := by
  obtain ⟨cur, h, a, b, c, r⟩ := h
  exact ⟨cur, h, a, b, c, fun i hi => by rw [e i hi]; exact r i hi⟩
theorem Blk.set {w : World} {b m c : Nat} {f : Nat → Int} (h : Blk w b m c f) {i : Nat} (hi : i < m) (x : Int) : Blk (w.setCell ⟨b, i, none⟩ (.int .i64 x)) b m c (upd f i x) := by
  obtain ⟨cur, h, hc, hm, hx, r⟩ := h
  refine ⟨_, hd_set h, by simpa using hc, hm, hx, fun j hj => ?_⟩
  by_cases e : j = i
  · subst e; rw [upd_same, Array.getElem?_setIfInBounds_self_of_lt (by omega)]
  · rw [upd_other e, Array.getElem?_setIfInBounds_ne (by omega)]; exact r j hj
theorem Blk.own {w : World} {b m c : Nat} {f : Nat → Int} (h : Blk w b m c f) : w.ownsRow 0 3 1 (.slice (some ⟨b, 0, none⟩) m c) m ((List.range m).map fun i => .int .i64 (f i)) := by
  obtain ⟨cur, h, hc, hm, hx, r⟩ := h
  refine ⟨by simp, .inr ⟨b, c, cur, rfl, Nat.zero_le _, h, hm, hx, by omega, ?_⟩⟩
  apply List.ext_getElem?
  intro i
  by_cases hi : i < m
  · rw [List.getElem?_take_of_lt (by omega)]
    have := r i hi
    simp [hi] at this ⊢
    exact this
  · rw [List.getElem?_eq_none (by simp; omega), List.getElem?_eq_none (by simp; omega)]
theorem blk_of_own {w : World} {b m c : Nat} {f : Nat → Int} (h : w.ownsRow 0 3 1 (.slice (some ⟨b, 0, none⟩) m c) m ((List.range m).map fun i => .int .i64 (f i))) : Blk w b m c f := by
  rcases h.2 with ⟨e, _⟩ | ⟨g, cap, cur, e, _, hg, hm, hx, hs, ht⟩
  · simp at e
  · simp at e
    obtain ⟨rfl, rfl⟩ := e
    refine ⟨cur, hg, by omega, hm, hx, fun i hi => ?_⟩
    have : (cur.toList.take (m * 1))[i]? = some (.int .i64 (f i)) := by rw [ht]; simp [hi]
    rw [List.getElem?_take_of_lt (by omega)] at this
    simpa using this

/-- A heap of New's as it lies in memory. -/
structure Hp (w : World) (B S P O c n : Nat) (s : HS) : Prop where
  BS : B ≠ S
  BP : B ≠ P
  BO : B ≠ O
  SP : S ≠ P
  SO : S ≠ O
  PO : P ≠ O
  n20 : n ≤ 1048576
  head : w.heap[B]? = some (.cells #[.pointer (some ⟨B, 0, none⟩), .slice (some ⟨S, 0, none⟩) (n + 1) (n + 1), .slice (some ⟨P, 0, none⟩) (n + 1) (n + 1), .slice (some ⟨O, 0, none⟩) s.k c, .int .i64 s.st] 46 (0, 0))
  rs : Blk w S (n + 1) (n + 1) s.sc
  rp : Blk w P (n + 1) (n + 1) s.pl
  ro : Blk w O s.k c (fun i => (s.od i : Int))

section
variable {w w' : World} {B S P O c n : Nat} {s : HS}
theorem Hp.c0 (h : Hp w B S P O c n s) : w.cell? ⟨B, 0, none⟩ = some (.pointer (some ⟨B, 0, none⟩)) := by simp [World.cell?, h.head]
theorem Hp.c1 (h : Hp w B S P O c n s) : w.cell? ⟨B, 1, none⟩ = some (.slice (some ⟨S, 0, none⟩) (n + 1) (n + 1)) := by simp [World.cell?, h.head]
theorem Hp.c2 (h : Hp w B S P O c n s) : w.cell? ⟨B, 2, none⟩ = some (.slice (some ⟨P, 0, none⟩) (n + 1) (n + 1)) := by simp [World.cell?, h.head]
theorem Hp.c3 (h : Hp w B S P O c n s) : w.cell? ⟨B, 3, none⟩ = some (.slice (some ⟨O, 0, none⟩) s.k c) := by simp [World.cell?, h.head]
theorem Hp.c4 (h : Hp w B S P O c n s) : w.cell? ⟨B, 4, none⟩ = some (.int .i64 s.st) := by simp [World.cell?, h.head]
theorem Hp.fz (h : Hp w B S P O c n s) (i : Nat) : w.frozen? ⟨B, i, none⟩ = false := by simp [World.frozen?, h.head]
theorem Hp.same (h : Hp w B S P O c n s) (e1 : w'.heap[B]? = w.heap[B]?) (e2 : w'.heap[S]? = w.heap[S]?) (e3 : w'.heap[P]? = w.heap[P]?) (e4 : w'.heap[O]? = w.heap[O]?) : Hp w' B S P O c n s :=
  ⟨h.BS, h.BP, h.BO, h.SP, h.SO, h.PO, h.n20, e1.trans h.head, h.rs.same e2, h.rp.same e3, h.ro.same e4⟩
theorem Hp.drewN (h : Hp w B S P O c n s) (m : Nat) : Hp (w.drewN m) B S P O c n s := h.same rfl rfl rfl rfl
theorem Hp.lt (h : Hp w B S P O c n s) : B < w.heap.size ∧ S < w.heap.size ∧ P < w.heap.size ∧ O < w.heap.size := ⟨lt_of_block h.head, h.rs.lt, h.rp.lt, h.ro.lt⟩
theorem Hp.below (h : Hp w B S P O c n s) (hb : Below w.heap.size w w') : Hp w' B S P O c n s := by
  obtain ⟨a, b, d, e⟩ := h.lt
  exact h.same (hb.block _ a) (hb.block _ b) (hb.block _ d) (hb.block _ e)
theorem Hp.setSc (h : Hp w B S P O c n s) {i : Nat} (hi : i ≤ n) (x : Int) : Hp (w.setCell ⟨S, i, none⟩ (.int .i64 x)) B S P O c n { s with sc := upd s.sc i x } :=
  ⟨h.BS, h.BP, h.BO, h.SP, h.SO, h.PO, h.n20, (hd_far h.BS).trans h.head, h.rs.set (by omega) x, h.rp.same (hd_far (Ne.symm h.SP)), h.ro.same (hd_far (Ne.symm h.SO))⟩
theorem Hp.setPl (h : Hp w B S P O c n s) {i : Nat} (hi : i ≤ n) (x : Int) : Hp (w.setCell ⟨P, i, none⟩ (.int .i64 x)) B S P O c n { s with pl := upd s.pl i x } :=
  ⟨h.BS, h.BP, h.BO, h.SP, h.SO, h.PO, h.n20, (hd_far h.BP).trans h.head, h.rs.same (hd_far h.SP), h.rp.set (by omega) x, h.ro.same (hd_far (Ne.symm h.PO))⟩
theorem Hp.setOd (h : Hp w B S P O c n s) {i : Nat} (hi : i < s.k) (x : Nat) : Hp (w.setCell ⟨O, i, none⟩ (.int .i64 (x : Int))) B S P O c n { s with od := upd s.od i x } :=
  ⟨h.BS, h.BP, h.BO, h.SP, h.SO, h.PO, h.n20, (hd_far h.BO).trans h.head, h.rs.same (hd_far h.SO), h.rp.same (hd_far h.PO), (h.ro.set hi x).congr (fun j _ => by show ((upd s.od i x j : Nat) : Int) = upd _ i (x : Int) j; unfold upd; split <;> rfl)⟩
theorem Hp.setSt (h : Hp w B S P O c n s) (x : Int) : Hp (w.setCell ⟨B, 4, none⟩ (.int .i64 x)) B S P O c n { s with st := x } :=
  ⟨h.BS, h.BP, h.BO, h.SP, h.SO, h.PO, h.n20, (hd_set h.head).trans (by simp), h.rs.same (hd_far (Ne.symm h.BS)), h.rp.same (hd_far (Ne.symm h.BP)), h.ro.same (hd_far (Ne.symm h.BO))⟩
end

/-- The blocks of a heap. -/
def Of (B S P O : Nat) (b : Nat) : Prop := b = B ∨ b = S ∨ b = P ∨ b = O

set_option maxHeartbeats 400000 in
theorem given_any (w : World) (B S P O c n : Nat) (s : HS) (hA : Hp w B S P O c n s) :
    Calls Try.prog 28 #[.pointer (some ⟨B, 0, none⟩)] w fun e w' => e = .returned (.bool true) ∧ w' = w := by
  have c0 := hA.c0
  clear hA
  obtain ⟨j, hj, _⟩ := Option.map_eq_some_iff.1 Try.info46
  have heq := run_eql_ptr_same (P := Try.prog) w ⟨B, 0, none⟩ Try.underlying23 hj
  go_enter Try.func28, Try.ntmps28
  go_wp2
  all_goals
    go_ret
    exact ⟨ret_bool (by simp), rfl⟩

/-- Whether a number is a variable. -/
def varB (n : Nat) (v : Int) : Bool := decide (1 ≤ v) && decide (v ≤ n)

set_option maxHeartbeats 400000 in
theorem isVar_any (w : World) (B S P O c n : Nat) (s : HS) (v : Int) (hA : Hp w B S P O c n s) :
    Calls Try.prog 29 #[.pointer (some ⟨B, 0, none⟩), .int .i64 v] w fun e w' => e = .returned (.bool (varB n v)) ∧ w' = w := by
  have G := hide (given_any w B S P O c n s hA)
  have c1 := hA.c1
  have hn := hA.n20
  clear hA
  go_enter Try.func29, Try.ntmps29
  go_wp2_with (first | (go_at_call 28; refine (unhide G).mono ?_; rintro e w0 ⟨rfl, hw0⟩; subst w0))
  all_goals
    go_ret
    exact ⟨ret_bool (by simp [varB, *]; try omega), rfl⟩

set_option maxHeartbeats 400000 in
theorem above_any (w : World) (i : Nat) (h0 : 0 < i) (h1 : i ≤ 2000000) :
    Calls Try.prog 34 #[.int .i64 (i : Int)] w fun e w' => e = .returned (.int .i64 (par i : Nat)) ∧ w' = w := by
  go_enter Try.func34, Try.ntmps34
  go_wp2
  all_goals
    go_ret
    exact ⟨ret_int (by simp [par]; omega), rfl⟩

set_option maxHeartbeats 400000 in
theorem better_any (w : World) (B S P O c n : Nat) (s : HS) (a b : Nat) (hA : Hp w B S P O c n s) (ha : a ≤ n) (hb : b ≤ n) :
    Calls Try.prog 33 #[.pointer (some ⟨B, 0, none⟩), .int .i64 (a : Int), .int .i64 (b : Int)] w fun e w' => e = .returned (.bool (betB s.sc a b)) ∧ ∃ m, w' = w.drewN m := by
  have c1 := hA.c1
  have hn := hA.n20
  have ea := hA.rs.cell (i := a) (by omega)
  have eb := hA.rs.cell (i := b) (by omega)
  clear hA
  by_cases hne : s.sc a = s.sc b
  · have hx : decide (s.sc a = s.sc b) = true := by simpa using hne
    have hres : betB s.sc a b = decide (a < b) := by simp [betB, hne]
    rw [hres]; clear hres
    rw [hne] at ea
    clear hx hne
    go_enter Try.func33, Try.ntmps33
    go_wp2
    go_quiet (fail)
    all_goals
      go_wp2
      go_ret
      exact ⟨ret_bool (by simp), _, rfl⟩
  · have hres : betB s.sc a b = decide (s.sc a > s.sc b) := by simp [betB, hne]
    rw [hres]; clear hres
    generalize s.sc a = x at *
    generalize s.sc b = y at *
    go_enter Try.func33, Try.ntmps33
    go_wp2
    go_quiet (fail)
    all_goals
      go_wp2
      go_quiet (fail)
      go_wp2
      go_ret
      exact ⟨ret_bool (by simp), _, World.drewN_drewN _ _ _⟩

set_option maxHeartbeats 400000 in
theorem put_any (w : World) (B S P O c n : Nat) (s : HS) (i v : Nat) (hA : Hp w B S P O c n s) (hi : i < s.k) (hv : v ≤ n) (hk : s.k ≤ 2000000) :
    Calls Try.prog 26 #[.pointer (some ⟨B, 0, none⟩), .int .i64 (i : Int), .int .i64 (v : Int)] w fun e w' => e = .returned (.tuple #[]) ∧ Hp w' B S P O c n (s.put i v) ∧ Kp (Of B S P O) w w' := by
  have h1 := hA.setOd hi v
  have h2 := h1.setPl hv (i : Int)
  have K := ((Kp.refl (Of B S P O) w).setCell (p := ⟨O, i, none⟩) (.inr (.inr (.inr rfl))) (.int .i64 (v : Int))).setCell (p := ⟨P, v, none⟩) (.inr (.inr (.inl rfl))) (.int .i64 (i : Int))
  have H2 := hide h2
  have HK := hide K
  have c3 := hA.c3
  have c2 := h1.c2
  have eo := hA.ro.cell hi
  have fo := hA.ro.fz i
  have ep := h1.rp.cell (i := v) (by omega)
  have fp := h1.rp.fz v
  have hn := hA.n20
  clear hA h1 h2 K
  go_enter Try.func26, Try.ntmps26
  go_wp2
  all_goals
    go_end0
    exact ⟨rfl, H2.out, HK.out⟩
end Go.Proofs.Ytidhnmooloedmaa
