/- A select that does not wait, in one goroutine, inside a walk; a channel of tokens as it lies in memory. -/
import Derived.Test.YtjijikkcpnojcaaRows
import Derived.WalkKit
import Derived.WalkSpells
import Derived.BigQuiet
import Derived.OneCell
import Derived.LaidEqlPtr
import Derived.Conc.LoneSelect
import Derived.Laws.AppendOwnNone
import Derived.Maps.AppendAt
import Derived.Deep.AppendLies
set_option linter.unusedVariables false
set_option linter.unusedSimpArgs false
namespace Go.Proofs.Ytjijikkcpnojcaa
open Go.RowKit Go.Conc

theorem hide {p : Prop} (h : p) : Hid p := h
theorem unhide {p : Prop} (h : Hid p) : p := h
theorem ret_bool {a b : Bool} (h : a = b) : Ending.returned (.bool a) = .returned (.bool b) := by rw [h]
theorem ret_int {k : IntKind} {a b : Int} (h : a = b) : Ending.returned (.int k a) = .returned (.int k b) := by rw [h]
/-- A world is forgotten but for what is known of it. -/
theorem forget {P : World → Prop} {w : World} (I : World → Prop) (h : I w) (k : ∀ w', I w' → P w') : P w := k w h

section
variable {P : Program} {id : Nat} {o : Oper} {l : List Oper} {Q : Exit → Act → World → Prop} {a : Act} {w w' : World} {v : Value}
/-- A region whose first operation is done by one step of the machine's. -/
theorem wp_first (hs : ∀ (b : Frame) (k : List Item) (cs : List Frame), step P (lone (b.at a (.inRegion (o :: l).toArray (0 :: List.range' 1 l.length) :: k)) cs w) = .next (lone ((b.at a (.inRegion (o :: l).toArray (0 :: List.range' 1 l.length) :: k)).finish v) cs w'))
    (h : wpList P (o :: l).toArray Q l (a.put o.dst v) w') : (Code.region id (o :: l).toArray false).wp P Q a w := by
  have h' : wpOps P (o :: l).toArray Q (List.range' 1 l.length) (a.put o.dst v) w' := by
    rw [wpOps_eq_wpList l 1 (fun j => by simp [Nat.add_comm 1 j])]; exact h
  intro b k cs
  obtain ⟨e, a', w2, hq, harr⟩ := wp_ops _ _ _ h' b k cs
  have h1 := step_region (P := P) (b := b) (a := a) (k := k) (cs := cs) (w := w) (ops := (o :: l).toArray) (id := id)
  have e0 : List.range (o :: l).toArray.size = 0 :: List.range' 1 l.length := by
    simp [List.range_eq_range', List.range'_succ]
  rw [e0] at h1
  have h2 := hs b k cs
  rw [Frame.finish_at] at h2
  exact ⟨e, a', w2, hq, .of_steps (.head h1 (.one h2)) harr⟩
theorem stepG_comm_any {ops : Array Oper} {i : Nat} {rest : List Nat} {cases : Array CommCase} {blocking : Bool} {shape : CommShape} (b : Frame) (k : List Item) (cs : List Frame) (ho : ops[i]? = some o) (hw : Region.wanted o (yielded ops a.tmps) = true)
    (hr : (execOp a.eval o).run P w = .ok (.comm cases blocking shape) w') :
    ∃ es, stepG P true (G (b.at a (.inRegion ops (i :: rest) :: k)) cs) w = .comm (G (b.at a (.inRegion ops (i :: rest) :: k)) cs) cases blocking shape w' es := by
  rw [stepG_oper ho hw]
  simp [stepG.apply, hr, G, Frame.at, GStep.after]
/-- The zero value of a token. -/
theorem Try.info55 : (Try.prog.info? 55).map (fun i => (i.zero, i.bytes)) = some (some (.agg #[]), 0) := by kernel_rfl
theorem zero55 (w : World) : (zeroValue 55).run Try.prog w = .ok (.agg #[]) w := by
  obtain ⟨i, hi, e⟩ := Option.map_eq_some_iff.1 Try.info55
  simp at e
  simp [zeroValue, typeInfo, hi, e.1]
variable {dst : Option Tmp} {ty : TypeId} {pos : String} {af : Array Edge} {ch sv : Operand} {c cap s r : Nat} {buf : Array Value} {tm : Bool}
/-- A token is there: it is taken. -/
theorem wp_recv_some (hc : w.heap[c]? = some (.chan cap buf false s r tm)) (he : a.eval ch = .chan (some c)) (hn : 0 < buf.size)
    (h : wpList Try.prog (⟨dst, .select #[⟨ch, none, 55⟩] false, ty, pos, af, none⟩ :: l).toArray Q l (a.put dst (.tuple #[goInt 0, .bool true, buf.getD 0 undef])) (w.setChan c cap (buf.extract 1 buf.size) false s (r + 1) tm)) :
    (Code.region id (⟨dst, .select #[⟨ch, none, 55⟩] false, ty, pos, af, none⟩ :: l).toArray false).wp Try.prog Q a w := by
  refine wp_first (fun b k cs => ?_) h
  obtain ⟨es, hg⟩ := stepG_comm_any (P := Try.prog) (a := a) (w := w) (w' := w) (cases := #[rcase c (.agg #[])]) (blocking := false) (shape := .select) (rest := List.range' 1 l.length) b k cs (ops := (⟨dst, .select #[⟨ch, none, 55⟩] false, ty, pos, af, none⟩ :: l).toArray) (i := 0) rfl rfl (by simp [execOp, rcase, he, zero55])
  exact step_lone_select_recv_buf hg hc hn
/-- No token is there. -/
theorem wp_recv_none (hc : w.heap[c]? = some (.chan cap #[] false s r tm)) (he : a.eval ch = .chan (some c))
    (h : wpList Try.prog (⟨dst, .select #[⟨ch, none, 55⟩] false, ty, pos, af, none⟩ :: l).toArray Q l (a.put dst (.tuple #[goInt (-1), .bool false, .agg #[]])) w) :
    (Code.region id (⟨dst, .select #[⟨ch, none, 55⟩] false, ty, pos, af, none⟩ :: l).toArray false).wp Try.prog Q a w := by
  refine wp_first (fun b k cs => ?_) h
  obtain ⟨es, hg⟩ := stepG_comm_any (P := Try.prog) (a := a) (w := w) (w' := w) (cases := #[rcase c (.agg #[])]) (blocking := false) (shape := .select) (rest := List.range' 1 l.length) b k cs (ops := (⟨dst, .select #[⟨ch, none, 55⟩] false, ty, pos, af, none⟩ :: l).toArray) (i := 0) rfl rfl (by simp [execOp, rcase, he, zero55])
  exact step_lone_select_default hg hc
/-- There is room for a token: it is given. -/
theorem wp_send_some (hc : w.heap[c]? = some (.chan cap buf false s r tm)) (he : a.eval ch = .chan (some c)) (hn : buf.size < cap)
    (h : wpList Try.prog (⟨dst, .select #[⟨ch, some sv, 55⟩] false, ty, pos, af, none⟩ :: l).toArray Q l (a.put dst (.tuple #[goInt 0, .bool false])) (w.setChan c cap (buf.push (a.eval sv)) false (s + 1) r tm)) :
    (Code.region id (⟨dst, .select #[⟨ch, some sv, 55⟩] false, ty, pos, af, none⟩ :: l).toArray false).wp Try.prog Q a w := by
  refine wp_first (fun b k cs => ?_) h
  obtain ⟨es, hg⟩ := stepG_comm_any (P := Try.prog) (a := a) (w := w) (w' := w) (cases := #[scase c (a.eval sv) (.agg #[])]) (blocking := false) (shape := .select) (rest := List.range' 1 l.length) b k cs (ops := (⟨dst, .select #[⟨ch, some sv, 55⟩] false, ty, pos, af, none⟩ :: l).toArray) (i := 0) rfl rfl (by simp [execOp, scase, he, zero55])
  exact step_lone_select_send_room hg hc hn
/-- There is no room for a token. -/
theorem wp_send_none (hc : w.heap[c]? = some (.chan cap buf false s r tm)) (he : a.eval ch = .chan (some c)) (hn : cap ≤ buf.size)
    (h : wpList Try.prog (⟨dst, .select #[⟨ch, some sv, 55⟩] false, ty, pos, af, none⟩ :: l).toArray Q l (a.put dst (.tuple #[goInt (-1), .bool false])) w) :
    (Code.region id (⟨dst, .select #[⟨ch, some sv, 55⟩] false, ty, pos, af, none⟩ :: l).toArray false).wp Try.prog Q a w := by
  refine wp_first (fun b k cs => ?_) h
  obtain ⟨es, hg⟩ := stepG_comm_any (P := Try.prog) (a := a) (w := w) (w' := w) (cases := #[scase c (a.eval sv) (.agg #[])]) (blocking := false) (shape := .select) (rest := List.range' 1 l.length) b k cs (ops := (⟨dst, .select #[⟨ch, some sv, 55⟩] false, ty, pos, af, none⟩ :: l).toArray) (i := 0) rfl rfl (by simp [execOp, scase, he, zero55])
  exact step_lone_select_send_full hg hc hn
end

/-- All blocks but those named stayed. -/
structure Kp (S : Nat → Prop) (w w' : World) : Prop where
  os : w'.os = w.os
  tape : w'.tape = w.tape
  output : w'.output = w.output
  size : w.heap.size ≤ w'.heap.size
  block : ∀ k, k < w.heap.size → ¬ S k → w'.heap[k]? = w.heap[k]?

theorem Kp.refl (S : Nat → Prop) (w : World) : Kp S w w := ⟨rfl, rfl, rfl, Nat.le_refl _, fun _ _ _ => rfl⟩
theorem Kp.of_below {S : Nat → Prop} {w w' : World} (h : Below w.heap.size w w') : Kp S w w' := ⟨h.os, h.tape, h.output, h.size, fun k hk _ => h.block k hk⟩
theorem Kp.trans {S : Nat → Prop} {a b c : World} (h : Kp S a b) (k : Kp S b c) : Kp S a c :=
  ⟨k.os.trans h.os, k.tape.trans h.tape, k.output.trans h.output, Nat.le_trans h.size k.size, fun i hi hs => (k.block i (Nat.lt_of_lt_of_le hi h.size) hs).trans (h.block i hi hs)⟩
theorem Kp.mono {S T : Nat → Prop} {a b : World} (h : Kp S a b) (hs : ∀ k, S k → T k) : Kp T a b := ⟨h.os, h.tape, h.output, h.size, fun i hi ht => h.block i hi (fun e => ht (hs i e))⟩
theorem Kp.setCell {S : Nat → Prop} {a w : World} (h : Kp S a w) {p : Addr} (hp : S p.block) (u : Value) : Kp S a (w.setCell p u) :=
  ⟨h.os, h.tape, h.output, by simpa [World.setCell] using h.size, fun i hi hs => (Below.heap_setCell _ _ _ _ (fun e => hs (by rw [e]; exact hp))).trans (h.block i hi hs)⟩
theorem Kp.drewN {S : Nat → Prop} {a w : World} (h : Kp S a w) (n : Nat) : Kp S a (w.drewN n) := ⟨h.os, h.tape, h.output, h.size, h.block⟩
theorem Kp.setChan {S : Nat → Prop} {a w : World} (h : Kp S a w) {c : Nat} (hc : S c) (cap : Nat) (buf : Array Value) (cl : Bool) (s r : Nat) (tm : Bool) : Kp S a (w.setChan c cap buf cl s r tm) :=
  ⟨h.os, h.tape, h.output, by simpa [World.setChan] using h.size, fun i hi hs => by
    refine Eq.trans ?_ (h.block i hi hs)
    simp only [World.setChan]
    have hne : c ≠ i := fun e => hs (by rw [← e]; exact hc)
    exact Array.getElem?_setIfInBounds_ne hne⟩
/-- What was made since stays. -/
theorem Kp.bel {S : Nat → Prop} {a w w' : World} (h : Below a.heap.size a w) (k : Kp S w w') (hs : ∀ b, S b → a.heap.size ≤ b) : Below a.heap.size a w' :=
  ⟨k.os.trans h.os, k.tape.trans h.tape, k.output.trans h.output, Nat.le_trans h.size k.size, fun i hi => (k.block i (Nat.lt_of_lt_of_le hi h.size) (fun e => Nat.lt_irrefl _ (Nat.lt_of_lt_of_le hi (hs i e)))).trans (h.block i hi)⟩

theorem lt_of_block {w : World} {B : Nat} {o : Obj} (h : w.heap[B]? = some o) : B < w.heap.size := (Array.getElem?_eq_some_iff.1 h).1
theorem hd_set {w : World} {B i : Nat} {cs : Array Value} {v : Value} {t : TypeId} (h : w.heap[B]? = some (.cells cs t (0, 0))) : (w.setCell ⟨B, i, none⟩ v).heap[B]? = some (.cells (cs.setIfInBounds i v) t (0, 0)) := by
  have hlt := lt_of_block h
  have h' : w.heap[B] = .cells cs t (0, 0) := by simpa [Array.getElem?_eq_getElem hlt] using h
  show (w.heap.modify B _)[B]? = _
  rw [Array.getElem?_eq_getElem (by simpa using hlt), Array.getElem_modify_self, h']
  rfl
theorem hd_far {w : World} {B B' i : Nat} {v : Value} (h : B' ≠ B) : (w.setCell ⟨B, i, none⟩ v).heap[B']? = w.heap[B']? := Below.heap_setCell _ _ _ _ h

/-- A channel with room for cap tokens, of which n are there. -/
def Ch (w : World) (c cap n : Nat) : Prop := ∃ buf s r, w.heap[c]? = some (.chan cap buf false s r false) ∧ buf.size = n
theorem Ch.lt {w : World} {c cap n : Nat} (h : Ch w c cap n) : c < w.heap.size := by obtain ⟨_, _, _, h, _⟩ := h; exact lt_of_block h
theorem Ch.same {w w' : World} {c cap n : Nat} (h : Ch w c cap n) (e : w'.heap[c]? = w.heap[c]?) : Ch w' c cap n := by
  obtain ⟨buf, s, r, h, hn⟩ := h
  exact ⟨buf, s, r, e.trans h, hn⟩
theorem ch_set {w : World} {c cap : Nat} (buf : Array Value) (s r n : Nat) (hc : c < w.heap.size) (hn : buf.size = n) : Ch (w.setChan c cap buf false s r false) c cap n :=
  ⟨buf, s, r, heap_setChan w c cap buf false s r false hc, hn⟩
end Go.Proofs.Ytjijikkcpnojcaa
