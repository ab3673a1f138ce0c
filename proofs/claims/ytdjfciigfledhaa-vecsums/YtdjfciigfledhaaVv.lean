/- What vec's calls tell in the law's world, by its inputs. -/
import Derived.Test.YtdjfciigfledhaaVu
set_option linter.unusedVariables false
set_option linter.unusedSimpArgs false
namespace Go.Proofs.Ytdjfciigfledhaa
open Go.RowKit Go.Maps

/-- The box of the law's numbers stays. -/
def Box (W : World) (Q a b f : Nat) : Prop := W.heap[Q]? = some (Obj.cells #[.int .u16 (a : Int), .int .u16 (b : Int), .int .u32 (f : Int)] 25 (0, 0))
section
variable {w W : World} {Q a b f B M k : Nat} {v v' : Value} {g g' : List Gt}
theorem Box.c0 (h : Box W Q a b f) : W.cell? ⟨Q, 0, none⟩ = some (.int .u16 (a : Int)) := cell_block (i := 0) h rfl
theorem Box.c1 (h : Box W Q a b f) : W.cell? ⟨Q, 1, none⟩ = some (.int .u16 (b : Int)) := cell_block (i := 1) h rfl
theorem Box.below (h : Box w Q a b f) (hb : Below w.heap.size w W) : Box W Q a b f := (hb.block Q (lt_of_block h)).trans h
theorem Box.st (h : Box w Q a b f) (hA : Gr w B M v g) (s : St w W B M v v' g g' k) : Box W Q a b f := (s.kp.block Q (lt_of_block h) (hA.typ h (by decide) (by decide))).trans h
end

/-- A word of the graph that has a number, by the inputs. -/
structure Wn (W : World) (g : List Gt) (q c n : Nat) (l : List Int) (L : List Bool) (N : Nat) : Prop where
  wo : Row W (some ⟨q, 0, none⟩) l
  len : l.length = n
  cap : n ≤ c
  wd : Wd g l
  num : numW L g l = N
/-- The law's world all in one: graph, words, inputs, box. -/
structure LB (W0 W : World) (B M : Nat) (v : Value) (g : List Gt) (k n pa ca pb cb : Nat) (la lb : List Int) (ai : Option Addr) (c : Nat) (L : List Bool) (x y Q a b f : Nat) : Prop where
  lw : LW W B M v g k n pa ca pb cb la lb ai c L x y
  box : Box W Q a b f
  low : ∀ b, Sv B M v b → Q ≤ b
  bel : Below Q W0 W
section
variable {w0 w W : World} {B M k j n pa ca pb cb c x y Q a b f q cq N : Nat} {v v' : Value} {g g' : List Gt} {la lb l : List Int} {ai : Option Addr} {L : List Bool}
theorem LB.st (h : LB w0 w B M v g k n pa ca pb cb la lb ai c L x y Q a b f) (s : St w W B M v v' g g' j) : LB w0 W B M v' g' (k + j) n pa ca pb cb la lb ai c L x y Q a b f := ⟨h.lw.st s, h.box.st h.lw.gr s, lo_new h.low s.nv (Nat.le_of_lt (lt_of_block h.box)), below_kp h.bel s.kp h.low (Nat.le_of_lt (lt_of_block h.box))⟩
theorem LB.below (h : LB w0 w B M v g k n pa ca pb cb la lb ai c L x y Q a b f) (s : Below w.heap.size w W) : LB w0 W B M v g k n pa ca pb cb la lb ai c L x y Q a b f := ⟨h.lw.below s, h.box.below s, h.low, h.bel.trans (s.mono (Nat.le_of_lt (lt_of_block h.box)))⟩
theorem numW_pre {g : List Gt} {l : List Int} {L : List Bool} {x n : Nat} (h : ∀ t, bitsW (L ++ t) g l = bitsN x n) (hx : x < 2 ^ n) : numB (bitsW L g l) = x := by
  have := h []
  rw [List.append_nil] at this
  rw [this, bitsN_num x n hx]
theorem LW.ax (h : LW W B M v g k n pa ca pb cb la lb ai c L x y) (hx : x < 2 ^ n) : Wn W g pa ca n la L x := ⟨h.a.row, h.a.len, h.a.cap, h.wa, numW_pre h.na hx⟩
theorem LW.bx (h : LW W B M v g k n pa ca pb cb la lb ai c L x y) (hy : y < 2 ^ n) : Wn W g pb cb n lb L y := ⟨h.b.row, h.b.len, h.b.cap, h.wb, numW_pre h.nb hy⟩
theorem Wn.below (h : Wn w g q cq n l L N) (s : Below w.heap.size w W) : Wn W g q cq n l L N := ⟨h.wo.below s, h.len, h.cap, h.wd, h.num⟩
end

/-- What an act tells: a word that has the number N. -/
def OP (w0 w : World) (B M : Nat) (k j n pa ca pb cb : Nat) (la lb : List Int) (ai : Option Addr) (c : Nat) (L : List Bool) (x y Q a b f N : Nat) (e : Ending) (w' : World) : Prop :=
  ∃ q v' g' l, e = .returned (.slice (some ⟨q, 0, none⟩) n n) ∧ LB w0 w' B M v' g' (k + j) n pa ca pb cb la lb ai c L x y Q a b f ∧ Wn w' g' q n n l L N

section
variable {w0 w : World} {B M k n pa ca pb cb c x y Q a b f : Nat} {v : Value} {g : List Gt} {la lb : List Int} {ai : Option Addr} {L : List Bool}
theorem NP.op {j N : Nat} {Nf : List Bool → Nat} (h : LB w0 w B M v g k n pa ca pb cb la lb ai c L x y Q a b f) {e : Ending} {w' : World} (hn : NP w B M v g n j Nf e w') (hN : Nf L = N) : OP w0 w B M k j n pa ca pb cb la lb ai c L x y Q a b f N e w' := by
  obtain ⟨fn, ⟨q, l, v', g', rfl, s, r⟩, hf⟩ := hn
  exact ⟨q, v', g', l, rfl, h.st s, r.rw.row, r.len, Nat.le_refl _, r.wt.1, by rw [← hN, ← hf L]; unfold numW; rw [r.wt.2 L]⟩
theorem is_lb {v' : Value} {g' : List Gt} {k' q cq N : Nat} {l : List Int} (h : LB w0 w B M v' g' k' n pa ca pb cb la lb ai c L x y Q a b f) (h1 : 1 ≤ n) (h16 : n ≤ 16) (hw : Wn w g' q cq n l L N) :
    Calls Try.prog 11 #[.pointer (some ⟨B, 0, none⟩), .slice ai L.length c, .slice (some ⟨q, 0, none⟩) n cq, .int .i64 (n : Int), .int .i64 (N : Int)] w fun e w' => e = .returned (.bool true) ∧ LB w0 w' B M v' g' k' n pa ca pb cb la lb ai c L x y Q a b f ∧ Below w.heap.size w w' := by
  refine (is_any w B M v' g' ai c L (some ⟨q, 0, none⟩) cq l n N h.lw.gr h.lw.bo.1 (by have := h.lw.il; unfold maxLen; omega) hw.wo hw.len h1 h16 hw.wd).mono fun e w' hh => ?_
  obtain ⟨rfl, hb⟩ := hh
  exact ⟨by rw [hw.num]; simp, h.below hb, hb⟩
theorem add_lb (h : LB w0 w B M v g k n pa ca pb cb la lb ai c L x y Q a b f) (hk : k ≤ 100000) (h1 : 1 ≤ n) (h16 : n ≤ 16) (hx : x < 2 ^ n) (hy : y < 2 ^ n) : Calls Try.prog 12 #[.pointer (some ⟨B, 0, none⟩), .slice (some ⟨pa, 0, none⟩) n ca, .slice (some ⟨pb, 0, none⟩) n cb] w (OP w0 w B M k 160 n pa ca pb cb la lb ai c L x y Q a b f ((x + y) % 2 ^ n)) :=
  (add_yes w B M v g (some ⟨pa, 0, none⟩) (some ⟨pb, 0, none⟩) ca cb la lb n (fun ins => bitsW ins g la) (fun ins => bitsW ins g lb) h.lw.gr (by have := h.lw.len; omega) h.lw.a.len h.lw.b.len h1 h16 h.lw.a.cap h.lw.b.cap (h.lw.a.fr h.lw.gr) (h.lw.b.fr h.lw.gr) ⟨h.lw.wa, fun _ => rfl⟩ ⟨h.lw.wb, fun _ => rfl⟩).mono fun e w' hn => hn.op h (by
    show (numB (bitsW L g la) + numB (bitsW L g lb)) % 2 ^ n = _
    rw [numW_pre h.lw.na hx, numW_pre h.lw.nb hy])
theorem sub_lb (h : LB w0 w B M v g k n pa ca pb cb la lb ai c L x y Q a b f) (hk : k ≤ 100000) (h1 : 1 ≤ n) (h16 : n ≤ 16) (hx : x < 2 ^ n) (hy : y < 2 ^ n) : Calls Try.prog 13 #[.pointer (some ⟨B, 0, none⟩), .slice (some ⟨pa, 0, none⟩) n ca, .slice (some ⟨pb, 0, none⟩) n cb] w (OP w0 w B M k 160 n pa ca pb cb la lb ai c L x y Q a b f ((x + (2 ^ n - y)) % 2 ^ n)) :=
  (sub_yes w B M v g (some ⟨pa, 0, none⟩) (some ⟨pb, 0, none⟩) ca cb la lb n (fun ins => bitsW ins g la) (fun ins => bitsW ins g lb) h.lw.gr (by have := h.lw.len; omega) h.lw.a.len h.lw.b.len h1 h16 h.lw.a.cap h.lw.b.cap (h.lw.a.fr h.lw.gr) (h.lw.b.fr h.lw.gr) ⟨h.lw.wa, fun _ => rfl⟩ ⟨h.lw.wb, fun _ => rfl⟩).mono fun e w' hn => hn.op h (by
    show (numB (bitsW L g la) + (2 ^ n - numB (bitsW L g lb))) % 2 ^ n = _
    rw [numW_pre h.lw.na hx, numW_pre h.lw.nb hy])
theorem mul_lb (h : LB w0 w B M v g k n pa ca pb cb la lb ai c L x y Q a b f) (hk : k ≤ 100000) (h1 : 1 ≤ n) (h16 : n ≤ 16) (hx : x < 2 ^ n) (hy : y < 2 ^ n) : Calls Try.prog 15 #[.pointer (some ⟨B, 0, none⟩), .slice (some ⟨pa, 0, none⟩) n ca, .slice (some ⟨pb, 0, none⟩) n cb] w (OP w0 w B M k 4000 n pa ca pb cb la lb ai c L x y Q a b f (x * y % 2 ^ n)) :=
  (mul_any w B M v g (some ⟨pa, 0, none⟩) (some ⟨pb, 0, none⟩) ca cb la lb n (fun ins => bitsW ins g la) (fun ins => bitsW ins g lb) h.lw.gr (by have := h.lw.len; omega) h.lw.a.len h.lw.b.len h1 h16 h.lw.a.cap (h.lw.a.fr h.lw.gr) (h.lw.b.fr h.lw.gr) ⟨h.lw.wa, fun _ => rfl⟩ ⟨h.lw.wb, fun _ => rfl⟩).mono fun e w' hn => hn.op h (by
    show numB (bitsW L g la) * numB (bitsW L g lb) % 2 ^ n = _
    rw [numW_pre h.lw.na hx, numW_pre h.lw.nb hy])
theorem neg_lb (h : LB w0 w B M v g k n pa ca pb cb la lb ai c L x y Q a b f) (hk : k ≤ 100000) (h1 : 1 ≤ n) (h16 : n ≤ 16) (hx : x < 2 ^ n) : Calls Try.prog 14 #[.pointer (some ⟨B, 0, none⟩), .slice (some ⟨pa, 0, none⟩) n ca] w (OP w0 w B M k 160 n pa ca pb cb la lb ai c L x y Q a b f ((2 ^ n - x) % 2 ^ n)) :=
  (neg_yes w B M v g (some ⟨pa, 0, none⟩) ca la n (fun ins => bitsW ins g la) h.lw.gr (by have := h.lw.len; omega) h.lw.a.len h1 h16 h.lw.a.cap (h.lw.a.fr h.lw.gr) ⟨h.lw.wa, fun _ => rfl⟩).mono fun e w' hn => hn.op h (by
    show (2 ^ n - numB (bitsW L g la)) % 2 ^ n = _
    rw [numW_pre h.lw.na hx])
end
/-- The law's world, behind its words. -/
theorem law_start {w W : World} {B M n pa ca pb cb c x y a b f : Nat} {v : Value} {g : List Gt} {la lb : List Int} {ai : Option Addr} {L : List Bool} (h : LW W B M v g 32 n pa ca pb cb la lb ai c L x y) (hb : Box W w.heap.size a b f) (hw : Below w.heap.size w W) (hlo : ∀ b, Sv B M v b → w.heap.size + 1 ≤ b) :
    LB w (W.drewN 1) B M v g 32 n pa ca pb cb la lb ai c L x y w.heap.size a b f :=
  (LB.mk h hb (fun b h => by have := hlo b h; omega) hw).below (below_drewN (Below.refl _ _) 1)
end Go.Proofs.Ytdjfciigfledhaa
