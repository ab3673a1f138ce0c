/- What vec's calls tell in the law's world, by its inputs. -/
import Derived.Test.YtdjfciigfledhaaVu
set_option linter.unusedVariables false
set_option linter.unusedSimpArgs false
namespace Go.Proofs.Ytdjfciigfledhaa
open Go.RowKit Go.Maps

/-- The box of the law's numbers stays. -/
def Box (W : World) (Q a b f : Nat) : Prop := W.heap[Q]? = some (Obj.cells #[.int .u16 (a : Int), .int .u16 (b : Int), .int .u32 (f : Int)] 25 (0, 0))
section
variable {w W : World} {Q a b f B M k : Nat} {v v' : Value} {g g' : List Gt}
theorem Box.c0 (h : Box W Q a b f) : W.cell? ⟨Q, 0, none⟩ = some (.int .u16 (a : Int)) := cell_block (i := 0) h rfl
theorem Box.c1 (h : Box W Q a b f) : W.cell? ⟨Q, 1, none⟩ = some (.int .u16 (b : Int)) := cell_block (i := 1) h rfl
theorem Box.below (h : Box w Q a b f) (hb : Below w.heap.size w W) : Box W Q a b f := (hb.block Q (lt_of_block h)).trans h
theorem Box.st (h : Box w Q a b f) (hA : Gr w B M v g) (s : St w W B M v v' g g' k) : Box W Q a b f := (s.kp.block Q (lt_of_block h) (hA.typ h (by decide) (by decide))).trans h
end

/-- A word of the graph that has a number, by the inputs. -/
structure Wn (W : World) (g : List Gt) (q c n : Nat) (l : List Int) (L : List Bool) (N : Nat) : Prop where
  wo : Wo W q c n l
  wd : Wd g l
  num : numW L g l = N
/-- The law's world all in one: graph, words, inputs, box. -/
structure LB (W0 W : World) (B M : Nat) (v : Value) (g : List Gt) (k n pa ca pb cb : Nat) (la lb : List Int) (ai : Option Addr) (c : Nat) (L : List Bool) (x y Q a b f : Nat) : Prop where
  lw : LW W B M v g k n pa ca pb cb la lb ai c L x y
  box : Box W Q a b f
  low : ∀ b, Sv B M v b → Q ≤ b
  bel : Below Q W0 W
section
variable {w0 w W : World} {B M k j n pa ca pb cb c x y Q a b f q cq N : Nat} {v v' : Value} {g g' : List Gt} {la lb l : List Int} {ai : Option Addr} {L : List Bool}
theorem LB.st (h : LB w0 w B M v g k n pa ca pb cb la lb ai c L x y Q a b f) (s : St w W B M v v' g g' j) : LB w0 W B M v' g' (k + j) n pa ca pb cb la lb ai c L x y Q a b f := ⟨h.lw.st s, h.box.st h.lw.gr s, lo_new h.low s.nv (Nat.le_of_lt (lt_of_block h.box)), below_kp h.bel s.kp h.low (Nat.le_of_lt (lt_of_block h.box))⟩
theorem LB.below (h : LB w0 w B M v g k n pa ca pb cb la lb ai c L x y Q a b f) (s : Below w.heap.size w W) : LB w0 W B M v g k n pa ca pb cb la lb ai c L x y Q a b f := ⟨h.lw.below s, h.box.below s, h.low, h.bel.trans (s.mono (Nat.le_of_lt (lt_of_block h.box)))⟩
theorem numW_pre {g : List Gt} {l : List Int} {L : List Bool} {x n : Nat} (h : ∀ t, bitsW (L ++ t) g l = bitsN x n) (hx : x < 2 ^ n) : numB (bitsW L g l) = x := by
  have := h []
  rw [List.append_nil] at this
  rw [this, bitsN_num x n hx]
theorem LW.ax (h : LW W B M v g k n pa ca pb cb la lb ai c L x y) (hx : x < 2 ^ n) : Wn W g pa ca n la L x := ⟨h.a, h.wa, numW_pre h.na hx⟩
theorem LW.bx (h : LW W B M v g k n pa ca pb cb la lb ai c L x y) (hy : y < 2 ^ n) : Wn W g pb cb n lb L y := ⟨h.b, h.wb, numW_pre h.nb hy⟩
theorem Wn.below (h : Wn w g q cq n l L N) (s : Below w.heap.size w W) : Wn W g q cq n l L N := ⟨h.wo.below s, h.wd, h.num⟩
theorem Wn.st (h : Wn w g q cq n l L N) (hA : Gr w B M v g) (s : St w W B M v v' g g' j) : Wn W g' q cq n l L N := ⟨h.wo.st hA s, h.wd.grow s.grow, by rw [← h.num]; unfold numW; rw [bitsW_grow s.grow h.wd]⟩
end

/-- What an act tells: a word that has the number N; the others stay (transport). -/
def OP (w0 w : World) (B M : Nat) (g : List Gt) (k j n pa ca pb cb : Nat) (la lb : List Int) (ai : Option Addr) (c : Nat) (L : List Bool) (x y Q a b f N : Nat) (e : Ending) (w' : World) : Prop :=
  ∃ q v' g' l, e = .returned (.slice (some ⟨q, 0, none⟩) n n) ∧ LB w0 w' B M v' g' (k + j) n pa ca pb cb la lb ai c L x y Q a b f ∧ Wn w' g' q n n l L N ∧ ∀ {q2 c2 : Nat} {l2 : List Int} {N2 : Nat}, Wn w g q2 c2 n l2 L N2 → Wn w' g' q2 c2 n l2 L N2

section
variable {w0 w : World} {B M k n pa ca pb cb c x y Q a b f : Nat} {v : Value} {g : List Gt} {la lb : List Int} {ai : Option Addr} {L : List Bool}
theorem NP.op {j N : Nat} {Nf : List Bool → Nat} (h : LB w0 w B M v g k n pa ca pb cb la lb ai c L x y Q a b f) {e : Ending} {w' : World} (hn : NP w B M v g n j Nf e w') (hN : Nf L = N) : OP w0 w B M g k j n pa ca pb cb la lb ai c L x y Q a b f N e w' := by
  obtain ⟨fn, ⟨q, l, v', g', rfl, s, r⟩, hf⟩ := hn
  exact ⟨q, v', g', l, rfl, h.st s, ⟨⟨r.rw.row, r.len, Nat.le_refl _, _, _, r.rw⟩, r.wt.1, by rw [← hN, ← hf L]; unfold numW; rw [r.wt.2 L]⟩, fun u => u.st h.lw.gr s⟩
theorem is_lb {v' : Value} {g' : List Gt} {k' q cq N : Nat} {l : List Int} (h : LB w0 w B M v' g' k' n pa ca pb cb la lb ai c L x y Q a b f) (h1 : 1 ≤ n) (h16 : n ≤ 16) (hw : Wn w g' q cq n l L N) :
    Calls Try.prog 11 #[.pointer (some ⟨B, 0, none⟩), .slice ai L.length c, .slice (some ⟨q, 0, none⟩) n cq, .int .i64 (n : Int), .int .i64 (N : Int)] w fun e w' => e = .returned (.bool true) ∧ LB w0 w' B M v' g' k' n pa ca pb cb la lb ai c L x y Q a b f ∧ Below w.heap.size w w' := by
  refine (is_any w B M v' g' ai c L (some ⟨q, 0, none⟩) cq l n N h.lw.gr h.lw.bo.1 (by have := h.lw.il; unfold maxLen; omega) hw.wo.row hw.wo.len h1 h16 hw.wd).mono fun e w' hh => ?_
  obtain ⟨rfl, hb⟩ := hh
  exact ⟨by rw [hw.num]; simp, h.below hb, hb⟩
theorem addW (h : LB w0 w B M v g k n pa ca pb cb la lb ai c L x y Q a b f) (hk : k ≤ 100000) (h1 : 1 ≤ n) (h16 : n ≤ 16) {q1 c1 q2 c2 N1 N2 : Nat} {l1 l2 : List Int} (u : Wn w g q1 c1 n l1 L N1) (t : Wn w g q2 c2 n l2 L N2) :
    Calls Try.prog 12 #[.pointer (some ⟨B, 0, none⟩), .slice (some ⟨q1, 0, none⟩) n c1, .slice (some ⟨q2, 0, none⟩) n c2] w (OP w0 w B M g k 160 n pa ca pb cb la lb ai c L x y Q a b f ((N1 + N2) % 2 ^ n)) :=
  (add_yes w B M v g (some ⟨q1, 0, none⟩) (some ⟨q2, 0, none⟩) c1 c2 l1 l2 n (fun ins => bitsW ins g l1) (fun ins => bitsW ins g l2) h.lw.gr (by have := h.lw.len; omega) u.wo.len t.wo.len h1 h16 u.wo.cap t.wo.cap (u.wo.fr h.lw.gr) (t.wo.fr h.lw.gr) ⟨u.wd, fun _ => rfl⟩ ⟨t.wd, fun _ => rfl⟩).mono fun e w' hn => hn.op h (by
    rw [← u.num, ← t.num]; rfl)
theorem subW (h : LB w0 w B M v g k n pa ca pb cb la lb ai c L x y Q a b f) (hk : k ≤ 100000) (h1 : 1 ≤ n) (h16 : n ≤ 16) {q1 c1 q2 c2 N1 N2 : Nat} {l1 l2 : List Int} (u : Wn w g q1 c1 n l1 L N1) (t : Wn w g q2 c2 n l2 L N2) :
    Calls Try.prog 13 #[.pointer (some ⟨B, 0, none⟩), .slice (some ⟨q1, 0, none⟩) n c1, .slice (some ⟨q2, 0, none⟩) n c2] w (OP w0 w B M g k 160 n pa ca pb cb la lb ai c L x y Q a b f ((N1 + (2 ^ n - N2)) % 2 ^ n)) :=
  (sub_yes w B M v g (some ⟨q1, 0, none⟩) (some ⟨q2, 0, none⟩) c1 c2 l1 l2 n (fun ins => bitsW ins g l1) (fun ins => bitsW ins g l2) h.lw.gr (by have := h.lw.len; omega) u.wo.len t.wo.len h1 h16 u.wo.cap t.wo.cap (u.wo.fr h.lw.gr) (t.wo.fr h.lw.gr) ⟨u.wd, fun _ => rfl⟩ ⟨t.wd, fun _ => rfl⟩).mono fun e w' hn => hn.op h (by
    rw [← u.num, ← t.num]; rfl)
theorem mulW (h : LB w0 w B M v g k n pa ca pb cb la lb ai c L x y Q a b f) (hk : k ≤ 100000) (h1 : 1 ≤ n) (h16 : n ≤ 16) {q1 c1 q2 c2 N1 N2 : Nat} {l1 l2 : List Int} (u : Wn w g q1 c1 n l1 L N1) (t : Wn w g q2 c2 n l2 L N2) :
    Calls Try.prog 15 #[.pointer (some ⟨B, 0, none⟩), .slice (some ⟨q1, 0, none⟩) n c1, .slice (some ⟨q2, 0, none⟩) n c2] w (OP w0 w B M g k 4000 n pa ca pb cb la lb ai c L x y Q a b f (N1 * N2 % 2 ^ n)) :=
  (mul_any w B M v g (some ⟨q1, 0, none⟩) (some ⟨q2, 0, none⟩) c1 c2 l1 l2 n (fun ins => bitsW ins g l1) (fun ins => bitsW ins g l2) h.lw.gr (by have := h.lw.len; omega) u.wo.len t.wo.len h1 h16 u.wo.cap (u.wo.fr h.lw.gr) (t.wo.fr h.lw.gr) ⟨u.wd, fun _ => rfl⟩ ⟨t.wd, fun _ => rfl⟩).mono fun e w' hn => hn.op h (by
    rw [← u.num, ← t.num]; rfl)
theorem shlW (h : LB w0 w B M v g k n pa ca pb cb la lb ai c L x y Q a b f) (hk : k ≤ 100000) (h1 : 1 ≤ n) (h16 : n ≤ 16) {q1 c1 q2 c2 N1 N2 : Nat} {l1 l2 : List Int} (u : Wn w g q1 c1 n l1 L N1) (t : Wn w g q2 c2 n l2 L N2) :
    Calls Try.prog 26 #[.pointer (some ⟨B, 0, none⟩), .slice (some ⟨q1, 0, none⟩) n c1, .slice (some ⟨q2, 0, none⟩) n c2] w (OP w0 w B M g k 300 n pa ca pb cb la lb ai c L x y Q a b f (N1 * 2 ^ N2 % 2 ^ n)) :=
  (shl_yes w B M v g (some ⟨q1, 0, none⟩) (some ⟨q2, 0, none⟩) c1 c2 l1 l2 n (fun ins => bitsW ins g l1) (fun ins => bitsW ins g l2) h.lw.gr (by have := h.lw.len; omega) u.wo.len t.wo.len h1 h16 u.wo.cap t.wo.cap (u.wo.fr h.lw.gr) (t.wo.fr h.lw.gr) ⟨u.wd, fun _ => rfl⟩ ⟨t.wd, fun _ => rfl⟩).mono fun e w' hn => hn.op h (by
    rw [← u.num, ← t.num]; rfl)
theorem shrW (h : LB w0 w B M v g k n pa ca pb cb la lb ai c L x y Q a b f) (hk : k ≤ 100000) (h1 : 1 ≤ n) (h16 : n ≤ 16) {q1 c1 q2 c2 N1 N2 : Nat} {l1 l2 : List Int} (u : Wn w g q1 c1 n l1 L N1) (t : Wn w g q2 c2 n l2 L N2) :
    Calls Try.prog 28 #[.pointer (some ⟨B, 0, none⟩), .slice (some ⟨q1, 0, none⟩) n c1, .slice (some ⟨q2, 0, none⟩) n c2] w (OP w0 w B M g k 300 n pa ca pb cb la lb ai c L x y Q a b f (N1 / 2 ^ N2)) :=
  (shr_yes w B M v g (some ⟨q1, 0, none⟩) (some ⟨q2, 0, none⟩) c1 c2 l1 l2 n (fun ins => bitsW ins g l1) (fun ins => bitsW ins g l2) h.lw.gr (by have := h.lw.len; omega) u.wo.len t.wo.len h1 h16 u.wo.cap t.wo.cap (u.wo.fr h.lw.gr) (t.wo.fr h.lw.gr) ⟨u.wd, fun _ => rfl⟩ ⟨t.wd, fun _ => rfl⟩).mono fun e w' hn => hn.op h (by
    rw [← u.num, ← t.num]; rfl)
theorem negW (h : LB w0 w B M v g k n pa ca pb cb la lb ai c L x y Q a b f) (hk : k ≤ 100000) (h1 : 1 ≤ n) (h16 : n ≤ 16) {q1 c1 N1 : Nat} {l1 : List Int} (u : Wn w g q1 c1 n l1 L N1) :
    Calls Try.prog 14 #[.pointer (some ⟨B, 0, none⟩), .slice (some ⟨q1, 0, none⟩) n c1] w (OP w0 w B M g k 160 n pa ca pb cb la lb ai c L x y Q a b f ((2 ^ n - N1) % 2 ^ n)) :=
  (neg_yes w B M v g (some ⟨q1, 0, none⟩) c1 l1 n (fun ins => bitsW ins g l1) h.lw.gr (by have := h.lw.len; omega) u.wo.len h1 h16 u.wo.cap (u.wo.fr h.lw.gr) ⟨u.wd, fun _ => rfl⟩).mono fun e w' hn => hn.op h (by
    rw [← u.num]; rfl)
theorem notW (h : LB w0 w B M v g k n pa ca pb cb la lb ai c L x y Q a b f) (hk : k ≤ 100000) (h1 : 1 ≤ n) (h16 : n ≤ 16) {q1 c1 N1 : Nat} {l1 : List Int} (u : Wn w g q1 c1 n l1 L N1) :
    Calls Try.prog 24 #[.pointer (some ⟨B, 0, none⟩), .slice (some ⟨q1, 0, none⟩) n c1] w (OP w0 w B M g k 0 n pa ca pb cb la lb ai c L x y Q a b f (2 ^ n - 1 - N1)) :=
  (notw_yes w B M v g (some ⟨q1, 0, none⟩) c1 l1 n (fun ins => bitsW ins g l1) h.lw.gr (by have := h.lw.len; omega) u.wo.len h1 h16 (u.wo.fr h.lw.gr) ⟨u.wd, fun _ => rfl⟩).mono fun e w' hn => hn.op h (by
    rw [← u.num]; rfl)
/-- Bit by bit. -/
theorem zipW (h : LB w0 w B M v g k n pa ca pb cb la lb ai c L x y Q a b f) (hk : k ≤ 100000) (h1 : 1 ≤ n) (h16 : n ≤ 16) {q1 c1 q2 c2 N1 N2 : Nat} {l1 l2 : List Int} (u : Wn w g q1 c1 n l1 L N1) (t : Wn w g q2 c2 n l2 L N2) (o : Nat) {e : Ending} {w' : World}
    (hw : WP w B M v g n 48 (fun ins => List.zipWith (opK o) (bitsW ins g l1) (bitsW ins g l2)) e w') : OP w0 w B M g k 48 n pa ca pb cb la lb ai c L x y Q a b f (zipN o N1 N2 n 0) e w' := by
  refine (hw.np (N := fun ins => zipN o (numB (bitsW ins g l1)) (numB (bitsW ins g l2)) n 0) fun ins => ?_).op h (by rw [← u.num, ← t.num]; rfl)
  rw [zip_num o _ _ (by rw [bitsW_len, bitsW_len, u.wo.len, t.wo.len]), bitsW_len, u.wo.len]
theorem andW (h : LB w0 w B M v g k n pa ca pb cb la lb ai c L x y Q a b f) (hk : k ≤ 100000) (h1 : 1 ≤ n) (h16 : n ≤ 16) {q1 c1 q2 c2 N1 N2 : Nat} {l1 l2 : List Int} (u : Wn w g q1 c1 n l1 L N1) (t : Wn w g q2 c2 n l2 L N2) :
    Calls Try.prog 20 #[.pointer (some ⟨B, 0, none⟩), .slice (some ⟨q1, 0, none⟩) n c1, .slice (some ⟨q2, 0, none⟩) n c2] w (OP w0 w B M g k 48 n pa ca pb cb la lb ai c L x y Q a b f (zipN 0 N1 N2 n 0)) :=
  (andw_yes w B M v g (some ⟨q1, 0, none⟩) (some ⟨q2, 0, none⟩) c1 c2 l1 l2 n (fun ins => bitsW ins g l1) (fun ins => bitsW ins g l2) h.lw.gr (by have := h.lw.len; omega) u.wo.len t.wo.len h1 h16 u.wo.cap t.wo.cap (u.wo.fr h.lw.gr) (t.wo.fr h.lw.gr) ⟨u.wd, fun _ => rfl⟩ ⟨t.wd, fun _ => rfl⟩).mono fun e w' hn => zipW h hk h1 h16 u t 0 hn
theorem orW (h : LB w0 w B M v g k n pa ca pb cb la lb ai c L x y Q a b f) (hk : k ≤ 100000) (h1 : 1 ≤ n) (h16 : n ≤ 16) {q1 c1 q2 c2 N1 N2 : Nat} {l1 l2 : List Int} (u : Wn w g q1 c1 n l1 L N1) (t : Wn w g q2 c2 n l2 L N2) :
    Calls Try.prog 22 #[.pointer (some ⟨B, 0, none⟩), .slice (some ⟨q1, 0, none⟩) n c1, .slice (some ⟨q2, 0, none⟩) n c2] w (OP w0 w B M g k 48 n pa ca pb cb la lb ai c L x y Q a b f (zipN 1 N1 N2 n 0)) :=
  (orw_yes w B M v g (some ⟨q1, 0, none⟩) (some ⟨q2, 0, none⟩) c1 c2 l1 l2 n (fun ins => bitsW ins g l1) (fun ins => bitsW ins g l2) h.lw.gr (by have := h.lw.len; omega) u.wo.len t.wo.len h1 h16 u.wo.cap t.wo.cap (u.wo.fr h.lw.gr) (t.wo.fr h.lw.gr) ⟨u.wd, fun _ => rfl⟩ ⟨t.wd, fun _ => rfl⟩).mono fun e w' hn => zipW h hk h1 h16 u t 1 hn
theorem xorW (h : LB w0 w B M v g k n pa ca pb cb la lb ai c L x y Q a b f) (hk : k ≤ 100000) (h1 : 1 ≤ n) (h16 : n ≤ 16) {q1 c1 q2 c2 N1 N2 : Nat} {l1 l2 : List Int} (u : Wn w g q1 c1 n l1 L N1) (t : Wn w g q2 c2 n l2 L N2) :
    Calls Try.prog 23 #[.pointer (some ⟨B, 0, none⟩), .slice (some ⟨q1, 0, none⟩) n c1, .slice (some ⟨q2, 0, none⟩) n c2] w (OP w0 w B M g k 48 n pa ca pb cb la lb ai c L x y Q a b f (zipN 2 N1 N2 n 0)) :=
  (xorw_yes w B M v g (some ⟨q1, 0, none⟩) (some ⟨q2, 0, none⟩) c1 c2 l1 l2 n (fun ins => bitsW ins g l1) (fun ins => bitsW ins g l2) h.lw.gr (by have := h.lw.len; omega) u.wo.len t.wo.len h1 h16 u.wo.cap t.wo.cap (u.wo.fr h.lw.gr) (t.wo.fr h.lw.gr) ⟨u.wd, fun _ => rfl⟩ ⟨t.wd, fun _ => rfl⟩).mono fun e w' hn => zipW h hk h1 h16 u t 2 hn
theorem add_lb (h : LB w0 w B M v g k n pa ca pb cb la lb ai c L x y Q a b f) (hk : k ≤ 100000) (h1 : 1 ≤ n) (h16 : n ≤ 16) (hx : x < 2 ^ n) (hy : y < 2 ^ n) : Calls Try.prog 12 #[.pointer (some ⟨B, 0, none⟩), .slice (some ⟨pa, 0, none⟩) n ca, .slice (some ⟨pb, 0, none⟩) n cb] w (OP w0 w B M g k 160 n pa ca pb cb la lb ai c L x y Q a b f ((x + y) % 2 ^ n)) := addW h hk h1 h16 (h.lw.ax hx) (h.lw.bx hy)
theorem sub_lb (h : LB w0 w B M v g k n pa ca pb cb la lb ai c L x y Q a b f) (hk : k ≤ 100000) (h1 : 1 ≤ n) (h16 : n ≤ 16) (hx : x < 2 ^ n) (hy : y < 2 ^ n) : Calls Try.prog 13 #[.pointer (some ⟨B, 0, none⟩), .slice (some ⟨pa, 0, none⟩) n ca, .slice (some ⟨pb, 0, none⟩) n cb] w (OP w0 w B M g k 160 n pa ca pb cb la lb ai c L x y Q a b f ((x + (2 ^ n - y)) % 2 ^ n)) := subW h hk h1 h16 (h.lw.ax hx) (h.lw.bx hy)
theorem mul_lb (h : LB w0 w B M v g k n pa ca pb cb la lb ai c L x y Q a b f) (hk : k ≤ 100000) (h1 : 1 ≤ n) (h16 : n ≤ 16) (hx : x < 2 ^ n) (hy : y < 2 ^ n) : Calls Try.prog 15 #[.pointer (some ⟨B, 0, none⟩), .slice (some ⟨pa, 0, none⟩) n ca, .slice (some ⟨pb, 0, none⟩) n cb] w (OP w0 w B M g k 4000 n pa ca pb cb la lb ai c L x y Q a b f (x * y % 2 ^ n)) := mulW h hk h1 h16 (h.lw.ax hx) (h.lw.bx hy)
theorem neg_lb (h : LB w0 w B M v g k n pa ca pb cb la lb ai c L x y Q a b f) (hk : k ≤ 100000) (h1 : 1 ≤ n) (h16 : n ≤ 16) (hx : x < 2 ^ n) : Calls Try.prog 14 #[.pointer (some ⟨B, 0, none⟩), .slice (some ⟨pa, 0, none⟩) n ca] w (OP w0 w B M g k 160 n pa ca pb cb la lb ai c L x y Q a b f ((2 ^ n - x) % 2 ^ n)) := negW h hk h1 h16 (h.lw.ax hx)
/-- What a division tells: quotient and rest. -/
theorem divW (h : LB w0 w B M v g k n pa ca pb cb la lb ai c L x y Q a b f) (hk : k ≤ 100000) (h1 : 1 ≤ n) (h16 : n ≤ 16) {q1 c1 q2 c2 N1 N2 : Nat} {l1 l2 : List Int} (u : Wn w g q1 c1 n l1 L N1) (t : Wn w g q2 c2 n l2 L N2) :
    Calls Try.prog 17 #[.pointer (some ⟨B, 0, none⟩), .slice (some ⟨q1, 0, none⟩) n c1, .slice (some ⟨q2, 0, none⟩) n c2] w fun e w' => ∃ q r ql rl v' g', e = .returned (.tuple #[.slice (some ⟨q, 0, none⟩) n n, .slice (some ⟨r, 0, none⟩) n n]) ∧ LB w0 w' B M v' g' (k + 5000) n pa ca pb cb la lb ai c L x y Q a b f ∧
      Wn w' g' q n n ql L (if N2 = 0 then 2 ^ n - 1 else N1 / N2) ∧ Wn w' g' r n n rl L (N1 % N2) := by
  refine (div_yes w B M v g (some ⟨q1, 0, none⟩) (some ⟨q2, 0, none⟩) c1 c2 l1 l2 n (fun ins => bitsW ins g l1) (fun ins => bitsW ins g l2) h.lw.gr (by have := h.lw.len; omega) u.wo.len t.wo.len h1 h16 u.wo.cap t.wo.cap (u.wo.fr h.lw.gr) (t.wo.fr h.lw.gr) ⟨u.wd, fun _ => rfl⟩ ⟨t.wd, fun _ => rfl⟩).mono fun e w' hn => ?_
  obtain ⟨q, r, ql, rl, v', g', Qf, Rf, rfl, hd, hq, hr, hnq, hnr⟩ := hn
  refine ⟨q, r, ql, rl, v', g', rfl, h.st hd.mq.st, ⟨⟨hd.mq.rw.row, hd.mq.len, Nat.le_refl _, _, _, hd.mq.rw⟩, hq.1, ?_⟩, ⟨⟨hd.mr.rw.row, hd.mr.len, Nat.le_refl _, _, _, hd.mr.rw⟩, hr.1, ?_⟩⟩
  · unfold numW; rw [hq.2 L, hnq L, ← u.num, ← t.num]; rfl
  · unfold numW; rw [hr.2 L, hnr L, ← u.num, ← t.num]; rfl
end
/-- The law's world, behind its words. -/
theorem law_start {w W : World} {B M n pa ca pb cb c x y a b f : Nat} {v : Value} {g : List Gt} {la lb : List Int} {ai : Option Addr} {L : List Bool} (h : LW W B M v g 32 n pa ca pb cb la lb ai c L x y) (hb : Box W w.heap.size a b f) (hw : Below w.heap.size w W) (hlo : ∀ b, Sv B M v b → w.heap.size + 1 ≤ b) :
    LB w (W.drewN 1) B M v g 32 n pa ca pb cb la lb ai c L x y w.heap.size a b f :=
  (LB.mk h hb (fun b h => by have := hlo b h; omega) hw).below (below_drewN (Below.refl _ _) 1)
end Go.Proofs.Ytdjfciigfledhaa
