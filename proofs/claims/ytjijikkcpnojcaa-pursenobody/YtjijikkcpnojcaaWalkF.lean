/- Contract: a new purse. -/
import Derived.Test.YtjijikkcpnojcaaWalkE
import Derived.Deep.OwnRows
import Derived.Deep.CutBlock
import Derived.Deep.RegionHeld3
set_option linter.unusedVariables false
set_option linter.unusedSimpArgs false
namespace Go.Proofs.Ytjijikkcpnojcaa
open Go.RowKit Go.Conc

/-- The numbers behind a slice. -/
def Row (w : World) (a : Option Addr) (xs : List Int) : Prop :=
  ∀ i (h : i < xs.length), ∃ b off, a = some ⟨b, off, none⟩ ∧ b < w.heap.size ∧ w.cell? ⟨b, off + i, none⟩ = some (.int .i64 xs[i])
theorem Row.below {w W : World} {a : Option Addr} {xs : List Int} (h : Row w a xs) (hb : Below w.heap.size w W) : Row W a xs := by
  intro k hk
  obtain ⟨q, off, e, hq, c0⟩ := h k hk
  exact ⟨q, off, e, Nat.lt_of_lt_of_le hq hb.size, (hb.cell (p := ⟨q, off + k, none⟩) hq).trans c0⟩

/-- Whether there may be such rooms. -/
def mayB (xs : List Int) : Bool := xs.all cntB && decide (1 ≤ xs.length) && decide (xs.length ≤ 8)
def roomF (xs : List Int) (i : Nat) : Nat := (xs.getD i 0).toNat
theorem roomF_at {xs : List Int} {i m : Nat} (hi : i < xs.length) (h : xs[i] = (m : Int)) : roomF xs i = m := by
  unfold roomF
  rw [List.getD_eq_getElem?_getD, List.getElem?_eq_getElem hi]
  simp [h]

theorem Try.info48 : (Try.prog.info? 48).map (fun i => (i.zero, i.size, i.bytes)) = some (some (.chan none), 1, 8) := by kernel_rfl
theorem info_parts {e : TypeId} {z : Value} {sz by' : Nat} (h : (Try.prog.info? e).map (fun i => (i.zero, i.size, i.bytes)) = some (some z, sz, by')) : ∃ i, Try.prog.info? e = some i ∧ i.zero = some z ∧ i.size = sz ∧ i.bytes = by' := by
  obtain ⟨i, hi, e⟩ := Option.map_eq_some_iff.1 h
  simp at e
  exact ⟨i, hi, e.1, e.2.1, e.2.2⟩
theorem make_chan (w : World) (m : Nat) (hm : m ≤ 4096) : (Instr.makeChan 48 (.int .i64 (m : Int))).run Try.prog w = .ok (.chan (some w.heap.size)) (w.alloc (.chan m #[] false 0 0 false)) := by
  obtain ⟨i, hi, e⟩ := Option.map_eq_some_iff.1 Try.info55
  simp at e
  exact run_makeChan Try.underlying48 hi .i64 m (by omega) (by rw [e.2]; omega)

/-- A purse in the making: k kinds are there. -/
structure Nw (w W : World) (p k : Nat) (kv : Value) (ch room : Nat → Nat) : Prop where
  lp : w.heap.size ≤ p
  head : W.heap[p]? = some (.cells #[.pointer none, kv, .int .i64 (sumN room k : Int), .int .i64 0] 43 (0, 0))
  own : W.ownsRow w.heap.size 48 1 kv k ((List.range k).map fun i => .chan (some (ch i)))
  chs : ∀ i, i < k → Ch W (ch i) (room i) (room i)
  inj : ∀ i j, i < k → j < k → ch i = ch j → i = j
  lc : ∀ i, i < k → w.heap.size ≤ ch i
  bel : Below w.heap.size w W
/-- A channel more is there, it is full, and counted. -/
structure Nc (w W : World) (p k C : Nat) (kv : Value) (ch room : Nat → Nat) : Prop where
  lp : w.heap.size ≤ p
  head : W.heap[p]? = some (.cells #[.pointer none, kv, .int .i64 (sumN room k + room k : Int), .int .i64 0] 43 (0, 0))
  own : W.ownsRow w.heap.size 48 1 kv k ((List.range k).map fun i => .chan (some (ch i)))
  chs : ∀ i, i < k → Ch W (ch i) (room i) (room i)
  inj : ∀ i j, i < k → j < k → ch i = ch j → i = j
  lc : ∀ i, i < k → w.heap.size ≤ ch i
  new : Ch W C (room k) (room k)
  lC : w.heap.size ≤ C
  ne : ∀ i, i < k → ch i ≠ C
  bel : Below w.heap.size w W

theorem own_same {W W' : World} {base : Nat} {kv : Value} {k : Nat} {xs : List Value} (h : W.ownsRow base 48 1 kv k xs) (e : ∀ g, kv.ownBlock = some g → W'.heap[g]? = W.heap[g]?) : W'.ownsRow base 48 1 kv k xs := by
  refine ⟨h.1, ?_⟩
  rcases h.2 with h | ⟨g, cap, cur, rfl, hb, hg, r⟩
  · exact .inl h
  · exact .inr ⟨g, cap, cur, rfl, hb, (e g rfl).trans hg, r⟩
theorem own_at {W : World} {base : Nat} {kv : Value} {k : Nat} {xs : List Value} (h : W.ownsRow base 48 1 kv k xs) {g : Nat} (e : kv.ownBlock = some g) : base ≤ g ∧ ∃ cur, W.heap[g]? = some (.cells cur 48 (0, 0)) := by
  rcases h.2 with ⟨rfl, _⟩ | ⟨g', cap, cur, rfl, hb, hg, r⟩
  · simp [Value.ownBlock] at e
  · simp [Value.ownBlock] at e
    subst e
    exact ⟨hb, cur, hg⟩

theorem nw_new (w : World) (room : Nat → Nat) : Nw w (w.alloc (.cells #[.pointer none, .slice none 0 0, .int .i64 0, .int .i64 0] 43)) w.heap.size 0 (.slice none 0 0) (fun _ => 0) room :=
  ⟨Nat.le_refl _, heap_alloc_new w _, ⟨rfl, .inl ⟨rfl, rfl⟩⟩, fun i hi => absurd hi (by omega), fun i j hi => absurd hi (by omega), fun i hi => absurd hi (by omega), (Below.refl _ _).alloc (Nat.le_refl _) _⟩

/-- The new channel is filled, and counted. -/
theorem Nw.fill {w W W2 : World} {p k : Nat} {kv : Value} {ch room : Nat → Nat} (h : Nw w W p k kv ch room) (m : Nat) (hc : Ch W2 W.heap.size (room k) (room k)) (kp : Kp (fun b => b = W.heap.size) (W.alloc (.chan (room k) #[] false 0 0 false)) W2) :
    Nc w ((W2.setCell ⟨p, 2, none⟩ (.int .i64 (sumN room k + room k : Int))).drewN m) p k W.heap.size kv ch room := by
  have hold : ∀ b, b < W.heap.size → W2.heap[b]? = W.heap[b]? := fun b hb => by
    rw [kp.block b (by simp; omega) (by omega), heap_alloc_old W _ hb]
  have hp : W2.heap[p]? = _ := (hold p (lt_of_block h.head)).trans h.head
  have ch3 : ∀ {c cap n}, Ch W2 c cap n → Ch ((W2.setCell ⟨p, 2, none⟩ (.int .i64 (sumN room k + room k : Int))).drewN m) c cap n := fun {c cap n} hc => hc.same (hd_far (Ne.symm (ne_chan hp hc)))
  refine ⟨h.lp, (hd_set hp).trans (by simp), ?_, fun i hi => ch3 ((h.chs i hi).same (hold _ (h.chs i hi).lt)), h.inj, h.lc, ch3 hc, h.bel.size, fun i hi => Nat.ne_of_lt (h.chs i hi).lt, ?_⟩
  · refine own_same h.own (fun g hg => ?_)
    obtain ⟨_, cur, hcur⟩ := own_at h.own hg
    refine Eq.trans (hd_far ?_) (hold g (lt_of_block hcur))
    intro e
    subst e
    rw [h.head] at hcur
    injection hcur with hcur
    injection hcur with _ ht
    exact absurd ht (by decide)
  · have hb2 : Below w.heap.size w W2 := Kp.bel (h.bel.alloc h.bel.size _) kp (fun b hb => by have := h.bel.size; omega)
    exact below_drewN (hb2.setCell h.lp _) m

/-- Behind the append. -/
theorem Nc.grow {w W w3 : World} {p k C g cap : Nat} {kv : Value} {ch room : Nat → Nat} {o : Obj} (h : Nc w W p k C kv ch room) (hg : (W.alloc o).grownBy w3 kv.ownBlock) (hown : w3.ownsRow w.heap.size 48 1 (.slice (some ⟨g, 0, none⟩) (k + 1) cap) (k + 1) (((List.range k).map fun i => .chan (some (ch i))) ++ [.chan (some C)])) :
    w3.heap[p]? = W.heap[p]? ∧ Nw w (w3.setCell ⟨p, 1, none⟩ (.slice (some ⟨g, 0, none⟩) (k + 1) cap)) p (k + 1) (.slice (some ⟨g, 0, none⟩) (k + 1) cap) (upd ch k C) room := by
  have hold : ∀ b, b < W.heap.size → kv.ownBlock ≠ some b → w3.heap[b]? = W.heap[b]? := fun b hb hne => by
    rw [hg.block b (by simp; omega) (fun e => hne e.symm), heap_alloc_old W _ hb]
  have np : kv.ownBlock ≠ some p := by
    intro e
    obtain ⟨_, cur, hcur⟩ := own_at h.own e
    rw [h.head] at hcur
    injection hcur with hcur
    injection hcur with _ ht
    exact absurd ht (by decide)
  have nc : ∀ {c a n}, Ch W c a n → kv.ownBlock ≠ some c := fun {c a n} hc e => by
    obtain ⟨_, cur, hcur⟩ := own_at h.own e
    exact ne_chan hcur hc rfl
  have hp : w3.heap[p]? = W.heap[p]? := hold p (lt_of_block h.head) np
  have hp' := hp.trans h.head
  have ch3 : ∀ {c a n}, Ch W c a n → Ch (w3.setCell ⟨p, 1, none⟩ (.slice (some ⟨g, 0, none⟩) (k + 1) cap)) c a n := fun {c a n} hc => by
    have h3 : Ch w3 c a n := hc.same (hold _ hc.lt (nc hc))
    exact h3.same (hd_far (Ne.symm (ne_chan hp' h3)))
  have hown' : w3.ownsRow w.heap.size 48 1 (.slice (some ⟨g, 0, none⟩) (k + 1) cap) (k + 1) ((List.range (k + 1)).map fun i => .chan (some (upd ch k C i))) := by
    have e : ((List.range (k + 1)).map fun i => Value.chan (some (upd ch k C i))) = ((List.range k).map fun i => .chan (some (ch i))) ++ [.chan (some C)] := by
      rw [List.range_succ, List.map_append]
      congr 1
      · apply List.map_congr_left
        intro i hi
        rw [upd_other (by have := List.mem_range.1 hi; omega)]
      · simp [upd_same]
    rw [e]; exact hown
  have bel3 : Below w.heap.size w w3 := ⟨hg.os.trans h.bel.os, hg.tape.trans h.bel.tape, hg.output.trans h.bel.output, Nat.le_trans h.bel.size (Nat.le_trans (by simp) hg.size), fun b hb => by
    refine (hold b (Nat.lt_of_lt_of_le hb h.bel.size) (fun e => ?_)).trans (h.bel.block b hb)
    have := (own_at h.own e).1
    omega⟩
  refine ⟨hp, h.lp, (hd_set hp').trans (by simp [sumN]), own_same hown' (fun b hb => ?_), fun i hi => ?_, fun i j hi hj e => ?_, fun i hi => ?_, bel3.setCell h.lp _⟩
  · refine hd_far ?_
    intro e
    subst e
    obtain ⟨_, cur, hcur⟩ := own_at hown' hb
    rw [hp'] at hcur
    injection hcur with hcur
    injection hcur with _ ht
    exact absurd ht (by decide)
  · by_cases e : i = k
    · subst e; rw [upd_same]; exact ch3 h.new
    · rw [upd_other e]; exact ch3 (h.chs i (by omega))
  · by_cases e1 : i = k
    · subst e1
      by_cases e2 : j = i
      · exact e2.symm
      · rw [upd_same, upd_other e2] at e
        exact absurd e.symm (h.ne j (by omega))
    · by_cases e2 : j = k
      · subst e2
        rw [upd_same, upd_other e1] at e
        exact absurd e (h.ne i (by omega))
      · rw [upd_other e1, upd_other e2] at e
        exact h.inj i j (by omega) (by omega) e
  · by_cases e : i = k
    · subst e; rw [upd_same]; exact h.lC
    · rw [upd_other e]; exact h.lc i (by omega)

/-- It is done. -/
theorem Nw.done {w W : World} {p N : Nat} {kv : Value} {ch room : Nat → Nat} (h : Nw w W p N kv ch room) (h1 : 1 ≤ N) (h8 : N ≤ 8) (hr : ∀ i, i < N → room i ≤ 4096) :
    ∃ K kc, kv = .slice (some ⟨K, 0, none⟩) N kc ∧ Pu (W.setCell ⟨p, 0, none⟩ (.pointer (some ⟨p, 0, none⟩))) p K kc N ch room room 0 := by
  rcases h.own.2 with ⟨_, e⟩ | ⟨g, cap, cur, rfl, hb, hg, hn, hm, hs, ht⟩
  · omega
  · refine ⟨g, cap, rfl, h1, h8, (hd_set h.head).trans (by simp), ?_, fun i hi => (h.chs i hi).same (hd_far (Ne.symm (ne_chan h.head (h.chs i hi)))), h.inj, fun i _ => Nat.le_refl _, hr, Nat.zero_le _⟩
    have hk : Kin W g cap N ch := by
      refine ⟨cur, hg, by omega, hn, hm, fun i hi => ?_⟩
      have : (cur.toList.take (N * 1))[i]? = some (.chan (some (ch i))) := by rw [ht]; simp [hi]
      rw [List.getElem?_take_of_lt (by omega)] at this
      simpa using this
    refine hk.same (hd_far ?_)
    intro e
    subst e
    rw [h.head] at hg
    injection hg with hg
    injection hg with _ ht
    exact absurd ht (by decide)
end Go.Proofs.Ytjijikkcpnojcaa
