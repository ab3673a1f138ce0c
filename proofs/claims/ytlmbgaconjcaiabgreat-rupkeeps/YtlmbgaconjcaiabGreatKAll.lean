/- Joined: Contracts: the law's world at its beginning. Contracts: whether the law takes a literal for open. Contracts: the law decides a literal. -/
import Derived.Test.YtlmbgaconjcaiabGreatHd
import Derived.Deep.RegionHeld3
import Derived.Deep.RegionWith
import Derived.BigQuiet
import Derived.Test.YtlmbgaconjcaiabGreatHc
import Derived.Test.YtlmbgaconjcaiabGreatIa
import Derived.Deep.AppendLies
import Derived.Deep.RegionLaw
import Derived.Deep.DeepCutAuto
import Derived.Deep.CutBlock
set_option linter.unusedVariables false
set_option linter.unusedSimpArgs false
namespace Go.Proofs.YtlmbgaconjcaiabGreat
open Go.RowKit

theorem Tryz.info4b : (Tryz.prog.info? 4).map (fun i => (i.zero, i.size, i.bytes)) = some (some (.bool false), 1, 1) := by kernel_rfl

/-- What is nobody's may turn. -/
theorem Rep.off {ρ : Nat → Rl} {w w' : World} {B : Nat} {H : Hd} {s : PS} (h : Rep ρ w B H s) (hk : ∀ b, b < w.heap.size → ρ b ≠ oth → w'.heap[b]? = w.heap[b]?) : Rep ρ w' B H s := by
  refine ⟨⟨fun r x hr => own_same (h.hold.own r x hr) (fun k e => hk k (h.hold.lt hr e) ?_), h.hold.rl⟩, h.wr, h.lr⟩
  rw [h.hold.rl r x k hr e]
  rintro rfl
  cases hr

/-- One block turned, a struct's. -/
structure U5 (w W : World) (g : Nat) (xs : List Value) : Prop where
  own : W.ownsRow 0 36 5 (obj1 g) 1 xs
  off : ∀ b, b ≠ g → W.heap[b]? = w.heap[b]?
  size : W.heap.size = w.heap.size
  rest : W.os = w.os ∧ W.tape = w.tape ∧ W.output = w.output

theorem U5.set {w W : World} {g : Nat} {xs : List Value} (h : U5 w W g xs) (i : Nat) (v : Value) : U5 w (W.setCell ⟨g, i, none⟩ v) g (xs.set i v) :=
  ⟨own_set h.own rfl v, fun b hb => (Below.heap_setCell _ _ _ _ hb).trans (h.off b hb), by rw [← h.size]; simp [World.setCell], h.rest⟩
theorem U5.first {w : World} {g : Nat} {x : Array Value} (hx : x.size = 5) (hb : w.heap[g]? = some (.cells x 36 (0, 0))) : U5 w w g x.toList :=
  ⟨own_of_block hb hx, fun _ _ => rfl, rfl, rfl, rfl, rfl⟩
theorem U5.last {w W : World} {g : Nat} {xs : List Value} (h : U5 w W g xs) (o : Obj) :
    (∀ b, b ≠ g → b < w.heap.size → (W.alloc o).drew.heap[b]? = w.heap[b]?) ∧ (W.alloc o).drew.heap[w.heap.size]? = some o ∧ (W.alloc o).drew.heap.size = w.heap.size + 1 ∧ ((W.alloc o).drew.os = w.os ∧ (W.alloc o).drew.tape = w.tape ∧ (W.alloc o).drew.output = w.output) ∧
    ∀ i u, xs[i]? = some u → (W.alloc o).drew.cell? ⟨g, i, none⟩ = some u := by
  refine ⟨fun b hb hl => ?_, ?_, ?_, h.rest, fun i u hi => own_cell (g := g) (h.own.alloc o) rfl hi⟩
  · show (W.alloc o).heap[b]? = _
    rw [heap_alloc_old _ _ (by rw [h.size]; exact hl)]
    exact h.off b hb
  · show (W.alloc o).heap[w.heap.size]? = _
    rw [← h.size]; exact heap_alloc_new _ _
  · show (W.alloc o).heap.size = _
    rw [← h.size]; simp

def BeginP (w : World) (V : Nat) (css : List (List Int)) (B g : Nat) (w' : World) : Prop :=
  ∃ ρ H, Rep ρ w' B H (css.foldl PS.attach (PS.zero V)) ∧ Ev free w ρ w' ∧ w.heap.size ≤ g ∧ ρ g = oth ∧ w'.heap[g]? = some (.cells (madeCells #[.bool false] css.length) 4 (0, 0))

end Go.Proofs.YtlmbgaconjcaiabGreat

namespace Go.Proofs.YtlmbgaconjcaiabGreat
open Go.RowKit

def openB (V : Nat) (t : List Int) (l : Int) : Bool := litB l 1048576 && decide (varI l ≤ V) && !(hasB t l) && !(hasB t (-l))

section
variable {ρ : Nat → Rl} {w : World} {B : Nat} {H : Hd} {s : PS}
end
end Go.Proofs.YtlmbgaconjcaiabGreat

namespace Go.Proofs.YtlmbgaconjcaiabGreat
open Go.RowKit

/-- All blocks from one on are nobody's. -/
def fr (ρ : Nat → Rl) (n : Nat) : Nat → Rl := fun b => if b < n then ρ b else oth
theorem fr_old {ρ : Nat → Rl} {n b : Nat} (h : b < n) : fr ρ n b = ρ b := if_pos h
theorem fr_new {ρ : Nat → Rl} {n b : Nat} (h : n ≤ b) : fr ρ n b = oth := if_neg (by omega)
theorem Rep.fr {ρ : Nat → Rl} {w w' : World} {B : Nat} {H : Hd} {s : PS} (h : Rep ρ w B H s) (hb : Below w.heap.size w w') : Rep (fr ρ w.heap.size) w' B H s := (h.role (fun b hb => fr_old hb)).below hb
theorem Ev.fr {ρ : Nat → Rl} {w w' : World} (hb : Below w.heap.size w w') : Ev ρ w (fr ρ w.heap.size) w' := ⟨hb.os, hb.tape, hb.output, hb.size, fun b h => fr_old h, fun b h _ => hb.block b h⟩

/-- A row of numbers that is nobody's. -/
def DR (ρ : Nat → Rl) (w : World) (v : Value) (n : Nat) (ds : List Int) : Prop := w.ownsRow 0 3 1 v n (intC ds) ∧ ∀ g, v.ownBlock = some g → ρ g = oth
theorem DR.ev {ρ ρ' : Nat → Rl} {w w' : World} {v : Value} {n : Nat} {ds : List Int} (h : DR ρ w v n ds) (hE : Ev ρ w ρ' w') : DR ρ' w' v n ds := by
  have hlt : ∀ g, v.ownBlock = some g → g < w.heap.size := fun g hg => (World.ownsRow.lt h.1 g hg).2
  exact ⟨own_same h.1 (fun k hk => hE.keep k (hlt k hk) (h.2 k hk)), fun g hg => (hE.agree g (hlt g hg)).trans (h.2 g hg)⟩
theorem DR.nil (ρ : Nat → Rl) (w : World) : DR ρ w (.slice none 0 0) 0 [] := ⟨World.ownsRow_nil _ _ _ _, fun g hg => by simp [Value.ownBlock] at hg⟩

theorem own_lit0 (W : World) (base : Nat) (hb : base ≤ W.heap.size) : (W.alloc (.cells #[] 3)).ownsRow base 3 1 (.slice (some ⟨W.heap.size, 0, none⟩) 0 0) 0 [] :=
  ⟨rfl, .inr ⟨W.heap.size, 0, #[], rfl, hb, heap_alloc_new W _, Nat.le_refl _, by unfold maxLen; omega, rfl, rfl⟩⟩
theorem own_lit1 (W : World) (o : Obj) (base : Nat) (hb : base ≤ W.heap.size) : ((W.alloc o).alloc (.cells #[] 3)).ownsRow base 3 1 (.slice (some ⟨W.heap.size + 1, 0, none⟩) 0 0) 0 [] := by
  have := own_lit0 (W.alloc o) base (by simp; omega)
  simpa using this

theorem heap3 (w : World) (o1 o2 o3 : Obj) : ((((w.alloc o1).alloc o2).alloc o3).heap[w.heap.size]? = some o1 ∧ (((w.alloc o1).alloc o2).alloc o3).heap[w.heap.size + 1]? = some o2 ∧ (((w.alloc o1).alloc o2).alloc o3).heap[w.heap.size + 1 + 1]? = some o3) ∧ (((w.alloc o1).alloc o2).alloc o3).heap.size = w.heap.size + 1 + 1 + 1 := by
  have s1 : (w.alloc o1).heap.size = w.heap.size + 1 := by simp
  have s2 : ((w.alloc o1).alloc o2).heap.size = w.heap.size + 1 + 1 := by simp
  refine ⟨⟨?_, ?_, ?_⟩, by simp⟩
  · rw [heap_alloc_old _ _ (by omega), heap_alloc_old _ _ (by omega)]; exact heap_alloc_new w o1
  · rw [heap_alloc_old _ _ (by omega), ← s1]; exact heap_alloc_new _ o2
  · rw [← s2]; exact heap_alloc_new _ o3

/-- The blocks that an act of the law keeps for itself: the world, the act, the result. -/
structure Bx (W : World) (b2 b3 b4 : Nat) (wv av rv : Array Value) : Prop where
  k2 : W.heap[b2]? = some (.cells wv 36 (0, 0))
  k3 : W.heap[b3]? = some (.cells av 41 (0, 0))
  k4 : W.heap[b4]? = some (.cells rv 36 (0, 0))
theorem Bx.below {W W' : World} {b2 b3 b4 : Nat} {wv av rv : Array Value} (h : Bx W b2 b3 b4 wv av rv) (hb : Below W.heap.size W W') : Bx W' b2 b3 b4 wv av rv :=
  ⟨(hb.block _ (lt_of_block h.k2)).trans h.k2, (hb.block _ (lt_of_block h.k3)).trans h.k3, (hb.block _ (lt_of_block h.k4)).trans h.k4⟩
theorem Bx.ev {W W' : World} {ρ ρ' : Nat → Rl} {b2 b3 b4 : Nat} {wv av rv : Array Value} (h : Bx W b2 b3 b4 wv av rv) (hE : Ev ρ W ρ' W') (hr : ρ b2 = oth ∧ ρ b3 = oth ∧ ρ b4 = oth) : Bx W' b2 b3 b4 wv av rv :=
  ⟨(hE.keep _ (lt_of_block h.k2) hr.1).trans h.k2, (hE.keep _ (lt_of_block h.k3) hr.2.1).trans h.k3, (hE.keep _ (lt_of_block h.k4) hr.2.2).trans h.k4⟩

def ActP (ρ : Nat → Rl) (w : World) (B : Nat) (t : PS) (v : Value) (n : Nat) (ds : List Int) (w' : World) : Prop := ∃ ρ' H', Rep ρ' w' B H' t ∧ Ev ρ w ρ' w' ∧ DR ρ' w' v n ds

theorem ents_e (B : Nat) (H : Hd) (s : PS) : ∀ r x, ents B H s r = some x → x.e ≠ 36 := by
  refine rl_cases ?_ ?_ (fun i => ?_) (fun i => ?_) ?_ ?_ (fun i => ?_) ?_ ?_ ?_ (fun i => ?_) ?_ (fun k i hn _ _ _ _ _ _ _ _ _ _ _ _ => ?_)
  all_goals intro x hx
  case _ => simp only [ents, Option.some.injEq] at hx; subst hx; simp
  case _ => simp only [ents, Option.some.injEq] at hx; subst hx; simp
  case _ => simp only [ents, Option.map_eq_some_iff] at hx; obtain ⟨c, _, rfl⟩ := hx; simp
  case _ => simp only [ents, Option.map_eq_some_iff] at hx; obtain ⟨c, _, rfl⟩ := hx; simp
  case _ => simp only [ents, Option.some.injEq] at hx; subst hx; simp
  case _ => simp only [ents, Option.some.injEq] at hx; subst hx; simp
  case _ => simp only [ents] at hx; unfold watE at hx; split at hx <;> simp at hx; subst hx; simp
  case _ => simp only [ents, Option.some.injEq] at hx; subst hx; simp
  case _ => simp only [ents, Option.some.injEq] at hx; subst hx; simp
  case _ => simp only [ents, Option.some.injEq] at hx; subst hx; simp
  case _ => simp only [ents] at hx; unfold lvlE at hx; split at hx <;> simp at hx; subst hx; simp
  case _ => simp only [ents, Option.some.injEq] at hx; subst hx; simp
  case _ => rw [hn] at hx; cases hx

theorem own_ty {w : World} {base e sz n g : Nat} {v : Value} {xs : List Value} (h : w.ownsRow base e sz v n xs) (hg : v.ownBlock = some g) : ∃ cs, w.heap[g]? = some (.cells cs e (0, 0)) := by
  rcases h.2 with ⟨rfl, _⟩ | ⟨g', cap, cur, rfl, hb, hgg, _⟩
  · simp [Value.ownBlock] at hg
  · simp [Value.ownBlock] at hg; subst hg; exact ⟨_, hgg⟩

/-- A block of the law's own turned. -/
theorem ActP.step {ρ : Nat → Rl} {w W W' : World} {B : Nat} {t : PS} {v : Value} {n g : Nat} {ds : List Int} {cs : Array Value} (h : ActP ρ w B t v n ds W) (hg : W.heap[g]? = some (.cells cs 36 (0, 0))) (hge : w.heap.size ≤ g) (hoff : ∀ b, b ≠ g → W'.heap[b]? = W.heap[b]?) (hsz : W'.heap.size = W.heap.size) (hr : W'.os = W.os ∧ W'.tape = W.tape ∧ W'.output = W.output) : ActP ρ w B t v n ds W' := by
  obtain ⟨ρ', H', hR, hE, hD⟩ := h
  have hne : ∀ (e : TypeId) (cs' : Array Value) (k : Nat), e ≠ 36 → W.heap[k]? = some (.cells cs' e (0, 0)) → k ≠ g := by
    rintro e cs' k he hk rfl
    rw [hg] at hk; simp at hk; exact he hk.2.symm
  refine ⟨ρ', H', ⟨⟨fun r x hx => own_same (hR.hold.own r x hx) (fun k hk => hoff k ?_), hR.hold.rl⟩, hR.wr, hR.lr⟩, ?_, own_same hD.1 (fun k hk => hoff k ?_), hD.2⟩
  · obtain ⟨cs', hc⟩ := own_ty (hR.hold.own r x hx) hk
    exact hne _ _ _ (ents_e _ _ _ r x hx) hc
  · exact ⟨hr.1.trans hE.os, hr.2.1.trans hE.tape, hr.2.2.trans hE.output, by rw [hsz]; exact hE.size, hE.agree, fun b hb ho => (hoff b (by omega)).trans (hE.keep b hb ho)⟩
  · obtain ⟨cs', hc⟩ := own_ty hD.1 hk
    exact hne _ _ _ (by decide) hc

theorem U5.cell {w W : World} {g : Nat} {xs : List Value} (h : U5 w W g xs) {i : Nat} {u : Value} (hi : xs[i]? = some u) : W.cell? ⟨g, i, none⟩ = some u := own_cell (g := g) h.own rfl hi

theorem act0_fin {ρ ρ2 : Nat → Rl} {w w2 w4 : World} {B : Nat} {H2 : Hd} {t : PS} {ds : List Int} {l : Int} {g2 n4 cap2 b2 b3 b4 : Nat} {v0 v1 v2 v3 v4 : Value} {av rv : Array Value} (hR2 : Rep ρ2 w2 B H2 t) (hE2 : Ev ρ w ρ2 w2) (hBX : Bx w2 b2 b3 b4 #[v0, v1, v2, v3, v4] av rv) (hx : b2 ≠ b4) (hn : w.heap.size = b2) (hbl2 : Below w2.heap.size w2 w4) (ho2 : w4.ownsRow w2.heap.size 3 1 (.slice (some ⟨g2, 0, none⟩) (n4 + 1) cap2) (n4 + 1) (intC ds ++ [.int .i64 l])) :
    ((w4.setCell ⟨b2, 4, none⟩ (.slice (some ⟨g2, 0, none⟩) (n4 + 1) cap2)).cell? ⟨b2, 0, none⟩ = some v0 ∧ (w4.setCell ⟨b2, 4, none⟩ (.slice (some ⟨g2, 0, none⟩) (n4 + 1) cap2)).cell? ⟨b2, 1, none⟩ = some v1 ∧ (w4.setCell ⟨b2, 4, none⟩ (.slice (some ⟨g2, 0, none⟩) (n4 + 1) cap2)).cell? ⟨b2, 2, none⟩ = some v2 ∧ (w4.setCell ⟨b2, 4, none⟩ (.slice (some ⟨g2, 0, none⟩) (n4 + 1) cap2)).cell? ⟨b2, 3, none⟩ = some v3 ∧ (w4.setCell ⟨b2, 4, none⟩ (.slice (some ⟨g2, 0, none⟩) (n4 + 1) cap2)).cell? ⟨b2, 4, none⟩ = some (.slice (some ⟨g2, 0, none⟩) (n4 + 1) cap2)) ∧ (w4.setCell ⟨b2, 4, none⟩ (.slice (some ⟨g2, 0, none⟩) (n4 + 1) cap2)).heap[b4]? = some (.cells rv 36 (0, 0)) ∧ Hid (ActP ρ w B t (.slice (some ⟨g2, 0, none⟩) (n4 + 1) cap2) (n4 + 1) (ds ++ [l]) (w4.setCell ⟨b2, 4, none⟩ (.slice (some ⟨g2, 0, none⟩) (n4 + 1) cap2))) := by
  have e : intC (ds ++ [l]) = intC ds ++ [.int .i64 l] := by simp [intC]
  have hlt := World.ownsRow.lt ho2 g2 rfl
  have HA : ActP ρ w B t (.slice (some ⟨g2, 0, none⟩) (n4 + 1) cap2) (n4 + 1) (ds ++ [l]) w4 := by
    refine ⟨fr ρ2 w2.heap.size, H2, hR2.fr hbl2, hE2.trans (Ev.fr hbl2), ?_, ?_⟩
    · rw [e]
      refine ⟨ho2.1, ?_⟩
      rcases ho2.2 with h | ⟨g, cap, cur, h1, _, h3⟩
      · exact .inl h
      · exact .inr ⟨g, cap, cur, h1, Nat.zero_le _, h3⟩
    · intro g hg
      have : g2 = g := by simpa [Value.ownBlock] using hg
      subst this
      exact fr_new hlt.1
  have hBX4 := hBX.below hbl2
  have hU := (U5.first rfl hBX4.k2).set 4 (.slice (some ⟨g2, 0, none⟩) (n4 + 1) cap2)
  exact ⟨⟨hU.cell rfl, hU.cell rfl, hU.cell rfl, hU.cell rfl, hU.cell rfl⟩, (hU.off b4 (Ne.symm hx)).trans hBX4.k4, HA.step hBX4.k2 (Nat.le_of_eq hn) hU.off hU.size hU.rest⟩

section
variable {ρ : Nat → Rl} {w : World} {B : Nat} {H : Hd} {s : PS}

theorem openB_lt {V : Nat} {t : List Int} {l : Int} (h : openB V t l = true) : Lt V l ∧ l ∉ t ∧ -l ∉ t := by
  unfold openB at h
  simp only [Bool.and_eq_true, decide_eq_true_eq, Bool.not_eq_true'] at h
  obtain ⟨⟨⟨h1, h2⟩, h3⟩, h4⟩ := h
  unfold litB at h1
  simp only [decide_eq_true_eq] at h1
  refine ⟨?_, ?_, ?_⟩
  · unfold Lt; unfold varI at h2; split at h2 <;> omega
  · intro hm; unfold hasB at h3; rw [List.any_eq_false] at h3; exact h3 l hm (by simp)
  · intro hm; unfold hasB at h4; rw [List.any_eq_false] at h4; exact h4 (-l) hm (by simp)

theorem val_zero (hI : Inv s) {l : Int} (hl : Lt s.vars l) (h1 : l ∉ s.trail) (h2 : -l ∉ s.trail) : s.val l = 0 := by
  rw [hI.tr.vl l hl]; unfold tval; rw [if_neg h1, if_neg h2]

end
end Go.Proofs.YtlmbgaconjcaiabGreat
